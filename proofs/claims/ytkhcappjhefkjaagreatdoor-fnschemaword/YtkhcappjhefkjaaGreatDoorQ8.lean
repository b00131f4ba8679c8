/- impl.jsonCheck.fits: a value of some kind (written by tools/json/gen_j11.py). -/
import Derived.Test.YtkhcappjhefkjaaGreatDoorJ11
namespace Go.Proofs.YtkhcappjhefkjaaGreatDoor
open Go.RowKit
set_option linter.unusedVariables false

set_option maxRecDepth 100000 in
set_option maxHeartbeats 4000000 in
theorem fitCore {d : Nat} (IH : FitP d) (hd8 : d ≤ 4) (T : TypeId) (v : Value) (fk : FuncId) (KK : Option Addr) (cc : Nat) (WF : Prop) (k : Int) (f : Bool) (t : ByteArray) (ns : List ByteArray) (kids : List Js) (A K : Option Addr) (ca kc B0 g : Nat) (L dp : Int) (w0 w : World) (hv : JsV w0 B0 ns kids A K) (hl : LimJ 1048576 (.mk k f t ns kids)) (hle : ns.length ≤ ca) (hb0 : Below w0.heap.size w0 w) (hg : w0.heap.size ≤ g) (ho : Own w g 104 [.int .i64 L]) (h0 : 0 ≤ L) (h1 : L ≤ 40) (hdp : dp + (d : Int) = 5)
    (hvo : ∀ w, Calls Tryz.prog 119 #[.agg #[.int .i64 k, .bool f, .string t, .slice A ns.length ca, .slice K kids.length kc]] w fun e w' => e = .returned (.iface T v) ∧ Below w.heap.size w w')
    (iv : ∀ w, (method 305 T v "loop.example/fretwork/impl.kids").run Tryz.prog w = .ok (fk, v) w)
    (hen : ∀ w, (callFunc fk #[v]).run Tryz.prog w = .ok (.enter fk #[v]) w)
    (hkd : ∀ w, Calls Tryz.prog fk #[v] w fun e w' => e = .returned (.slice KK kids.length cc) ∧ Below w.heap.size w w') (hKK : Jss w0 B0 KK kids)
    (hwf : ∀ w', Below w0.heap.size w0 w' → Calls Tryz.prog 120 #[.iface T v] w' (BoolPost WF w')) (hone : OneP k f t ns kids ↔ WF) :
    Calls Tryz.prog 83 #[.pointer (some ⟨g, 0, none⟩), .agg #[.int .i64 k, .bool f, .string t, .slice A ns.length ca, .slice K kids.length kc], .int .i64 dp] w (FitPost g L (htJ kids + 1 ≤ d + 1 ∧ JokP (.mk k f t ns kids)) (nodesJ kids + 1) false w) := by
  cases hl with
  | mk _ _ _ _ _ l1 l2 l3 l4 l5 =>
  have HL5 := Lib.hid l5
  have HV := Lib.hid hv
  have HO := Lib.hid ho
  have HB0 := Lib.hid hb0
  have hgl := ho.lt
  have w00 := hb0.size
  obtain ⟨W3, hW3⟩ : ∃ W3, ((w.alloc (.cells #[.pointer (some ⟨g, 0, none⟩)] 119)).alloc (.cells #[.int .i64 k, .bool f, .string t, .slice A ns.length ca, .slice K kids.length kc] 42)).alloc (.cells #[.int .i64 dp] 3) = W3 := ⟨_, rfl⟩
  have HBOX : Hid (Below w.heap.size w W3) := by rw [← hW3]; exact ((below_box _).alloc (by simp) _).alloc (by simp; omega) _
  have HOC : Hid (Own W3 w.heap.size 119 [.pointer (some ⟨g, 0, none⟩)]) := by rw [← hW3]; exact ((Own.new w 119 #[.pointer (some ⟨g, 0, none⟩)]).alloc _).alloc _
  have HOD : Hid (Own W3 (w.heap.size + 1 + 1) 3 [.int .i64 dp]) := by
    rw [← hW3]
    have := Own.new ((w.alloc (.cells #[.pointer (some ⟨g, 0, none⟩)] 119)).alloc (.cells #[.int .i64 k, .bool f, .string t, .slice A ns.length ca, .slice K kids.length kc] 42)) 3 #[.int .i64 dp]
    rw [World.size_alloc, World.size_alloc] at this
    exact this
  have HVO := Lib.hid (hvo W3)
  have HW3 := Lib.hid hW3
  clear hv ho hb0 l5 l3 hW3
  have HKD := Lib.hid hkd
  have HKK := Lib.hid hKK
  have HWF := Lib.hid hwf
  have HI := Lib.hid IH
  have HLE2 := Lib.hid hle
  have HDP : Hid (dp + (d : Int) = 5) := hdp
  have e1 : dp ≤ 5 := by omega
  have e2 : 0 ≤ dp := by omega
  have d8 : decide ((5 : Int) < dp) = false := decide_eq_false (by omega)
  obtain ⟨Q, hQ⟩ : ∃ Q : Prop, Q ↔ (htJ kids + 1 ≤ d + 1 ∧ JokP (.mk k f t ns kids)) := ⟨_, Iff.rfl⟩
  rw [show (htJ kids + 1 ≤ d + 1 ∧ JokP (.mk k f t ns kids)) = Q from (propext hQ).symm]
  have HQ : Hid (Q ↔ (htJ kids + 1 ≤ d + 1 ∧ WF ∧ ∀ p ∈ kids, JokP p)) := by show _ ↔ _; rw [hQ, jok_iff, hone]
  have HNL := Lib.hid (nodesJ_len kids)
  clear hdp IH hQ hvo hkd hKK hwf hle
  go_enter Tryz.func83, Tryz.ntmps83
  go_wp2_with fail
  rw [HW3.out]
  refine HVO.out.mono ?_
  rintro e w2 ⟨rfl, hb⟩
  have hbw : Below w.heap.size w w2 := HBOX.out.trans (hb.mono HBOX.out.size)
  have OC : Own w2 w.heap.size 119 [.pointer (some ⟨g, 0, none⟩)] := HOC.out.keep hb
  have OD : Own w2 (w.heap.size + 1 + 1) 3 [.int .i64 dp] := HOD.out.keep hb
  have hO2 : Own w2 g 104 [.int .i64 L] := HO.out.keep hbw
  have k0 : w2.cell? ⟨w.heap.size, 0, none⟩ = some (.pointer (some ⟨g, 0, none⟩)) := by rw [OC.cell]; rfl
  have g1 : w2.cell? ⟨g, 0, none⟩ = some (.int .i64 L) := by rw [hO2.cell]; rfl
  have f1 := hO2.frozen 0
  have OC2 := Lib.hid (OC.far (p := ⟨g, 0, none⟩) (by simp only; omega) (.int .i64 (L - 1)))
  have OD2 := Lib.hid (OD.far (p := ⟨g, 0, none⟩) (by simp only; omega) (.int .i64 (L - 1)))
  have OG2 : Hid (Own (w2.setCell ⟨g, 0, none⟩ (.int .i64 (L - 1))) g 104 [.int .i64 (L - 1)]) := hO2.set_ 0 _
  have EX2 := Lib.hid ((Exc.of_below (g := g) hbw (Nat.le_of_lt hgl)).trans (Exc.set_ g 0 w2 (.int .i64 (L - 1))))
  have z0 := OC.lt
  have z1 := OD.lt
  have z2 := hO2.lt
  clear hb hbw hO2 OC OD HBOX HOC HOD HVO HW3
  go_wp2
  have m0 : (w2.setCell ⟨g, 0, none⟩ (.int .i64 (L - 1))).cell? ⟨w.heap.size, 0, none⟩ = some (.pointer (some ⟨g, 0, none⟩)) := by rw [OC2.out.cell]; rfl
  have m1 : (w2.setCell ⟨g, 0, none⟩ (.int .i64 (L - 1))).cell? ⟨w.heap.size + 1 + 1, 0, none⟩ = some (.int .i64 dp) := by rw [OD2.out.cell]; rfl
  have m2 : (w2.setCell ⟨g, 0, none⟩ (.int .i64 (L - 1))).cell? ⟨g, 0, none⟩ = some (.int .i64 (L - 1)) := by rw [OG2.out.cell]; rfl
  generalize w2.setCell ⟨g, 0, none⟩ (.int .i64 (L - 1)) = W at *
  have HBW : Hid (Below w0.heap.size w0 W.drew) := (EX2.out.base HB0.out hg).drew
  have HWU : Hid (∀ w3, Below W.drew.heap.size W.drew w3 → Below w0.heap.size w0 w3) := fun w3 h => HBW.out.trans (h.mono HBW.out.size)
  have zz0 : g < W.heap.size := OG2.out.lt
  have zz1 : w.heap.size < W.heap.size := OC2.out.lt
  have zz2 : w.heap.size + 1 + 1 < W.heap.size := OD2.out.lt
  clear k0 g1 f1 z0 z1 z2
  by_cases q : L - 1 < (kids.length : Int)
  · have q' : decide (L - 1 < (kids.length : Int)) = true := decide_eq_true q
    have HF : Hid ((false : Bool) = true ↔ Q ∧ ((nodesJ kids + 1 : Nat) : Int) ≤ L) := iffF (fun h => by have := h.2; have := HNL.out; omega)
    clear q
    refine wp_region_held_drew (S := (fun X => X.cell? ⟨w.heap.size, 0, none⟩ = some (.pointer (some ⟨g, 0, none⟩)) ∧ X.cell? ⟨w.heap.size + 1 + 1, 0, none⟩ = some (.int .i64 dp) ∧ X.cell? ⟨g, 0, none⟩ = some (.int .i64 (L - 1)))) (by kernel_rfl) ?_ (fun hHeld => ?_)
    · exact ⟨m0, m1, m2⟩
    (first
      | (refine held_take (i := 0) (v := ?_) rfl (by kernel_rfl) (by kernel_rfl) (by kernel_rfl) (fun _ _ _ h => h) (Or.inl ⟨rfl, ?_⟩) (by assumption) ?_; rotate_left; (intro X hSw; (try dsimp only at hSw); (go_simp <;> with_reducible rfl)))
      | (refine held_take (i := 0) (v := undef) rfl (by kernel_rfl) (by kernel_rfl) (by kernel_rfl) (fun _ _ _ h => h) (Or.inr ⟨rfl, rfl⟩) (by assumption) ?_)); simp only [Act.put, List.setIfInBounds_toArray, List.set_cons_zero, List.set_cons_succ]
    (first
      | (refine held_take (i := 1) (v := ?_) rfl (by kernel_rfl) (by kernel_rfl) (by kernel_rfl) (fun _ _ _ h => h) (Or.inl ⟨rfl, ?_⟩) (by assumption) ?_; rotate_left; (intro X hSw; (try dsimp only at hSw); (go_simp <;> with_reducible rfl)))
      | (refine held_take (i := 1) (v := undef) rfl (by kernel_rfl) (by kernel_rfl) (by kernel_rfl) (fun _ _ _ h => h) (Or.inr ⟨rfl, rfl⟩) (by assumption) ?_)); simp only [Act.put, List.setIfInBounds_toArray, List.set_cons_zero, List.set_cons_succ]
    (first
      | (refine held_take (i := 2) (v := ?_) rfl (by kernel_rfl) (by kernel_rfl) (by kernel_rfl) (fun _ _ _ h => h) (Or.inl ⟨rfl, ?_⟩) (by assumption) ?_; rotate_left; (intro X hSw; (try dsimp only at hSw); (go_simp <;> with_reducible rfl)))
      | (refine held_take (i := 2) (v := undef) rfl (by kernel_rfl) (by kernel_rfl) (by kernel_rfl) (fun _ _ _ h => h) (Or.inr ⟨rfl, rfl⟩) (by assumption) ?_)); simp only [Act.put, List.setIfInBounds_toArray, List.set_cons_zero, List.set_cons_succ]
    (first
      | (refine held_take (i := 3) (v := ?_) rfl (by kernel_rfl) (by kernel_rfl) (by kernel_rfl) (fun _ _ _ h => h) (Or.inl ⟨rfl, ?_⟩) (by assumption) ?_; rotate_left; (intro X hSw; (try dsimp only at hSw); (go_simp <;> with_reducible rfl)))
      | (refine held_take (i := 3) (v := undef) rfl (by kernel_rfl) (by kernel_rfl) (by kernel_rfl) (fun _ _ _ h => h) (Or.inr ⟨rfl, rfl⟩) (by assumption) ?_)); simp only [Act.put, List.setIfInBounds_toArray, List.set_cons_zero, List.set_cons_succ]
    (first
      | (refine held_take (i := 4) (v := ?_) rfl (by kernel_rfl) (by kernel_rfl) (by kernel_rfl) (fun _ _ _ h => h) (Or.inl ⟨rfl, ?_⟩) (by assumption) ?_; rotate_left; (intro X hSw; (try dsimp only at hSw); (go_simp <;> with_reducible rfl)))
      | (refine held_take (i := 4) (v := undef) rfl (by kernel_rfl) (by kernel_rfl) (by kernel_rfl) (fun _ _ _ h => h) (Or.inr ⟨rfl, rfl⟩) (by assumption) ?_)); simp only [Act.put, List.setIfInBounds_toArray, List.set_cons_zero, List.set_cons_succ]
    (first
      | (refine held_take (i := 5) (v := ?_) rfl (by kernel_rfl) (by kernel_rfl) (by kernel_rfl) (fun _ _ _ h => h) (Or.inl ⟨rfl, ?_⟩) (by assumption) ?_; rotate_left; (intro X hSw; (try dsimp only at hSw); (go_simp <;> with_reducible rfl)))
      | (refine held_take (i := 5) (v := undef) rfl (by kernel_rfl) (by kernel_rfl) (by kernel_rfl) (fun _ _ _ h => h) (Or.inr ⟨rfl, rfl⟩) (by assumption) ?_)); simp only [Act.put, List.setIfInBounds_toArray, List.set_cons_zero, List.set_cons_succ]
    (first
      | (refine held_take (i := 6) (v := ?_) rfl (by kernel_rfl) (by kernel_rfl) (by kernel_rfl) (fun _ _ _ h => h) (Or.inl ⟨rfl, ?_⟩) (by assumption) ?_; rotate_left; (intro X hSw; (try dsimp only at hSw); (go_simp <;> with_reducible rfl)))
      | (refine held_take (i := 6) (v := undef) rfl (by kernel_rfl) (by kernel_rfl) (by kernel_rfl) (fun _ _ _ h => h) (Or.inr ⟨rfl, rfl⟩) (by assumption) ?_)); simp only [Act.put, List.setIfInBounds_toArray, List.set_cons_zero, List.set_cons_succ]
    (first
      | (refine held_take (i := 7) (v := ?_) rfl (by kernel_rfl) (by kernel_rfl) (by kernel_rfl) (fun _ _ _ h => h) (Or.inl ⟨rfl, ?_⟩) (by assumption) ?_; rotate_left; (intro X hSw; (try dsimp only at hSw); (go_simp <;> with_reducible rfl)))
      | (refine held_take (i := 7) (v := undef) rfl (by kernel_rfl) (by kernel_rfl) (by kernel_rfl) (fun _ _ _ h => h) (Or.inr ⟨rfl, rfl⟩) (by assumption) ?_)); simp only [Act.put, List.setIfInBounds_toArray, List.set_cons_zero, List.set_cons_succ]
    (first
      | (refine held_take (i := 8) (v := ?_) rfl (by kernel_rfl) (by kernel_rfl) (by kernel_rfl) (fun _ _ _ h => h) (Or.inl ⟨rfl, ?_⟩) (by assumption) ?_; rotate_left; (intro X hSw; (try dsimp only at hSw); (go_simp <;> with_reducible rfl)))
      | (refine held_take (i := 8) (v := undef) rfl (by kernel_rfl) (by kernel_rfl) (by kernel_rfl) (fun _ _ _ h => h) (Or.inr ⟨rfl, rfl⟩) (by assumption) ?_)); simp only [Act.put, List.setIfInBounds_toArray, List.set_cons_zero, List.set_cons_succ]
    (first
      | (refine held_take (i := 9) (v := ?_) rfl (by kernel_rfl) (by kernel_rfl) (by kernel_rfl) (fun _ _ _ h => h) (Or.inl ⟨rfl, ?_⟩) (by assumption) ?_; rotate_left; (intro X hSw; (try dsimp only at hSw); (go_simp <;> with_reducible rfl)))
      | (refine held_take (i := 9) (v := undef) rfl (by kernel_rfl) (by kernel_rfl) (by kernel_rfl) (fun _ _ _ h => h) (Or.inr ⟨rfl, rfl⟩) (by assumption) ?_)); simp only [Act.put, List.setIfInBounds_toArray, List.set_cons_zero, List.set_cons_succ]
    (first
      | (refine held_take (i := 10) (v := ?_) rfl (by kernel_rfl) (by kernel_rfl) (by kernel_rfl) (fun _ _ _ h => h) (Or.inl ⟨rfl, ?_⟩) (by assumption) ?_; rotate_left; (intro X hSw; (try dsimp only at hSw); (go_simp <;> with_reducible rfl)))
      | (refine held_take (i := 10) (v := undef) rfl (by kernel_rfl) (by kernel_rfl) (by kernel_rfl) (fun _ _ _ h => h) (Or.inr ⟨rfl, rfl⟩) (by assumption) ?_)); simp only [Act.put, List.setIfInBounds_toArray, List.set_cons_zero, List.set_cons_succ]
    (first
      | (refine held_take (i := 11) (v := ?_) rfl (by kernel_rfl) (by kernel_rfl) (by kernel_rfl) (fun _ _ _ h => h) (Or.inl ⟨rfl, ?_⟩) (by assumption) ?_; rotate_left; (intro X hSw; (try dsimp only at hSw); (go_simp <;> with_reducible rfl)))
      | (refine held_take (i := 11) (v := undef) rfl (by kernel_rfl) (by kernel_rfl) (by kernel_rfl) (fun _ _ _ h => h) (Or.inr ⟨rfl, rfl⟩) (by assumption) ?_)); simp only [Act.put, List.setIfInBounds_toArray, List.set_cons_zero, List.set_cons_succ]
    refine wpAnyH_ready (rs := [12]) (by kernel_rfl) (by simp) ?_
    refine AllReadyH.cons rfl (fun K hK => ?_) AllReadyH.nil
    go_simp
    go_wp2_with ((refine (HKD.out _).mono ?_; rintro e w3 ⟨rfl, hb3⟩))
    refine hK.out _ _ ?_ (fun hHeld => ?_)
    · exact ⟨cell_keep hb3 m0, cell_keep hb3 m1, cell_keep hb3 m2⟩
    clear hK K
    (first
      | (refine held_take (i := 13) (v := ?_) rfl (by kernel_rfl) (by kernel_rfl) (by kernel_rfl) (fun _ _ _ h => h) (Or.inl ⟨rfl, ?_⟩) (by assumption) ?_; rotate_left; (intro X hSw; (try dsimp only at hSw); (go_simp <;> with_reducible rfl)))
      | (refine held_take (i := 13) (v := undef) rfl (by kernel_rfl) (by kernel_rfl) (by kernel_rfl) (fun _ _ _ h => h) (Or.inr ⟨rfl, rfl⟩) (by assumption) ?_)); simp only [Act.put, List.setIfInBounds_toArray, List.set_cons_zero, List.set_cons_succ]
    (first
      | (refine held_take (i := 14) (v := ?_) rfl (by kernel_rfl) (by kernel_rfl) (by kernel_rfl) (fun _ _ _ h => h) (Or.inl ⟨rfl, ?_⟩) (by assumption) ?_; rotate_left; (intro X hSw; (try dsimp only at hSw); (go_simp <;> with_reducible rfl)))
      | (refine held_take (i := 14) (v := undef) rfl (by kernel_rfl) (by kernel_rfl) (by kernel_rfl) (fun _ _ _ h => h) (Or.inr ⟨rfl, rfl⟩) (by assumption) ?_)); simp only [Act.put, List.setIfInBounds_toArray, List.set_cons_zero, List.set_cons_succ]
    (first
      | (refine held_take (i := 15) (v := ?_) rfl (by kernel_rfl) (by kernel_rfl) (by kernel_rfl) (fun _ _ _ h => h) (Or.inl ⟨rfl, ?_⟩) (by assumption) ?_; rotate_left; (intro X hSw; (try dsimp only at hSw); (go_simp <;> with_reducible rfl)))
      | (refine held_take (i := 15) (v := undef) rfl (by kernel_rfl) (by kernel_rfl) (by kernel_rfl) (fun _ _ _ h => h) (Or.inr ⟨rfl, rfl⟩) (by assumption) ?_)); simp only [Act.put, List.setIfInBounds_toArray, List.set_cons_zero, List.set_cons_succ]
    (first
      | (refine held_take (i := 16) (v := ?_) rfl (by kernel_rfl) (by kernel_rfl) (by kernel_rfl) (fun _ _ _ h => h) (Or.inl ⟨rfl, ?_⟩) (by assumption) ?_; rotate_left; (intro X hSw; (try dsimp only at hSw); (go_simp <;> with_reducible rfl)))
      | (refine held_take (i := 16) (v := undef) rfl (by kernel_rfl) (by kernel_rfl) (by kernel_rfl) (fun _ _ _ h => h) (Or.inr ⟨rfl, rfl⟩) (by assumption) ?_)); simp only [Act.put, List.setIfInBounds_toArray, List.set_cons_zero, List.set_cons_succ]
    (first
      | (refine held_take (i := 17) (v := ?_) rfl (by kernel_rfl) (by kernel_rfl) (by kernel_rfl) (fun _ _ _ h => h) (Or.inl ⟨rfl, ?_⟩) (by assumption) ?_; rotate_left; (intro X hSw; (try dsimp only at hSw); (go_simp <;> with_reducible rfl)))
      | (refine held_take (i := 17) (v := undef) rfl (by kernel_rfl) (by kernel_rfl) (by kernel_rfl) (fun _ _ _ h => h) (Or.inr ⟨rfl, rfl⟩) (by assumption) ?_)); simp only [Act.put, List.setIfInBounds_toArray, List.set_cons_zero, List.set_cons_succ]
    (first
      | (refine held_take (i := 18) (v := ?_) rfl (by kernel_rfl) (by kernel_rfl) (by kernel_rfl) (fun _ _ _ h => h) (Or.inl ⟨rfl, ?_⟩) (by assumption) ?_; rotate_left; (intro X hSw; (try dsimp only at hSw); (go_simp <;> with_reducible rfl)))
      | (refine held_take (i := 18) (v := undef) rfl (by kernel_rfl) (by kernel_rfl) (by kernel_rfl) (fun _ _ _ h => h) (Or.inr ⟨rfl, rfl⟩) (by assumption) ?_)); simp only [Act.put, List.setIfInBounds_toArray, List.set_cons_zero, List.set_cons_succ]
    (first
      | (refine held_take (i := 19) (v := ?_) rfl (by kernel_rfl) (by kernel_rfl) (by kernel_rfl) (fun _ _ _ h => h) (Or.inl ⟨rfl, ?_⟩) (by assumption) ?_; rotate_left; (intro X hSw; (try dsimp only at hSw); (go_simp <;> with_reducible rfl)))
      | (refine held_take (i := 19) (v := undef) rfl (by kernel_rfl) (by kernel_rfl) (by kernel_rfl) (fun _ _ _ h => h) (Or.inr ⟨rfl, rfl⟩) (by assumption) ?_)); simp only [Act.put, List.setIfInBounds_toArray, List.set_cons_zero, List.set_cons_succ]
    (first
      | (refine held_take (i := 20) (v := ?_) rfl (by kernel_rfl) (by kernel_rfl) (by kernel_rfl) (fun _ _ _ h => h) (Or.inl ⟨rfl, ?_⟩) (by assumption) ?_; rotate_left; (intro X hSw; (try dsimp only at hSw); (go_simp <;> with_reducible rfl)))
      | (refine held_take (i := 20) (v := undef) rfl (by kernel_rfl) (by kernel_rfl) (by kernel_rfl) (fun _ _ _ h => h) (Or.inr ⟨rfl, rfl⟩) (by assumption) ?_)); simp only [Act.put, List.setIfInBounds_toArray, List.set_cons_zero, List.set_cons_succ]
    refine wpAnyH_done (by kernel_rfl) ?_ _
    have EX3 := Lib.hid ((EX2.out.trans (Exc.of_below (g := g) ((Below.refl _ _).drew : Below W.heap.size W W.drew) (Nat.le_of_lt zz0))).trans (Exc.of_below (g := g) hb3 (Nat.le_of_lt zz0)))
    have OG3 := Lib.hid ((OG2.out.drew).keep hb3)
    go_wp2
    go_ret
    exact ⟨false, L - 1, rfl, HF.out, (fun h => by cases h), OG3.out, EX3.out⟩
  · have q' : decide (L - 1 < (kids.length : Int)) = false := decide_eq_false q
    have HLQ : Hid (0 ≤ L - 1) := by show _ ≤ _; omega
    clear q
    refine wp_region_held_drew (S := (fun X => X.cell? ⟨w.heap.size, 0, none⟩ = some (.pointer (some ⟨g, 0, none⟩)) ∧ X.cell? ⟨w.heap.size + 1 + 1, 0, none⟩ = some (.int .i64 dp) ∧ X.cell? ⟨g, 0, none⟩ = some (.int .i64 (L - 1)))) (by kernel_rfl) ?_ (fun hHeld => ?_)
    · exact ⟨m0, m1, m2⟩
    (first
      | (refine held_take (i := 0) (v := ?_) rfl (by kernel_rfl) (by kernel_rfl) (by kernel_rfl) (fun _ _ _ h => h) (Or.inl ⟨rfl, ?_⟩) (by assumption) ?_; rotate_left; (intro X hSw; (try dsimp only at hSw); (go_simp <;> with_reducible rfl)))
      | (refine held_take (i := 0) (v := undef) rfl (by kernel_rfl) (by kernel_rfl) (by kernel_rfl) (fun _ _ _ h => h) (Or.inr ⟨rfl, rfl⟩) (by assumption) ?_)); simp only [Act.put, List.setIfInBounds_toArray, List.set_cons_zero, List.set_cons_succ]
    (first
      | (refine held_take (i := 1) (v := ?_) rfl (by kernel_rfl) (by kernel_rfl) (by kernel_rfl) (fun _ _ _ h => h) (Or.inl ⟨rfl, ?_⟩) (by assumption) ?_; rotate_left; (intro X hSw; (try dsimp only at hSw); (go_simp <;> with_reducible rfl)))
      | (refine held_take (i := 1) (v := undef) rfl (by kernel_rfl) (by kernel_rfl) (by kernel_rfl) (fun _ _ _ h => h) (Or.inr ⟨rfl, rfl⟩) (by assumption) ?_)); simp only [Act.put, List.setIfInBounds_toArray, List.set_cons_zero, List.set_cons_succ]
    (first
      | (refine held_take (i := 2) (v := ?_) rfl (by kernel_rfl) (by kernel_rfl) (by kernel_rfl) (fun _ _ _ h => h) (Or.inl ⟨rfl, ?_⟩) (by assumption) ?_; rotate_left; (intro X hSw; (try dsimp only at hSw); (go_simp <;> with_reducible rfl)))
      | (refine held_take (i := 2) (v := undef) rfl (by kernel_rfl) (by kernel_rfl) (by kernel_rfl) (fun _ _ _ h => h) (Or.inr ⟨rfl, rfl⟩) (by assumption) ?_)); simp only [Act.put, List.setIfInBounds_toArray, List.set_cons_zero, List.set_cons_succ]
    (first
      | (refine held_take (i := 3) (v := ?_) rfl (by kernel_rfl) (by kernel_rfl) (by kernel_rfl) (fun _ _ _ h => h) (Or.inl ⟨rfl, ?_⟩) (by assumption) ?_; rotate_left; (intro X hSw; (try dsimp only at hSw); (go_simp <;> with_reducible rfl)))
      | (refine held_take (i := 3) (v := undef) rfl (by kernel_rfl) (by kernel_rfl) (by kernel_rfl) (fun _ _ _ h => h) (Or.inr ⟨rfl, rfl⟩) (by assumption) ?_)); simp only [Act.put, List.setIfInBounds_toArray, List.set_cons_zero, List.set_cons_succ]
    (first
      | (refine held_take (i := 4) (v := ?_) rfl (by kernel_rfl) (by kernel_rfl) (by kernel_rfl) (fun _ _ _ h => h) (Or.inl ⟨rfl, ?_⟩) (by assumption) ?_; rotate_left; (intro X hSw; (try dsimp only at hSw); (go_simp <;> with_reducible rfl)))
      | (refine held_take (i := 4) (v := undef) rfl (by kernel_rfl) (by kernel_rfl) (by kernel_rfl) (fun _ _ _ h => h) (Or.inr ⟨rfl, rfl⟩) (by assumption) ?_)); simp only [Act.put, List.setIfInBounds_toArray, List.set_cons_zero, List.set_cons_succ]
    (first
      | (refine held_take (i := 5) (v := ?_) rfl (by kernel_rfl) (by kernel_rfl) (by kernel_rfl) (fun _ _ _ h => h) (Or.inl ⟨rfl, ?_⟩) (by assumption) ?_; rotate_left; (intro X hSw; (try dsimp only at hSw); (go_simp <;> with_reducible rfl)))
      | (refine held_take (i := 5) (v := undef) rfl (by kernel_rfl) (by kernel_rfl) (by kernel_rfl) (fun _ _ _ h => h) (Or.inr ⟨rfl, rfl⟩) (by assumption) ?_)); simp only [Act.put, List.setIfInBounds_toArray, List.set_cons_zero, List.set_cons_succ]
    (first
      | (refine held_take (i := 6) (v := ?_) rfl (by kernel_rfl) (by kernel_rfl) (by kernel_rfl) (fun _ _ _ h => h) (Or.inl ⟨rfl, ?_⟩) (by assumption) ?_; rotate_left; (intro X hSw; (try dsimp only at hSw); (go_simp <;> with_reducible rfl)))
      | (refine held_take (i := 6) (v := undef) rfl (by kernel_rfl) (by kernel_rfl) (by kernel_rfl) (fun _ _ _ h => h) (Or.inr ⟨rfl, rfl⟩) (by assumption) ?_)); simp only [Act.put, List.setIfInBounds_toArray, List.set_cons_zero, List.set_cons_succ]
    (first
      | (refine held_take (i := 7) (v := ?_) rfl (by kernel_rfl) (by kernel_rfl) (by kernel_rfl) (fun _ _ _ h => h) (Or.inl ⟨rfl, ?_⟩) (by assumption) ?_; rotate_left; (intro X hSw; (try dsimp only at hSw); (go_simp <;> with_reducible rfl)))
      | (refine held_take (i := 7) (v := undef) rfl (by kernel_rfl) (by kernel_rfl) (by kernel_rfl) (fun _ _ _ h => h) (Or.inr ⟨rfl, rfl⟩) (by assumption) ?_)); simp only [Act.put, List.setIfInBounds_toArray, List.set_cons_zero, List.set_cons_succ]
    (first
      | (refine held_take (i := 8) (v := ?_) rfl (by kernel_rfl) (by kernel_rfl) (by kernel_rfl) (fun _ _ _ h => h) (Or.inl ⟨rfl, ?_⟩) (by assumption) ?_; rotate_left; (intro X hSw; (try dsimp only at hSw); (go_simp <;> with_reducible rfl)))
      | (refine held_take (i := 8) (v := undef) rfl (by kernel_rfl) (by kernel_rfl) (by kernel_rfl) (fun _ _ _ h => h) (Or.inr ⟨rfl, rfl⟩) (by assumption) ?_)); simp only [Act.put, List.setIfInBounds_toArray, List.set_cons_zero, List.set_cons_succ]
    (first
      | (refine held_take (i := 9) (v := ?_) rfl (by kernel_rfl) (by kernel_rfl) (by kernel_rfl) (fun _ _ _ h => h) (Or.inl ⟨rfl, ?_⟩) (by assumption) ?_; rotate_left; (intro X hSw; (try dsimp only at hSw); (go_simp <;> with_reducible rfl)))
      | (refine held_take (i := 9) (v := undef) rfl (by kernel_rfl) (by kernel_rfl) (by kernel_rfl) (fun _ _ _ h => h) (Or.inr ⟨rfl, rfl⟩) (by assumption) ?_)); simp only [Act.put, List.setIfInBounds_toArray, List.set_cons_zero, List.set_cons_succ]
    (first
      | (refine held_take (i := 10) (v := ?_) rfl (by kernel_rfl) (by kernel_rfl) (by kernel_rfl) (fun _ _ _ h => h) (Or.inl ⟨rfl, ?_⟩) (by assumption) ?_; rotate_left; (intro X hSw; (try dsimp only at hSw); (go_simp <;> with_reducible rfl)))
      | (refine held_take (i := 10) (v := undef) rfl (by kernel_rfl) (by kernel_rfl) (by kernel_rfl) (fun _ _ _ h => h) (Or.inr ⟨rfl, rfl⟩) (by assumption) ?_)); simp only [Act.put, List.setIfInBounds_toArray, List.set_cons_zero, List.set_cons_succ]
    (first
      | (refine held_take (i := 11) (v := ?_) rfl (by kernel_rfl) (by kernel_rfl) (by kernel_rfl) (fun _ _ _ h => h) (Or.inl ⟨rfl, ?_⟩) (by assumption) ?_; rotate_left; (intro X hSw; (try dsimp only at hSw); (go_simp <;> with_reducible rfl)))
      | (refine held_take (i := 11) (v := undef) rfl (by kernel_rfl) (by kernel_rfl) (by kernel_rfl) (fun _ _ _ h => h) (Or.inr ⟨rfl, rfl⟩) (by assumption) ?_)); simp only [Act.put, List.setIfInBounds_toArray, List.set_cons_zero, List.set_cons_succ]
    refine wpAnyH_ready (rs := [12]) (by kernel_rfl) (by simp) ?_
    refine AllReadyH.cons rfl (fun K hK => ?_) AllReadyH.nil
    go_simp
    go_wp2_with ((refine (HKD.out _).mono ?_; rintro e w3 ⟨rfl, hb3⟩))
    refine hK.out _ _ ?_ (fun hHeld => ?_)
    · exact ⟨cell_keep hb3 m0, cell_keep hb3 m1, cell_keep hb3 m2⟩
    clear hK K
    (first
      | (refine held_take (i := 13) (v := ?_) rfl (by kernel_rfl) (by kernel_rfl) (by kernel_rfl) (fun _ _ _ h => h) (Or.inl ⟨rfl, ?_⟩) (by assumption) ?_; rotate_left; (intro X hSw; (try dsimp only at hSw); (go_simp <;> with_reducible rfl)))
      | (refine held_take (i := 13) (v := undef) rfl (by kernel_rfl) (by kernel_rfl) (by kernel_rfl) (fun _ _ _ h => h) (Or.inr ⟨rfl, rfl⟩) (by assumption) ?_)); simp only [Act.put, List.setIfInBounds_toArray, List.set_cons_zero, List.set_cons_succ]
    (first
      | (refine held_take (i := 14) (v := ?_) rfl (by kernel_rfl) (by kernel_rfl) (by kernel_rfl) (fun _ _ _ h => h) (Or.inl ⟨rfl, ?_⟩) (by assumption) ?_; rotate_left; (intro X hSw; (try dsimp only at hSw); (go_simp <;> with_reducible rfl)))
      | (refine held_take (i := 14) (v := undef) rfl (by kernel_rfl) (by kernel_rfl) (by kernel_rfl) (fun _ _ _ h => h) (Or.inr ⟨rfl, rfl⟩) (by assumption) ?_)); simp only [Act.put, List.setIfInBounds_toArray, List.set_cons_zero, List.set_cons_succ]
    (first
      | (refine held_take (i := 15) (v := ?_) rfl (by kernel_rfl) (by kernel_rfl) (by kernel_rfl) (fun _ _ _ h => h) (Or.inl ⟨rfl, ?_⟩) (by assumption) ?_; rotate_left; (intro X hSw; (try dsimp only at hSw); (go_simp <;> with_reducible rfl)))
      | (refine held_take (i := 15) (v := undef) rfl (by kernel_rfl) (by kernel_rfl) (by kernel_rfl) (fun _ _ _ h => h) (Or.inr ⟨rfl, rfl⟩) (by assumption) ?_)); simp only [Act.put, List.setIfInBounds_toArray, List.set_cons_zero, List.set_cons_succ]
    (first
      | (refine held_take (i := 16) (v := ?_) rfl (by kernel_rfl) (by kernel_rfl) (by kernel_rfl) (fun _ _ _ h => h) (Or.inl ⟨rfl, ?_⟩) (by assumption) ?_; rotate_left; (intro X hSw; (try dsimp only at hSw); (go_simp <;> with_reducible rfl)))
      | (refine held_take (i := 16) (v := undef) rfl (by kernel_rfl) (by kernel_rfl) (by kernel_rfl) (fun _ _ _ h => h) (Or.inr ⟨rfl, rfl⟩) (by assumption) ?_)); simp only [Act.put, List.setIfInBounds_toArray, List.set_cons_zero, List.set_cons_succ]
    (first
      | (refine held_take (i := 17) (v := ?_) rfl (by kernel_rfl) (by kernel_rfl) (by kernel_rfl) (fun _ _ _ h => h) (Or.inl ⟨rfl, ?_⟩) (by assumption) ?_; rotate_left; (intro X hSw; (try dsimp only at hSw); (go_simp <;> with_reducible rfl)))
      | (refine held_take (i := 17) (v := undef) rfl (by kernel_rfl) (by kernel_rfl) (by kernel_rfl) (fun _ _ _ h => h) (Or.inr ⟨rfl, rfl⟩) (by assumption) ?_)); simp only [Act.put, List.setIfInBounds_toArray, List.set_cons_zero, List.set_cons_succ]
    refine wpAnyH_ready (rs := [18]) (by kernel_rfl) (by simp) ?_
    refine AllReadyH.cons rfl (fun K hK => ?_) AllReadyH.nil
    go_simp
    go_wp2_with ((refine (HWF.out w3 (HWU.out w3 hb3)).mono ?_; rintro e w4 ⟨r, rfl, hwfr, hb4⟩))
    refine hK.out _ _ ?_ (fun hHeld => ?_)
    · exact ⟨cell_keep hb4 (cell_keep hb3 m0), cell_keep hb4 (cell_keep hb3 m1), cell_keep hb4 (cell_keep hb3 m2)⟩
    clear hK K
    cases r
    ·
      (first
        | (refine held_take (i := 19) (v := ?_) rfl (by kernel_rfl) (by kernel_rfl) (by kernel_rfl) (fun _ _ _ h => h) (Or.inl ⟨rfl, ?_⟩) (by assumption) ?_; rotate_left; (intro X hSw; (try dsimp only at hSw); (go_simp <;> with_reducible rfl)))
        | (refine held_take (i := 19) (v := undef) rfl (by kernel_rfl) (by kernel_rfl) (by kernel_rfl) (fun _ _ _ h => h) (Or.inr ⟨rfl, rfl⟩) (by assumption) ?_)); simp only [Act.put, List.setIfInBounds_toArray, List.set_cons_zero, List.set_cons_succ]
      (first
        | (refine held_take (i := 20) (v := ?_) rfl (by kernel_rfl) (by kernel_rfl) (by kernel_rfl) (fun _ _ _ h => h) (Or.inl ⟨rfl, ?_⟩) (by assumption) ?_; rotate_left; (intro X hSw; (try dsimp only at hSw); (go_simp <;> with_reducible rfl)))
        | (refine held_take (i := 20) (v := undef) rfl (by kernel_rfl) (by kernel_rfl) (by kernel_rfl) (fun _ _ _ h => h) (Or.inr ⟨rfl, rfl⟩) (by assumption) ?_)); simp only [Act.put, List.setIfInBounds_toArray, List.set_cons_zero, List.set_cons_succ]
      refine wpAnyH_done (by kernel_rfl) ?_ _
      have HF : Hid ((false : Bool) = true ↔ Q ∧ ((nodesJ kids + 1 : Nat) : Int) ≤ L) := iffF (fun h => by have := hwfr.2 (HQ.out.1 h.1).2.1; cases this)
      have EX3 := Lib.hid (((EX2.out.trans (Exc.of_below (g := g) ((Below.refl _ _).drew : Below W.heap.size W W.drew) (Nat.le_of_lt zz0))).trans (Exc.of_below (g := g) hb3 (Nat.le_of_lt zz0))).trans (Exc.of_below (g := g) hb4 (Nat.le_of_lt (Nat.lt_of_lt_of_le zz0 hb3.size))))
      have OG3 := Lib.hid (((OG2.out.drew).keep hb3).keep hb4)
      clear hwfr
      go_wp2
      go_ret
      exact ⟨false, L - 1, rfl, HF.out, (fun h => by cases h), OG3.out, EX3.out⟩
    ·
      (first
        | (refine held_take (i := 19) (v := ?_) rfl (by kernel_rfl) (by kernel_rfl) (by kernel_rfl) (fun _ _ _ h => h) (Or.inl ⟨rfl, ?_⟩) (by assumption) ?_; rotate_left; (intro X hSw; (try dsimp only at hSw); (go_simp <;> with_reducible rfl)))
        | (refine held_take (i := 19) (v := undef) rfl (by kernel_rfl) (by kernel_rfl) (by kernel_rfl) (fun _ _ _ h => h) (Or.inr ⟨rfl, rfl⟩) (by assumption) ?_)); simp only [Act.put, List.setIfInBounds_toArray, List.set_cons_zero, List.set_cons_succ]
      (first
        | (refine held_take (i := 20) (v := ?_) rfl (by kernel_rfl) (by kernel_rfl) (by kernel_rfl) (fun _ _ _ h => h) (Or.inl ⟨rfl, ?_⟩) (by assumption) ?_; rotate_left; (intro X hSw; (try dsimp only at hSw); (go_simp <;> with_reducible rfl)))
        | (refine held_take (i := 20) (v := undef) rfl (by kernel_rfl) (by kernel_rfl) (by kernel_rfl) (fun _ _ _ h => h) (Or.inr ⟨rfl, rfl⟩) (by assumption) ?_)); simp only [Act.put, List.setIfInBounds_toArray, List.set_cons_zero, List.set_cons_succ]
      refine wpAnyH_done (by kernel_rfl) ?_ _
      have HWT : Hid WF := hwfr.1 rfl
      have z3 : W.heap.size ≤ w3.heap.size := hb3.size
      have z4 : w3.heap.size ≤ w4.heap.size := hb4.size
      have EX3 := Lib.hid (((EX2.out.trans (Exc.of_below (g := g) ((Below.refl _ _).drew : Below W.heap.size W W.drew) (Nat.le_of_lt zz0))).trans (Exc.of_below (g := g) hb3 (Nat.le_of_lt zz0))).trans (Exc.of_below (g := g) hb4 (Nat.le_of_lt (Nat.lt_of_lt_of_le zz0 hb3.size))))
      have OG3 := Lib.hid (((OG2.out.drew).keep hb3).keep hb4)
      have OC3 := Lib.hid (((OC2.out.drew).keep hb3).keep hb4)
      have OD3 := Lib.hid (((OD2.out.drew).keep hb3).keep hb4)
      have HB4 := Lib.hid ((HWU.out w3 hb3).trans (hb4.mono (HWU.out w3 hb3).size))
      clear hwfr hb3 hb4
      go_wp2_with ((refine (HKD.out _).mono ?_; rintro e w5 ⟨rfl, hb5⟩))
      have HKF := Lib.hid (kidsFit HI.out kids KK cc B0 g w.heap.size (w.heap.size + 1 + 1) (L - 1) dp w0 w5 HKK.out l4 HL5.out (HB4.out.trans (hb5.mono HB4.out.size)) hg (OG3.out.keep hb5) HLQ.out (by omega) HDP.out (by omega) (OC3.out.keep hb5) (OD3.out.keep hb5) (by omega) (by omega))
      have EX5 := Lib.hid (EX3.out.trans (Exc.of_below (g := g) hb5 (by omega)))
      clear hb5
      go_wp2_with fail
      refine HKF.out.mono ?_
      rintro e w6 ⟨r, L', rfl, p1, p2, p3, p4⟩
      have P1 := Lib.hid p1
      have P2 := Lib.hid p2
      have P3 := Lib.hid p3
      have P4 := Lib.hid (EX5.out.trans p4)
      clear p1 p2 p3 p4 HKF EX5 EX3
      have HFIN : Hid (decide (r < 0) = true ↔ Q ∧ ((nodesJ kids + 1 : Nat) : Int) ≤ L) := by
        show _ ↔ _
        rw [decide_eq_true_iff, P1.out, HQ.out]
        constructor
        · rintro ⟨a, b⟩
          exact ⟨⟨by have := htJ_le.2 (fun p hp => (a p hp).1); omega, HWT.out, fun p hp => (a p hp).2⟩, by omega⟩
        · rintro ⟨⟨a, _, c⟩, b⟩
          exact ⟨fun p hp => ⟨htJ_le.1 (by omega) p hp, c p hp⟩, by omega⟩
      have HFL : Hid (decide (r < 0) = true → L' = L - ((nodesJ kids + 1 : Nat) : Int)) := fun h => by
        have := P2.out (of_decide_eq_true h)
        omega
      go_wp2
      go_ret
      exact ⟨_, L', rfl, HFIN.out, HFL.out, P3.out, P4.out⟩

end Go.Proofs.YtkhcappjhefkjaaGreatDoor

/- impl.jsonCheck.fits: every value (written by tools/json/gen_j13.py). -/
namespace Go.Proofs.YtkhcappjhefkjaaGreatDoor
open Go.RowKit
set_option linter.unusedVariables false

theorem met1 (x : Value) (w : World) : (method 305 145 x "loop.example/fretwork/impl.kids").run Tryz.prog w = .ok (205, x) w := by kernel_rfl
theorem ent1 (x : Array Value) (w : World) : (callFunc 205 x).run Tryz.prog w = .ok (.enter 205 x) w := by simp [callFunc, go_sem, Tryz.func205, Tryz.f205]

theorem met2 (x : Value) (w : World) : (method 305 146 x "loop.example/fretwork/impl.kids").run Tryz.prog w = .ok (206, x) w := by kernel_rfl
theorem ent2 (x : Array Value) (w : World) : (callFunc 206 x).run Tryz.prog w = .ok (.enter 206 x) w := by simp [callFunc, go_sem, Tryz.func206, Tryz.f206]

theorem met3 (x : Value) (w : World) : (method 305 147 x "loop.example/fretwork/impl.kids").run Tryz.prog w = .ok (207, x) w := by kernel_rfl
theorem ent3 (x : Array Value) (w : World) : (callFunc 207 x).run Tryz.prog w = .ok (.enter 207 x) w := by simp [callFunc, go_sem, Tryz.func207, Tryz.f207]

theorem met4 (x : Value) (w : World) : (method 305 148 x "loop.example/fretwork/impl.kids").run Tryz.prog w = .ok (208, x) w := by kernel_rfl
theorem ent4 (x : Array Value) (w : World) : (callFunc 208 x).run Tryz.prog w = .ok (.enter 208 x) w := by simp [callFunc, go_sem, Tryz.func208, Tryz.f208]

theorem met5 (x : Value) (w : World) : (method 305 149 x "loop.example/fretwork/impl.kids").run Tryz.prog w = .ok (209, x) w := by kernel_rfl
theorem ent5 (x : Array Value) (w : World) : (callFunc 209 x).run Tryz.prog w = .ok (.enter 209 x) w := by simp [callFunc, go_sem, Tryz.func209, Tryz.f209]

theorem met6 (x : Value) (w : World) : (method 305 151 x "loop.example/fretwork/impl.kids").run Tryz.prog w = .ok (210, x) w := by kernel_rfl
theorem ent6 (x : Array Value) (w : World) : (callFunc 210 x).run Tryz.prog w = .ok (.enter 210 x) w := by simp [callFunc, go_sem, Tryz.func210, Tryz.f210]

theorem fit1 {d : Nat} (IH : FitP d) (hd8 : d ≤ 4) (f : Bool) (t : ByteArray) (ns : List ByteArray) (kids : List Js) (A K : Option Addr) (ca kc B0 g : Nat) (L dp : Int) (w0 w : World) (hv : JsV w0 B0 ns kids A K) (hl : LimJ 1048576 (.mk 1 f t ns kids)) (hle : ns.length ≤ ca) (hb0 : Below w0.heap.size w0 w) (hg : w0.heap.size ≤ g) (ho : Own w g 104 [.int .i64 L]) (h0 : 0 ≤ L) (h1 : L ≤ 40) (hdp : dp + (d : Int) = 5) (hbare : BareJ 1 f t ns kids) :
    Calls Tryz.prog 83 #[.pointer (some ⟨g, 0, none⟩), .agg #[.int .i64 1, .bool f, .string t, .slice A ns.length ca, .slice K kids.length kc], .int .i64 dp] w (FitPost g L (htJ kids + 1 ≤ d + 1 ∧ JokP (.mk 1 f t ns kids)) (nodesJ kids + 1) false w) := by
  have hl' := hl
  cases hl' with
  | mk _ _ _ _ _ l1 l2 l3 l4 l5 =>
  have hk0 : kids = [] := List.eq_nil_of_length_eq_zero (hbare.2.2.1 (by omega))
  subst hk0
  refine fitCore IH hd8 145 (.agg #[]) 205 none 0 (True) 1 f t ns [] A K ca kc B0 g L dp w0 w hv hl hle hb0 hg ho h0 h1 hdp
    (fun w => (valueOf_any 1 f t ns [] A K ca kc w l2 l4).mono fun e w' ⟨x, h1, h2, h3⟩ => ⟨?_, h3⟩) (fun w => met1 _ w) (fun w => ent1 _ w) (fun w => kids93 w) Jss.nil (fun w' _ => wf_93 _ w') ?_
  · rcases h2 with ⟨_, rfl⟩ | ⟨h, _⟩
    · rw [h1]; unfold valJ; simp
    · exact absurd ⟨by unfold KindP; omega, hbare⟩ h
  · rw [one_iff]
    refine ⟨fun h => ?_, fun h => ⟨hbare, ?_⟩⟩
    · have := h.2; unfold TailJ at this; trivial
    · unfold TailJ; simp

theorem fit2 {d : Nat} (IH : FitP d) (hd8 : d ≤ 4) (f : Bool) (t : ByteArray) (ns : List ByteArray) (kids : List Js) (A K : Option Addr) (ca kc B0 g : Nat) (L dp : Int) (w0 w : World) (hv : JsV w0 B0 ns kids A K) (hl : LimJ 1048576 (.mk 2 f t ns kids)) (hle : ns.length ≤ ca) (hb0 : Below w0.heap.size w0 w) (hg : w0.heap.size ≤ g) (ho : Own w g 104 [.int .i64 L]) (h0 : 0 ≤ L) (h1 : L ≤ 40) (hdp : dp + (d : Int) = 5) (hbare : BareJ 2 f t ns kids) :
    Calls Tryz.prog 83 #[.pointer (some ⟨g, 0, none⟩), .agg #[.int .i64 2, .bool f, .string t, .slice A ns.length ca, .slice K kids.length kc], .int .i64 dp] w (FitPost g L (htJ kids + 1 ≤ d + 1 ∧ JokP (.mk 2 f t ns kids)) (nodesJ kids + 1) false w) := by
  have hl' := hl
  cases hl' with
  | mk _ _ _ _ _ l1 l2 l3 l4 l5 =>
  have hk0 : kids = [] := List.eq_nil_of_length_eq_zero (hbare.2.2.1 (by omega))
  subst hk0
  refine fitCore IH hd8 146 (.bool f) 206 none 0 (True) 2 f t ns [] A K ca kc B0 g L dp w0 w hv hl hle hb0 hg ho h0 h1 hdp
    (fun w => (valueOf_any 2 f t ns [] A K ca kc w l2 l4).mono fun e w' ⟨x, h1, h2, h3⟩ => ⟨?_, h3⟩) (fun w => met2 _ w) (fun w => ent2 _ w) (fun w => kids94 f w) Jss.nil (fun w' _ => wf_94 _ w') ?_
  · rcases h2 with ⟨_, rfl⟩ | ⟨h, _⟩
    · rw [h1]; unfold valJ; simp
    · exact absurd ⟨by unfold KindP; omega, hbare⟩ h
  · rw [one_iff]
    refine ⟨fun h => ?_, fun h => ⟨hbare, ?_⟩⟩
    · have := h.2; unfold TailJ at this; trivial
    · unfold TailJ; simp

theorem fit3 {d : Nat} (IH : FitP d) (hd8 : d ≤ 4) (f : Bool) (t : ByteArray) (ns : List ByteArray) (kids : List Js) (A K : Option Addr) (ca kc B0 g : Nat) (L dp : Int) (w0 w : World) (hv : JsV w0 B0 ns kids A K) (hl : LimJ 1048576 (.mk 3 f t ns kids)) (hle : ns.length ≤ ca) (hb0 : Below w0.heap.size w0 w) (hg : w0.heap.size ≤ g) (ho : Own w g 104 [.int .i64 L]) (h0 : 0 ≤ L) (h1 : L ≤ 40) (hdp : dp + (d : Int) = 5) (hbare : BareJ 3 f t ns kids) :
    Calls Tryz.prog 83 #[.pointer (some ⟨g, 0, none⟩), .agg #[.int .i64 3, .bool f, .string t, .slice A ns.length ca, .slice K kids.length kc], .int .i64 dp] w (FitPost g L (htJ kids + 1 ≤ d + 1 ∧ JokP (.mk 3 f t ns kids)) (nodesJ kids + 1) false w) := by
  have hl' := hl
  cases hl' with
  | mk _ _ _ _ _ l1 l2 l3 l4 l5 =>
  have hk0 : kids = [] := List.eq_nil_of_length_eq_zero (hbare.2.2.1 (by omega))
  subst hk0
  refine fitCore IH hd8 147 (.string t) 207 none 0 (NumP t) 3 f t ns [] A K ca kc B0 g L dp w0 w hv hl hle hb0 hg ho h0 h1 hdp
    (fun w => (valueOf_any 3 f t ns [] A K ca kc w l2 l4).mono fun e w' ⟨x, h1, h2, h3⟩ => ⟨?_, h3⟩) (fun w => met3 _ w) (fun w => ent3 _ w) (fun w => kids95 t w) Jss.nil (fun w' _ => wf3 t w' l1) ?_
  · rcases h2 with ⟨_, rfl⟩ | ⟨h, _⟩
    · rw [h1]; unfold valJ; simp
    · exact absurd ⟨by unfold KindP; omega, hbare⟩ h
  · rw [one_iff]
    refine ⟨fun h => ?_, fun h => ⟨hbare, ?_⟩⟩
    · have := h.2; unfold TailJ at this; simpa using this
    · unfold TailJ; simpa using h

theorem fit4 {d : Nat} (IH : FitP d) (hd8 : d ≤ 4) (f : Bool) (t : ByteArray) (ns : List ByteArray) (kids : List Js) (A K : Option Addr) (ca kc B0 g : Nat) (L dp : Int) (w0 w : World) (hv : JsV w0 B0 ns kids A K) (hl : LimJ 1048576 (.mk 4 f t ns kids)) (hle : ns.length ≤ ca) (hb0 : Below w0.heap.size w0 w) (hg : w0.heap.size ≤ g) (ho : Own w g 104 [.int .i64 L]) (h0 : 0 ≤ L) (h1 : L ≤ 40) (hdp : dp + (d : Int) = 5) (hbare : BareJ 4 f t ns kids) :
    Calls Tryz.prog 83 #[.pointer (some ⟨g, 0, none⟩), .agg #[.int .i64 4, .bool f, .string t, .slice A ns.length ca, .slice K kids.length kc], .int .i64 dp] w (FitPost g L (htJ kids + 1 ≤ d + 1 ∧ JokP (.mk 4 f t ns kids)) (nodesJ kids + 1) false w) := by
  have hl' := hl
  cases hl' with
  | mk _ _ _ _ _ l1 l2 l3 l4 l5 =>
  have hk0 : kids = [] := List.eq_nil_of_length_eq_zero (hbare.2.2.1 (by omega))
  subst hk0
  refine fitCore IH hd8 148 (.string t) 208 none 0 (QuoP t) 4 f t ns [] A K ca kc B0 g L dp w0 w hv hl hle hb0 hg ho h0 h1 hdp
    (fun w => (valueOf_any 4 f t ns [] A K ca kc w l2 l4).mono fun e w' ⟨x, h1, h2, h3⟩ => ⟨?_, h3⟩) (fun w => met4 _ w) (fun w => ent4 _ w) (fun w => kids96 t w) Jss.nil (fun w' _ => wf4 t w' l1) ?_
  · rcases h2 with ⟨_, rfl⟩ | ⟨h, _⟩
    · rw [h1]; unfold valJ; simp
    · exact absurd ⟨by unfold KindP; omega, hbare⟩ h
  · rw [one_iff]
    refine ⟨fun h => ?_, fun h => ⟨hbare, ?_⟩⟩
    · have := h.2; unfold TailJ at this; simpa using this
    · unfold TailJ; simpa using h

theorem fit5 {d : Nat} (IH : FitP d) (hd8 : d ≤ 4) (f : Bool) (t : ByteArray) (ns : List ByteArray) (kids : List Js) (A K : Option Addr) (ca kc B0 g : Nat) (L dp : Int) (w0 w : World) (hv : JsV w0 B0 ns kids A K) (hl : LimJ 1048576 (.mk 5 f t ns kids)) (hle : ns.length ≤ ca) (hb0 : Below w0.heap.size w0 w) (hg : w0.heap.size ≤ g) (ho : Own w g 104 [.int .i64 L]) (h0 : 0 ≤ L) (h1 : L ≤ 40) (hdp : dp + (d : Int) = 5) (hbare : BareJ 5 f t ns kids) :
    Calls Tryz.prog 83 #[.pointer (some ⟨g, 0, none⟩), .agg #[.int .i64 5, .bool f, .string t, .slice A ns.length ca, .slice K kids.length kc], .int .i64 dp] w (FitPost g L (htJ kids + 1 ≤ d + 1 ∧ JokP (.mk 5 f t ns kids)) (nodesJ kids + 1) false w) := by
  have hl' := hl
  cases hl' with
  | mk _ _ _ _ _ l1 l2 l3 l4 l5 =>
  refine fitCore IH hd8 149 (.slice K kids.length kc) 209 K kc (True) 5 f t ns kids A K ca kc B0 g L dp w0 w hv hl hle hb0 hg ho h0 h1 hdp
    (fun w => (valueOf_any 5 f t ns kids A K ca kc w l2 l4).mono fun e w' ⟨x, h1, h2, h3⟩ => ⟨?_, h3⟩) (fun w => met5 _ w) (fun w => ent5 _ w) (fun w => kids97 K kids.length kc w) hv.k (fun w' _ => wf_97 _ w') ?_
  · rcases h2 with ⟨_, rfl⟩ | ⟨h, _⟩
    · rw [h1]; unfold valJ; simp
    · exact absurd ⟨by unfold KindP; omega, hbare⟩ h
  · rw [one_iff]
    refine ⟨fun h => ?_, fun h => ⟨hbare, ?_⟩⟩
    · have := h.2; unfold TailJ at this; trivial
    · unfold TailJ; simp

theorem fit6 {d : Nat} (IH : FitP d) (hd8 : d ≤ 4) (f : Bool) (t : ByteArray) (ns : List ByteArray) (kids : List Js) (A K : Option Addr) (ca kc B0 g : Nat) (L dp : Int) (w0 w : World) (hv : JsV w0 B0 ns kids A K) (hl : LimJ 1048576 (.mk 6 f t ns kids)) (hle : ns.length ≤ ca) (hb0 : Below w0.heap.size w0 w) (hg : w0.heap.size ≤ g) (ho : Own w g 104 [.int .i64 L]) (h0 : 0 ≤ L) (h1 : L ≤ 40) (hdp : dp + (d : Int) = 5) (hbare : BareJ 6 f t ns kids) :
    Calls Tryz.prog 83 #[.pointer (some ⟨g, 0, none⟩), .agg #[.int .i64 6, .bool f, .string t, .slice A ns.length ca, .slice K kids.length kc], .int .i64 dp] w (FitPost g L (htJ kids + 1 ≤ d + 1 ∧ JokP (.mk 6 f t ns kids)) (nodesJ kids + 1) false w) := by
  have hl' := hl
  cases hl' with
  | mk _ _ _ _ _ l1 l2 l3 l4 l5 =>
  refine fitCore IH hd8 151 (.agg #[.slice A ns.length ca, .slice K kids.length kc]) 210 K kc (ns.length = kids.length ∧ NmsP ns) 6 f t ns kids A K ca kc B0 g L dp w0 w hv hl hle hb0 hg ho h0 h1 hdp
    (fun w => (valueOf_any 6 f t ns kids A K ca kc w l2 l4).mono fun e w' ⟨x, h1, h2, h3⟩ => ⟨?_, h3⟩) (fun w => met6 _ w) (fun w => ent6 _ w) (fun w => kids99 _ K kids.length kc w) hv.k (fun w' hw' => wf6 ns kids.length A K ca kc w' (hv.a.keep hw') hle l2 l3) ?_
  · rcases h2 with ⟨_, rfl⟩ | ⟨h, _⟩
    · rw [h1]; unfold valJ; simp
    · exact absurd ⟨by unfold KindP; omega, hbare⟩ h
  · rw [one_iff]
    refine ⟨fun h => ?_, fun h => ⟨hbare, ?_⟩⟩
    · have := h.2; unfold TailJ at this; simpa using this
    · unfold TailJ; simpa using h

theorem fit_all : ∀ d, d ≤ 5 → FitP d
  | 0, _ => by
    intro k f t ns kids A K ca kc B0 g L dp w0 w hv hl hle hb0 hg ho h0 h1 hdp
    exact fitNot k f t ns kids A K ca kc B0 g L dp w0 w hv hl hle hb0 hg ho h0 h1 (by omega) (by omega) _ (fun h => by have := h.1; omega) (.inl (by omega))
  | d + 1, hd => by
    intro k f t ns kids A K ca kc B0 g L dp w0 w hv hl hle hb0 hg ho h0 h1 hdp
    have IH := fit_all d (by omega)
    by_cases hx : KindP k ∧ BareJ k f t ns kids
    · obtain ⟨hk, hbare⟩ := hx
      rcases hk with rfl | rfl | rfl | rfl | rfl | rfl
      · exact fit1 IH (by omega) f t ns kids A K ca kc B0 g L dp w0 w hv hl hle hb0 hg ho h0 h1 (by omega) hbare
      · exact fit2 IH (by omega) f t ns kids A K ca kc B0 g L dp w0 w hv hl hle hb0 hg ho h0 h1 (by omega) hbare
      · exact fit3 IH (by omega) f t ns kids A K ca kc B0 g L dp w0 w hv hl hle hb0 hg ho h0 h1 (by omega) hbare
      · exact fit4 IH (by omega) f t ns kids A K ca kc B0 g L dp w0 w hv hl hle hb0 hg ho h0 h1 (by omega) hbare
      · exact fit5 IH (by omega) f t ns kids A K ca kc B0 g L dp w0 w hv hl hle hb0 hg ho h0 h1 (by omega) hbare
      · exact fit6 IH (by omega) f t ns kids A K ca kc B0 g L dp w0 w hv hl hle hb0 hg ho h0 h1 (by omega) hbare
    · refine fitNot k f t ns kids A K ca kc B0 g L dp w0 w hv hl hle hb0 hg ho h0 h1 (by omega) (by omega) _ (fun h => hx ⟨?_, (one_iff.1 h.2.one).1⟩) (.inr hx)
      have := (one_iff.1 h.2.one).2
      unfold TailJ at this
      unfold KindP
      omega

end Go.Proofs.YtkhcappjhefkjaaGreatDoor

