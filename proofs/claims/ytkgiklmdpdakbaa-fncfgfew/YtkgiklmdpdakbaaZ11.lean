/- The specification's maker of productions: a head of a class. -/
import Derived.Test.YtkgiklmdpdakbaaJ7
namespace Go.Proofs.Ytkgiklmdpdakbaa
open Go.RowKit
set_option linter.unusedVariables false

set_option maxRecDepth 100000 in
set_option maxHeartbeats 2000000 in
theorem headRanges_any (w0 : World) (mb : Nat) (rv : Value) (h : Nat) (t : ByteArray) (lo hi : List Int) (kids : List Pt) (mn mx : Int) (A B K : Option Addr) (ca cb kc : Nat) (s : Mk) (Al : Option Addr) (cap : Nat) (xs : List Pv) (w : World)
    (hv : PtV w0 0 lo hi kids A B K) (hl : lo.length = hi.length) (hl2 : lo.length ≤ 256) (hroom : s.list.length ≤ 500000) (hk : MK w0 mb rv s Al cap xs w) :
    Calls Try.prog 50 #[.pointer (some ⟨mb, 0, none⟩), .int .i64 (h : Int), .agg #[.int .i64 2, .string t, .slice A lo.length ca, .slice B hi.length cb, .slice K kids.length kc, .int .i64 mn, .int .i64 mx]] w (HeadPost w0 mb rv xs (rangesB h lo hi lo.length s) w) := by
  have HV := Lib.hid hv
  have HBX := Lib.hid (below_box (w := w) (.cells #[.int .i64 2, .string t, .slice A lo.length ca, .slice B hi.length cb, .slice K kids.length kc, .int .i64 mn, .int .i64 mx] 88))
  have OB : Hid (Own (w.alloc (.cells #[.int .i64 2, .string t, .slice A lo.length ca, .slice B hi.length cb, .slice K kids.length kc, .int .i64 mn, .int .i64 mx] 88)) w.heap.size 88 [.int .i64 2, .string t, .slice A lo.length ca, .slice B hi.length cb, .slice K kids.length kc, .int .i64 mn, .int .i64 mx]) := Own.new w 88 _
  have HM := Lib.hid (hk.keep HBX.out)
  have HL := Lib.hid hl
  clear hk hv hl
  go_enter Try.func50, Try.ntmps50
  go_wp2_with fail
  generalize w.alloc (.cells #[.int .i64 2, .string t, .slice A lo.length ca, .slice B hi.length cb, .slice K kids.length kc, .int .i64 mn, .int .i64 mx] 88) = W at *
  go_loopw [7] (fun i wr => ∃ j : Nat, j ≤ lo.length ∧ i = .int .i64 j ∧ ∃ A' cap' zs, Hid (MkP w0 mb rv xs W (rangesB h lo hi j s) A' cap' zs wr)) (fun i _ => lo.length - (intOf i).toNat)
  case atStart => exact ⟨0, Nat.zero_le _, rfl, Al, cap, [], .refl HM.out⟩
  case round =>
    obtain ⟨j, hj, rfl, A1, c1, zs, HMP⟩ := hrel
    have OB2 := HMP.out.f.own HM.out.o OB.out (by decide) (by decide)
    have x2 : wr.cell? ⟨w.heap.size, 2, none⟩ = some (.slice A lo.length ca) := (OB2.cell 2).trans rfl
    have x3 : wr.cell? ⟨w.heap.size, 3, none⟩ = some (.slice B hi.length cb) := (OB2.cell 3).trans rfl
    clear OB2
    by_cases hlt : j < lo.length
    · have hlt' : (j : Int) < (lo.length : Int) := by omega
      have hlt2 : (j : Int) < (hi.length : Int) := by have := HL.out; omega
      obtain ⟨b1, o1, rfl, E1⟩ := HV.out.a.gi (i := j) hlt
      obtain ⟨b2, o2, rfl, E2⟩ := HV.out.b.gi (i := j) (by have := HL.out; omega)
      have HE1 := Lib.hid E1
      have HE2 := Lib.hid E2
      have g1 := cell_keep HMP.out.k.b E1
      have g2 := cell_keep HMP.out.k.b E2
      have HST := Lib.hid (rangesB_succ h lo hi j s)
      have hlen := (rangesB_len h lo hi j s).2
      clear E1 E2
      generalize gi lo j = u at *
      generalize gi hi j = v at *
      have hll : (rangesB h lo hi j s).list.length ≤ 1000000 := by omega
      have HBA := Lib.hid ((below_box (w := wr) (.cells #[.int .i64 (-1), .int .i64 u, .int .i64 v] 49)).drew)
      have HPUT := Lib.hid (put_any h [⟨-1, u, v⟩] (some ⟨wr.heap.size, 0, none⟩) 1 w0 mb rv (rangesB h lo hi j s) A1 c1 (xs ++ zs) _ (HMP.out.k.keep HBA.out) hll (own_new wr 49 3 w0.heap.size 1 (symCells [⟨-1, u, v⟩]) HMP.out.k.b.size rfl (by decide)).drew (fun i hi b hb e => by have := HMP.out.k.low _ (List.getElem_mem hi) b hb; have : wr.heap.size = b := (by simpa [Value.ownBlock] using e); omega))
      clear hll hlen
      go_wp2
      refine wp_region_held_drew (S := (fun X => X.cell? ⟨w.heap.size, 2, none⟩ = some (.slice (some ⟨b1, o1, none⟩) lo.length ca) ∧ X.cell? ⟨w.heap.size, 3, none⟩ = some (.slice (some ⟨b2, o2, none⟩) hi.length cb) ∧ X.cell? ⟨b1, o1 + j, none⟩ = some (.int .i64 u) ∧ X.cell? ⟨b2, o2 + j, none⟩ = some (.int .i64 v))) (by kernel_rfl) ?_ (fun hHeld => ?_)
      · exact ⟨x2, x3, g1, g2⟩
      (first
        | (refine held_take (i := 0) (v := ?_) rfl (by kernel_rfl) (by kernel_rfl) (by kernel_rfl) (fun _ _ _ h => h) (Or.inl ⟨rfl, ?_⟩) (by assumption) ?_; rotate_left; (intro X hSw; (try dsimp only at hSw); (go_simp <;> with_reducible rfl)))
        | (refine held_take (i := 0) (v := undef) rfl (by kernel_rfl) (by kernel_rfl) (by kernel_rfl) (fun _ _ _ h => h) (Or.inr ⟨rfl, rfl⟩) (by assumption) ?_)); simp only [Act.put, List.setIfInBounds_toArray, List.set_cons_zero, List.set_cons_succ]
      (first
        | (refine held_take (i := 1) (v := ?_) rfl (by kernel_rfl) (by kernel_rfl) (by kernel_rfl) (fun _ _ _ h => h) (Or.inl ⟨rfl, ?_⟩) (by assumption) ?_; rotate_left; (intro X hSw; (try dsimp only at hSw); (go_simp <;> with_reducible rfl)))
        | (refine held_take (i := 1) (v := undef) rfl (by kernel_rfl) (by kernel_rfl) (by kernel_rfl) (fun _ _ _ h => h) (Or.inr ⟨rfl, rfl⟩) (by assumption) ?_)); simp only [Act.put, List.setIfInBounds_toArray, List.set_cons_zero, List.set_cons_succ]
      (first
        | (refine held_take (i := 2) (v := ?_) rfl (by kernel_rfl) (by kernel_rfl) (by kernel_rfl) (fun _ _ _ h => h) (Or.inl ⟨rfl, ?_⟩) (by assumption) ?_; rotate_left; (intro X hSw; (try dsimp only at hSw); (go_simp <;> with_reducible rfl)))
        | (refine held_take (i := 2) (v := undef) rfl (by kernel_rfl) (by kernel_rfl) (by kernel_rfl) (fun _ _ _ h => h) (Or.inr ⟨rfl, rfl⟩) (by assumption) ?_)); simp only [Act.put, List.setIfInBounds_toArray, List.set_cons_zero, List.set_cons_succ]
      (first
        | (refine held_take (i := 3) (v := ?_) rfl (by kernel_rfl) (by kernel_rfl) (by kernel_rfl) (fun _ _ _ h => h) (Or.inl ⟨rfl, ?_⟩) (by assumption) ?_; rotate_left; (intro X hSw; (try dsimp only at hSw); (go_simp <;> with_reducible rfl)))
        | (refine held_take (i := 3) (v := undef) rfl (by kernel_rfl) (by kernel_rfl) (by kernel_rfl) (fun _ _ _ h => h) (Or.inr ⟨rfl, rfl⟩) (by assumption) ?_)); simp only [Act.put, List.setIfInBounds_toArray, List.set_cons_zero, List.set_cons_succ]
      (first
        | (refine held_take (i := 4) (v := ?_) rfl (by kernel_rfl) (by kernel_rfl) (by kernel_rfl) (fun _ _ _ h => h) (Or.inl ⟨rfl, ?_⟩) (by assumption) ?_; rotate_left; (intro X hSw; (try dsimp only at hSw); (go_simp <;> with_reducible rfl)))
        | (refine held_take (i := 4) (v := undef) rfl (by kernel_rfl) (by kernel_rfl) (by kernel_rfl) (fun _ _ _ h => h) (Or.inr ⟨rfl, rfl⟩) (by assumption) ?_)); simp only [Act.put, List.setIfInBounds_toArray, List.set_cons_zero, List.set_cons_succ]
      (first
        | (refine held_take (i := 5) (v := ?_) rfl (by kernel_rfl) (by kernel_rfl) (by kernel_rfl) (fun _ _ _ h => h) (Or.inl ⟨rfl, ?_⟩) (by assumption) ?_; rotate_left; (intro X hSw; (try dsimp only at hSw); (go_simp <;> with_reducible rfl)))
        | (refine held_take (i := 5) (v := undef) rfl (by kernel_rfl) (by kernel_rfl) (by kernel_rfl) (fun _ _ _ h => h) (Or.inr ⟨rfl, rfl⟩) (by assumption) ?_)); simp only [Act.put, List.setIfInBounds_toArray, List.set_cons_zero, List.set_cons_succ]
      (first
        | (refine held_take (i := 6) (v := ?_) rfl (by kernel_rfl) (by kernel_rfl) (by kernel_rfl) (fun _ _ _ h => h) (Or.inl ⟨rfl, ?_⟩) (by assumption) ?_; rotate_left; (intro X hSw; (try dsimp only at hSw); (go_simp <;> with_reducible rfl)))
        | (refine held_take (i := 6) (v := undef) rfl (by kernel_rfl) (by kernel_rfl) (by kernel_rfl) (fun _ _ _ h => h) (Or.inr ⟨rfl, rfl⟩) (by assumption) ?_)); simp only [Act.put, List.setIfInBounds_toArray, List.set_cons_zero, List.set_cons_succ]
      (first
        | (refine held_take (i := 7) (v := ?_) rfl (by kernel_rfl) (by kernel_rfl) (by kernel_rfl) (fun _ _ _ h => h) (Or.inl ⟨rfl, ?_⟩) (by assumption) ?_; rotate_left; (intro X hSw; (try dsimp only at hSw); (go_simp <;> with_reducible rfl)))
        | (refine held_take (i := 7) (v := undef) rfl (by kernel_rfl) (by kernel_rfl) (by kernel_rfl) (fun _ _ _ h => h) (Or.inr ⟨rfl, rfl⟩) (by assumption) ?_)); simp only [Act.put, List.setIfInBounds_toArray, List.set_cons_zero, List.set_cons_succ]
      (first
        | (refine held_take (i := 8) (v := ?_) rfl (by kernel_rfl) (by kernel_rfl) (by kernel_rfl) (fun _ _ _ h => h) (Or.inl ⟨rfl, ?_⟩) (by assumption) ?_; rotate_left; (intro X hSw; (try dsimp only at hSw); (go_simp <;> with_reducible rfl)))
        | (refine held_take (i := 8) (v := undef) rfl (by kernel_rfl) (by kernel_rfl) (by kernel_rfl) (fun _ _ _ h => h) (Or.inr ⟨rfl, rfl⟩) (by assumption) ?_)); simp only [Act.put, List.setIfInBounds_toArray, List.set_cons_zero, List.set_cons_succ]
      (first
        | (refine held_take (i := 9) (v := ?_) rfl (by kernel_rfl) (by kernel_rfl) (by kernel_rfl) (fun _ _ _ h => h) (Or.inl ⟨rfl, ?_⟩) (by assumption) ?_; rotate_left; (intro X hSw; (try dsimp only at hSw); (go_simp <;> with_reducible rfl)))
        | (refine held_take (i := 9) (v := undef) rfl (by kernel_rfl) (by kernel_rfl) (by kernel_rfl) (fun _ _ _ h => h) (Or.inr ⟨rfl, rfl⟩) (by assumption) ?_)); simp only [Act.put, List.setIfInBounds_toArray, List.set_cons_zero, List.set_cons_succ]
      (first
        | (refine held_take (i := 10) (v := ?_) rfl (by kernel_rfl) (by kernel_rfl) (by kernel_rfl) (fun _ _ _ h => h) (Or.inl ⟨rfl, ?_⟩) (by assumption) ?_; rotate_left; (intro X hSw; (try dsimp only at hSw); (go_simp <;> with_reducible rfl)))
        | (refine held_take (i := 10) (v := undef) rfl (by kernel_rfl) (by kernel_rfl) (by kernel_rfl) (fun _ _ _ h => h) (Or.inr ⟨rfl, rfl⟩) (by assumption) ?_)); simp only [Act.put, List.setIfInBounds_toArray, List.set_cons_zero, List.set_cons_succ]
      (first
        | (refine held_take (i := 11) (v := ?_) rfl (by kernel_rfl) (by kernel_rfl) (by kernel_rfl) (fun _ _ _ h => h) (Or.inl ⟨rfl, ?_⟩) (by assumption) ?_; rotate_left; (intro X hSw; (try dsimp only at hSw); (go_simp <;> with_reducible rfl)))
        | (refine held_take (i := 11) (v := undef) rfl (by kernel_rfl) (by kernel_rfl) (by kernel_rfl) (fun _ _ _ h => h) (Or.inr ⟨rfl, rfl⟩) (by assumption) ?_)); simp only [Act.put, List.setIfInBounds_toArray, List.set_cons_zero, List.set_cons_succ]
      (first
        | (refine held_take (i := 12) (v := ?_) rfl (by kernel_rfl) (by kernel_rfl) (by kernel_rfl) (fun _ _ _ h => h) (Or.inl ⟨rfl, ?_⟩) (by assumption) ?_; rotate_left; (intro X hSw; (try dsimp only at hSw); (go_simp <;> with_reducible rfl)))
        | (refine held_take (i := 12) (v := undef) rfl (by kernel_rfl) (by kernel_rfl) (by kernel_rfl) (fun _ _ _ h => h) (Or.inr ⟨rfl, rfl⟩) (by assumption) ?_)); simp only [Act.put, List.setIfInBounds_toArray, List.set_cons_zero, List.set_cons_succ]
      refine wpAnyH_ready (rs := [13]) (by kernel_rfl) (by simp) ?_
      refine AllReadyH.cons rfl (fun K hK => ?_) AllReadyH.nil
      go_simp
      refine hK.out _ _ ?_ (fun hHeld => ?_)
      · exact ⟨cell_alloc x2 _, cell_alloc x3 _, cell_alloc g1 _, cell_alloc g2 _⟩
      clear hK K
      refine wpAnyH_ready (rs := [14]) (by kernel_rfl) (by simp) ?_
      refine AllReadyH.cons rfl (fun K hK => ?_) AllReadyH.nil
      go_simp
      go_wp2_with (go_at_call 69; refine HPUT.out.mono ?_; rintro e w3 ⟨rfl, A3, c3, hm3, hf3⟩)
      have hWr := HMP.out.f.size
      have HX : Hid (∀ b, (⟨⟨(h : Int), [⟨-1, u, v⟩]⟩, some ⟨wr.heap.size, 0, none⟩, 1⟩ : Pv).sl.ownBlock = some b → W.heap.size ≤ b) := fun b hb => by
        have : wr.heap.size = b := by simpa [Pv.sl, Value.ownBlock] using hb
        omega
      have FIN := Lib.hid ((HMP.out.then_ HBA.out).putx hm3 hf3 HX.out)
      have OB3 := FIN.out.f.own HM.out.o OB.out (by decide) (by decide)
      refine hK.out _ _ ?_ (fun hHeld => ?_)
      · exact ⟨(OB3.cell 2).trans rfl, (OB3.cell 3).trans rfl, cell_keep FIN.out.k.b HE1.out, cell_keep FIN.out.k.b HE2.out⟩
      clear hK K OB3 hm3 hf3 x2 x3 g1 g2
      refine wpAnyH_done (by kernel_rfl) ?_ _
      go_wp2
      go_roundw
      case rel => exact ⟨j + 1, by omega, by go_num, A3, c3, _, by rw [HST.out]; exact FIN⟩
      case measure => simp [intOf]; omega
    · have hlt' : ¬ (j : Int) < (lo.length : Int) := by omega
      have e : j = lo.length := by omega
      subst e
      have FIN := Lib.hid (MkP.after HBX.out HMP.out)
      go_wp2
      refine bodyPost_end (results_none rfl _ _ _) rfl ?_
      exact ⟨rfl, A1, c1, zs, FIN.out⟩

end Go.Proofs.Ytkgiklmdpdakbaa

