/- The walk of the law FnSchemaWord. -/
import Derived.Test.YtkhcappjhefkjaaGreatDoorWB
import Derived.Test.YtkhcappjhefkjaaGreatDoorE5
namespace Go.Proofs.YtkhcappjhefkjaaGreatDoor
open Go.RowKit
set_option linter.unusedVariables false

theorem wordFits {n : Int} (h0 : 0 ≤ n) (h6 : n ≤ 6) (t : ByteArray) : FitsP (.mk 4 n n [] [] []) (.mk 4 false t [] []) ↔ JsonP (.mk 4 false t [] []) ∧ (t.size : Int) = n := by
  have hS : SchemaP (.mk 4 n n [] [] []) := by
    refine ⟨by rw [htS_mk]; decide, .mk _ _ _ _ _ _ (by simp) (by simp), by rw [nodesS_mk]; decide, .mk _ _ _ _ _ _ (.inr (.inl ⟨rfl, ⟨h0, Int.le_refl _, h6⟩, rfl, rfl, rfl⟩)) (by simp)⟩
  constructor
  · rintro ⟨_, hj, hf⟩
    refine ⟨hj, ?_⟩
    rcases hf with ⟨h, _⟩ | ⟨_, _, h1, h2⟩ | ⟨h, _⟩ | ⟨h, _⟩ | ⟨h, _⟩ | ⟨h, _⟩
    · rcases h with h | h | h <;> simp at h
    · omega
    all_goals simp at h
  · rintro ⟨hj, h⟩
    exact ⟨hS, hj, .inr (.inl ⟨rfl, rfl, by omega, by omega⟩)⟩

/-- A text of at most eight bytes is drawn; nothing that was there turns. -/
theorem drawWord_any (C : Option Addr) (ccap : Nat) (zs : List Int) (w : World) (hrow : Row w C (byts zs)) (hz : zs.length ≤ 1048576) (hcap : zs.length ≤ ccap) (hzs : ∀ z ∈ zs, 0 ≤ z ∧ z ≤ 255) :
    Calls Tryz.prog 32 #[.slice C zs.length ccap] w (fun e w' => ∃ s : ByteArray, e = .returned (.string s) ∧ s.size ≤ 8 ∧ Below w.heap.size w w') := by
  have HR := Lib.hid hrow
  have HZ := Lib.hid hzs
  clear hrow hzs
  go_enter Tryz.func32, Tryz.ntmps32
  go_wp2_with fail
  refine (open_any C ccap zs _ HR.out hz hcap HZ.out).mono ?_
  rintro e w1 ⟨g, rfl, hg, hrd, hb1⟩
  have hgl := hrd.lt
  have HB1 := Lib.hid hb1
  clear hb1
  go_wp2_with fail
  refine (bytes_any (g + 1) g 0 7 w1 hrd (by omega) (by omega) (by omega) (by omega)).mono ?_
  rintro e w2 ⟨s, rfl, hs, hrd2, hg2⟩
  have hb2 : Below w.heap.size w w2 := HB1.out.grown hg2 (by have := HB1.out.size; omega) (fun k hk => by injection hk with hk; omega)
  go_wp2
  go_ret
  exact ⟨s, rfl, hs, hb2⟩

theorem word_cells {w : World} {g : Nat} {T : TypeId} {a b c d e : Value} (h : Own w g T [a, b, c, d, e]) : w.cell? ⟨g, 0, none⟩ = some a ∧ w.cell? ⟨g, 1, none⟩ = some b ∧ w.cell? ⟨g, 2, none⟩ = some c ∧ w.cell? ⟨g, 3, none⟩ = some d ∧ w.cell? ⟨g, 4, none⟩ = some e :=
  ⟨by rw [h.cell]; rfl, by rw [h.cell]; rfl, by rw [h.cell]; rfl, by rw [h.cell]; rfl, by rw [h.cell]; rfl⟩

theorem schema_cells {w : World} {g : Nat} {T : TypeId} {a b c d e f : Value} (h : Own w g T [a, b, c, d, e, f]) : w.cell? ⟨g, 0, none⟩ = some a ∧ w.cell? ⟨g, 1, none⟩ = some b ∧ w.cell? ⟨g, 2, none⟩ = some c ∧ w.cell? ⟨g, 3, none⟩ = some d ∧ w.cell? ⟨g, 4, none⟩ = some e ∧ w.cell? ⟨g, 5, none⟩ = some f :=
  ⟨by rw [h.cell]; rfl, by rw [h.cell]; rfl, by rw [h.cell]; rfl, by rw [h.cell]; rfl, by rw [h.cell]; rfl, by rw [h.cell]; rfl⟩

def LawTrue (w : World) (e : Ending) (w' : World) : Prop := e = .returned (.bool true) ∧ Below w.heap.size w w'

set_option maxRecDepth 100000 in
set_option maxHeartbeats 4000000 in
theorem schemaWord_walk (C : Option Addr) (ccap : Nat) (zs : List Int) (w : World) (hrow : Row w C (byts zs)) (hz : zs.length ≤ maxLen) (hcap : zs.length ≤ ccap) (hzs : ∀ z ∈ zs, 0 ≤ z ∧ z ≤ 255) :
    Calls Tryz.prog 14 #[.slice C zs.length ccap] w (LawTrue w) := by
  have HR := Lib.hid hrow
  have HZ := Lib.hid hzs
  clear hrow hzs
  unfold maxLen at hz
  by_cases hbig : 1048576 < zs.length
  · have hbig' : (1048576 : Int) < (zs.length : Int) := by omega
    go_enter Tryz.func14, Tryz.ntmps14
    go_wp2
    go_ret
    exact ⟨rfl, Below.refl _ _⟩
  have hbig' : ¬ (1048576 : Int) < (zs.length : Int) := by omega
  go_enter Tryz.func14, Tryz.ntmps14
  go_wp2_with fail
  refine (drawWord_any C ccap zs _ HR.out (by omega) hcap HZ.out).mono ?_
  rintro e w1 ⟨t, rfl, ht, hb1⟩
  have HB1 := Lib.hid hb1
  have HL := Lib.hid (show LimJ 1048576 (.mk 4 false t [] []) from .mk 4 false t [] [] (by omega) (by simp) (by simp) (by simp) (by simp))
  clear hb1
  have HO := Lib.hid (show Own (w1.alloc (.cells #[.int .i64 4, .bool false, .string t, .slice none 0 0, .slice none 0 0] 42)) w1.heap.size 42 (c5 4 false t none 0 0 none 0 0) from Own.new w1 42 #[.int .i64 4, .bool false, .string t, .slice none 0 0, .slice none 0 0])
  have HB2 := Lib.hid (HB1.out.alloc HB1.out.size (.cells #[.int .i64 4, .bool false, .string t, .slice none 0 0, .slice none 0 0] 42))
  have hsz := HB1.out.size
  obtain ⟨p0, p1, p2, p3, p4⟩ := word_cells HO.out
  have pl := HO.out.lt
  clear HB1
  have JV : ∀ W : World, JsV W 0 [] [] none none := fun W => ⟨.inl rfl, Jss.nil, fun x h => by cases h⟩
  go_wp2_with fail
  obtain ⟨wv, hwv⟩ : ∃ wv, w1.alloc (.cells #[.int .i64 4, .bool false, .string t, .slice none 0 0, .slice none 0 0] 42) = wv := ⟨_, rfl⟩
  rw [hwv] at HO HB2 p0 p1 p2 p3 p4 pl ⊢
  clear hwv
  go_region_held3 (fun W => W.cell? ⟨w1.heap.size, 0, none⟩ = some (.int .i64 4) ∧ W.cell? ⟨w1.heap.size, 1, none⟩ = some (.bool false) ∧ W.cell? ⟨w1.heap.size, 2, none⟩ = some (.string t) ∧ W.cell? ⟨w1.heap.size, 3, none⟩ = some (.slice none 0 0) ∧ W.cell? ⟨w1.heap.size, 4, none⟩ = some (.slice none 0 0))
    (first | exact word_cells (((HO.out.drew).below hb3 pl).below hb4 (Nat.lt_of_lt_of_le pl hb3.size)) | exact word_cells ((HO.out.drew).below hb3 pl) | exact word_cells HO.out.drew | exact word_cells HO.out)
    (first | (go_at_call 33; refine (implOk_any 4 false t [] [] none none 0 0 0 _ (JV _) HL.out (Nat.le_refl _)).mono ?_; rintro e w3 ⟨r, rfl, hr, hb3⟩)
           | (go_at_call 31; refine (specOk_any 4 false t [] [] none none 0 0 0 _ (JV _) HL.out).mono ?_; rintro e w4 ⟨r2, rfl, hr2, hb4⟩))
  have HO4 := Lib.hid (((HO.out.drew).below hb3 pl).below hb4 (Nat.lt_of_lt_of_le pl hb3.size))
  have HB4 := Lib.hid ((HB2.out.drew.trans (hb3.mono HB2.out.drew.size)).trans (hb4.mono (Nat.le_trans HB2.out.drew.size hb3.size)))
  have hrr : r2 = r := by
    cases r2 <;> cases r <;> simp_all
  subst hrr
  have HRR := Lib.hid hr
  clear hr hr2 hb3 hb4 HO HB2 p0 p1 p2 p3 p4 pl
  have hne : (!r2 == r2) = false := by simp
  rw [hne]
  clear hne
  go_wp2
  go_loopw [5] (fun c wr => ∃ i : Nat, c = .int .i64 i ∧ i ≤ 7 ∧ Hid (Own wr w1.heap.size 42 (c5 4 false t none 0 0 none 0 0)) ∧ Hid (Below w.heap.size w wr)) (fun c _ => 7 - (intOf c).toNat)
  case atStart => exact ⟨0, rfl, by omega, HO4, HB4⟩
  case round =>
    clear HO4 HB4
    obtain ⟨i, rfl, hin, HO, HB⟩ := hrel
    by_cases hi : i ≤ 6
    · have hi2 : (i : Int) ≤ 6 := by omega
      obtain ⟨p0, p1, p2, p3, p4⟩ := word_cells HO.out
      have pl := HO.out.lt
      have LS := Lib.hid (show LimS 1048576 (.mk 4 (i : Int) (i : Int) [] [] []) from .mk _ _ _ _ _ _ (by simp) (by simp) (by simp) (by simp) (by simp) ⟨by unfold I64; omega, by unfold I64; omega⟩)
      have HF := Lib.hid (wordFits (n := (i : Int)) (by omega) (by omega) t)
      have HQ := Lib.hid (show ∀ b : Bool, (b = true ↔ JsonP (.mk 4 false t [] [])) → b = r2 from fun b hb => by have a1 := HRR.out; cases b <;> cases r2 <;> simp_all)
      obtain ⟨X, hX, hX2⟩ : ∃ X : Bool, (∀ b : Bool, (b = true ↔ FitsP (.mk 4 (i : Int) (i : Int) [] [] []) (.mk 4 false t [] [])) → b = X) ∧ ((r2 = false ∧ X = false) ∨ (r2 = true ∧ ((t.size : Int) == (i : Int)) = true ∧ X = true) ∨ (r2 = true ∧ ((t.size : Int) == (i : Int)) = false ∧ X = false)) := by
        have a1 := HRR.out
        have a2 := HF.out
        refine ⟨r2 && ((t.size : Int) == (i : Int)), fun b hb => ?_, ?_⟩
        · rw [Bool.eq_iff_iff, hb, a2, ← a1]; simp
        · cases r2 <;> cases h : ((t.size : Int) == (i : Int)) <;> simp
      have HX := Lib.hid hX
      clear hX HF
      have SV : ∀ W : World, ScV W 0 [] [] [] none none none := fun W => ⟨.inl rfl, .inl rfl, Scs.nil, (fun x h => by cases h), (fun x h => by cases h)⟩
      go_wp2_with fail
      have HOs := Lib.hid (show Own (wr.alloc (.cells #[.int .i64 4, .int .i64 (i : Int), .int .i64 (i : Int), .slice none 0 0, .slice none 0 0, .slice none 0 0] 31)) wr.heap.size 31 [.int .i64 4, .int .i64 (i : Int), .int .i64 (i : Int), .slice none 0 0, .slice none 0 0, .slice none 0 0] from Own.new wr 31 #[.int .i64 4, .int .i64 (i : Int), .int .i64 (i : Int), .slice none 0 0, .slice none 0 0, .slice none 0 0])
      have HOj := Lib.hid (HO.out.alloc (.cells #[.int .i64 4, .int .i64 (i : Int), .int .i64 (i : Int), .slice none 0 0, .slice none 0 0, .slice none 0 0] 31))
      have HBs := Lib.hid (HB.out.alloc HB.out.size (.cells #[.int .i64 4, .int .i64 (i : Int), .int .i64 (i : Int), .slice none 0 0, .slice none 0 0, .slice none 0 0] 31))
      clear p0 p1 p2 p3 p4 pl HB HO
      have sl := HOs.out.lt
      have jl := HOj.out.lt
      obtain ⟨wv2, hwv⟩ : ∃ wv, wr.alloc (.cells #[.int .i64 4, .int .i64 (i : Int), .int .i64 (i : Int), .slice none 0 0, .slice none 0 0, .slice none 0 0] 31) = wv := ⟨_, rfl⟩
      rw [hwv] at HOs HOj HBs sl jl ⊢
      clear hwv
      have k1 := schema_cells HOs.out
      have k2 := word_cells HOj.out
      obtain ⟨q0, q1, q2, q3, q4, q5⟩ := k1
      obtain ⟨p0, p1, p2, p3, p4⟩ := k2
      rcases hX2 with ⟨rfl, rfl⟩ | ⟨rfl, hee, rfl⟩ | ⟨rfl, hee, rfl⟩
      ·
        refine wp_region_held_drew (S := (fun W => (W.cell? ⟨wr.heap.size, 0, none⟩ = some (.int .i64 4) ∧ W.cell? ⟨wr.heap.size, 1, none⟩ = some (.int .i64 (i : Int)) ∧ W.cell? ⟨wr.heap.size, 2, none⟩ = some (.int .i64 (i : Int)) ∧ W.cell? ⟨wr.heap.size, 3, none⟩ = some (.slice none 0 0) ∧ W.cell? ⟨wr.heap.size, 4, none⟩ = some (.slice none 0 0) ∧ W.cell? ⟨wr.heap.size, 5, none⟩ = some (.slice none 0 0)) ∧ W.cell? ⟨w1.heap.size, 0, none⟩ = some (.int .i64 4) ∧ W.cell? ⟨w1.heap.size, 1, none⟩ = some (.bool false) ∧ W.cell? ⟨w1.heap.size, 2, none⟩ = some (.string t) ∧ W.cell? ⟨w1.heap.size, 3, none⟩ = some (.slice none 0 0) ∧ W.cell? ⟨w1.heap.size, 4, none⟩ = some (.slice none 0 0))) (by kernel_rfl) ?_ (fun hHeld => ?_)
        · exact ⟨schema_cells (HOs.out), word_cells (HOj.out)⟩
        (first
          | (refine held_take (i := 0) (v := ?_) rfl (by kernel_rfl) (by kernel_rfl) (by kernel_rfl) (fun _ _ _ h => h) (Or.inl ⟨rfl, ?_⟩) (by assumption) ?_; rotate_left; (intro X hSw; (try dsimp only at hSw); (go_simp <;> with_reducible rfl)))
          | (refine held_take (i := 0) (v := undef) rfl (by kernel_rfl) (by kernel_rfl) (by kernel_rfl) (fun _ _ _ h => h) (Or.inr ⟨rfl, rfl⟩) (by assumption) ?_)); simp only [Act.put, List.setIfInBounds_toArray, List.set_cons_zero, List.set_cons_succ]
        (first
          | (refine held_take (i := 1) (v := ?_) rfl (by kernel_rfl) (by kernel_rfl) (by kernel_rfl) (fun _ _ _ h => h) (Or.inl ⟨rfl, ?_⟩) (by assumption) ?_; rotate_left; (intro X hSw; (try dsimp only at hSw); (go_simp <;> with_reducible rfl)))
          | (refine held_take (i := 1) (v := undef) rfl (by kernel_rfl) (by kernel_rfl) (by kernel_rfl) (fun _ _ _ h => h) (Or.inr ⟨rfl, rfl⟩) (by assumption) ?_)); simp only [Act.put, List.setIfInBounds_toArray, List.set_cons_zero, List.set_cons_succ]
        (first
          | (refine held_take (i := 3) (v := ?_) rfl (by kernel_rfl) (by kernel_rfl) (by kernel_rfl) (fun _ _ _ h => h) (Or.inl ⟨rfl, ?_⟩) (by assumption) ?_; rotate_left; (intro X hSw; (try dsimp only at hSw); (go_simp <;> with_reducible rfl)))
          | (refine held_take (i := 3) (v := undef) rfl (by kernel_rfl) (by kernel_rfl) (by kernel_rfl) (fun _ _ _ h => h) (Or.inr ⟨rfl, rfl⟩) (by assumption) ?_)); simp only [Act.put, List.setIfInBounds_toArray, List.set_cons_zero, List.set_cons_succ]
        refine wpAnyH_ready (rs := [2]) (by kernel_rfl) (by simp) ?_
        refine AllReadyH.cons rfl (fun K hK => ?_) AllReadyH.nil
        go_simp
        go_wp2_with (go_at_call 23; refine (implFits_any 4 (i : Int) (i : Int) [] [] [] none none none 0 0 0 0 4 false t [] [] none none 0 0 0 _ (SV _) LS.out (Nat.le_refl _) (JV _) HL.out (Nat.le_refl _)).mono ?_; rintro e w5 ⟨r5, rfl, hr5, hb5⟩; obtain rfl := HX.out r5 hr5; clear hr5)
        refine hK.out _ _ ?_ (fun hHeld => ?_)
        · exact ⟨schema_cells ((HOs.out.drew).below hb5 sl), word_cells ((HOj.out.drew).below hb5 jl)⟩
        clear hK K
        refine wpAnyH_ready (rs := [4]) (by kernel_rfl) (by simp) ?_
        refine AllReadyH.cons rfl (fun K hK => ?_) AllReadyH.nil
        go_simp
        go_wp2_with (go_at_call 31; refine (specOk_any 4 false t [] [] none none 0 0 0 _ (JV _) HL.out).mono ?_; rintro e w6 ⟨r6, rfl, hr6, hb6⟩; obtain rfl := HQ.out r6 hr6; clear hr6)
        refine hK.out _ _ ?_ (fun hHeld => ?_)
        · exact ⟨schema_cells (((HOs.out.drew).below hb5 sl).below hb6 (Nat.lt_of_lt_of_le sl hb5.size)), word_cells (((HOj.out.drew).below hb5 jl).below hb6 (Nat.lt_of_lt_of_le jl hb5.size))⟩
        clear hK K
        (first
          | (refine held_take (i := 5) (v := ?_) rfl (by kernel_rfl) (by kernel_rfl) (by kernel_rfl) (fun _ _ _ h => h) (Or.inl ⟨rfl, ?_⟩) (by assumption) ?_; rotate_left; (intro X hSw; (try dsimp only at hSw); (go_simp <;> with_reducible rfl)))
          | (refine held_take (i := 5) (v := undef) rfl (by kernel_rfl) (by kernel_rfl) (by kernel_rfl) (fun _ _ _ h => h) (Or.inr ⟨rfl, rfl⟩) (by assumption) ?_)); simp only [Act.put, List.setIfInBounds_toArray, List.set_cons_zero, List.set_cons_succ]
        (first
          | (refine held_take (i := 6) (v := ?_) rfl (by kernel_rfl) (by kernel_rfl) (by kernel_rfl) (fun _ _ _ h => h) (Or.inl ⟨rfl, ?_⟩) (by assumption) ?_; rotate_left; (intro X hSw; (try dsimp only at hSw); (go_simp <;> with_reducible rfl)))
          | (refine held_take (i := 6) (v := undef) rfl (by kernel_rfl) (by kernel_rfl) (by kernel_rfl) (fun _ _ _ h => h) (Or.inr ⟨rfl, rfl⟩) (by assumption) ?_)); simp only [Act.put, List.setIfInBounds_toArray, List.set_cons_zero, List.set_cons_succ]
        (first
          | (refine held_take (i := 7) (v := ?_) rfl (by kernel_rfl) (by kernel_rfl) (by kernel_rfl) (fun _ _ _ h => h) (Or.inl ⟨rfl, ?_⟩) (by assumption) ?_; rotate_left; (intro X hSw; (try dsimp only at hSw); (go_simp <;> with_reducible rfl)))
          | (refine held_take (i := 7) (v := undef) rfl (by kernel_rfl) (by kernel_rfl) (by kernel_rfl) (fun _ _ _ h => h) (Or.inr ⟨rfl, rfl⟩) (by assumption) ?_)); simp only [Act.put, List.setIfInBounds_toArray, List.set_cons_zero, List.set_cons_succ]
        (first
          | (refine held_take (i := 8) (v := ?_) rfl (by kernel_rfl) (by kernel_rfl) (by kernel_rfl) (fun _ _ _ h => h) (Or.inl ⟨rfl, ?_⟩) (by assumption) ?_; rotate_left; (intro X hSw; (try dsimp only at hSw); (go_simp <;> with_reducible rfl)))
          | (refine held_take (i := 8) (v := undef) rfl (by kernel_rfl) (by kernel_rfl) (by kernel_rfl) (fun _ _ _ h => h) (Or.inr ⟨rfl, rfl⟩) (by assumption) ?_)); simp only [Act.put, List.setIfInBounds_toArray, List.set_cons_zero, List.set_cons_succ]
        (first
          | (refine held_take (i := 9) (v := ?_) rfl (by kernel_rfl) (by kernel_rfl) (by kernel_rfl) (fun _ _ _ h => h) (Or.inl ⟨rfl, ?_⟩) (by assumption) ?_; rotate_left; (intro X hSw; (try dsimp only at hSw); (go_simp <;> with_reducible rfl)))
          | (refine held_take (i := 9) (v := undef) rfl (by kernel_rfl) (by kernel_rfl) (by kernel_rfl) (fun _ _ _ h => h) (Or.inr ⟨rfl, rfl⟩) (by assumption) ?_)); simp only [Act.put, List.setIfInBounds_toArray, List.set_cons_zero, List.set_cons_succ]
        (first
          | (refine held_take (i := 10) (v := ?_) rfl (by kernel_rfl) (by kernel_rfl) (by kernel_rfl) (fun _ _ _ h => h) (Or.inl ⟨rfl, ?_⟩) (by assumption) ?_; rotate_left; (intro X hSw; (try dsimp only at hSw); (go_simp <;> with_reducible rfl)))
          | (refine held_take (i := 10) (v := undef) rfl (by kernel_rfl) (by kernel_rfl) (by kernel_rfl) (fun _ _ _ h => h) (Or.inr ⟨rfl, rfl⟩) (by assumption) ?_)); simp only [Act.put, List.setIfInBounds_toArray, List.set_cons_zero, List.set_cons_succ]
        (first
          | (refine held_take (i := 11) (v := ?_) rfl (by kernel_rfl) (by kernel_rfl) (by kernel_rfl) (fun _ _ _ h => h) (Or.inl ⟨rfl, ?_⟩) (by assumption) ?_; rotate_left; (intro X hSw; (try dsimp only at hSw); (go_simp <;> with_reducible rfl)))
          | (refine held_take (i := 11) (v := undef) rfl (by kernel_rfl) (by kernel_rfl) (by kernel_rfl) (fun _ _ _ h => h) (Or.inr ⟨rfl, rfl⟩) (by assumption) ?_)); simp only [Act.put, List.setIfInBounds_toArray, List.set_cons_zero, List.set_cons_succ]
        refine wpAnyH_done (by kernel_rfl) ?_ _
        have HO5 := Lib.hid (((HOj.out.drew).below hb5 jl).below hb6 (Nat.lt_of_lt_of_le jl hb5.size))
        have HB5 := Lib.hid ((HBs.out.drew.trans (hb5.mono HBs.out.drew.size)).trans (hb6.mono (Nat.le_trans HBs.out.drew.size hb5.size)))
        clear p0 p1 p2 p3 p4 q0 q1 q2 q3 q4 q5 sl jl hb5 hb6 HOs HOj HBs
        go_wp2
        go_roundw
        case rel => exact ⟨i + 1, by go_num, by omega, HO5, HB5⟩
        case measure => simp [intOf]; omega
      all_goals
        go_region_held3 (fun W => (W.cell? ⟨wr.heap.size, 0, none⟩ = some (.int .i64 4) ∧ W.cell? ⟨wr.heap.size, 1, none⟩ = some (.int .i64 (i : Int)) ∧ W.cell? ⟨wr.heap.size, 2, none⟩ = some (.int .i64 (i : Int)) ∧ W.cell? ⟨wr.heap.size, 3, none⟩ = some (.slice none 0 0) ∧ W.cell? ⟨wr.heap.size, 4, none⟩ = some (.slice none 0 0) ∧ W.cell? ⟨wr.heap.size, 5, none⟩ = some (.slice none 0 0)) ∧ W.cell? ⟨w1.heap.size, 0, none⟩ = some (.int .i64 4) ∧ W.cell? ⟨w1.heap.size, 1, none⟩ = some (.bool false) ∧ W.cell? ⟨w1.heap.size, 2, none⟩ = some (.string t) ∧ W.cell? ⟨w1.heap.size, 3, none⟩ = some (.slice none 0 0) ∧ W.cell? ⟨w1.heap.size, 4, none⟩ = some (.slice none 0 0))
          (first | exact ⟨schema_cells (((HOs.out.drew).below hb5 sl).below hb6 (Nat.lt_of_lt_of_le sl hb5.size)), word_cells (((HOj.out.drew).below hb5 jl).below hb6 (Nat.lt_of_lt_of_le jl hb5.size))⟩ | exact ⟨schema_cells ((HOs.out.drew).below hb5 sl), word_cells ((HOj.out.drew).below hb5 jl)⟩ | exact ⟨schema_cells (HOs.out.drew), word_cells (HOj.out.drew)⟩ | exact ⟨schema_cells (HOs.out), word_cells (HOj.out)⟩)
          (first | (go_at_call 23; refine (implFits_any 4 (i : Int) (i : Int) [] [] [] none none none 0 0 0 0 4 false t [] [] none none 0 0 0 _ (SV _) LS.out (Nat.le_refl _) (JV _) HL.out (Nat.le_refl _)).mono ?_; rintro e w5 ⟨r5, rfl, hr5, hb5⟩; obtain rfl := HX.out r5 hr5; clear hr5)
                 | (go_at_call 31; refine (specOk_any 4 false t [] [] none none 0 0 0 _ (JV _) HL.out).mono ?_; rintro e w6 ⟨r6, rfl, hr6, hb6⟩; obtain rfl := HQ.out r6 hr6; clear hr6))
        have HO5 := Lib.hid (((HOj.out.drew).below hb5 jl).below hb6 (Nat.lt_of_lt_of_le jl hb5.size))
        have HB5 := Lib.hid ((HBs.out.drew.trans (hb5.mono HBs.out.drew.size)).trans (hb6.mono (Nat.le_trans HBs.out.drew.size hb5.size)))
        clear p0 p1 p2 p3 p4 q0 q1 q2 q3 q4 q5 sl jl hb5 hb6 HOs HOj HBs
        go_wp2
        go_roundw
        case rel => exact ⟨i + 1, by go_num, by omega, HO5, HB5⟩
        case measure => simp [intOf]; omega
    · have hi2 : ¬ (i : Int) ≤ 6 := by omega
      go_wp2
      go_ret
      exact ⟨rfl, HB.out⟩

end Go.Proofs.YtkhcappjhefkjaaGreatDoor

