/- The walk of the law FnVocEnd: it returns true for every code, and writes nothing that was there. -/
import Derived.Test.YtcanhkngikeeiaaA1
namespace Go.Proofs.Ytcanhkngikeeiaa
open Go.RowKit
set_option linter.unusedVariables false

set_option maxRecDepth 100000 in
set_option maxHeartbeats 2000000 in
theorem vocEnd_walk (C : Option Addr) (ccap : Nat) (zs : List Int) (w : World) (hrow : Row w C (byts zs)) (hz : zs.length ≤ maxLen) (hcap : zs.length ≤ ccap) (hzs : ∀ z ∈ zs, 0 ≤ z ∧ z ≤ 255) :
    Calls Try.prog 7 #[.slice C zs.length ccap] w (True_ w) := by
  obtain ⟨i0, hi0, hz0, hz1, hz2'⟩ := info_parts info3
  have HI := Lib.hid (And.intro hi0 (And.intro hz0 (And.intro hz1 hz2')))
  clear hi0 hz0 hz1 hz2'
  have HR := Lib.hid hrow
  have HZ := Lib.hid hzs
  clear hrow hzs
  unfold maxLen at hz
  by_cases hbig : 1048576 < zs.length
  · have hbig' : (1048576 : Int) < (zs.length : Int) := by omega
    go_enter Try.func7, Try.ntmps7
    go_wp2
    go_ret
    exact ⟨rfl, Below.refl _ _⟩
  have hbig' : ¬ (1048576 : Int) < (zs.length : Int) := by omega
  go_enter Try.func7, Try.ntmps7
  go_wp2_with fail
  refine (drawText_any C ccap zs _ HR.out (by omega) hcap HZ.out).mono ?_
  rintro e w1 ⟨ss, en, A, cap, ids, I, ic, rfl, hl, hs, he0, he1, hil, ⟨G, rfl⟩, hp, hi, hb1⟩
  have hv1 := Own.new w1 25 #[.slice A ss.length cap, .int .i64 en]
  have hic := own_cap hi
  have HL := LS.mk (w0 := w) (by simpa using hv1) ((own_row hp).alloc _) ((own_row hi).alloc _) (hb1.alloc hb1.size _)
  clear hv1 hp hi hb1 hs
  go_wp2_with fail
  refine (specText_any _ _ ss en _ _ ids _ HL.p HL.o (by omega) (by omega)).mono ?_
  rintro e w9 ⟨rfl, hb2⟩
  replace HL := HL.keep hb2
  clear hb2
  generalize w1.heap.size = V at HL ⊢
  have c0 := HL.c0
  have c1 := HL.c1
  go_wp2_with fail
  refine (implText_any _ _ ss en _ _ ids _ HL.p HL.o (by omega) (by omega)).mono ?_
  rintro e w2 ⟨rfl, hb3⟩
  replace HL := HL.keep hb3
  clear hb3 c0 c1
  have c0 := HL.c0
  have c1 := HL.c1
  rcases hR : vocTextR ss en ids with _ | s
  · have hsn : ((⟨#[]⟩ : ByteArray).toList != (⟨#[]⟩ : ByteArray).toList) = false := by simp
    have hse : ((⟨#[]⟩ : ByteArray).toList == (⟨#[]⟩ : ByteArray).toList) = true := by simp
    simp only [Option.getD_none, Option.isSome_none] at ⊢
    go_wp2
    go_ret
    exact ⟨rfl, HL.b⟩
  have hsn : (s.toList != s.toList) = false := by simp
  have hse : (s.toList == s.toList) = true := by simp
  have HRR := Lib.hid hR
  simp only [Option.getD_some, Option.isSome_some]
  clear hR
  by_cases hen : en < 0
  · go_wp2
    go_ret
    exact ⟨rfl, HL.b⟩
  by_cases hi60 : 60 ≤ ids.length
  · have hi60' : (60 : Int) ≤ (ids.length : Int) := by omega
    go_wp2
    go_ret
    exact ⟨rfl, HL.b⟩
  have hi60' : ¬ (60 : Int) ≤ (ids.length : Int) := by omega
  obtain ⟨hq1, hq2⟩ := vocTextR_end HRR.out (by omega) (by omega)
  have HA1 : Hid (∀ (J jc : Nat) X, Row X A (strs ss) → Row X (some ⟨J, 0, none⟩) (ints (ids ++ [en])) → Calls Try.prog 21 #[.agg #[.slice A ss.length cap, .int .i64 en], .slice (some ⟨J, 0, none⟩) (ids.length + 1) jc] X fun e X' => e = .returned (.tuple #[.string s, .bool true]) ∧ Below X.heap.size X X') := Lib.hid (fun J jc X h1 h2 => by
    have := implText_any A cap ss en (some ⟨J, 0, none⟩) jc (ids ++ [en]) X h1 h2 (by omega) (by simp; omega)
    rw [show (ids ++ [en]).length = ids.length + 1 by simp] at this
    refine this.mono ?_
    unfold TextAns
    rw [hq1]
    exact fun _ _ h => h)
  have HA2 : Hid (∀ (J jc : Nat) X, Row X A (strs ss) → Row X (some ⟨J, 0, none⟩) (ints (en :: ids)) → Calls Try.prog 21 #[.agg #[.slice A ss.length cap, .int .i64 en], .slice (some ⟨J, 0, none⟩) (1 + ids.length) jc] X fun e X' => e = .returned (.tuple #[.string s, .bool true]) ∧ Below X.heap.size X X') := Lib.hid (fun J jc X h1 h2 => by
    have := implText_any A cap ss en (some ⟨J, 0, none⟩) jc (en :: ids) X h1 h2 (by omega) (by simp; omega)
    rw [show (en :: ids).length = 1 + ids.length by simp; omega] at this
    refine this.mono ?_
    unfold TextAns
    rw [hq2]
    exact fun _ _ h => h)
  clear hq1 hq2 HRR
  go_upto_region 8 with fail
  have hVl := HL.v.lt
  go_cut [9, 10] (fun x y wx => x = .string s ∧ y = .bool true ∧ LS w V en ss A cap (some ⟨G, 0, none⟩) ids wx)
  case first =>
    have hb0 := Below.refl w2.heap.size w2
    go_wp2
    refine wp_region_held_drew (S := fun X => X.cell? ⟨V, 0, none⟩ = some (.slice A ss.length cap) ∧ X.cell? ⟨V, 1, none⟩ = some (.int .i64 en)) (by kernel_rfl) ?_ (fun hHeld => ?_)
    · exact ⟨c0, c1⟩
    (first
      | (refine held_take (i := 0) (v := ?_) rfl (by kernel_rfl) (by kernel_rfl) (by kernel_rfl) (fun _ _ _ h => h) (Or.inl ⟨rfl, ?_⟩) (by assumption) ?_; rotate_left; (intro X hSw; (try dsimp only at hSw); (go_simp <;> with_reducible rfl)))
      | (refine held_take (i := 0) (v := undef) rfl (by kernel_rfl) (by kernel_rfl) (by kernel_rfl) (fun _ _ _ h => h) (Or.inr ⟨rfl, rfl⟩) (by assumption) ?_)); simp only [Act.put, List.setIfInBounds_toArray, List.set_cons_zero, List.set_cons_succ]
    (first
      | (refine held_take (i := 2) (v := ?_) rfl (by kernel_rfl) (by kernel_rfl) (by kernel_rfl) (fun _ _ _ h => h) (Or.inl ⟨rfl, ?_⟩) (by assumption) ?_; rotate_left; (intro X hSw; (try dsimp only at hSw); (go_simp <;> with_reducible rfl)))
      | (refine held_take (i := 2) (v := undef) rfl (by kernel_rfl) (by kernel_rfl) (by kernel_rfl) (fun _ _ _ h => h) (Or.inr ⟨rfl, rfl⟩) (by assumption) ?_)); simp only [Act.put, List.setIfInBounds_toArray, List.set_cons_zero, List.set_cons_succ]
    (first
      | (refine held_take (i := 4) (v := ?_) rfl (by kernel_rfl) (by kernel_rfl) (by kernel_rfl) (fun _ _ _ h => h) (Or.inl ⟨rfl, ?_⟩) (by assumption) ?_; rotate_left; (intro X hSw; (try dsimp only at hSw); (go_simp <;> with_reducible rfl)))
      | (refine held_take (i := 4) (v := undef) rfl (by kernel_rfl) (by kernel_rfl) (by kernel_rfl) (fun _ _ _ h => h) (Or.inr ⟨rfl, rfl⟩) (by assumption) ?_)); simp only [Act.put, List.setIfInBounds_toArray, List.set_cons_zero, List.set_cons_succ]
    (first
      | (refine held_take (i := 5) (v := ?_) rfl (by kernel_rfl) (by kernel_rfl) (by kernel_rfl) (fun _ _ _ h => h) (Or.inl ⟨rfl, ?_⟩) (by assumption) ?_; rotate_left; (intro X hSw; (try dsimp only at hSw); (go_simp <;> with_reducible rfl)))
      | (refine held_take (i := 5) (v := undef) rfl (by kernel_rfl) (by kernel_rfl) (by kernel_rfl) (fun _ _ _ h => h) (Or.inr ⟨rfl, rfl⟩) (by assumption) ?_)); simp only [Act.put, List.setIfInBounds_toArray, List.set_cons_zero, List.set_cons_succ]
    refine wpAnyH_ready (rs := [1, 6]) (by kernel_rfl) (by simp) ?_
    refine AllReadyH.cons rfl (fun K hK => ?_) (AllReadyH.cons rfl (fun K hK => ?_) AllReadyH.nil)
    · go_simp
      have hbA := (hb0.alloc hb0.size (.cells #[] 3)).drew
      have heA : (w2.alloc (.cells #[] 3)).drew.ownsRow w2.heap.size 3 1 (.slice (some ⟨w2.heap.size, 0, none⟩) 0 0) 0 (ints []) := (show (w2.alloc (.cells #[] 3)).ownsRow w2.heap.size 3 1 (.slice (some ⟨w2.heap.size, 0, none⟩) 0 0) 0 (ints []) by simpa [ints] using World.ownsRow_lit (base := w2.heap.size) (e := 3) (size := 1) w2 #[] 0 (by simp) (by simp [maxLen]) rfl)
      have hsA : w2.heap.size < (w2.alloc (.cells #[] 3)).drew.heap.size := by simp [World.drew]
      refine hK.out _ _ ?_ (fun hHeld => ?_)
      · exact ⟨(HL.keep hbA).c0, (HL.keep hbA).c1⟩
      clear hK K
      generalize (w2.alloc (.cells #[] 3)).drew = wA at hbA heA hsA ⊢
      refine wpAnyH_ready (rs := [3, 6]) (by kernel_rfl) (by simp) ?_
      refine AllReadyH.cons rfl (fun K hK => ?_) (AllReadyH.cons rfl (fun K hK => ?_) AllReadyH.nil)
      · -- the tokens are copied first
        refine step_own _ rfl _ _ 26 rfl w2.heap.size 3 i0 (.int .i64 0) 1 8 Try.underlying26 HI.out.1 HI.out.2.1 HI.out.2.2.1 HI.out.2.2.2 rfl (by decide) _ _ _ (ints []) rfl heA ⟨G, 0, none⟩ _ _ (ints ids) rfl (by simp) (Row.news ((HL.keep hbA).o)) (ints_cell _) (by unfold maxLen; omega) (by omega) (by omega) ?_
        intro J jc wB hJ hgB hJB
        have hbB := hbA.grown hgB hbA.size (fun k hk => by injection hk with hk; omega)
        have hJ2 : w2.heap.size ≤ J := by rcases hJB with h | h <;> omega
        go_simp
        refine hK.out _ _ ?_ (fun hHeld => ?_)
        · exact ⟨(HL.keep hbB).c0, (HL.keep hbB).c1⟩
        clear hK K hgB heA hbA
        refine wpAnyH_ready (rs := [6]) (by kernel_rfl) (by simp) ?_
        refine AllReadyH.cons rfl (fun K hK => ?_) AllReadyH.nil
        go_simp
        have hbC := hbB.alloc hbB.size (.cells #[.int .i64 en] 3)
        have hoC := Own.new wB 3 #[.int .i64 en]
        have hJC := hJ.alloc (.cells #[.int .i64 en] 3)
        refine hK.out _ _ ?_ (fun hHeld => ?_)
        · exact ⟨(HL.keep hbC).c0, (HL.keep hbC).c1⟩
        clear hK K hJ
        generalize wB.alloc (.cells #[.int .i64 en] 3) = wC at hbC hoC hJC ⊢
        rw [Nat.zero_add, show ints [] ++ ints ids = ints ids from rfl] at hJC
        refine wpAnyH_ready (rs := [7]) (by kernel_rfl) (by simp) ?_
        refine AllReadyH.cons rfl (fun K hK => ?_) AllReadyH.nil
        refine step_own _ rfl _ _ 26 rfl w2.heap.size 3 i0 (.int .i64 0) 1 8 Try.underlying26 HI.out.1 HI.out.2.1 HI.out.2.2.1 HI.out.2.2.2 rfl (by decide) _ _ _ _ rfl hJC ⟨_, 0, none⟩ _ _ _ rfl (by first | rfl | simp) hoC.news (by intro u hu; simp at hu; subst hu; rfl) (by unfold maxLen; omega) (by omega) hbC.size ?_
        intro J2 jc2 wD hJ3 hgD hJD
        have hbD := hbC.grown hgD hbC.size (fun k hk => by injection hk with hk; omega)
        go_simp
        refine hK.out _ _ ?_ (fun hHeld => ?_)
        · exact ⟨(HL.keep hbD).c0, (HL.keep hbD).c1⟩
        clear hK K
        rw [show ints ids ++ ([Value.int .i64 en]) = ints (ids ++ [en]) by simp [ints]] at hJ3
        refine wpAnyH_ready (rs := [8]) (by kernel_rfl) (by simp) ?_
        refine AllReadyH.cons rfl (fun K hK => ?_) AllReadyH.nil
        go_simp
        go_wp2_with fail
        refine (HA1.out J2 jc2 _ (HL.keep hbD).p (own_row hJ3)).mono ?_
        rintro e wE ⟨rfl, hbE⟩
        have HLE := (HL.keep hbD).keep hbE
        go_wp2_with fail
        refine hK.out _ _ ?_ (fun hHeld => ?_)
        · exact ⟨HLE.c0, HLE.c1⟩
        clear hK K
        (first
          | (refine held_take (i := 9) (v := ?_) rfl (by kernel_rfl) (by kernel_rfl) (by kernel_rfl) (fun _ _ _ h => h) (Or.inl ⟨rfl, ?_⟩) (by assumption) ?_; rotate_left; (intro X hSw; (try dsimp only at hSw); (go_simp <;> with_reducible rfl)))
          | (refine held_take (i := 9) (v := undef) rfl (by kernel_rfl) (by kernel_rfl) (by kernel_rfl) (fun _ _ _ h => h) (Or.inr ⟨rfl, rfl⟩) (by assumption) ?_)); simp only [Act.put, List.setIfInBounds_toArray, List.set_cons_zero, List.set_cons_succ]
        (first
          | (refine held_take (i := 10) (v := ?_) rfl (by kernel_rfl) (by kernel_rfl) (by kernel_rfl) (fun _ _ _ h => h) (Or.inl ⟨rfl, ?_⟩) (by assumption) ?_; rotate_left; (intro X hSw; (try dsimp only at hSw); (go_simp <;> with_reducible rfl)))
          | (refine held_take (i := 10) (v := undef) rfl (by kernel_rfl) (by kernel_rfl) (by kernel_rfl) (fun _ _ _ h => h) (Or.inr ⟨rfl, rfl⟩) (by assumption) ?_)); simp only [Act.put, List.setIfInBounds_toArray, List.set_cons_zero, List.set_cons_succ]
        (first
          | (refine held_take (i := 11) (v := ?_) rfl (by kernel_rfl) (by kernel_rfl) (by kernel_rfl) (fun _ _ _ h => h) (Or.inl ⟨rfl, ?_⟩) (by assumption) ?_; rotate_left; (intro X hSw; (try dsimp only at hSw); (go_simp <;> with_reducible rfl)))
          | (refine held_take (i := 11) (v := undef) rfl (by kernel_rfl) (by kernel_rfl) (by kernel_rfl) (fun _ _ _ h => h) (Or.inr ⟨rfl, rfl⟩) (by assumption) ?_)); simp only [Act.put, List.setIfInBounds_toArray, List.set_cons_zero, List.set_cons_succ]
        (first
          | (refine held_take (i := 12) (v := ?_) rfl (by kernel_rfl) (by kernel_rfl) (by kernel_rfl) (fun _ _ _ h => h) (Or.inl ⟨rfl, ?_⟩) (by assumption) ?_; rotate_left; (intro X hSw; (try dsimp only at hSw); (go_simp <;> with_reducible rfl)))
          | (refine held_take (i := 12) (v := undef) rfl (by kernel_rfl) (by kernel_rfl) (by kernel_rfl) (fun _ _ _ h => h) (Or.inr ⟨rfl, rfl⟩) (by assumption) ?_)); simp only [Act.put, List.setIfInBounds_toArray, List.set_cons_zero, List.set_cons_succ]
        (first
          | (refine held_take (i := 13) (v := ?_) rfl (by kernel_rfl) (by kernel_rfl) (by kernel_rfl) (fun _ _ _ h => h) (Or.inl ⟨rfl, ?_⟩) (by assumption) ?_; rotate_left; (intro X hSw; (try dsimp only at hSw); (go_simp <;> with_reducible rfl)))
          | (refine held_take (i := 13) (v := undef) rfl (by kernel_rfl) (by kernel_rfl) (by kernel_rfl) (fun _ _ _ h => h) (Or.inr ⟨rfl, rfl⟩) (by assumption) ?_)); simp only [Act.put, List.setIfInBounds_toArray, List.set_cons_zero, List.set_cons_succ]
        refine wpAnyH_done (by kernel_rfl) ?_ _
        go_wp2_with fail
        go_meet
        exact ⟨rfl, rfl, HLE⟩
      · go_simp
        have hbB := hbA.alloc hbA.size (.cells #[.int .i64 en] 3)
        have hoB := Own.new wA 3 #[.int .i64 en]
        have heB := heA.alloc (.cells #[.int .i64 en] 3)
        refine hK.out _ _ ?_ (fun hHeld => ?_)
        · exact ⟨(HL.keep hbB).c0, (HL.keep hbB).c1⟩
        clear hK K heA hbA
        generalize wA.alloc (.cells #[.int .i64 en] 3) = wB at hbB hoB heB ⊢
        refine wpAnyH_ready (rs := [3]) (by kernel_rfl) (by simp) ?_
        refine AllReadyH.cons rfl (fun K hK => ?_) AllReadyH.nil
        refine step_own _ rfl _ _ 26 rfl w2.heap.size 3 i0 (.int .i64 0) 1 8 Try.underlying26 HI.out.1 HI.out.2.1 HI.out.2.2.1 HI.out.2.2.2 rfl (by decide) _ _ _ _ rfl heB ⟨_, 0, none⟩ _ _ (ints ids) rfl (by first | rfl | simp) (Row.news ((HL.keep hbB).o)) (ints_cell _) (by unfold maxLen; omega) (by omega) hbB.size ?_
        intro J jc wC hJC hgC hJB
        have hbC := hbB.grown hgC hbB.size (fun k hk => by injection hk with hk; omega)
        have hJ2 : w2.heap.size ≤ J := by have := hbB.size; rcases hJB with h | h <;> omega
        go_simp
        refine hK.out _ _ ?_ (fun hHeld => ?_)
        · exact ⟨(HL.keep hbC).c0, (HL.keep hbC).c1⟩
        clear hK K heB
        have hoC := own_touch hoB hgC (by omega)
        clear hoB
        rw [Nat.zero_add, show ints [] ++ ints ids = ints ids from rfl] at hJC
        refine wpAnyH_ready (rs := [7]) (by kernel_rfl) (by simp) ?_
        refine AllReadyH.cons rfl (fun K hK => ?_) AllReadyH.nil
        refine step_own _ rfl _ _ 26 rfl w2.heap.size 3 i0 (.int .i64 0) 1 8 Try.underlying26 HI.out.1 HI.out.2.1 HI.out.2.2.1 HI.out.2.2.2 rfl (by decide) _ _ _ _ rfl hJC ⟨_, 0, none⟩ _ _ _ rfl (by first | rfl | simp) hoC.news (by intro u hu; simp at hu; subst hu; rfl) (by unfold maxLen; omega) (by omega) hbC.size ?_
        intro J2 jc2 wD hJ3 hgD hJD
        have hbD := hbC.grown hgD hbC.size (fun k hk => by injection hk with hk; omega)
        go_simp
        refine hK.out _ _ ?_ (fun hHeld => ?_)
        · exact ⟨(HL.keep hbD).c0, (HL.keep hbD).c1⟩
        clear hK K
        rw [show ints ids ++ ([Value.int .i64 en]) = ints (ids ++ [en]) by simp [ints]] at hJ3
        refine wpAnyH_ready (rs := [8]) (by kernel_rfl) (by simp) ?_
        refine AllReadyH.cons rfl (fun K hK => ?_) AllReadyH.nil
        go_simp
        go_wp2_with fail
        refine (HA1.out J2 jc2 _ (HL.keep hbD).p (own_row hJ3)).mono ?_
        rintro e wE ⟨rfl, hbE⟩
        have HLE := (HL.keep hbD).keep hbE
        go_wp2_with fail
        refine hK.out _ _ ?_ (fun hHeld => ?_)
        · exact ⟨HLE.c0, HLE.c1⟩
        clear hK K
        (first
          | (refine held_take (i := 9) (v := ?_) rfl (by kernel_rfl) (by kernel_rfl) (by kernel_rfl) (fun _ _ _ h => h) (Or.inl ⟨rfl, ?_⟩) (by assumption) ?_; rotate_left; (intro X hSw; (try dsimp only at hSw); (go_simp <;> with_reducible rfl)))
          | (refine held_take (i := 9) (v := undef) rfl (by kernel_rfl) (by kernel_rfl) (by kernel_rfl) (fun _ _ _ h => h) (Or.inr ⟨rfl, rfl⟩) (by assumption) ?_)); simp only [Act.put, List.setIfInBounds_toArray, List.set_cons_zero, List.set_cons_succ]
        (first
          | (refine held_take (i := 10) (v := ?_) rfl (by kernel_rfl) (by kernel_rfl) (by kernel_rfl) (fun _ _ _ h => h) (Or.inl ⟨rfl, ?_⟩) (by assumption) ?_; rotate_left; (intro X hSw; (try dsimp only at hSw); (go_simp <;> with_reducible rfl)))
          | (refine held_take (i := 10) (v := undef) rfl (by kernel_rfl) (by kernel_rfl) (by kernel_rfl) (fun _ _ _ h => h) (Or.inr ⟨rfl, rfl⟩) (by assumption) ?_)); simp only [Act.put, List.setIfInBounds_toArray, List.set_cons_zero, List.set_cons_succ]
        (first
          | (refine held_take (i := 11) (v := ?_) rfl (by kernel_rfl) (by kernel_rfl) (by kernel_rfl) (fun _ _ _ h => h) (Or.inl ⟨rfl, ?_⟩) (by assumption) ?_; rotate_left; (intro X hSw; (try dsimp only at hSw); (go_simp <;> with_reducible rfl)))
          | (refine held_take (i := 11) (v := undef) rfl (by kernel_rfl) (by kernel_rfl) (by kernel_rfl) (fun _ _ _ h => h) (Or.inr ⟨rfl, rfl⟩) (by assumption) ?_)); simp only [Act.put, List.setIfInBounds_toArray, List.set_cons_zero, List.set_cons_succ]
        (first
          | (refine held_take (i := 12) (v := ?_) rfl (by kernel_rfl) (by kernel_rfl) (by kernel_rfl) (fun _ _ _ h => h) (Or.inl ⟨rfl, ?_⟩) (by assumption) ?_; rotate_left; (intro X hSw; (try dsimp only at hSw); (go_simp <;> with_reducible rfl)))
          | (refine held_take (i := 12) (v := undef) rfl (by kernel_rfl) (by kernel_rfl) (by kernel_rfl) (fun _ _ _ h => h) (Or.inr ⟨rfl, rfl⟩) (by assumption) ?_)); simp only [Act.put, List.setIfInBounds_toArray, List.set_cons_zero, List.set_cons_succ]
        (first
          | (refine held_take (i := 13) (v := ?_) rfl (by kernel_rfl) (by kernel_rfl) (by kernel_rfl) (fun _ _ _ h => h) (Or.inl ⟨rfl, ?_⟩) (by assumption) ?_; rotate_left; (intro X hSw; (try dsimp only at hSw); (go_simp <;> with_reducible rfl)))
          | (refine held_take (i := 13) (v := undef) rfl (by kernel_rfl) (by kernel_rfl) (by kernel_rfl) (fun _ _ _ h => h) (Or.inr ⟨rfl, rfl⟩) (by assumption) ?_)); simp only [Act.put, List.setIfInBounds_toArray, List.set_cons_zero, List.set_cons_succ]
        refine wpAnyH_done (by kernel_rfl) ?_ _
        go_wp2_with fail
        go_meet
        exact ⟨rfl, rfl, HLE⟩
    · go_simp
      have hbA := (hb0.alloc hb0.size (.cells #[.int .i64 en] 3)).drew
      have hoA := (Own.new w2 3 #[.int .i64 en]).drew
      refine hK.out _ _ ?_ (fun hHeld => ?_)
      · exact ⟨(HL.keep hbA).c0, (HL.keep hbA).c1⟩
      clear hK K
      have hsA : w2.heap.size < (w2.alloc (.cells #[.int .i64 en] 3)).drew.heap.size := by simp [World.drew]
      generalize (w2.alloc (.cells #[.int .i64 en] 3)).drew = wA at hbA hoA hsA ⊢
      refine wpAnyH_ready (rs := [1]) (by kernel_rfl) (by simp) ?_
      refine AllReadyH.cons rfl (fun K hK => ?_) AllReadyH.nil
      go_simp
      have hbB := hbA.alloc hbA.size (.cells #[] 3)
      have hoB := hoA.alloc (.cells #[] 3)
      have heB : (wA.alloc (.cells #[] 3)).ownsRow w2.heap.size 3 1 (.slice (some ⟨wA.heap.size, 0, none⟩) 0 0) 0 (ints []) := by simpa [ints] using World.ownsRow_lit (base := w2.heap.size) (e := 3) (size := 1) wA #[] 0 (by omega) (by simp [maxLen]) rfl
      refine hK.out _ _ ?_ (fun hHeld => ?_)
      · exact ⟨(HL.keep hbB).c0, (HL.keep hbB).c1⟩
      clear hK K hoA hbA
      generalize wA.alloc (.cells #[] 3) = wB at hbB hoB heB ⊢
      refine wpAnyH_ready (rs := [3]) (by kernel_rfl) (by simp) ?_
      refine AllReadyH.cons rfl (fun K hK => ?_) AllReadyH.nil
      refine step_own _ rfl _ _ 26 rfl w2.heap.size 3 i0 (.int .i64 0) 1 8 Try.underlying26 HI.out.1 HI.out.2.1 HI.out.2.2.1 HI.out.2.2.2 rfl (by decide) _ _ _ _ rfl heB ⟨_, 0, none⟩ _ _ (ints ids) rfl (by first | rfl | simp) (Row.news ((HL.keep hbB).o)) (ints_cell _) (by unfold maxLen; omega) (by omega) hbB.size ?_
      intro J jc wC hJC hgC hJB
      have hbC := hbB.grown hgC hbB.size (fun k hk => by injection hk with hk; omega)
      have hJ2 : w2.heap.size ≤ J := by have := hbB.size; rcases hJB with h | h <;> omega
      go_simp
      refine hK.out _ _ ?_ (fun hHeld => ?_)
      · exact ⟨(HL.keep hbC).c0, (HL.keep hbC).c1⟩
      clear hK K heB
      have hoC := own_touch hoB hgC (by omega)
      clear hoB
      rw [Nat.zero_add, show ints [] ++ ints ids = ints ids from rfl] at hJC
      refine wpAnyH_ready (rs := [7]) (by kernel_rfl) (by simp) ?_
      refine AllReadyH.cons rfl (fun K hK => ?_) AllReadyH.nil
      refine step_own _ rfl _ _ 26 rfl w2.heap.size 3 i0 (.int .i64 0) 1 8 Try.underlying26 HI.out.1 HI.out.2.1 HI.out.2.2.1 HI.out.2.2.2 rfl (by decide) _ _ _ _ rfl hJC ⟨_, 0, none⟩ _ _ _ rfl (by first | rfl | simp) hoC.news (by intro u hu; simp at hu; subst hu; rfl) (by unfold maxLen; omega) (by omega) hbC.size ?_
      intro J2 jc2 wD hJ3 hgD hJD
      have hbD := hbC.grown hgD hbC.size (fun k hk => by injection hk with hk; omega)
      go_simp
      refine hK.out _ _ ?_ (fun hHeld => ?_)
      · exact ⟨(HL.keep hbD).c0, (HL.keep hbD).c1⟩
      clear hK K
      rw [show ints ids ++ ([Value.int .i64 en]) = ints (ids ++ [en]) by simp [ints]] at hJ3
      refine wpAnyH_ready (rs := [8]) (by kernel_rfl) (by simp) ?_
      refine AllReadyH.cons rfl (fun K hK => ?_) AllReadyH.nil
      go_simp
      go_wp2_with fail
      refine (HA1.out J2 jc2 _ (HL.keep hbD).p (own_row hJ3)).mono ?_
      rintro e wE ⟨rfl, hbE⟩
      have HLE := (HL.keep hbD).keep hbE
      go_wp2_with fail
      refine hK.out _ _ ?_ (fun hHeld => ?_)
      · exact ⟨HLE.c0, HLE.c1⟩
      clear hK K
      (first
        | (refine held_take (i := 9) (v := ?_) rfl (by kernel_rfl) (by kernel_rfl) (by kernel_rfl) (fun _ _ _ h => h) (Or.inl ⟨rfl, ?_⟩) (by assumption) ?_; rotate_left; (intro X hSw; (try dsimp only at hSw); (go_simp <;> with_reducible rfl)))
        | (refine held_take (i := 9) (v := undef) rfl (by kernel_rfl) (by kernel_rfl) (by kernel_rfl) (fun _ _ _ h => h) (Or.inr ⟨rfl, rfl⟩) (by assumption) ?_)); simp only [Act.put, List.setIfInBounds_toArray, List.set_cons_zero, List.set_cons_succ]
      (first
        | (refine held_take (i := 10) (v := ?_) rfl (by kernel_rfl) (by kernel_rfl) (by kernel_rfl) (fun _ _ _ h => h) (Or.inl ⟨rfl, ?_⟩) (by assumption) ?_; rotate_left; (intro X hSw; (try dsimp only at hSw); (go_simp <;> with_reducible rfl)))
        | (refine held_take (i := 10) (v := undef) rfl (by kernel_rfl) (by kernel_rfl) (by kernel_rfl) (fun _ _ _ h => h) (Or.inr ⟨rfl, rfl⟩) (by assumption) ?_)); simp only [Act.put, List.setIfInBounds_toArray, List.set_cons_zero, List.set_cons_succ]
      (first
        | (refine held_take (i := 11) (v := ?_) rfl (by kernel_rfl) (by kernel_rfl) (by kernel_rfl) (fun _ _ _ h => h) (Or.inl ⟨rfl, ?_⟩) (by assumption) ?_; rotate_left; (intro X hSw; (try dsimp only at hSw); (go_simp <;> with_reducible rfl)))
        | (refine held_take (i := 11) (v := undef) rfl (by kernel_rfl) (by kernel_rfl) (by kernel_rfl) (fun _ _ _ h => h) (Or.inr ⟨rfl, rfl⟩) (by assumption) ?_)); simp only [Act.put, List.setIfInBounds_toArray, List.set_cons_zero, List.set_cons_succ]
      (first
        | (refine held_take (i := 12) (v := ?_) rfl (by kernel_rfl) (by kernel_rfl) (by kernel_rfl) (fun _ _ _ h => h) (Or.inl ⟨rfl, ?_⟩) (by assumption) ?_; rotate_left; (intro X hSw; (try dsimp only at hSw); (go_simp <;> with_reducible rfl)))
        | (refine held_take (i := 12) (v := undef) rfl (by kernel_rfl) (by kernel_rfl) (by kernel_rfl) (fun _ _ _ h => h) (Or.inr ⟨rfl, rfl⟩) (by assumption) ?_)); simp only [Act.put, List.setIfInBounds_toArray, List.set_cons_zero, List.set_cons_succ]
      (first
        | (refine held_take (i := 13) (v := ?_) rfl (by kernel_rfl) (by kernel_rfl) (by kernel_rfl) (fun _ _ _ h => h) (Or.inl ⟨rfl, ?_⟩) (by assumption) ?_; rotate_left; (intro X hSw; (try dsimp only at hSw); (go_simp <;> with_reducible rfl)))
        | (refine held_take (i := 13) (v := undef) rfl (by kernel_rfl) (by kernel_rfl) (by kernel_rfl) (fun _ _ _ h => h) (Or.inr ⟨rfl, rfl⟩) (by assumption) ?_)); simp only [Act.put, List.setIfInBounds_toArray, List.set_cons_zero, List.set_cons_succ]
      refine wpAnyH_done (by kernel_rfl) ?_ _
      go_wp2_with fail
      go_meet
      exact ⟨rfl, rfl, HLE⟩
  case rest =>
    clear HL c0 c1 hVl
    obtain ⟨rfl, rfl, HL⟩ := hcut
    have c0 := HL.c0
    have c1 := HL.c1
    have hb0 := Below.refl wc.heap.size wc
    clear hb0
    have hVl := HL.v.lt
    generalize wc = w2 at *
    have hb0 := Below.refl w2.heap.size w2
    go_wp2
    refine wp_region_held_drew (S := fun X => X.cell? ⟨V, 0, none⟩ = some (.slice A ss.length cap) ∧ X.cell? ⟨V, 1, none⟩ = some (.int .i64 en)) (by kernel_rfl) ?_ (fun hHeld => ?_)
    · exact ⟨c0, c1⟩
    (first
      | (refine held_take (i := 0) (v := ?_) rfl (by kernel_rfl) (by kernel_rfl) (by kernel_rfl) (fun _ _ _ h => h) (Or.inl ⟨rfl, ?_⟩) (by assumption) ?_; rotate_left; (intro X hSw; (try dsimp only at hSw); (go_simp <;> with_reducible rfl)))
      | (refine held_take (i := 0) (v := undef) rfl (by kernel_rfl) (by kernel_rfl) (by kernel_rfl) (fun _ _ _ h => h) (Or.inr ⟨rfl, rfl⟩) (by assumption) ?_)); simp only [Act.put, List.setIfInBounds_toArray, List.set_cons_zero, List.set_cons_succ]
    (first
      | (refine held_take (i := 1) (v := ?_) rfl (by kernel_rfl) (by kernel_rfl) (by kernel_rfl) (fun _ _ _ h => h) (Or.inl ⟨rfl, ?_⟩) (by assumption) ?_; rotate_left; (intro X hSw; (try dsimp only at hSw); (go_simp <;> with_reducible rfl)))
      | (refine held_take (i := 1) (v := undef) rfl (by kernel_rfl) (by kernel_rfl) (by kernel_rfl) (fun _ _ _ h => h) (Or.inr ⟨rfl, rfl⟩) (by assumption) ?_)); simp only [Act.put, List.setIfInBounds_toArray, List.set_cons_zero, List.set_cons_succ]
    (first
      | (refine held_take (i := 2) (v := ?_) rfl (by kernel_rfl) (by kernel_rfl) (by kernel_rfl) (fun _ _ _ h => h) (Or.inl ⟨rfl, ?_⟩) (by assumption) ?_; rotate_left; (intro X hSw; (try dsimp only at hSw); (go_simp <;> with_reducible rfl)))
      | (refine held_take (i := 2) (v := undef) rfl (by kernel_rfl) (by kernel_rfl) (by kernel_rfl) (fun _ _ _ h => h) (Or.inr ⟨rfl, rfl⟩) (by assumption) ?_)); simp only [Act.put, List.setIfInBounds_toArray, List.set_cons_zero, List.set_cons_succ]
    (first
      | (refine held_take (i := 4) (v := ?_) rfl (by kernel_rfl) (by kernel_rfl) (by kernel_rfl) (fun _ _ _ h => h) (Or.inl ⟨rfl, ?_⟩) (by assumption) ?_; rotate_left; (intro X hSw; (try dsimp only at hSw); (go_simp <;> with_reducible rfl)))
      | (refine held_take (i := 4) (v := undef) rfl (by kernel_rfl) (by kernel_rfl) (by kernel_rfl) (fun _ _ _ h => h) (Or.inr ⟨rfl, rfl⟩) (by assumption) ?_)); simp only [Act.put, List.setIfInBounds_toArray, List.set_cons_zero, List.set_cons_succ]
    refine wpAnyH_ready (rs := [3]) (by kernel_rfl) (by simp) ?_
    refine AllReadyH.cons rfl (fun K hK => ?_) AllReadyH.nil
    go_simp
    have hbA := (hb0.alloc hb0.size (.cells #[.int .i64 en] 3)).drew
    have heA : (w2.alloc (.cells #[.int .i64 en] 3)).drew.ownsRow w2.heap.size 3 1 (.slice (some ⟨w2.heap.size, 0, none⟩) 1 1) 1 (ints [en]) := (show (w2.alloc (.cells #[.int .i64 en] 3)).ownsRow w2.heap.size 3 1 (.slice (some ⟨w2.heap.size, 0, none⟩) 1 1) 1 (ints [en]) by simpa [ints] using World.ownsRow_lit (base := w2.heap.size) (e := 3) (size := 1) w2 #[.int .i64 en] 1 (by simp) (by simp [maxLen]) rfl)
    have hsA : w2.heap.size < (w2.alloc (.cells #[.int .i64 en] 3)).drew.heap.size := by simp [World.drew]
    refine hK.out _ _ ?_ (fun hHeld => ?_)
    · exact ⟨(HL.keep hbA).c0, (HL.keep hbA).c1⟩
    clear hK K
    generalize (w2.alloc (.cells #[.int .i64 en] 3)).drew = wA at hbA heA hsA ⊢
    refine wpAnyH_ready (rs := [5]) (by kernel_rfl) (by simp) ?_
    refine AllReadyH.cons rfl (fun K hK => ?_) AllReadyH.nil
    refine step_own _ rfl _ _ 26 rfl w2.heap.size 3 i0 (.int .i64 0) 1 8 Try.underlying26 HI.out.1 HI.out.2.1 HI.out.2.2.1 HI.out.2.2.2 rfl (by decide) _ _ _ (ints [en]) rfl heA ⟨G, 0, none⟩ _ _ (ints ids) rfl (by simp) (Row.news ((HL.keep hbA).o)) (ints_cell _) (by unfold maxLen; omega) (by omega) (by omega) ?_
    intro J2 jc2 wD hJ3 hgD hJD
    have hbD := hbA.grown hgD hbA.size (fun k hk => by injection hk with hk; omega)
    go_simp
    refine hK.out _ _ ?_ (fun hHeld => ?_)
    · exact ⟨(HL.keep hbD).c0, (HL.keep hbD).c1⟩
    clear hK K
    rw [show ints [en] ++ ints ids = ints (en :: ids) from rfl] at hJ3
    refine wpAnyH_ready (rs := [6]) (by kernel_rfl) (by simp) ?_
    refine AllReadyH.cons rfl (fun K hK => ?_) AllReadyH.nil
    go_simp
    go_wp2_with fail
    refine (HA2.out J2 jc2 _ (HL.keep hbD).p (own_row hJ3)).mono ?_
    rintro e wE ⟨rfl, hbE⟩
    have HLE := (HL.keep hbD).keep hbE
    go_wp2_with fail
    refine hK.out _ _ ?_ (fun hHeld => ?_)
    · exact ⟨HLE.c0, HLE.c1⟩
    clear hK K
    (first
      | (refine held_take (i := 7) (v := ?_) rfl (by kernel_rfl) (by kernel_rfl) (by kernel_rfl) (fun _ _ _ h => h) (Or.inl ⟨rfl, ?_⟩) (by assumption) ?_; rotate_left; (intro X hSw; (try dsimp only at hSw); (go_simp <;> with_reducible rfl)))
      | (refine held_take (i := 7) (v := undef) rfl (by kernel_rfl) (by kernel_rfl) (by kernel_rfl) (fun _ _ _ h => h) (Or.inr ⟨rfl, rfl⟩) (by assumption) ?_)); simp only [Act.put, List.setIfInBounds_toArray, List.set_cons_zero, List.set_cons_succ]
    (first
      | (refine held_take (i := 8) (v := ?_) rfl (by kernel_rfl) (by kernel_rfl) (by kernel_rfl) (fun _ _ _ h => h) (Or.inl ⟨rfl, ?_⟩) (by assumption) ?_; rotate_left; (intro X hSw; (try dsimp only at hSw); (go_simp <;> with_reducible rfl)))
      | (refine held_take (i := 8) (v := undef) rfl (by kernel_rfl) (by kernel_rfl) (by kernel_rfl) (fun _ _ _ h => h) (Or.inr ⟨rfl, rfl⟩) (by assumption) ?_)); simp only [Act.put, List.setIfInBounds_toArray, List.set_cons_zero, List.set_cons_succ]
    (first
      | (refine held_take (i := 9) (v := ?_) rfl (by kernel_rfl) (by kernel_rfl) (by kernel_rfl) (fun _ _ _ h => h) (Or.inl ⟨rfl, ?_⟩) (by assumption) ?_; rotate_left; (intro X hSw; (try dsimp only at hSw); (go_simp <;> with_reducible rfl)))
      | (refine held_take (i := 9) (v := undef) rfl (by kernel_rfl) (by kernel_rfl) (by kernel_rfl) (fun _ _ _ h => h) (Or.inr ⟨rfl, rfl⟩) (by assumption) ?_)); simp only [Act.put, List.setIfInBounds_toArray, List.set_cons_zero, List.set_cons_succ]
    (first
      | (refine held_take (i := 10) (v := ?_) rfl (by kernel_rfl) (by kernel_rfl) (by kernel_rfl) (fun _ _ _ h => h) (Or.inl ⟨rfl, ?_⟩) (by assumption) ?_; rotate_left; (intro X hSw; (try dsimp only at hSw); (go_simp <;> with_reducible rfl)))
      | (refine held_take (i := 10) (v := undef) rfl (by kernel_rfl) (by kernel_rfl) (by kernel_rfl) (fun _ _ _ h => h) (Or.inr ⟨rfl, rfl⟩) (by assumption) ?_)); simp only [Act.put, List.setIfInBounds_toArray, List.set_cons_zero, List.set_cons_succ]
    (first
      | (refine held_take (i := 11) (v := ?_) rfl (by kernel_rfl) (by kernel_rfl) (by kernel_rfl) (fun _ _ _ h => h) (Or.inl ⟨rfl, ?_⟩) (by assumption) ?_; rotate_left; (intro X hSw; (try dsimp only at hSw); (go_simp <;> with_reducible rfl)))
      | (refine held_take (i := 11) (v := undef) rfl (by kernel_rfl) (by kernel_rfl) (by kernel_rfl) (fun _ _ _ h => h) (Or.inr ⟨rfl, rfl⟩) (by assumption) ?_)); simp only [Act.put, List.setIfInBounds_toArray, List.set_cons_zero, List.set_cons_succ]
    refine wpAnyH_done (by kernel_rfl) ?_ _
    go_wp2
    go_ret
    exact ⟨rfl, HLE.b⟩

end Go.Proofs.Ytcanhkngikeeiaa
