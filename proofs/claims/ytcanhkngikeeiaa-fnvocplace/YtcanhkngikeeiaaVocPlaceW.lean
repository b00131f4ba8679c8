/- The walk of the law FnVocPlace: it returns true for every code and every other slice, and writes nothing that was there. -/
import Derived.Test.YtcanhkngikeeiaaA1
namespace Go.Proofs.Ytcanhkngikeeiaa
open Go.RowKit
set_option linter.unusedVariables false

set_option maxRecDepth 100000 in
set_option maxHeartbeats 2000000 in
theorem vocPlace_walk (C : Option Addr) (ccap : Nat) (zs : List Int) (D : Option Addr) (dcap : Nat) (ys : List Int) (w : World) (hrow : Row w C (byts zs)) (hz : zs.length ≤ maxLen) (hcap : zs.length ≤ ccap) (hzs : ∀ z ∈ zs, 0 ≤ z ∧ z ≤ 255)
    (hrow2 : Row w D (byts ys)) (hz2 : ys.length ≤ maxLen) (hcap2 : ys.length ≤ dcap) (hys : ∀ z ∈ ys, 0 ≤ z ∧ z ≤ 255) :
    Calls Try.prog 12 #[.slice C zs.length ccap, .slice D ys.length dcap] w (True_ w) := by
  obtain ⟨i0, hi0, hz0, hz1, hz2'⟩ := info_parts info3
  have HI := Lib.hid (And.intro hi0 (And.intro hz0 (And.intro hz1 hz2')))
  clear hi0 hz0 hz1 hz2'
  have HR := Lib.hid hrow
  have HZ := Lib.hid hzs
  clear hrow hzs hrow2 hys
  unfold maxLen at hz hz2
  by_cases hbig : 1048576 < zs.length
  · have hbig' : (1048576 : Int) < (zs.length : Int) := by omega
    go_enter Try.func12, Try.ntmps12
    go_wp2
    go_ret
    exact ⟨rfl, Below.refl _ _⟩
  have hbig' : ¬ (1048576 : Int) < (zs.length : Int) := by omega
  by_cases hbig2 : 1048576 < ys.length
  · have hbig2' : (1048576 : Int) < (ys.length : Int) := by omega
    go_enter Try.func12, Try.ntmps12
    go_wp2
    go_ret
    exact ⟨rfl, Below.refl _ _⟩
  have hbig2' : ¬ (1048576 : Int) < (ys.length : Int) := by omega
  go_enter Try.func12, Try.ntmps12
  go_wp2_with fail
  refine (drawText_any C ccap zs _ HR.out (by omega) hcap HZ.out).mono ?_
  rintro e w1 ⟨ss, en, A, cap, ids, I, ic, rfl, hl, hs, he0, he1, hil, ⟨G, rfl⟩, hp, hi, hb1⟩
  have hv1 := Own.new w1 25 #[.slice A ss.length cap, .int .i64 en]
  have hic := own_cap hi
  have HL := LS.mk (w0 := w) (by simpa using hv1) ((own_row hp).alloc _) ((own_row hi).alloc _) (hb1.alloc hb1.size _)
  clear hv1 hp hi hb1 hs
  go_upto_region 4 with fail
  generalize hw2 : w1.alloc (.cells #[.slice A ss.length cap, .int .i64 en] 25) = w2 at HL ⊢
  have hV := HL.v.lt
  generalize w1.heap.size = V at HL hV ⊢
  clear hw2
  obtain ⟨r, hr⟩ : ∃ r, r = ys.length % 3 := ⟨_, rfl⟩
  have hr3 : r ≤ 2 := by omega
  have htm : (ys.length : Int).tmod 3 = (r : Int) := by rw [hr]; exact tmod_nat _ 3
  have hwr : IntKind.i64.wrap ((ss.length : Int) + (r : Int)) = (ss.length : Int) + (r : Int) := IntWalk.i64_in _ (by omega)
  clear hr
  go_cut [7] (fun c wx => ∃ (J : Nat) (jc : Nat), c = .slice (some ⟨J, 0, none⟩) (ids.length + 1) jc ∧ w2.heap.size ≤ J ∧ wx.ownsRow w2.heap.size 3 1 (.slice (some ⟨J, 0, none⟩) (ids.length + 1) jc) (ids.length + 1) (ints (ids ++ [(ss.length : Int) + (r : Int)])) ∧ Below w2.heap.size w2 wx)
  case first =>
    have c0 := HL.c0
    have hb0 := Below.refl w2.heap.size w2
    go_wp2
    refine wp_region_held_drew (S := fun X => X.cell? ⟨V, 0, none⟩ = some (.slice A ss.length cap)) (by kernel_rfl) ?_ (fun hHeld => ?_)
    · exact c0
    (first
      | (refine held_take (i := 1) (v := ?_) rfl (by kernel_rfl) (by kernel_rfl) (by kernel_rfl) (fun _ _ _ h => h) (Or.inl ⟨rfl, ?_⟩) (by assumption) ?_; rotate_left; (intro X hSw; (try dsimp only at hSw); (go_simp <;> with_reducible rfl)))
      | (refine held_take (i := 1) (v := undef) rfl (by kernel_rfl) (by kernel_rfl) (by kernel_rfl) (fun _ _ _ h => h) (Or.inr ⟨rfl, rfl⟩) (by assumption) ?_)); simp only [Act.put, List.setIfInBounds_toArray, List.set_cons_zero, List.set_cons_succ]
    (first
      | (refine held_take (i := 3) (v := ?_) rfl (by kernel_rfl) (by kernel_rfl) (by kernel_rfl) (fun _ _ _ h => h) (Or.inl ⟨rfl, ?_⟩) (by assumption) ?_; rotate_left; (intro X hSw; (try dsimp only at hSw); (go_simp <;> with_reducible rfl)))
      | (refine held_take (i := 3) (v := undef) rfl (by kernel_rfl) (by kernel_rfl) (by kernel_rfl) (fun _ _ _ h => h) (Or.inr ⟨rfl, rfl⟩) (by assumption) ?_)); simp only [Act.put, List.setIfInBounds_toArray, List.set_cons_zero, List.set_cons_succ]
    (first
      | (refine held_take (i := 4) (v := ?_) rfl (by kernel_rfl) (by kernel_rfl) (by kernel_rfl) (fun _ _ _ h => h) (Or.inl ⟨rfl, ?_⟩) (by assumption) ?_; rotate_left; (intro X hSw; (try dsimp only at hSw); (go_simp <;> with_reducible rfl)))
      | (refine held_take (i := 4) (v := undef) rfl (by kernel_rfl) (by kernel_rfl) (by kernel_rfl) (fun _ _ _ h => h) (Or.inr ⟨rfl, rfl⟩) (by assumption) ?_)); simp only [Act.put, List.setIfInBounds_toArray, List.set_cons_zero, List.set_cons_succ]
    (first
      | (refine held_take (i := 5) (v := ?_) rfl (by kernel_rfl) (by kernel_rfl) (by kernel_rfl) (fun _ _ _ h => h) (Or.inl ⟨rfl, ?_⟩) (by assumption) ?_; rotate_left; (intro X hSw; (try dsimp only at hSw); (go_simp <;> with_reducible rfl)))
      | (refine held_take (i := 5) (v := undef) rfl (by kernel_rfl) (by kernel_rfl) (by kernel_rfl) (fun _ _ _ h => h) (Or.inr ⟨rfl, rfl⟩) (by assumption) ?_)); simp only [Act.put, List.setIfInBounds_toArray, List.set_cons_zero, List.set_cons_succ]
    (first
      | (refine held_take (i := 6) (v := ?_) rfl (by kernel_rfl) (by kernel_rfl) (by kernel_rfl) (fun _ _ _ h => h) (Or.inl ⟨rfl, ?_⟩) (by assumption) ?_; rotate_left; (intro X hSw; (try dsimp only at hSw); (go_simp <;> with_reducible rfl)))
      | (refine held_take (i := 6) (v := undef) rfl (by kernel_rfl) (by kernel_rfl) (by kernel_rfl) (fun _ _ _ h => h) (Or.inr ⟨rfl, rfl⟩) (by assumption) ?_)); simp only [Act.put, List.setIfInBounds_toArray, List.set_cons_zero, List.set_cons_succ]
    (first
      | (refine held_take (i := 7) (v := ?_) rfl (by kernel_rfl) (by kernel_rfl) (by kernel_rfl) (fun _ _ _ h => h) (Or.inl ⟨rfl, ?_⟩) (by assumption) ?_; rotate_left; (intro X hSw; (try dsimp only at hSw); (go_simp <;> with_reducible rfl)))
      | (refine held_take (i := 7) (v := undef) rfl (by kernel_rfl) (by kernel_rfl) (by kernel_rfl) (fun _ _ _ h => h) (Or.inr ⟨rfl, rfl⟩) (by assumption) ?_)); simp only [Act.put, List.setIfInBounds_toArray, List.set_cons_zero, List.set_cons_succ]
    (first
      | (refine held_take (i := 8) (v := ?_) rfl (by kernel_rfl) (by kernel_rfl) (by kernel_rfl) (fun _ _ _ h => h) (Or.inl ⟨rfl, ?_⟩) (by assumption) ?_; rotate_left; (intro X hSw; (try dsimp only at hSw); (go_simp <;> with_reducible rfl)))
      | (refine held_take (i := 8) (v := undef) rfl (by kernel_rfl) (by kernel_rfl) (by kernel_rfl) (fun _ _ _ h => h) (Or.inr ⟨rfl, rfl⟩) (by assumption) ?_)); simp only [Act.put, List.setIfInBounds_toArray, List.set_cons_zero, List.set_cons_succ]
    (first
      | (refine held_take (i := 9) (v := ?_) rfl (by kernel_rfl) (by kernel_rfl) (by kernel_rfl) (fun _ _ _ h => h) (Or.inl ⟨rfl, ?_⟩) (by assumption) ?_; rotate_left; (intro X hSw; (try dsimp only at hSw); (go_simp <;> with_reducible rfl)))
      | (refine held_take (i := 9) (v := undef) rfl (by kernel_rfl) (by kernel_rfl) (by kernel_rfl) (fun _ _ _ h => h) (Or.inr ⟨rfl, rfl⟩) (by assumption) ?_)); simp only [Act.put, List.setIfInBounds_toArray, List.set_cons_zero, List.set_cons_succ]
    refine wpAnyH_ready (rs := [0, 10]) (by kernel_rfl) (by simp) ?_
    refine AllReadyH.cons rfl (fun K hK => ?_) (AllReadyH.cons rfl (fun K hK => ?_) AllReadyH.nil)
    · go_simp
      have hbA := (hb0.alloc hb0.size (.cells #[] 3)).drew
      have heA : (w2.alloc (.cells #[] 3)).drew.ownsRow w2.heap.size 3 1 (.slice (some ⟨w2.heap.size, 0, none⟩) 0 0) 0 (ints []) := (show (w2.alloc (.cells #[] 3)).ownsRow w2.heap.size 3 1 (.slice (some ⟨w2.heap.size, 0, none⟩) 0 0) 0 (ints []) by simpa [ints] using World.ownsRow_lit (base := w2.heap.size) (e := 3) (size := 1) w2 #[] 0 (by simp) (by simp [maxLen]) rfl)
      have hsA : w2.heap.size < (w2.alloc (.cells #[] 3)).drew.heap.size := by simp [World.drew]
      refine hK.out _ _ ?_ (fun hHeld => ?_)
      · exact (HL.keep hbA).c0
      clear hK K
      generalize (w2.alloc (.cells #[] 3)).drew = wA at hbA heA hsA ⊢
      refine wpAnyH_ready (rs := [2, 10]) (by kernel_rfl) (by simp) ?_
      refine AllReadyH.cons rfl (fun K hK => ?_) (AllReadyH.cons rfl (fun K hK => ?_) AllReadyH.nil)
      · -- the tokens are copied first
        refine step_own _ rfl _ _ 26 rfl w2.heap.size 3 i0 (.int .i64 0) 1 8 Try.underlying26 HI.out.1 HI.out.2.1 HI.out.2.2.1 HI.out.2.2.2 rfl (by decide) _ _ _ (ints []) rfl heA ⟨G, 0, none⟩ _ _ (ints ids) rfl (by simp) (Row.news ((HL.keep hbA).o)) (ints_cell _) (by unfold maxLen; omega) (by omega) (by omega) ?_
        intro J jc wB hJ hgB hJB
        have hbB := hbA.grown hgB hbA.size (fun k hk => by injection hk with hk; omega)
        have hJ2 : w2.heap.size ≤ J := by rcases hJB with h | h <;> omega
        go_simp
        refine hK.out _ _ ?_ (fun hHeld => ?_)
        · exact (HL.keep hbB).c0
        clear hK K hgB heA hbA
        refine wpAnyH_ready (rs := [10]) (by kernel_rfl) (by simp) ?_
        refine AllReadyH.cons rfl (fun K hK => ?_) AllReadyH.nil
        go_simp
        have hbC := hbB.alloc hbB.size (.cells #[.int .i64 ((ss.length : Int) + (r : Int))] 3)
        have hoC := Own.new wB 3 #[.int .i64 ((ss.length : Int) + (r : Int))]
        have hJC := hJ.alloc (.cells #[.int .i64 ((ss.length : Int) + (r : Int))] 3)
        refine hK.out _ _ ?_ (fun hHeld => ?_)
        · exact (HL.keep hbC).c0
        clear hK K hJ
        generalize wB.alloc (.cells #[.int .i64 ((ss.length : Int) + (r : Int))] 3) = wC at hbC hoC hJC ⊢
        rw [Nat.zero_add, show ints [] ++ ints ids = ints ids from rfl] at hJC
        refine wpAnyH_ready (rs := [11]) (by kernel_rfl) (by simp) ?_
        refine AllReadyH.cons rfl (fun K hK => ?_) AllReadyH.nil
        refine step_own _ rfl _ _ 26 rfl w2.heap.size 3 i0 (.int .i64 0) 1 8 Try.underlying26 HI.out.1 HI.out.2.1 HI.out.2.2.1 HI.out.2.2.2 rfl (by decide) _ _ _ _ rfl hJC ⟨_, 0, none⟩ _ _ _ rfl rfl hoC.news (by intro u hu; simp at hu; subst hu; rfl) (by unfold maxLen; omega) (by omega) hbC.size ?_
        intro J2 jc2 wD hJ3 hgD hJD
        have hbD := hbC.grown hgD hbC.size (fun k hk => by injection hk with hk; omega)
        have hJ4 : w2.heap.size ≤ J2 := by have := hbC.size; rcases hJD with h | h <;> omega
        go_simp
        refine hK.out _ _ ?_ (fun hHeld => ?_)
        · exact (HL.keep hbD).c0
        clear hK K
        (first
          | (refine held_take (i := 12) (v := ?_) rfl (by kernel_rfl) (by kernel_rfl) (by kernel_rfl) (fun _ _ _ h => h) (Or.inl ⟨rfl, ?_⟩) (by assumption) ?_; rotate_left; (intro X hSw; (try dsimp only at hSw); (go_simp <;> with_reducible rfl)))
          | (refine held_take (i := 12) (v := undef) rfl (by kernel_rfl) (by kernel_rfl) (by kernel_rfl) (fun _ _ _ h => h) (Or.inr ⟨rfl, rfl⟩) (by assumption) ?_)); simp only [Act.put, List.setIfInBounds_toArray, List.set_cons_zero, List.set_cons_succ]
        refine wpAnyH_done (by kernel_rfl) ?_ _
        go_wp2_with fail
        go_meet
        exact ⟨J2, jc2, by simp, hJ4, by simpa [ints] using hJ3, hbD⟩
      · go_simp
        have hbB := hbA.alloc hbA.size (.cells #[.int .i64 ((ss.length : Int) + (r : Int))] 3)
        have hoB := Own.new wA 3 #[.int .i64 ((ss.length : Int) + (r : Int))]
        have heB := heA.alloc (.cells #[.int .i64 ((ss.length : Int) + (r : Int))] 3)
        refine hK.out _ _ ?_ (fun hHeld => ?_)
        · exact (HL.keep hbB).c0
        clear hK K heA hbA
        generalize wA.alloc (.cells #[.int .i64 ((ss.length : Int) + (r : Int))] 3) = wB at hbB hoB heB ⊢
        refine wpAnyH_ready (rs := [2]) (by kernel_rfl) (by simp) ?_
        refine AllReadyH.cons rfl (fun K hK => ?_) AllReadyH.nil
        refine step_own _ rfl _ _ 26 rfl w2.heap.size 3 i0 (.int .i64 0) 1 8 Try.underlying26 HI.out.1 HI.out.2.1 HI.out.2.2.1 HI.out.2.2.2 rfl (by decide) _ _ _ (ints []) rfl heB ⟨G, 0, none⟩ _ _ (ints ids) rfl (by simp) (Row.news ((HL.keep hbB).o)) (ints_cell _) (by unfold maxLen; omega) (by omega) hbB.size ?_
        intro J jc wC hJC hgC hJB
        have hbC := hbB.grown hgC hbB.size (fun k hk => by injection hk with hk; omega)
        have hJ2 : w2.heap.size ≤ J := by have := hbB.size; rcases hJB with h | h <;> omega
        go_simp
        refine hK.out _ _ ?_ (fun hHeld => ?_)
        · exact (HL.keep hbC).c0
        clear hK K heB
        have hoC := own_touch hoB hgC (by omega)
        clear hoB
        rw [Nat.zero_add, show ints [] ++ ints ids = ints ids from rfl] at hJC
        refine wpAnyH_ready (rs := [11]) (by kernel_rfl) (by simp) ?_
        refine AllReadyH.cons rfl (fun K hK => ?_) AllReadyH.nil
        refine step_own _ rfl _ _ 26 rfl w2.heap.size 3 i0 (.int .i64 0) 1 8 Try.underlying26 HI.out.1 HI.out.2.1 HI.out.2.2.1 HI.out.2.2.2 rfl (by decide) _ _ _ _ rfl hJC ⟨_, 0, none⟩ _ _ _ rfl rfl hoC.news (by intro u hu; simp at hu; subst hu; rfl) (by unfold maxLen; omega) (by omega) hbC.size ?_
        intro J2 jc2 wD hJ3 hgD hJD
        have hbD := hbC.grown hgD hbC.size (fun k hk => by injection hk with hk; omega)
        have hJ4 : w2.heap.size ≤ J2 := by have := hbC.size; rcases hJD with h | h <;> omega
        go_simp
        refine hK.out _ _ ?_ (fun hHeld => ?_)
        · exact (HL.keep hbD).c0
        clear hK K
        (first
          | (refine held_take (i := 12) (v := ?_) rfl (by kernel_rfl) (by kernel_rfl) (by kernel_rfl) (fun _ _ _ h => h) (Or.inl ⟨rfl, ?_⟩) (by assumption) ?_; rotate_left; (intro X hSw; (try dsimp only at hSw); (go_simp <;> with_reducible rfl)))
          | (refine held_take (i := 12) (v := undef) rfl (by kernel_rfl) (by kernel_rfl) (by kernel_rfl) (fun _ _ _ h => h) (Or.inr ⟨rfl, rfl⟩) (by assumption) ?_)); simp only [Act.put, List.setIfInBounds_toArray, List.set_cons_zero, List.set_cons_succ]
        refine wpAnyH_done (by kernel_rfl) ?_ _
        go_wp2_with fail
        go_meet
        exact ⟨J2, jc2, by simp, hJ4, by simpa [ints] using hJ3, hbD⟩
    · go_simp
      have hbA := (hb0.alloc hb0.size (.cells #[.int .i64 ((ss.length : Int) + (r : Int))] 3)).drew
      have hoA := (Own.new w2 3 #[.int .i64 ((ss.length : Int) + (r : Int))]).drew
      refine hK.out _ _ ?_ (fun hHeld => ?_)
      · exact (HL.keep hbA).c0
      clear hK K
      have hsA : w2.heap.size < (w2.alloc (.cells #[.int .i64 ((ss.length : Int) + (r : Int))] 3)).drew.heap.size := by simp [World.drew]
      generalize (w2.alloc (.cells #[.int .i64 ((ss.length : Int) + (r : Int))] 3)).drew = wA at hbA hoA hsA ⊢
      refine wpAnyH_ready (rs := [0]) (by kernel_rfl) (by simp) ?_
      refine AllReadyH.cons rfl (fun K hK => ?_) AllReadyH.nil
      go_simp
      have hbB := hbA.alloc hbA.size (.cells #[] 3)
      have hoB := hoA.alloc (.cells #[] 3)
      have heB : (wA.alloc (.cells #[] 3)).ownsRow w2.heap.size 3 1 (.slice (some ⟨wA.heap.size, 0, none⟩) 0 0) 0 (ints []) := by simpa [ints] using World.ownsRow_lit (base := w2.heap.size) (e := 3) (size := 1) wA #[] 0 (by omega) (by simp [maxLen]) rfl
      refine hK.out _ _ ?_ (fun hHeld => ?_)
      · exact (HL.keep hbB).c0
      clear hK K hoA hbA
      generalize wA.alloc (.cells #[] 3) = wB at hbB hoB heB ⊢
      refine wpAnyH_ready (rs := [2]) (by kernel_rfl) (by simp) ?_
      refine AllReadyH.cons rfl (fun K hK => ?_) AllReadyH.nil
      refine step_own _ rfl _ _ 26 rfl w2.heap.size 3 i0 (.int .i64 0) 1 8 Try.underlying26 HI.out.1 HI.out.2.1 HI.out.2.2.1 HI.out.2.2.2 rfl (by decide) _ _ _ (ints []) rfl heB ⟨G, 0, none⟩ _ _ (ints ids) rfl (by simp) (Row.news ((HL.keep hbB).o)) (ints_cell _) (by unfold maxLen; omega) (by omega) hbB.size ?_
      intro J jc wC hJC hgC hJB
      have hbC := hbB.grown hgC hbB.size (fun k hk => by injection hk with hk; omega)
      have hJ2 : w2.heap.size ≤ J := by have := hbB.size; rcases hJB with h | h <;> omega
      go_simp
      refine hK.out _ _ ?_ (fun hHeld => ?_)
      · exact (HL.keep hbC).c0
      clear hK K heB
      have hoC := own_touch hoB hgC (by omega)
      clear hoB
      rw [Nat.zero_add, show ints [] ++ ints ids = ints ids from rfl] at hJC
      refine wpAnyH_ready (rs := [11]) (by kernel_rfl) (by simp) ?_
      refine AllReadyH.cons rfl (fun K hK => ?_) AllReadyH.nil
      refine step_own _ rfl _ _ 26 rfl w2.heap.size 3 i0 (.int .i64 0) 1 8 Try.underlying26 HI.out.1 HI.out.2.1 HI.out.2.2.1 HI.out.2.2.2 rfl (by decide) _ _ _ _ rfl hJC ⟨_, 0, none⟩ _ _ _ rfl rfl hoC.news (by intro u hu; simp at hu; subst hu; rfl) (by unfold maxLen; omega) (by omega) hbC.size ?_
      intro J2 jc2 wD hJ3 hgD hJD
      have hbD := hbC.grown hgD hbC.size (fun k hk => by injection hk with hk; omega)
      have hJ4 : w2.heap.size ≤ J2 := by have := hbC.size; rcases hJD with h | h <;> omega
      go_simp
      refine hK.out _ _ ?_ (fun hHeld => ?_)
      · exact (HL.keep hbD).c0
      clear hK K
      (first
        | (refine held_take (i := 12) (v := ?_) rfl (by kernel_rfl) (by kernel_rfl) (by kernel_rfl) (fun _ _ _ h => h) (Or.inl ⟨rfl, ?_⟩) (by assumption) ?_; rotate_left; (intro X hSw; (try dsimp only at hSw); (go_simp <;> with_reducible rfl)))
        | (refine held_take (i := 12) (v := undef) rfl (by kernel_rfl) (by kernel_rfl) (by kernel_rfl) (fun _ _ _ h => h) (Or.inr ⟨rfl, rfl⟩) (by assumption) ?_)); simp only [Act.put, List.setIfInBounds_toArray, List.set_cons_zero, List.set_cons_succ]
      refine wpAnyH_done (by kernel_rfl) ?_ _
      go_wp2_with fail
      go_meet
      exact ⟨J2, jc2, by simp, hJ4, by simpa [ints] using hJ3, hbD⟩
  case rest =>
    obtain ⟨J, jc, rfl, hJ2, hJ, hb3⟩ := hcut
    have HL3 := HL.keep hb3
    have hJV : V < J := by omega
    have hVs := hb3.size
    clear htm hwr
    generalize hR0 : vocOkB ss en = B
    have HB := Lib.hid hR0
    clear hR0
    have hve : (B == B) = true := by simp
    have hse : (((⟨#[]⟩ : ByteArray).toList == (⟨#[]⟩ : ByteArray).toList)) = true := by simp
    have H22 : Hid (∀ X, Row X A (strs ss) → Calls Try.prog 22 #[.agg #[.slice A ss.length cap, .int .i64 en]] X fun e X' => e = .returned (.bool B) ∧ Below X.heap.size X X') := Lib.hid (fun X h => by rw [← HB.out]; exact implOk_any A cap ss en X h (by omega))
    have H23 : Hid (∀ X, Row X A (strs ss) → Calls Try.prog 23 #[.agg #[.slice A ss.length cap, .int .i64 en]] X fun e X' => e = .returned (.bool B) ∧ Below X.heap.size X X') := Lib.hid (fun X h => by rw [← HB.out]; exact specOk_any A cap ss en X h (by omega))
    by_cases hev : ys.length % 2 = 0
    · have hev' : ((ys.length : Int) % 2 == 0) = true := by rw [beq_iff_eq]; omega
      have hd0 : wc.cell? ⟨J, ids.length, none⟩ = some (.int .i64 ((ss.length : Int) + (r : Int))) := by
        rw [hJ.cellAt ids.length (by omega)]
        simp [ints]
      have hd1 : wc.frozen? ⟨J, ids.length, none⟩ = false := hJ.frozenAt ids.length
      have hlt : (ids.length : Int) < ((ids.length : Int) + 1) := by omega
      obtain ⟨hJs, hgs⟩ := hJ.stored ids.length (.int .i64 (-1 - (ys.length : Int)))
      rw [ints_set_last] at hJs
      have hb4 := hb3.grown hgs hb3.size (fun k hk => by injection hk with hk; omega)
      have HBB := Lib.hid (vocTextR_bad (ss := ss) (en := en) (ids := ids) (x := -1 - (ys.length : Int)) (by omega))
      have HLJ : LS w V en ss A cap (some ⟨J, 0, none⟩) (ids ++ [-1 - (ys.length : Int)]) (wc.setCell ⟨J, ids.length, none⟩ (.int .i64 (-1 - (ys.length : Int)))) := ⟨(HL.keep hb4).v, (HL.keep hb4).p, own_row hJs, (HL.keep hb4).b⟩
      clear hev hgs HL hb4 hJs
      have HA : Hid (∀ X, LS w V en ss A cap (some ⟨J, 0, none⟩) (ids ++ [-1 - (ys.length : Int)]) X → Calls Try.prog 21 #[.agg #[.slice A ss.length cap, .int .i64 en], .slice (some ⟨J, 0, none⟩) (ids.length + 1) jc] X fun e X' => e = .returned (.tuple #[.string ⟨#[]⟩, .bool false]) ∧ Below X.heap.size X X') := Lib.hid (fun X hX => by
        have := implText_any A cap ss en (some ⟨J, 0, none⟩) jc (ids ++ [-1 - (ys.length : Int)]) X hX.p hX.o (by omega) (by simp; omega)
        rw [show (ids ++ [-1 - (ys.length : Int)]).length = ids.length + 1 by simp] at this
        refine this.mono ?_
        unfold TextAns
        rw [HBB.out]
        exact fun _ _ h => h)
      have HS : Hid (∀ X, LS w V en ss A cap (some ⟨J, 0, none⟩) (ids ++ [-1 - (ys.length : Int)]) X → Calls Try.prog 20 #[.agg #[.slice A ss.length cap, .int .i64 en], .slice (some ⟨J, 0, none⟩) (ids.length + 1) jc] X fun e X' => e = .returned (.tuple #[.string ⟨#[]⟩, .bool false]) ∧ Below X.heap.size X X') := Lib.hid (fun X hX => by
        have := specText_any A cap ss en (some ⟨J, 0, none⟩) jc (ids ++ [-1 - (ys.length : Int)]) X hX.p hX.o (by omega) (by simp; omega)
        rw [show (ids ++ [-1 - (ys.length : Int)]).length = ids.length + 1 by simp] at this
        refine this.mono ?_
        unfold TextAns
        rw [HBB.out]
        exact fun _ _ h => h)
      have c0 := HLJ.c0
      have c1 := HLJ.c1
      clear HL3
      go_wp2_with fail
      refine (HA.out _ HLJ).mono ?_
      rintro e w4 ⟨rfl, hb⟩
      have HL4 := HLJ.keep hb
      clear hb HLJ c0 c1 hJ hb3
      have c0 := HL4.c0
      have c1 := HL4.c1
      go_wp2_with fail
      refine (HS.out _ HL4).mono ?_
      rintro e w5 ⟨rfl, hb⟩
      have HL5 := HL4.keep hb
      clear hb HL4 c0 c1
      have c0 := HL5.c0
      have c1 := HL5.c1
      go_wp2
      go_region_held3 (fun X => X.cell? ⟨V, 0, none⟩ = some (.slice A ss.length cap) ∧ X.cell? ⟨V, 1, none⟩ = some (.int .i64 en))
        (first | exact ⟨HL7.c0, HL7.c1⟩ | exact ⟨HL6.c0, HL6.c1⟩ | exact ⟨c0, c1⟩)
        (first | (go_at_call 22; refine (H22.out _ HL5.drew.p).mono ?_; rintro e w6 ⟨rfl, hb6⟩; have HL6 := HL5.drew.keep hb6)
               | (go_at_call 23; refine (H23.out _ HL6.p).mono ?_; rintro e w7 ⟨rfl, hb7⟩; have HL7 := HL6.keep hb7))
      go_wp2
      go_ret
      exact ⟨rfl, HL7.b⟩
    · have hev' : ((ys.length : Int) % 2 == 0) = false := by rw [beq_eq_false_iff_ne]; omega
      have HBB := Lib.hid (vocTextR_bad (ss := ss) (en := en) (ids := ids) (x := (ss.length : Int) + (r : Int)) (by omega))
      have HLJ : LS w V en ss A cap (some ⟨J, 0, none⟩) (ids ++ [(ss.length : Int) + (r : Int)]) wc := ⟨HL3.v, HL3.p, own_row hJ, HL3.b⟩
      clear hev HL
      have HA : Hid (∀ X, LS w V en ss A cap (some ⟨J, 0, none⟩) (ids ++ [(ss.length : Int) + (r : Int)]) X → Calls Try.prog 21 #[.agg #[.slice A ss.length cap, .int .i64 en], .slice (some ⟨J, 0, none⟩) (ids.length + 1) jc] X fun e X' => e = .returned (.tuple #[.string ⟨#[]⟩, .bool false]) ∧ Below X.heap.size X X') := Lib.hid (fun X hX => by
        have := implText_any A cap ss en (some ⟨J, 0, none⟩) jc (ids ++ [(ss.length : Int) + (r : Int)]) X hX.p hX.o (by omega) (by simp; omega)
        rw [show (ids ++ [(ss.length : Int) + (r : Int)]).length = ids.length + 1 by simp] at this
        refine this.mono ?_
        unfold TextAns
        rw [HBB.out]
        exact fun _ _ h => h)
      have HS : Hid (∀ X, LS w V en ss A cap (some ⟨J, 0, none⟩) (ids ++ [(ss.length : Int) + (r : Int)]) X → Calls Try.prog 20 #[.agg #[.slice A ss.length cap, .int .i64 en], .slice (some ⟨J, 0, none⟩) (ids.length + 1) jc] X fun e X' => e = .returned (.tuple #[.string ⟨#[]⟩, .bool false]) ∧ Below X.heap.size X X') := Lib.hid (fun X hX => by
        have := specText_any A cap ss en (some ⟨J, 0, none⟩) jc (ids ++ [(ss.length : Int) + (r : Int)]) X hX.p hX.o (by omega) (by simp; omega)
        rw [show (ids ++ [(ss.length : Int) + (r : Int)]).length = ids.length + 1 by simp] at this
        refine this.mono ?_
        unfold TextAns
        rw [HBB.out]
        exact fun _ _ h => h)
      have c0 := HLJ.c0
      have c1 := HLJ.c1
      clear HL3
      go_wp2_with fail
      refine (HA.out _ HLJ).mono ?_
      rintro e w4 ⟨rfl, hb⟩
      have HL4 := HLJ.keep hb
      clear hb HLJ c0 c1 hJ hb3
      have c0 := HL4.c0
      have c1 := HL4.c1
      go_wp2_with fail
      refine (HS.out _ HL4).mono ?_
      rintro e w5 ⟨rfl, hb⟩
      have HL5 := HL4.keep hb
      clear hb HL4 c0 c1
      have c0 := HL5.c0
      have c1 := HL5.c1
      go_wp2
      go_region_held3 (fun X => X.cell? ⟨V, 0, none⟩ = some (.slice A ss.length cap) ∧ X.cell? ⟨V, 1, none⟩ = some (.int .i64 en))
        (first | exact ⟨HL7.c0, HL7.c1⟩ | exact ⟨HL6.c0, HL6.c1⟩ | exact ⟨c0, c1⟩)
        (first | (go_at_call 22; refine (H22.out _ HL5.drew.p).mono ?_; rintro e w6 ⟨rfl, hb6⟩; have HL6 := HL5.drew.keep hb6)
               | (go_at_call 23; refine (H23.out _ HL6.p).mono ?_; rintro e w7 ⟨rfl, hb7⟩; have HL7 := HL6.keep hb7))
      go_wp2
      go_ret
      exact ⟨rfl, HL7.b⟩

end Go.Proofs.Ytcanhkngikeeiaa
