/- Stable sorting: up to 40 pieces. -/
import Derived.Test.YtcanhkngikeeiaaU5
import Derived.LoopN
namespace Go.Proofs.Ytcanhkngikeeiaa
open Go.Shelf Go.RowKit Go.Lib Go.Sort
set_option linter.unusedVariables false

theorem two_blocks {n : Nat} {d d1 d2 : Array PP} (h : Asc 0 n d) (h1 : Merged 0 20 d d1) (h2 : Merged 20 n d1 d2) (hn : 20 ≤ n) (hs : n ≤ d.size) : SortedIn ltL 0 20 d2 ∧ SortedIn ltL 20 n d2 ∧ Cross 0 20 n d2 ∧ PermIn 0 n d d2 := by
  have z1 : d1.size = d.size := h1.1.1
  have g1 : ∀ k, 20 ≤ k → d1[k]! = d[k]! := fun k hk => h1.1.2.1 k (.inr hk)
  have g2 : ∀ k, k < 20 → d2[k]! = d1[k]! := fun k hk => h2.1.2.1 k (.inl hk)
  refine ⟨fun i j hi hij hj => ?_, h2.2, fun x y x1 x2 y1 y2 => ?_, ?_⟩
  · rw [g2 i (by omega), g2 j hj]; exact h1.2 i j hi hij hj
  · rw [g2 x x2]
    refine permIn_all d1 d2 20 n (fun v => d1[x]!.2 < v.2) (by omega) h2.1 (fun z z1 z2 => ?_) y y1 y2
    rw [g1 z z1]
    exact permIn_all d d1 0 20 (fun v => v.2 < d[z]!.2) (by omega) h1.1 (fun u u1 u2 => h u z u1 (by omega) z2) x x1 x2
  · exact permIn_trans _ _ _ _ _ (permIn_mono _ _ _ _ _ _ (Nat.le_refl _) hn hs h1.1) (permIn_mono _ _ _ _ _ _ (by omega) (Nat.le_refl _) (by omega) h2.1)
theorem asc_after {n : Nat} {d d1 : Array PP} (h : Asc 0 n d) (h1 : Merged 0 20 d d1) : Asc 20 n d1 := by
  have g1 : ∀ k, 20 ≤ k → d1[k]! = d[k]! := fun k hk => h1.1.2.1 k (.inr hk)
  intro x y x1 x2 x3
  rw [g1 x x1, g1 y (by omega)]
  exact h x y (by omega) x2 x3
theorem merged_empty {a : Nat} (d : Array PP) : Merged a a d d := ⟨permIn_refl _ _ _, fun i j h1 h2 h3 => by omega⟩

/-- A row that is to be sorted. -/
structure ToSort (blk off : Nat) (d : Array PP) (w : World) : Prop where
  R : RowK enc 2 w blk off d
  n : d.size ≤ 40
  a : Asc 0 d.size d

set_option maxHeartbeats 4000000 in
set_option maxRecDepth 1000000 in
theorem stable_few (blk off cap n : Nat) (d : Array PP) (w : World) (T : ToSort blk off d w) (hn : d.size = n) (h20 : n < 20) :
    Calls Try.prog 90 #[.slice (some ⟨blk, off, none⟩) n cap, .int .i64 n, .func (.func 84) #[] #[]] w (Sorts blk off 0 n d w) := by
  have hA := T.a
  rw [hn] at hA
  have hc := insSort_any blk off cap 0 n d d w w T.R rfl (SWK.start T.R.hH) (by omega) (by omega) (by omega) hA
  rw [hn] at hc
  have HC := Lib.hid hc
  have h20' : ¬ (20 : Int) ≤ (n : Int) := by omega
  have h20'' : ¬ (20 : Int) < (n : Int) := by omega
  clear hc hA T hn
  go_enter Try.func90, Try.ntmps90
  go_wp2
  refine wp_loop_rounds 1 ?_
  rw [rounds_succ]
  go_wp2_with fail
  refine HC.out.mono ?_
  rintro e w1 ⟨rfl, d1, k1, k2⟩
  have HD := Lib.hid (And.intro k1 k2)
  clear k1 k2 HC
  go_wp2
  refine wp_loop_rounds 1 ?_
  rw [rounds_succ]
  go_wp2
  go_end0
  exact ⟨rfl, d1, HD.out⟩

set_option maxHeartbeats 4000000 in
set_option maxRecDepth 1000000 in
theorem stable_many (blk off cap n : Nat) (d : Array PP) (w : World) (T : ToSort blk off d w) (hn : d.size = n) (h20 : 20 ≤ n) (h40 : n < 40) :
    Calls Try.prog 90 #[.slice (some ⟨blk, off, none⟩) n cap, .int .i64 n, .func (.func 84) #[] #[]] w (Sorts blk off 0 n d w) := by
  have HT := Lib.hid T
  have HN := Lib.hid hn
  have hA := T.a
  rw [hn] at hA
  have HA := Lib.hid hA
  have hc := insSort_any blk off cap 0 20 d d w w T.R rfl (SWK.start T.R.hH) (by omega) (by omega) (by omega) (fun x y x1 x2 x3 => hA x y x1 x2 (by omega))
  rw [hn] at hc
  have HC := Lib.hid hc
  have h20' : (20 : Int) ≤ (n : Int) := by omega
  have h40' : ¬ (40 : Int) ≤ (n : Int) := by omega
  have h40'' : ¬ (40 : Int) < (n : Int) := by omega
  clear hc T hn hA
  go_enter Try.func90, Try.ntmps90
  go_wp2
  refine wp_loop_rounds 2 ?_
  rw [rounds_succ]
  go_wp2_with fail
  refine HC.out.mono ?_
  rintro e w1 ⟨rfl, d1, k1, k2⟩
  have HD1 := Lib.hid (And.intro k1 k2)
  clear k1 k2 HC
  have z1 : d1.size = n := HD1.out.1.1.1.trans HN.out
  have hc := insSort_any blk off cap 20 n d d1 w w1 HT.out.R HD1.out.1.1.1.symm HD1.out.2 h20 (by omega) (by omega) (asc_after HA.out HD1.out.1)
  rw [z1] at hc
  have HC := Lib.hid hc
  clear hc z1
  go_wp2
  rw [rounds_succ]
  go_wp2_with fail
  refine HC.out.mono ?_
  rintro e w2 ⟨rfl, d2, k1, k2⟩
  have HD2 := Lib.hid (And.intro k1 k2)
  clear k1 k2 HC
  obtain ⟨q1, q2, q3, q4⟩ := two_blocks HA.out HD1.out.1 HD2.out.1 h20 (by rw [HN.out]; omega)
  by_cases h : n = 20
  · have h20'' : ¬ (20 : Int) < (n : Int) := by omega
    have HQ := Lib.hid (And.intro q1 q4)
    have HH := Lib.hid h
    clear q1 q2 q3 q4 h
    go_wp2
    refine wp_loop_rounds 1 ?_
    rw [rounds_succ]
    go_wp2
    go_end0
    refine ⟨rfl, d2, ⟨HQ.out.2, ?_⟩, HD2.out.2⟩
    rw [HH.out]; exact HQ.out.1
  · have h20'' : (20 : Int) < (n : Int) := by omega
    have z2 : d2.size = n := (HD2.out.1.1.1.trans HD1.out.1.1.1).trans HN.out
    have hc := symMerge_any blk off cap d w (n + 1) 0 20 n d2 w2 ⟨HT.out.R, HN.out.trans z2.symm, HD2.out.2, by omega, by omega, by omega, by omega, q1, q2, q3⟩ (by omega)
    rw [z2] at hc
    have HC := Lib.hid hc
    have HQ := Lib.hid q4
    clear q1 q2 q3 q4 hc z2 h
    go_wp2
    refine wp_loop_rounds 2 ?_
    rw [rounds_succ]
    go_wp2
    refine wp_loop_rounds 1 ?_
    rw [rounds_succ]
    go_wp2_with fail
    refine HC.out.mono ?_
    rintro e w3 ⟨rfl, d3, k1, k2⟩
    have HD3 := Lib.hid (And.intro k1 k2)
    clear k1 k2 HC
    go_wp2
    rw [rounds_succ]
    go_wp2
    go_end0
    exact ⟨rfl, d3, ⟨permIn_trans _ _ _ _ _ HQ.out HD3.out.1.1, HD3.out.1.2⟩, HD3.out.2⟩

set_option maxHeartbeats 4000000 in
set_option maxRecDepth 1000000 in
theorem stable_40 (blk off cap n : Nat) (d : Array PP) (w : World) (T : ToSort blk off d w) (hn : d.size = n) (h40 : n = 40) :
    Calls Try.prog 90 #[.slice (some ⟨blk, off, none⟩) 40 cap, .int .i64 40, .func (.func 84) #[] #[]] w (Sorts blk off 0 40 d w) := by
  subst h40
  have HT := Lib.hid T
  have HN := Lib.hid hn
  have hA := T.a
  rw [hn] at hA
  have HA := Lib.hid hA
  have hc := insSort_any blk off cap 0 20 d d w w T.R rfl (SWK.start T.R.hH) (by omega) (by omega) (by omega) (fun x y x1 x2 x3 => hA x y x1 x2 (by omega))
  rw [hn] at hc
  have HC := Lib.hid hc
  clear hc T hn hA
  go_enter Try.func90, Try.ntmps90
  go_wp2
  refine wp_loop_rounds 3 ?_
  rw [rounds_succ]
  go_wp2_with fail
  refine HC.out.mono ?_
  rintro e w1 ⟨rfl, d1, k1, k2⟩
  have HD1 := Lib.hid (And.intro k1 k2)
  clear k1 k2 HC
  have z1 : d1.size = 40 := HD1.out.1.1.1.trans HN.out
  have hc := insSort_any blk off cap 20 40 d d1 w w1 HT.out.R HD1.out.1.1.1.symm HD1.out.2 (by omega) (by omega) (by omega) (asc_after HA.out HD1.out.1)
  rw [z1] at hc
  have HC := Lib.hid hc
  clear hc z1
  go_wp2
  rw [rounds_succ]
  go_wp2_with fail
  refine HC.out.mono ?_
  rintro e w2 ⟨rfl, d2, k1, k2⟩
  have HD2 := Lib.hid (And.intro k1 k2)
  clear k1 k2 HC
  have z2 : d2.size = 40 := (HD2.out.1.1.1.trans HD1.out.1.1.1).trans HN.out
  have hc := insSort_any blk off cap 40 40 d d2 w w2 HT.out.R (HN.out.trans z2.symm) HD2.out.2 (by omega) (by omega) (by omega) (fun x y x1 x2 x3 => by omega)
  rw [z2] at hc
  have HC := Lib.hid hc
  have HZ2 := Lib.hid z2
  clear hc z2
  go_wp2
  rw [rounds_succ]
  go_wp2_with fail
  refine HC.out.mono ?_
  rintro e w3 ⟨rfl, d3, k1, k2⟩
  have e3 : d3 = d2 := by
    apply Array.ext k1.1.1
    intro i hi1 hi2
    have := k1.1.2.1 i (by omega)
    rwa [getElem!_pos d3 i hi1, getElem!_pos d2 i hi2] at this
  subst e3
  have HS3 := Lib.hid k2
  clear k1 k2 HC
  obtain ⟨q1, q2, q3, q4⟩ := two_blocks HA.out HD1.out.1 HD2.out.1 (by omega) (by rw [HN.out]; omega)
  have hz2 := HZ2.out
  have hc := symMerge_any blk off cap d w 41 0 20 40 d3 w3 ⟨HT.out.R, HN.out.trans HZ2.out.symm, HS3.out, by omega, by omega, by omega, by omega, q1, q2, q3⟩ (by omega)
  rw [hz2] at hc
  have HC := Lib.hid hc
  have HQ := Lib.hid q4
  clear q1 q2 q3 q4 hc hz2
  go_wp2
  refine wp_loop_rounds 2 ?_
  rw [rounds_succ]
  go_wp2
  refine wp_loop_rounds 2 ?_
  rw [rounds_succ]
  go_wp2_with fail
  refine HC.out.mono ?_
  rintro e w4 ⟨rfl, d4, k1, k2⟩
  have HD4 := Lib.hid (And.intro k1 k2)
  clear k1 k2 HC
  go_wp2
  rw [rounds_succ]
  go_wp2
  rw [rounds_succ]
  go_wp2
  go_end0
  exact ⟨rfl, d4, ⟨permIn_trans _ _ _ _ _ HQ.out HD4.out.1.1, HD4.out.1.2⟩, HD4.out.2⟩

theorem stable_any (blk off cap : Nat) (d : Array PP) (w : World) (T : ToSort blk off d w) :
    Calls Try.prog 90 #[.slice (some ⟨blk, off, none⟩) d.size cap, .int .i64 d.size, .func (.func 84) #[] #[]] w (Sorts blk off 0 d.size d w) := by
  have hn := T.n
  by_cases h1 : d.size < 20
  · exact stable_few blk off cap d.size d w T rfl h1
  · by_cases h2 : d.size < 40
    · exact stable_many blk off cap d.size d w T rfl (by omega) h2
    · have h3 : d.size = 40 := by omega
      have := stable_40 blk off cap d.size d w T rfl h3
      rw [h3]; exact this

set_option maxHeartbeats 1000000 in
theorem sortStable_any (blk off cap : Nat) (d : Array PP) (w : World) (T : ToSort blk off d w) :
    Calls Try.prog 83 #[.slice (some ⟨blk, off, none⟩) d.size cap, .func (.func 84) #[] #[]] w (Sorts blk off 0 d.size d w) := by
  have HC := Lib.hid (stable_any blk off cap d w T)
  have hn := T.n
  clear T
  go_enter Try.func83, Try.ntmps83
  go_wp2_with fail
  refine HC.out.mono ?_
  rintro e w1 ⟨rfl, d1, k1, k2⟩
  have HD := Lib.hid (And.intro k1 k2)
  clear k1 k2 HC
  go_wp2
  go_end0
  exact ⟨rfl, d1, HD.out⟩

end Go.Proofs.Ytcanhkngikeeiaa
