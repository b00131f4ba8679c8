/- With which bytes a sentence may go on: spec.ChartNext. -/
import Derived.Test.YtafldjbmheopjaaF5
namespace Go.Proofs.Ytafldjbmheopjaa
open Go.RowKit
set_option linter.unusedVariables false

/-- So many flags from a place on are set. -/
def fill (B : List Bool) (lo : Nat) : Nat → List Bool
  | 0 => B
  | m + 1 => (fill B lo m).set (lo + m) true
theorem fill_length (B : List Bool) (lo : Nat) : ∀ m, (fill B lo m).length = B.length
  | 0 => rfl
  | m + 1 => by simp [fill, fill_length B lo m]
/-- What one item does. -/
def stepN (qs : List Pd) (B : List Bool) (x : Sy) : List Bool :=
  match (pAt qs x.head).body[x.low.toNat]? with
  | some s => if s.head = -1 then fill B s.low.toNat (s.high + 1 - s.low).toNat else B
  | none => B
theorem stepN_length (qs : List Pd) (B : List Bool) (x : Sy) : (stepN qs B x).length = B.length := by
  unfold stepN
  split
  · split
    · exact fill_length _ _ _
    · rfl
  · rfl
def nextTo (qs : List Pd) (t : List Sy) (k : Nat) : List Bool := (t.take k).foldl (stepN qs) (List.replicate 256 false)
theorem nextTo_succ (qs : List Pd) (t : List Sy) (k : Nat) (h : k < t.length) : nextTo qs t (k + 1) = stepN qs (nextTo qs t k) t[k] := by
  unfold nextTo; rw [List.take_succ_eq_append_getElem h, List.foldl_append]; rfl
theorem nextTo_length (qs : List Pd) (t : List Sy) : ∀ k, (nextTo qs t k).length = 256 := by
  intro k
  unfold nextTo
  have key : ∀ (l : List Sy) (B : List Bool), (l.foldl (stepN qs) B).length = B.length := by
    intro l
    induction l with
    | nil => intro B; rfl
    | cons x r ih => intro B; rw [List.foldl_cons, ih, stepN_length]
  rw [key, List.length_replicate]
/-- What ChartNext answers, by the trimmed productions. -/
def nextAns (hd : Int) (ps qs : List Pd) (ts : List (List Sy)) : List Bool :=
  if (cfgOkB hd ps && (chartOkB qs ts && decide (ts.length ≤ 80))) = true then nextTo qs (lastT ts) (lastT ts).length else List.replicate 256 false
theorem nextAns_length (hd : Int) (ps qs : List Pd) (ts : List (List Sy)) : (nextAns hd ps qs ts).length = 256 := by
  unfold nextAns; split
  · exact nextTo_length _ _ _
  · exact List.length_replicate

theorem IsTrim.bytes {hd hd' : Int} {ps qs : List Pd} (h : IsTrim hd ps hd' qs) (hok : cfgOkB hd ps = true) : ∀ p ∈ qs, ∀ s ∈ p.body, s.head = -1 → 0 ≤ s.low ∧ s.low ≤ s.high ∧ s.high ≤ 255 := by
  obtain ⟨e, h2⟩ := h.ok hok
  unfold cfgOkB at h2
  simp only [Bool.and_eq_true, decide_eq_true_eq] at h2
  intro p hp s hs he
  obtain ⟨j, hj, rfl⟩ := List.getElem_of_mem hp
  have h3 := allOk_iff.1 h2.2 j hj hj
  unfold pdOkB bodyOkB at h3
  simp only [Bool.and_eq_true, decide_eq_true_eq, List.all_eq_true] at h3
  have h4 := h3.2.2 s hs
  unfold symOkB at h4
  rw [if_pos he] at h4
  simp only [Bool.and_eq_true, decide_eq_true_eq] at h4
  exact ⟨h4.1.1, h4.1.2, h4.2⟩

/-- What ChartNext leaves: 256 flags in a block of their own. -/
def NextPost (hd : Int) (ps : List Pd) (ts : List (List Sy)) (w : World) (e : Ending) (w' : World) : Prop :=
  ∃ hd' qs g, IsTrim hd ps hd' qs ∧ e = .returned (.slice (some ⟨g, 0, none⟩) 256 256) ∧ w.heap.size ≤ g ∧ Own w' g 4 (bools (nextAns hd ps qs ts)) ∧ Below w.heap.size w w'

theorem mk256 : ∃ MC : Array Value, MC.toList = bools (List.replicate 256 false) ∧ ∀ u : World, (Instr.makeSlice 42 (.int .i64 256) (.int .i64 256)).run Try.prog u = .ok (.slice (some ⟨u.heap.size, 0, none⟩) 256 256) (u.alloc (.cells MC 4)) :=
  ⟨madeCells #[.bool false] 256, by rw [toList_madeCells_one]; unfold bools; rw [List.map_replicate], fun u => run_make_row' (P := Try.prog) 42 4 (.bool false) 1 Try.underlying42 info4 rfl .i64 .i64 256 (by omega) (by omega) u⟩
theorem bools_rep (n : Nat) : bools (List.replicate n false) = List.replicate n (.bool false) := by simp [bools]

set_option maxRecDepth 100000 in
set_option maxHeartbeats 8000000 in
theorem specNext_any (hd : Int) (ps : List Pd) (vs : List Pv) (a : Option Addr) (c : Nat) (ts : List (List Sy)) (A : Option Addr) (C : Nat) (w : World)
    (hv1 : vs.map Pv.p = ps) (hv2 : Bodies w vs) (hv3 : Row w a (pvCells vs)) (hv4 : ∀ x ∈ vs, x.K ≠ none) (hm : ps.length ≤ 1048576) (hs : Small ps) (ht : Sts w A ts) (htm : ts.length ≤ 1048576) (hts : SmallT ts) :
    Calls Try.prog 13 #[.agg #[.int .i64 hd, .slice a ps.length c], .agg #[.slice A ts.length C]] w (NextPost hd ps ts w) := by
  obtain ⟨MC, hMC, hmk⟩ := mk256
  have hb00 : Below w.heap.size w (((w.alloc (.cells #[.int .i64 hd, .slice a ps.length c] 33)).alloc (.cells #[.slice A ts.length C] 37)).alloc (.cells MC 4)) := ((below_box _).alloc (by simp) _).alloc (by simp; omega) _
  have hr : Pds w a ps := by rw [← hv1]; exact row_pds hv3 hv2
  have PD0 := Lib.hid (hr.keep hb00)
  have ST0 := Lib.hid (ht.keep hb00)
  have BO0 := Lib.hid (hv2.keep hb00)
  have RW0 := Lib.hid (hv3.keep hb00)
  have HT := Lib.hid ht
  have HS := Lib.hid hs
  have HTS := Lib.hid hts
  have HB00 := Lib.hid hb00
  have k0 : (((w.alloc (.cells #[.int .i64 hd, .slice a ps.length c] 33)).alloc (.cells #[.slice A ts.length C] 37)).alloc (.cells MC 4)).cell? ⟨w.heap.size, 0, none⟩ = some (.int .i64 hd) := cell_alloc (by simp) _
  have k1 : (((w.alloc (.cells #[.int .i64 hd, .slice a ps.length c] 33)).alloc (.cells #[.slice A ts.length C] 37)).alloc (.cells MC 4)).cell? ⟨w.heap.size, 1, none⟩ = some (.slice a ps.length c) := cell_alloc (by simp) _
  have k2 : (((w.alloc (.cells #[.int .i64 hd, .slice a ps.length c] 33)).alloc (.cells #[.slice A ts.length C] 37)).alloc (.cells MC 4)).cell? ⟨w.heap.size + 1, 0, none⟩ = some (.slice A ts.length C) := cell_alloc (by simp) _
  have hOg : Own (((w.alloc (.cells #[.int .i64 hd, .slice a ps.length c] 33)).alloc (.cells #[.slice A ts.length C] 37)).alloc (.cells MC 4)) (w.heap.size + 1 + 1) 4 (bools (List.replicate 256 false)) := by
    have := Own.new ((w.alloc (.cells #[.int .i64 hd, .slice a ps.length c] 33)).alloc (.cells #[.slice A ts.length C] 37)) 4 MC
    rw [hMC, World.size_alloc, World.size_alloc] at this
    exact this
  have HOG := Lib.hid hOg
  clear hr hs ht hts hb00 hv2 hv3 hOg hMC
  cases hok : cfgOkB hd ps
  · have OKL : Hid (∀ X, Pds X a ps → Calls Try.prog 22 #[.agg #[.int .i64 hd, .slice a ps.length c]] X fun e w' => e = .returned (.bool false) ∧ Below X.heap.size X w') := fun X h => by
      have := specOk_any hd ps a c X h hm HS.out
      rw [hok] at this
      exact this
    have EP : Hid (∀ w', Own w' (w.heap.size + 1 + 1) 4 (bools (List.replicate 256 false)) → Below w.heap.size w w' → NextPost hd ps ts w (.returned (.slice (some ⟨w.heap.size + 1 + 1, 0, none⟩) 256 256)) w') := fun w' ho hb => ⟨0, [], _, by unfold IsTrim; rw [if_neg (by simp [hok])]; exact ⟨rfl, rfl⟩, rfl, by omega, by unfold nextAns; rw [hok]; exact ho, hb⟩
    go_enter Try.func13, Try.ntmps13
    go_wp2
    generalize ((w.alloc (.cells #[.int .i64 hd, .slice a ps.length c] 33)).alloc (.cells #[.slice A ts.length C] 37)).alloc (.cells MC 4) = W at *
    clear hmk
    refine wp_region_held_drew (S := (fun X => X.cell? ⟨w.heap.size, 0, none⟩ = some (.int .i64 hd) ∧ X.cell? ⟨w.heap.size, 1, none⟩ = some (.slice a ps.length c) ∧ X.cell? ⟨w.heap.size + 1, 0, none⟩ = some (.slice A ts.length C))) (by kernel_rfl) ?_ (fun hHeld => ?_)
    · exact ⟨k0, k1, k2⟩
    (first
      | (refine held_take (i := 0) (v := ?_) rfl (by kernel_rfl) (by kernel_rfl) (by kernel_rfl) (fun _ _ _ h => h) (Or.inl ⟨rfl, ?_⟩) (by assumption) ?_; rotate_left; (intro X hSw; (try dsimp only at hSw); (go_simp <;> with_reducible rfl)))
      | (refine held_take (i := 0) (v := undef) rfl (by kernel_rfl) (by kernel_rfl) (by kernel_rfl) (fun _ _ _ h => h) (Or.inr ⟨rfl, rfl⟩) (by assumption) ?_)); simp only [Act.put, List.setIfInBounds_toArray, List.set_cons_zero, List.set_cons_succ]
    refine wpAnyH_ready (rs := [1]) (by kernel_rfl) (by simp) ?_
    refine AllReadyH.cons rfl (fun K hK => ?_) AllReadyH.nil
    go_simp
    go_wp2_with (go_at_call 22; refine (OKL.out _ PD0.out.drew).mono ?_; rintro e w1 ⟨rfl, hb1⟩; have hB1 : Below W.heap.size W w1 := (Below.refl W.heap.size W).drew.trans hb1)
    refine hK.out _ _ ?_ (fun hHeld => ?_)
    · exact ⟨cell_keep hb1 k0, cell_keep hb1 k1, cell_keep hb1 k2⟩
    clear hK K
    (first
      | (refine held_take (i := 2) (v := ?_) rfl (by kernel_rfl) (by kernel_rfl) (by kernel_rfl) (fun _ _ _ h => h) (Or.inl ⟨rfl, ?_⟩) (by assumption) ?_; rotate_left; (intro X hSw; (try dsimp only at hSw); (go_simp <;> with_reducible rfl)))
      | (refine held_take (i := 2) (v := undef) rfl (by kernel_rfl) (by kernel_rfl) (by kernel_rfl) (fun _ _ _ h => h) (Or.inr ⟨rfl, rfl⟩) (by assumption) ?_)); simp only [Act.put, List.setIfInBounds_toArray, List.set_cons_zero, List.set_cons_succ]
    (first
      | (refine held_take (i := 3) (v := ?_) rfl (by kernel_rfl) (by kernel_rfl) (by kernel_rfl) (fun _ _ _ h => h) (Or.inl ⟨rfl, ?_⟩) (by assumption) ?_; rotate_left; (intro X hSw; (try dsimp only at hSw); (go_simp <;> with_reducible rfl)))
      | (refine held_take (i := 3) (v := undef) rfl (by kernel_rfl) (by kernel_rfl) (by kernel_rfl) (fun _ _ _ h => h) (Or.inr ⟨rfl, rfl⟩) (by assumption) ?_)); simp only [Act.put, List.setIfInBounds_toArray, List.set_cons_zero, List.set_cons_succ]
    (first
      | (refine held_take (i := 4) (v := ?_) rfl (by kernel_rfl) (by kernel_rfl) (by kernel_rfl) (fun _ _ _ h => h) (Or.inl ⟨rfl, ?_⟩) (by assumption) ?_; rotate_left; (intro X hSw; (try dsimp only at hSw); (go_simp <;> with_reducible rfl)))
      | (refine held_take (i := 4) (v := undef) rfl (by kernel_rfl) (by kernel_rfl) (by kernel_rfl) (fun _ _ _ h => h) (Or.inr ⟨rfl, rfl⟩) (by assumption) ?_)); simp only [Act.put, List.setIfInBounds_toArray, List.set_cons_zero, List.set_cons_succ]
    (first
      | (refine held_take (i := 5) (v := ?_) rfl (by kernel_rfl) (by kernel_rfl) (by kernel_rfl) (fun _ _ _ h => h) (Or.inl ⟨rfl, ?_⟩) (by assumption) ?_; rotate_left; (intro X hSw; (try dsimp only at hSw); (go_simp <;> with_reducible rfl)))
      | (refine held_take (i := 5) (v := undef) rfl (by kernel_rfl) (by kernel_rfl) (by kernel_rfl) (fun _ _ _ h => h) (Or.inr ⟨rfl, rfl⟩) (by assumption) ?_)); simp only [Act.put, List.setIfInBounds_toArray, List.set_cons_zero, List.set_cons_succ]
    (first
      | (refine held_take (i := 6) (v := ?_) rfl (by kernel_rfl) (by kernel_rfl) (by kernel_rfl) (fun _ _ _ h => h) (Or.inl ⟨rfl, ?_⟩) (by assumption) ?_; rotate_left; (intro X hSw; (try dsimp only at hSw); (go_simp <;> with_reducible rfl)))
      | (refine held_take (i := 6) (v := undef) rfl (by kernel_rfl) (by kernel_rfl) (by kernel_rfl) (fun _ _ _ h => h) (Or.inr ⟨rfl, rfl⟩) (by assumption) ?_)); simp only [Act.put, List.setIfInBounds_toArray, List.set_cons_zero, List.set_cons_succ]
    (first
      | (refine held_take (i := 7) (v := ?_) rfl (by kernel_rfl) (by kernel_rfl) (by kernel_rfl) (fun _ _ _ h => h) (Or.inl ⟨rfl, ?_⟩) (by assumption) ?_; rotate_left; (intro X hSw; (try dsimp only at hSw); (go_simp <;> with_reducible rfl)))
      | (refine held_take (i := 7) (v := undef) rfl (by kernel_rfl) (by kernel_rfl) (by kernel_rfl) (fun _ _ _ h => h) (Or.inr ⟨rfl, rfl⟩) (by assumption) ?_)); simp only [Act.put, List.setIfInBounds_toArray, List.set_cons_zero, List.set_cons_succ]
    (first
      | (refine held_take (i := 8) (v := ?_) rfl (by kernel_rfl) (by kernel_rfl) (by kernel_rfl) (fun _ _ _ h => h) (Or.inl ⟨rfl, ?_⟩) (by assumption) ?_; rotate_left; (intro X hSw; (try dsimp only at hSw); (go_simp <;> with_reducible rfl)))
      | (refine held_take (i := 8) (v := undef) rfl (by kernel_rfl) (by kernel_rfl) (by kernel_rfl) (fun _ _ _ h => h) (Or.inr ⟨rfl, rfl⟩) (by assumption) ?_)); simp only [Act.put, List.setIfInBounds_toArray, List.set_cons_zero, List.set_cons_succ]
    (first
      | (refine held_take (i := 9) (v := ?_) rfl (by kernel_rfl) (by kernel_rfl) (by kernel_rfl) (fun _ _ _ h => h) (Or.inl ⟨rfl, ?_⟩) (by assumption) ?_; rotate_left; (intro X hSw; (try dsimp only at hSw); (go_simp <;> with_reducible rfl)))
      | (refine held_take (i := 9) (v := undef) rfl (by kernel_rfl) (by kernel_rfl) (by kernel_rfl) (fun _ _ _ h => h) (Or.inr ⟨rfl, rfl⟩) (by assumption) ?_)); simp only [Act.put, List.setIfInBounds_toArray, List.set_cons_zero, List.set_cons_succ]
    (first
      | (refine held_take (i := 10) (v := ?_) rfl (by kernel_rfl) (by kernel_rfl) (by kernel_rfl) (fun _ _ _ h => h) (Or.inl ⟨rfl, ?_⟩) (by assumption) ?_; rotate_left; (intro X hSw; (try dsimp only at hSw); (go_simp <;> with_reducible rfl)))
      | (refine held_take (i := 10) (v := undef) rfl (by kernel_rfl) (by kernel_rfl) (by kernel_rfl) (fun _ _ _ h => h) (Or.inr ⟨rfl, rfl⟩) (by assumption) ?_)); simp only [Act.put, List.setIfInBounds_toArray, List.set_cons_zero, List.set_cons_succ]
    (first
      | (refine held_take (i := 11) (v := ?_) rfl (by kernel_rfl) (by kernel_rfl) (by kernel_rfl) (fun _ _ _ h => h) (Or.inl ⟨rfl, ?_⟩) (by assumption) ?_; rotate_left; (intro X hSw; (try dsimp only at hSw); (go_simp <;> with_reducible rfl)))
      | (refine held_take (i := 11) (v := undef) rfl (by kernel_rfl) (by kernel_rfl) (by kernel_rfl) (fun _ _ _ h => h) (Or.inr ⟨rfl, rfl⟩) (by assumption) ?_)); simp only [Act.put, List.setIfInBounds_toArray, List.set_cons_zero, List.set_cons_succ]
    (first
      | (refine held_take (i := 12) (v := ?_) rfl (by kernel_rfl) (by kernel_rfl) (by kernel_rfl) (fun _ _ _ h => h) (Or.inl ⟨rfl, ?_⟩) (by assumption) ?_; rotate_left; (intro X hSw; (try dsimp only at hSw); (go_simp <;> with_reducible rfl)))
      | (refine held_take (i := 12) (v := undef) rfl (by kernel_rfl) (by kernel_rfl) (by kernel_rfl) (fun _ _ _ h => h) (Or.inr ⟨rfl, rfl⟩) (by assumption) ?_)); simp only [Act.put, List.setIfInBounds_toArray, List.set_cons_zero, List.set_cons_succ]
    (first
      | (refine held_take (i := 13) (v := ?_) rfl (by kernel_rfl) (by kernel_rfl) (by kernel_rfl) (fun _ _ _ h => h) (Or.inl ⟨rfl, ?_⟩) (by assumption) ?_; rotate_left; (intro X hSw; (try dsimp only at hSw); (go_simp <;> with_reducible rfl)))
      | (refine held_take (i := 13) (v := undef) rfl (by kernel_rfl) (by kernel_rfl) (by kernel_rfl) (fun _ _ _ h => h) (Or.inr ⟨rfl, rfl⟩) (by assumption) ?_)); simp only [Act.put, List.setIfInBounds_toArray, List.set_cons_zero, List.set_cons_succ]
    (first
      | (refine held_take (i := 14) (v := ?_) rfl (by kernel_rfl) (by kernel_rfl) (by kernel_rfl) (fun _ _ _ h => h) (Or.inl ⟨rfl, ?_⟩) (by assumption) ?_; rotate_left; (intro X hSw; (try dsimp only at hSw); (go_simp <;> with_reducible rfl)))
      | (refine held_take (i := 14) (v := undef) rfl (by kernel_rfl) (by kernel_rfl) (by kernel_rfl) (fun _ _ _ h => h) (Or.inr ⟨rfl, rfl⟩) (by assumption) ?_)); simp only [Act.put, List.setIfInBounds_toArray, List.set_cons_zero, List.set_cons_succ]
    (first
      | (refine held_take (i := 15) (v := ?_) rfl (by kernel_rfl) (by kernel_rfl) (by kernel_rfl) (fun _ _ _ h => h) (Or.inl ⟨rfl, ?_⟩) (by assumption) ?_; rotate_left; (intro X hSw; (try dsimp only at hSw); (go_simp <;> with_reducible rfl)))
      | (refine held_take (i := 15) (v := undef) rfl (by kernel_rfl) (by kernel_rfl) (by kernel_rfl) (fun _ _ _ h => h) (Or.inr ⟨rfl, rfl⟩) (by assumption) ?_)); simp only [Act.put, List.setIfInBounds_toArray, List.set_cons_zero, List.set_cons_succ]
    refine wpAnyH_done (by kernel_rfl) ?_ _
    go_wp2
    go_ret
    exact EP.out _ (HOG.out.keep hB1) (HB00.out.trans (hB1.mono HB00.out.size))
  · have HOK := Lib.hid hok
    have OKL : Hid (∀ X, Pds X a ps → Calls Try.prog 22 #[.agg #[.int .i64 hd, .slice a ps.length c]] X fun e w' => e = .returned (.bool true) ∧ Below X.heap.size X w') := fun X h => by
      have := specOk_any hd ps a c X h hm HS.out
      rw [hok] at this
      exact this
    have L11 : Hid (∀ (hd2 : Int) (z : List Pv) (A2 : Option Addr) (cap2 : Nat) (X : World), IsTrim hd ps hd2 (z.map Pv.p) → Pds X A2 (z.map Pv.p) → Sts X A ts →
        Calls Try.prog 23 #[.agg #[.int .i64 hd2, .slice A2 z.length cap2], .agg #[.slice A ts.length C]] X fun e w' => e = .returned (.bool (chartOkB (z.map Pv.p) ts)) ∧ Below X.heap.size X w') := fun hd2 z A2 cap2 X hIT hp hst => by
      obtain ⟨e, h2⟩ := hIT.ok HOK.out
      have := l11Ok_any hd2 (z.map Pv.p) A2 cap2 ts A C X hp (by have := hIT.len; omega) (hIT.small HS.out) hst htm HTS.out
      rw [e, h2, List.length_map, Bool.true_and] at this
      rw [e]
      exact this
    clear hok
    by_cases h80 : 80 < ts.length
    · have h80' : (80 : Int) < (ts.length : Int) := by omega
      have d80 : decide ((80 : Int) < (ts.length : Int)) = true := decide_eq_true h80'
      have d80' : decide (80 < ts.length) = true := decide_eq_true h80
      have EP : Hid (∀ hd' qs w', IsTrim hd ps hd' qs → Own w' (w.heap.size + 1 + 1) 4 (bools (List.replicate 256 false)) → Below w.heap.size w w' → NextPost hd ps ts w (.returned (.slice (some ⟨w.heap.size + 1 + 1, 0, none⟩) 256 256)) w') := fun hd' qs w' hIT ho hb => ⟨hd', qs, _, hIT, rfl, by omega, by unfold nextAns; rw [if_neg (by simp; intro _ _; omega)]; exact ho, hb⟩
      go_enter Try.func13, Try.ntmps13
      go_wp2
      generalize ((w.alloc (.cells #[.int .i64 hd, .slice a ps.length c] 33)).alloc (.cells #[.slice A ts.length C] 37)).alloc (.cells MC 4) = W at *
      clear hmk
      have TRL : Hid (∀ X, Below W.heap.size W X → Calls Try.prog 24 #[.agg #[.int .i64 hd, .slice a ps.length c]] X (TrimPost hd ps X)) := fun X hb => specTrim_any hd ps vs a c X hv1 (BO0.out.keep hb) (RW0.out.keep hb) hv4 hm HS.out
      refine wp_region_held_drew (S := (fun X => X.cell? ⟨w.heap.size, 0, none⟩ = some (.int .i64 hd) ∧ X.cell? ⟨w.heap.size, 1, none⟩ = some (.slice a ps.length c) ∧ X.cell? ⟨w.heap.size + 1, 0, none⟩ = some (.slice A ts.length C))) (by kernel_rfl) ?_ (fun hHeld => ?_)
      · exact ⟨k0, k1, k2⟩
      (first
        | (refine held_take (i := 0) (v := ?_) rfl (by kernel_rfl) (by kernel_rfl) (by kernel_rfl) (fun _ _ _ h => h) (Or.inl ⟨rfl, ?_⟩) (by assumption) ?_; rotate_left; (intro X hSw; (try dsimp only at hSw); (go_simp <;> with_reducible rfl)))
        | (refine held_take (i := 0) (v := undef) rfl (by kernel_rfl) (by kernel_rfl) (by kernel_rfl) (fun _ _ _ h => h) (Or.inr ⟨rfl, rfl⟩) (by assumption) ?_)); simp only [Act.put, List.setIfInBounds_toArray, List.set_cons_zero, List.set_cons_succ]
      refine wpAnyH_ready (rs := [1]) (by kernel_rfl) (by simp) ?_
      refine AllReadyH.cons rfl (fun K hK => ?_) AllReadyH.nil
      go_simp
      go_wp2_with (go_at_call 22; refine (OKL.out _ PD0.out.drew).mono ?_; rintro e w1 ⟨rfl, hb1⟩; have hB1 : Below W.heap.size W w1 := (Below.refl W.heap.size W).drew.trans hb1)
      refine hK.out _ _ ?_ (fun hHeld => ?_)
      · exact ⟨cell_keep hb1 k0, cell_keep hb1 k1, cell_keep hb1 k2⟩
      clear hK K
      (first
        | (refine held_take (i := 2) (v := ?_) rfl (by kernel_rfl) (by kernel_rfl) (by kernel_rfl) (fun _ _ _ h => h) (Or.inl ⟨rfl, ?_⟩) (by assumption) ?_; rotate_left; (intro X hSw; (try dsimp only at hSw); (go_simp <;> with_reducible rfl)))
        | (refine held_take (i := 2) (v := undef) rfl (by kernel_rfl) (by kernel_rfl) (by kernel_rfl) (fun _ _ _ h => h) (Or.inr ⟨rfl, rfl⟩) (by assumption) ?_)); simp only [Act.put, List.setIfInBounds_toArray, List.set_cons_zero, List.set_cons_succ]
      (first
        | (refine held_take (i := 3) (v := ?_) rfl (by kernel_rfl) (by kernel_rfl) (by kernel_rfl) (fun _ _ _ h => h) (Or.inl ⟨rfl, ?_⟩) (by assumption) ?_; rotate_left; (intro X hSw; (try dsimp only at hSw); (go_simp <;> with_reducible rfl)))
        | (refine held_take (i := 3) (v := undef) rfl (by kernel_rfl) (by kernel_rfl) (by kernel_rfl) (fun _ _ _ h => h) (Or.inr ⟨rfl, rfl⟩) (by assumption) ?_)); simp only [Act.put, List.setIfInBounds_toArray, List.set_cons_zero, List.set_cons_succ]
      (first
        | (refine held_take (i := 4) (v := ?_) rfl (by kernel_rfl) (by kernel_rfl) (by kernel_rfl) (fun _ _ _ h => h) (Or.inl ⟨rfl, ?_⟩) (by assumption) ?_; rotate_left; (intro X hSw; (try dsimp only at hSw); (go_simp <;> with_reducible rfl)))
        | (refine held_take (i := 4) (v := undef) rfl (by kernel_rfl) (by kernel_rfl) (by kernel_rfl) (fun _ _ _ h => h) (Or.inr ⟨rfl, rfl⟩) (by assumption) ?_)); simp only [Act.put, List.setIfInBounds_toArray, List.set_cons_zero, List.set_cons_succ]
      (first
        | (refine held_take (i := 6) (v := ?_) rfl (by kernel_rfl) (by kernel_rfl) (by kernel_rfl) (fun _ _ _ h => h) (Or.inl ⟨rfl, ?_⟩) (by assumption) ?_; rotate_left; (intro X hSw; (try dsimp only at hSw); (go_simp <;> with_reducible rfl)))
        | (refine held_take (i := 6) (v := undef) rfl (by kernel_rfl) (by kernel_rfl) (by kernel_rfl) (fun _ _ _ h => h) (Or.inr ⟨rfl, rfl⟩) (by assumption) ?_)); simp only [Act.put, List.setIfInBounds_toArray, List.set_cons_zero, List.set_cons_succ]
      refine wpAnyH_ready (rs := [5]) (by kernel_rfl) (by simp) ?_
      refine AllReadyH.cons rfl (fun K hK => ?_) AllReadyH.nil
      go_simp
      go_wp2_with (go_at_call 24; refine (TRL.out _ hB1).mono ?_; rintro e w2 ⟨hd2, A2, cap2, z2, rfl, hIT2, hog2, hb2⟩; have hB2 : Below W.heap.size W w2 := hB1.trans (hb2.mono hB1.size))
      refine hK.out _ _ ?_ (fun hHeld => ?_)
      · exact ⟨cell_keep hb2 (cell_keep hb1 k0), cell_keep hb2 (cell_keep hb1 k1), cell_keep hb2 (cell_keep hb1 k2)⟩
      clear hK K
      refine wpAnyH_ready (rs := [7]) (by kernel_rfl) (by simp) ?_
      refine AllReadyH.cons rfl (fun K hK => ?_) AllReadyH.nil
      go_simp
      go_wp2_with (go_at_call 23; refine (L11.out hd2 z2 A2 cap2 _ hIT2 hog2.pds (ST0.out.keep hB2)).mono ?_; rintro e w3 ⟨rfl, hb3⟩)
      refine hK.out _ _ ?_ (fun hHeld => ?_)
      · exact ⟨cell_keep hb3 (cell_keep hb2 (cell_keep hb1 k0)), cell_keep hb3 (cell_keep hb2 (cell_keep hb1 k1)), cell_keep hb3 (cell_keep hb2 (cell_keep hb1 k2))⟩
      clear hK K
      have hB3 : Below W.heap.size W w3 := hB2.trans (hb3.mono hB2.size)
      have FIN := Lib.hid (EP.out _ _ w3 hIT2 (HOG.out.keep hB3) (HB00.out.trans (hB3.mono HB00.out.size)))
      clear hB1 hB2 hb1 hb2 hb3 hIT2 hog2
      cases hch : chartOkB (z2.map Pv.p) ts
      · clear hch
        (first
          | (refine held_take (i := 8) (v := ?_) rfl (by kernel_rfl) (by kernel_rfl) (by kernel_rfl) (fun _ _ _ h => h) (Or.inl ⟨rfl, ?_⟩) (by assumption) ?_; rotate_left; (intro X hSw; (try dsimp only at hSw); (go_simp <;> with_reducible rfl)))
          | (refine held_take (i := 8) (v := undef) rfl (by kernel_rfl) (by kernel_rfl) (by kernel_rfl) (fun _ _ _ h => h) (Or.inr ⟨rfl, rfl⟩) (by assumption) ?_)); simp only [Act.put, List.setIfInBounds_toArray, List.set_cons_zero, List.set_cons_succ]
        (first
          | (refine held_take (i := 9) (v := ?_) rfl (by kernel_rfl) (by kernel_rfl) (by kernel_rfl) (fun _ _ _ h => h) (Or.inl ⟨rfl, ?_⟩) (by assumption) ?_; rotate_left; (intro X hSw; (try dsimp only at hSw); (go_simp <;> with_reducible rfl)))
          | (refine held_take (i := 9) (v := undef) rfl (by kernel_rfl) (by kernel_rfl) (by kernel_rfl) (fun _ _ _ h => h) (Or.inr ⟨rfl, rfl⟩) (by assumption) ?_)); simp only [Act.put, List.setIfInBounds_toArray, List.set_cons_zero, List.set_cons_succ]
        (first
          | (refine held_take (i := 10) (v := ?_) rfl (by kernel_rfl) (by kernel_rfl) (by kernel_rfl) (fun _ _ _ h => h) (Or.inl ⟨rfl, ?_⟩) (by assumption) ?_; rotate_left; (intro X hSw; (try dsimp only at hSw); (go_simp <;> with_reducible rfl)))
          | (refine held_take (i := 10) (v := undef) rfl (by kernel_rfl) (by kernel_rfl) (by kernel_rfl) (fun _ _ _ h => h) (Or.inr ⟨rfl, rfl⟩) (by assumption) ?_)); simp only [Act.put, List.setIfInBounds_toArray, List.set_cons_zero, List.set_cons_succ]
        (first
          | (refine held_take (i := 11) (v := ?_) rfl (by kernel_rfl) (by kernel_rfl) (by kernel_rfl) (fun _ _ _ h => h) (Or.inl ⟨rfl, ?_⟩) (by assumption) ?_; rotate_left; (intro X hSw; (try dsimp only at hSw); (go_simp <;> with_reducible rfl)))
          | (refine held_take (i := 11) (v := undef) rfl (by kernel_rfl) (by kernel_rfl) (by kernel_rfl) (fun _ _ _ h => h) (Or.inr ⟨rfl, rfl⟩) (by assumption) ?_)); simp only [Act.put, List.setIfInBounds_toArray, List.set_cons_zero, List.set_cons_succ]
        (first
          | (refine held_take (i := 12) (v := ?_) rfl (by kernel_rfl) (by kernel_rfl) (by kernel_rfl) (fun _ _ _ h => h) (Or.inl ⟨rfl, ?_⟩) (by assumption) ?_; rotate_left; (intro X hSw; (try dsimp only at hSw); (go_simp <;> with_reducible rfl)))
          | (refine held_take (i := 12) (v := undef) rfl (by kernel_rfl) (by kernel_rfl) (by kernel_rfl) (fun _ _ _ h => h) (Or.inr ⟨rfl, rfl⟩) (by assumption) ?_)); simp only [Act.put, List.setIfInBounds_toArray, List.set_cons_zero, List.set_cons_succ]
        (first
          | (refine held_take (i := 13) (v := ?_) rfl (by kernel_rfl) (by kernel_rfl) (by kernel_rfl) (fun _ _ _ h => h) (Or.inl ⟨rfl, ?_⟩) (by assumption) ?_; rotate_left; (intro X hSw; (try dsimp only at hSw); (go_simp <;> with_reducible rfl)))
          | (refine held_take (i := 13) (v := undef) rfl (by kernel_rfl) (by kernel_rfl) (by kernel_rfl) (fun _ _ _ h => h) (Or.inr ⟨rfl, rfl⟩) (by assumption) ?_)); simp only [Act.put, List.setIfInBounds_toArray, List.set_cons_zero, List.set_cons_succ]
        (first
          | (refine held_take (i := 14) (v := ?_) rfl (by kernel_rfl) (by kernel_rfl) (by kernel_rfl) (fun _ _ _ h => h) (Or.inl ⟨rfl, ?_⟩) (by assumption) ?_; rotate_left; (intro X hSw; (try dsimp only at hSw); (go_simp <;> with_reducible rfl)))
          | (refine held_take (i := 14) (v := undef) rfl (by kernel_rfl) (by kernel_rfl) (by kernel_rfl) (fun _ _ _ h => h) (Or.inr ⟨rfl, rfl⟩) (by assumption) ?_)); simp only [Act.put, List.setIfInBounds_toArray, List.set_cons_zero, List.set_cons_succ]
        (first
          | (refine held_take (i := 15) (v := ?_) rfl (by kernel_rfl) (by kernel_rfl) (by kernel_rfl) (fun _ _ _ h => h) (Or.inl ⟨rfl, ?_⟩) (by assumption) ?_; rotate_left; (intro X hSw; (try dsimp only at hSw); (go_simp <;> with_reducible rfl)))
          | (refine held_take (i := 15) (v := undef) rfl (by kernel_rfl) (by kernel_rfl) (by kernel_rfl) (fun _ _ _ h => h) (Or.inr ⟨rfl, rfl⟩) (by assumption) ?_)); simp only [Act.put, List.setIfInBounds_toArray, List.set_cons_zero, List.set_cons_succ]
        refine wpAnyH_done (by kernel_rfl) ?_ _
        go_wp2
        go_ret
        exact FIN.out
      · clear hch
        (first
          | (refine held_take (i := 8) (v := ?_) rfl (by kernel_rfl) (by kernel_rfl) (by kernel_rfl) (fun _ _ _ h => h) (Or.inl ⟨rfl, ?_⟩) (by assumption) ?_; rotate_left; (intro X hSw; (try dsimp only at hSw); (go_simp <;> with_reducible rfl)))
          | (refine held_take (i := 8) (v := undef) rfl (by kernel_rfl) (by kernel_rfl) (by kernel_rfl) (fun _ _ _ h => h) (Or.inr ⟨rfl, rfl⟩) (by assumption) ?_)); simp only [Act.put, List.setIfInBounds_toArray, List.set_cons_zero, List.set_cons_succ]
        (first
          | (refine held_take (i := 9) (v := ?_) rfl (by kernel_rfl) (by kernel_rfl) (by kernel_rfl) (fun _ _ _ h => h) (Or.inl ⟨rfl, ?_⟩) (by assumption) ?_; rotate_left; (intro X hSw; (try dsimp only at hSw); (go_simp <;> with_reducible rfl)))
          | (refine held_take (i := 9) (v := undef) rfl (by kernel_rfl) (by kernel_rfl) (by kernel_rfl) (fun _ _ _ h => h) (Or.inr ⟨rfl, rfl⟩) (by assumption) ?_)); simp only [Act.put, List.setIfInBounds_toArray, List.set_cons_zero, List.set_cons_succ]
        (first
          | (refine held_take (i := 10) (v := ?_) rfl (by kernel_rfl) (by kernel_rfl) (by kernel_rfl) (fun _ _ _ h => h) (Or.inl ⟨rfl, ?_⟩) (by assumption) ?_; rotate_left; (intro X hSw; (try dsimp only at hSw); (go_simp <;> with_reducible rfl)))
          | (refine held_take (i := 10) (v := undef) rfl (by kernel_rfl) (by kernel_rfl) (by kernel_rfl) (fun _ _ _ h => h) (Or.inr ⟨rfl, rfl⟩) (by assumption) ?_)); simp only [Act.put, List.setIfInBounds_toArray, List.set_cons_zero, List.set_cons_succ]
        (first
          | (refine held_take (i := 11) (v := ?_) rfl (by kernel_rfl) (by kernel_rfl) (by kernel_rfl) (fun _ _ _ h => h) (Or.inl ⟨rfl, ?_⟩) (by assumption) ?_; rotate_left; (intro X hSw; (try dsimp only at hSw); (go_simp <;> with_reducible rfl)))
          | (refine held_take (i := 11) (v := undef) rfl (by kernel_rfl) (by kernel_rfl) (by kernel_rfl) (fun _ _ _ h => h) (Or.inr ⟨rfl, rfl⟩) (by assumption) ?_)); simp only [Act.put, List.setIfInBounds_toArray, List.set_cons_zero, List.set_cons_succ]
        (first
          | (refine held_take (i := 12) (v := ?_) rfl (by kernel_rfl) (by kernel_rfl) (by kernel_rfl) (fun _ _ _ h => h) (Or.inl ⟨rfl, ?_⟩) (by assumption) ?_; rotate_left; (intro X hSw; (try dsimp only at hSw); (go_simp <;> with_reducible rfl)))
          | (refine held_take (i := 12) (v := undef) rfl (by kernel_rfl) (by kernel_rfl) (by kernel_rfl) (fun _ _ _ h => h) (Or.inr ⟨rfl, rfl⟩) (by assumption) ?_)); simp only [Act.put, List.setIfInBounds_toArray, List.set_cons_zero, List.set_cons_succ]
        (first
          | (refine held_take (i := 13) (v := ?_) rfl (by kernel_rfl) (by kernel_rfl) (by kernel_rfl) (fun _ _ _ h => h) (Or.inl ⟨rfl, ?_⟩) (by assumption) ?_; rotate_left; (intro X hSw; (try dsimp only at hSw); (go_simp <;> with_reducible rfl)))
          | (refine held_take (i := 13) (v := undef) rfl (by kernel_rfl) (by kernel_rfl) (by kernel_rfl) (fun _ _ _ h => h) (Or.inr ⟨rfl, rfl⟩) (by assumption) ?_)); simp only [Act.put, List.setIfInBounds_toArray, List.set_cons_zero, List.set_cons_succ]
        (first
          | (refine held_take (i := 14) (v := ?_) rfl (by kernel_rfl) (by kernel_rfl) (by kernel_rfl) (fun _ _ _ h => h) (Or.inl ⟨rfl, ?_⟩) (by assumption) ?_; rotate_left; (intro X hSw; (try dsimp only at hSw); (go_simp <;> with_reducible rfl)))
          | (refine held_take (i := 14) (v := undef) rfl (by kernel_rfl) (by kernel_rfl) (by kernel_rfl) (fun _ _ _ h => h) (Or.inr ⟨rfl, rfl⟩) (by assumption) ?_)); simp only [Act.put, List.setIfInBounds_toArray, List.set_cons_zero, List.set_cons_succ]
        (first
          | (refine held_take (i := 15) (v := ?_) rfl (by kernel_rfl) (by kernel_rfl) (by kernel_rfl) (fun _ _ _ h => h) (Or.inl ⟨rfl, ?_⟩) (by assumption) ?_; rotate_left; (intro X hSw; (try dsimp only at hSw); (go_simp <;> with_reducible rfl)))
          | (refine held_take (i := 15) (v := undef) rfl (by kernel_rfl) (by kernel_rfl) (by kernel_rfl) (fun _ _ _ h => h) (Or.inr ⟨rfl, rfl⟩) (by assumption) ?_)); simp only [Act.put, List.setIfInBounds_toArray, List.set_cons_zero, List.set_cons_succ]
        refine wpAnyH_done (by kernel_rfl) ?_ _
        go_wp2
        go_ret
        exact FIN.out
    · have h80' : ¬ (80 : Int) < (ts.length : Int) := by omega
      have d80 : decide ((80 : Int) < (ts.length : Int)) = false := decide_eq_false h80'
      have d80' : decide (80 < ts.length) = false := decide_eq_false h80
      go_enter Try.func13, Try.ntmps13
      go_wp2
      generalize ((w.alloc (.cells #[.int .i64 hd, .slice a ps.length c] 33)).alloc (.cells #[.slice A ts.length C] 37)).alloc (.cells MC 4) = W at *
      clear hmk
      have TRL : Hid (∀ X, Below W.heap.size W X → Calls Try.prog 24 #[.agg #[.int .i64 hd, .slice a ps.length c]] X (TrimPost hd ps X)) := fun X hb => specTrim_any hd ps vs a c X hv1 (BO0.out.keep hb) (RW0.out.keep hb) hv4 hm HS.out
      refine wp_region_held_drew (S := (fun X => X.cell? ⟨w.heap.size, 0, none⟩ = some (.int .i64 hd) ∧ X.cell? ⟨w.heap.size, 1, none⟩ = some (.slice a ps.length c) ∧ X.cell? ⟨w.heap.size + 1, 0, none⟩ = some (.slice A ts.length C))) (by kernel_rfl) ?_ (fun hHeld => ?_)
      · exact ⟨k0, k1, k2⟩
      (first
        | (refine held_take (i := 0) (v := ?_) rfl (by kernel_rfl) (by kernel_rfl) (by kernel_rfl) (fun _ _ _ h => h) (Or.inl ⟨rfl, ?_⟩) (by assumption) ?_; rotate_left; (intro X hSw; (try dsimp only at hSw); (go_simp <;> with_reducible rfl)))
        | (refine held_take (i := 0) (v := undef) rfl (by kernel_rfl) (by kernel_rfl) (by kernel_rfl) (fun _ _ _ h => h) (Or.inr ⟨rfl, rfl⟩) (by assumption) ?_)); simp only [Act.put, List.setIfInBounds_toArray, List.set_cons_zero, List.set_cons_succ]
      refine wpAnyH_ready (rs := [1]) (by kernel_rfl) (by simp) ?_
      refine AllReadyH.cons rfl (fun K hK => ?_) AllReadyH.nil
      go_simp
      go_wp2_with (go_at_call 22; refine (OKL.out _ PD0.out.drew).mono ?_; rintro e w1 ⟨rfl, hb1⟩; have hB1 : Below W.heap.size W w1 := (Below.refl W.heap.size W).drew.trans hb1)
      refine hK.out _ _ ?_ (fun hHeld => ?_)
      · exact ⟨cell_keep hb1 k0, cell_keep hb1 k1, cell_keep hb1 k2⟩
      clear hK K
      (first
        | (refine held_take (i := 2) (v := ?_) rfl (by kernel_rfl) (by kernel_rfl) (by kernel_rfl) (fun _ _ _ h => h) (Or.inl ⟨rfl, ?_⟩) (by assumption) ?_; rotate_left; (intro X hSw; (try dsimp only at hSw); (go_simp <;> with_reducible rfl)))
        | (refine held_take (i := 2) (v := undef) rfl (by kernel_rfl) (by kernel_rfl) (by kernel_rfl) (fun _ _ _ h => h) (Or.inr ⟨rfl, rfl⟩) (by assumption) ?_)); simp only [Act.put, List.setIfInBounds_toArray, List.set_cons_zero, List.set_cons_succ]
      (first
        | (refine held_take (i := 3) (v := ?_) rfl (by kernel_rfl) (by kernel_rfl) (by kernel_rfl) (fun _ _ _ h => h) (Or.inl ⟨rfl, ?_⟩) (by assumption) ?_; rotate_left; (intro X hSw; (try dsimp only at hSw); (go_simp <;> with_reducible rfl)))
        | (refine held_take (i := 3) (v := undef) rfl (by kernel_rfl) (by kernel_rfl) (by kernel_rfl) (fun _ _ _ h => h) (Or.inr ⟨rfl, rfl⟩) (by assumption) ?_)); simp only [Act.put, List.setIfInBounds_toArray, List.set_cons_zero, List.set_cons_succ]
      (first
        | (refine held_take (i := 4) (v := ?_) rfl (by kernel_rfl) (by kernel_rfl) (by kernel_rfl) (fun _ _ _ h => h) (Or.inl ⟨rfl, ?_⟩) (by assumption) ?_; rotate_left; (intro X hSw; (try dsimp only at hSw); (go_simp <;> with_reducible rfl)))
        | (refine held_take (i := 4) (v := undef) rfl (by kernel_rfl) (by kernel_rfl) (by kernel_rfl) (fun _ _ _ h => h) (Or.inr ⟨rfl, rfl⟩) (by assumption) ?_)); simp only [Act.put, List.setIfInBounds_toArray, List.set_cons_zero, List.set_cons_succ]
      (first
        | (refine held_take (i := 6) (v := ?_) rfl (by kernel_rfl) (by kernel_rfl) (by kernel_rfl) (fun _ _ _ h => h) (Or.inl ⟨rfl, ?_⟩) (by assumption) ?_; rotate_left; (intro X hSw; (try dsimp only at hSw); (go_simp <;> with_reducible rfl)))
        | (refine held_take (i := 6) (v := undef) rfl (by kernel_rfl) (by kernel_rfl) (by kernel_rfl) (fun _ _ _ h => h) (Or.inr ⟨rfl, rfl⟩) (by assumption) ?_)); simp only [Act.put, List.setIfInBounds_toArray, List.set_cons_zero, List.set_cons_succ]
      refine wpAnyH_ready (rs := [5]) (by kernel_rfl) (by simp) ?_
      refine AllReadyH.cons rfl (fun K hK => ?_) AllReadyH.nil
      go_simp
      go_wp2_with (go_at_call 24; refine (TRL.out _ hB1).mono ?_; rintro e w2 ⟨hd2, A2, cap2, z2, rfl, hIT2, hog2, hb2⟩; have hB2 : Below W.heap.size W w2 := hB1.trans (hb2.mono hB1.size))
      refine hK.out _ _ ?_ (fun hHeld => ?_)
      · exact ⟨cell_keep hb2 (cell_keep hb1 k0), cell_keep hb2 (cell_keep hb1 k1), cell_keep hb2 (cell_keep hb1 k2)⟩
      clear hK K
      refine wpAnyH_ready (rs := [7]) (by kernel_rfl) (by simp) ?_
      refine AllReadyH.cons rfl (fun K hK => ?_) AllReadyH.nil
      go_simp
      go_wp2_with (go_at_call 23; refine (L11.out hd2 z2 A2 cap2 _ hIT2 hog2.pds (ST0.out.keep hB2)).mono ?_; rintro e w3 ⟨rfl, hb3⟩)
      refine hK.out _ _ ?_ (fun hHeld => ?_)
      · exact ⟨cell_keep hb3 (cell_keep hb2 (cell_keep hb1 k0)), cell_keep hb3 (cell_keep hb2 (cell_keep hb1 k1)), cell_keep hb3 (cell_keep hb2 (cell_keep hb1 k2))⟩
      clear hK K
      have hB3 : Below W.heap.size W w3 := hB2.trans (hb3.mono hB2.size)
      have HBW3 := Lib.hid hB3
      have HBW := Lib.hid (HB00.out.trans (hB3.mono HB00.out.size))
      have HO3 := Lib.hid (HOG.out.keep hB3)
      replace k0 := cell_keep hB3 k0
      replace k1 := cell_keep hB3 k1
      replace k2 := cell_keep hB3 k2
      have HIT := Lib.hid hIT2
      generalize z2.map Pv.p = qs at *
      clear hB1 hB2 hb1 hb2 hb3 hIT2 hog2 hB3
      cases hch : chartOkB qs ts
      · have FIN : Hid (NextPost hd ps ts w (.returned (.slice (some ⟨w.heap.size + 1 + 1, 0, none⟩) 256 256)) w3) := ⟨hd2, qs, _, HIT.out, rfl, by omega, by unfold nextAns; rw [if_neg (by simp [hch])]; exact HO3.out, HBW.out⟩
        clear hch
        (first
          | (refine held_take (i := 8) (v := ?_) rfl (by kernel_rfl) (by kernel_rfl) (by kernel_rfl) (fun _ _ _ h => h) (Or.inl ⟨rfl, ?_⟩) (by assumption) ?_; rotate_left; (intro X hSw; (try dsimp only at hSw); (go_simp <;> with_reducible rfl)))
          | (refine held_take (i := 8) (v := undef) rfl (by kernel_rfl) (by kernel_rfl) (by kernel_rfl) (fun _ _ _ h => h) (Or.inr ⟨rfl, rfl⟩) (by assumption) ?_)); simp only [Act.put, List.setIfInBounds_toArray, List.set_cons_zero, List.set_cons_succ]
        (first
          | (refine held_take (i := 9) (v := ?_) rfl (by kernel_rfl) (by kernel_rfl) (by kernel_rfl) (fun _ _ _ h => h) (Or.inl ⟨rfl, ?_⟩) (by assumption) ?_; rotate_left; (intro X hSw; (try dsimp only at hSw); (go_simp <;> with_reducible rfl)))
          | (refine held_take (i := 9) (v := undef) rfl (by kernel_rfl) (by kernel_rfl) (by kernel_rfl) (fun _ _ _ h => h) (Or.inr ⟨rfl, rfl⟩) (by assumption) ?_)); simp only [Act.put, List.setIfInBounds_toArray, List.set_cons_zero, List.set_cons_succ]
        (first
          | (refine held_take (i := 10) (v := ?_) rfl (by kernel_rfl) (by kernel_rfl) (by kernel_rfl) (fun _ _ _ h => h) (Or.inl ⟨rfl, ?_⟩) (by assumption) ?_; rotate_left; (intro X hSw; (try dsimp only at hSw); (go_simp <;> with_reducible rfl)))
          | (refine held_take (i := 10) (v := undef) rfl (by kernel_rfl) (by kernel_rfl) (by kernel_rfl) (fun _ _ _ h => h) (Or.inr ⟨rfl, rfl⟩) (by assumption) ?_)); simp only [Act.put, List.setIfInBounds_toArray, List.set_cons_zero, List.set_cons_succ]
        (first
          | (refine held_take (i := 11) (v := ?_) rfl (by kernel_rfl) (by kernel_rfl) (by kernel_rfl) (fun _ _ _ h => h) (Or.inl ⟨rfl, ?_⟩) (by assumption) ?_; rotate_left; (intro X hSw; (try dsimp only at hSw); (go_simp <;> with_reducible rfl)))
          | (refine held_take (i := 11) (v := undef) rfl (by kernel_rfl) (by kernel_rfl) (by kernel_rfl) (fun _ _ _ h => h) (Or.inr ⟨rfl, rfl⟩) (by assumption) ?_)); simp only [Act.put, List.setIfInBounds_toArray, List.set_cons_zero, List.set_cons_succ]
        (first
          | (refine held_take (i := 12) (v := ?_) rfl (by kernel_rfl) (by kernel_rfl) (by kernel_rfl) (fun _ _ _ h => h) (Or.inl ⟨rfl, ?_⟩) (by assumption) ?_; rotate_left; (intro X hSw; (try dsimp only at hSw); (go_simp <;> with_reducible rfl)))
          | (refine held_take (i := 12) (v := undef) rfl (by kernel_rfl) (by kernel_rfl) (by kernel_rfl) (fun _ _ _ h => h) (Or.inr ⟨rfl, rfl⟩) (by assumption) ?_)); simp only [Act.put, List.setIfInBounds_toArray, List.set_cons_zero, List.set_cons_succ]
        (first
          | (refine held_take (i := 13) (v := ?_) rfl (by kernel_rfl) (by kernel_rfl) (by kernel_rfl) (fun _ _ _ h => h) (Or.inl ⟨rfl, ?_⟩) (by assumption) ?_; rotate_left; (intro X hSw; (try dsimp only at hSw); (go_simp <;> with_reducible rfl)))
          | (refine held_take (i := 13) (v := undef) rfl (by kernel_rfl) (by kernel_rfl) (by kernel_rfl) (fun _ _ _ h => h) (Or.inr ⟨rfl, rfl⟩) (by assumption) ?_)); simp only [Act.put, List.setIfInBounds_toArray, List.set_cons_zero, List.set_cons_succ]
        (first
          | (refine held_take (i := 14) (v := ?_) rfl (by kernel_rfl) (by kernel_rfl) (by kernel_rfl) (fun _ _ _ h => h) (Or.inl ⟨rfl, ?_⟩) (by assumption) ?_; rotate_left; (intro X hSw; (try dsimp only at hSw); (go_simp <;> with_reducible rfl)))
          | (refine held_take (i := 14) (v := undef) rfl (by kernel_rfl) (by kernel_rfl) (by kernel_rfl) (fun _ _ _ h => h) (Or.inr ⟨rfl, rfl⟩) (by assumption) ?_)); simp only [Act.put, List.setIfInBounds_toArray, List.set_cons_zero, List.set_cons_succ]
        (first
          | (refine held_take (i := 15) (v := ?_) rfl (by kernel_rfl) (by kernel_rfl) (by kernel_rfl) (fun _ _ _ h => h) (Or.inl ⟨rfl, ?_⟩) (by assumption) ?_; rotate_left; (intro X hSw; (try dsimp only at hSw); (go_simp <;> with_reducible rfl)))
          | (refine held_take (i := 15) (v := undef) rfl (by kernel_rfl) (by kernel_rfl) (by kernel_rfl) (fun _ _ _ h => h) (Or.inr ⟨rfl, rfl⟩) (by assumption) ?_)); simp only [Act.put, List.setIfInBounds_toArray, List.set_cons_zero, List.set_cons_succ]
        refine wpAnyH_done (by kernel_rfl) ?_ _
        go_wp2
        go_ret
        exact FIN.out
      · have HCH := Lib.hid hch
        have htl : 1 ≤ ts.length := by unfold chartOkB at hch; simp at hch; omega
        have EPT : Hid (∀ w', Own w' (w.heap.size + 1 + 1) 4 (bools (nextTo qs (lastT ts) (lastT ts).length)) → Below w.heap.size w w' → NextPost hd ps ts w (.returned (.slice (some ⟨w.heap.size + 1 + 1, 0, none⟩) 256 256)) w') := fun w' ho hb => ⟨hd2, qs, _, HIT.out, rfl, by omega, by unfold nextAns; rw [if_pos (by rw [HOK.out, HCH.out, decide_eq_true (by omega : ts.length ≤ 80)]; rfl)]; exact ho, hb⟩
        clear hch
        (first
          | (refine held_take (i := 8) (v := ?_) rfl (by kernel_rfl) (by kernel_rfl) (by kernel_rfl) (fun _ _ _ h => h) (Or.inl ⟨rfl, ?_⟩) (by assumption) ?_; rotate_left; (intro X hSw; (try dsimp only at hSw); (go_simp <;> with_reducible rfl)))
          | (refine held_take (i := 8) (v := undef) rfl (by kernel_rfl) (by kernel_rfl) (by kernel_rfl) (fun _ _ _ h => h) (Or.inr ⟨rfl, rfl⟩) (by assumption) ?_)); simp only [Act.put, List.setIfInBounds_toArray, List.set_cons_zero, List.set_cons_succ]
        (first
          | (refine held_take (i := 9) (v := ?_) rfl (by kernel_rfl) (by kernel_rfl) (by kernel_rfl) (fun _ _ _ h => h) (Or.inl ⟨rfl, ?_⟩) (by assumption) ?_; rotate_left; (intro X hSw; (try dsimp only at hSw); (go_simp <;> with_reducible rfl)))
          | (refine held_take (i := 9) (v := undef) rfl (by kernel_rfl) (by kernel_rfl) (by kernel_rfl) (fun _ _ _ h => h) (Or.inr ⟨rfl, rfl⟩) (by assumption) ?_)); simp only [Act.put, List.setIfInBounds_toArray, List.set_cons_zero, List.set_cons_succ]
        (first
          | (refine held_take (i := 10) (v := ?_) rfl (by kernel_rfl) (by kernel_rfl) (by kernel_rfl) (fun _ _ _ h => h) (Or.inl ⟨rfl, ?_⟩) (by assumption) ?_; rotate_left; (intro X hSw; (try dsimp only at hSw); (go_simp <;> with_reducible rfl)))
          | (refine held_take (i := 10) (v := undef) rfl (by kernel_rfl) (by kernel_rfl) (by kernel_rfl) (fun _ _ _ h => h) (Or.inr ⟨rfl, rfl⟩) (by assumption) ?_)); simp only [Act.put, List.setIfInBounds_toArray, List.set_cons_zero, List.set_cons_succ]
        (first
          | (refine held_take (i := 11) (v := ?_) rfl (by kernel_rfl) (by kernel_rfl) (by kernel_rfl) (fun _ _ _ h => h) (Or.inl ⟨rfl, ?_⟩) (by assumption) ?_; rotate_left; (intro X hSw; (try dsimp only at hSw); (go_simp <;> with_reducible rfl)))
          | (refine held_take (i := 11) (v := undef) rfl (by kernel_rfl) (by kernel_rfl) (by kernel_rfl) (fun _ _ _ h => h) (Or.inr ⟨rfl, rfl⟩) (by assumption) ?_)); simp only [Act.put, List.setIfInBounds_toArray, List.set_cons_zero, List.set_cons_succ]
        (first
          | (refine held_take (i := 12) (v := ?_) rfl (by kernel_rfl) (by kernel_rfl) (by kernel_rfl) (fun _ _ _ h => h) (Or.inl ⟨rfl, ?_⟩) (by assumption) ?_; rotate_left; (intro X hSw; (try dsimp only at hSw); (go_simp <;> with_reducible rfl)))
          | (refine held_take (i := 12) (v := undef) rfl (by kernel_rfl) (by kernel_rfl) (by kernel_rfl) (fun _ _ _ h => h) (Or.inr ⟨rfl, rfl⟩) (by assumption) ?_)); simp only [Act.put, List.setIfInBounds_toArray, List.set_cons_zero, List.set_cons_succ]
        (first
          | (refine held_take (i := 13) (v := ?_) rfl (by kernel_rfl) (by kernel_rfl) (by kernel_rfl) (fun _ _ _ h => h) (Or.inl ⟨rfl, ?_⟩) (by assumption) ?_; rotate_left; (intro X hSw; (try dsimp only at hSw); (go_simp <;> with_reducible rfl)))
          | (refine held_take (i := 13) (v := undef) rfl (by kernel_rfl) (by kernel_rfl) (by kernel_rfl) (fun _ _ _ h => h) (Or.inr ⟨rfl, rfl⟩) (by assumption) ?_)); simp only [Act.put, List.setIfInBounds_toArray, List.set_cons_zero, List.set_cons_succ]
        (first
          | (refine held_take (i := 14) (v := ?_) rfl (by kernel_rfl) (by kernel_rfl) (by kernel_rfl) (fun _ _ _ h => h) (Or.inl ⟨rfl, ?_⟩) (by assumption) ?_; rotate_left; (intro X hSw; (try dsimp only at hSw); (go_simp <;> with_reducible rfl)))
          | (refine held_take (i := 14) (v := undef) rfl (by kernel_rfl) (by kernel_rfl) (by kernel_rfl) (fun _ _ _ h => h) (Or.inr ⟨rfl, rfl⟩) (by assumption) ?_)); simp only [Act.put, List.setIfInBounds_toArray, List.set_cons_zero, List.set_cons_succ]
        (first
          | (refine held_take (i := 15) (v := ?_) rfl (by kernel_rfl) (by kernel_rfl) (by kernel_rfl) (fun _ _ _ h => h) (Or.inl ⟨rfl, ?_⟩) (by assumption) ?_; rotate_left; (intro X hSw; (try dsimp only at hSw); (go_simp <;> with_reducible rfl)))
          | (refine held_take (i := 15) (v := undef) rfl (by kernel_rfl) (by kernel_rfl) (by kernel_rfl) (fun _ _ _ h => h) (Or.inr ⟨rfl, rfl⟩) (by assumption) ?_)); simp only [Act.put, List.setIfInBounds_toArray, List.set_cons_zero, List.set_cons_succ]
        refine wpAnyH_done (by kernel_rfl) ?_ _
        have T5 := Lib.hid (TRL.out _ HBW3.out)
        clear hHeld
        go_wp2_with fail
        refine T5.out.mono ?_
        rintro e w5 ⟨hd5, A5, cap5, z5, rfl, hIT5, hog5, hb5⟩
        obtain ⟨e1, e2⟩ := hIT5.one HIT.out
        have hz5 : z5.length = qs.length := by rw [← e2]; simp
        rw [hz5]
        have hG5 := hog5.keep (below_box (.cells #[.int .i64 hd5, .slice A5 qs.length cap5] 33))
        have hgl : w.heap.size + 1 + 1 < w3.heap.size := HO3.out.lt
        replace k2 := cell_alloc (o := .cells #[.int .i64 hd5, .slice A5 qs.length cap5] 33) (cell_keep hb5 k2)
        have HB5 := Lib.hid ((HBW.out.trans (hb5.mono HBW.out.size)).alloc (Nat.le_trans HBW.out.size hb5.size) (.cells #[.int .i64 hd5, .slice A5 qs.length cap5] 33))
        have y0 : (w5.alloc (.cells #[.int .i64 hd5, .slice A5 qs.length cap5] 33)).cell? ⟨w5.heap.size, 0, none⟩ = some (.int .i64 hd5) := by simp
        have y1 : (w5.alloc (.cells #[.int .i64 hd5, .slice A5 qs.length cap5] 33)).cell? ⟨w5.heap.size, 1, none⟩ = some (.slice A5 qs.length cap5) := by simp
        have hO5 := (HO3.out.keep hb5).alloc (.cells #[.int .i64 hd5, .slice A5 qs.length cap5] 33)
        have hw5 : w3.heap.size ≤ w5.heap.size := hb5.size
        have HE2 := Lib.hid e2
        obtain ⟨K, hK⟩ : ∃ K, ts.length = K + 1 := ⟨ts.length - 1, by omega⟩
        obtain ⟨b, off, rfl, LK, lkc, c0W, hlastW⟩ := HT.out.at_ (show K < ts.length by omega)
        have c0 := cell_keep HB5.out c0W
        have hlt := lastT_eq hK
        have HIT5 : Hid (∀ x ∈ ts[K]'(by omega), itemOkB qs K x = true) := chart_items HCH.out (by omega)
        have hsml := HTS.out _ (List.getElem_mem (show K < ts.length by omega))
        rw [← hlt] at c0 hlastW HIT5 hsml
        have hwK : IntKind.i64.wrap ((ts.length : Int) - 1) = (K : Int) := by rw [IntKind.wrap_i64]; omega
        have hKl : (K : Int) < (ts.length : Int) := by omega
        have HLA := Lib.hid hlastW
        have hq4 := HIT.out.len
        have HQS := Lib.hid (HIT.out.small HS.out)
        have HSYM := Lib.hid (HIT.out.syms HOK.out)
        have HBY := Lib.hid (HIT.out.bytes HOK.out)
        have HK := Lib.hid hK
        clear hlastW hK hlt htl HCH HOK hb5 hog5 hIT5 e1 e2 k0 k1 hz5 T5 c0W
        generalize lastT ts = t at *
        generalize hX : w5.alloc (.cells #[.int .i64 hd5, .slice A5 qs.length cap5] 33) = X5 at *
        have hs5 : w5.heap.size < X5.heap.size := by rw [← hX]; simp
        go_wp2
        clear hX k2 c0
        go_loopw [8] (fun i wr => ∃ k : Nat, k ≤ t.length ∧ i = .int .i64 k ∧ Own wr (w.heap.size + 1 + 1) 4 (bools (nextTo qs t k)) ∧ Fr (fun j => j = w.heap.size + 1 + 1) (fun j => j = w.heap.size + 1 + 1) X5 wr ∧ Below w.heap.size w wr) (fun i _ => t.length - (intOf i).toNat)
        case atStart => exact ⟨0, Nat.zero_le _, rfl, hO5, Fr.refl _ _, HB5.out⟩
        case round =>
          clear hO5
          obtain ⟨k, hk, rfl, hO, hf, hb⟩ := hrel
          by_cases hlt : k < t.length
          · obtain ⟨kb, ko, rfl, hsy⟩ := (HLA.out.keep hb).at_ hlt
            obtain ⟨s0, s1, s2⟩ := hsy
            have hlt' : (k : Int) < (t.length : Int) := by omega
            obtain ⟨i, d, f, hi, hx, hdl, _⟩ := item_parts (HIT5.out _ (List.getElem_mem hlt))
            have NS : Hid (nextTo qs t (k + 1) = match qs[i].body[d]? with | some s => if s.head = -1 then fill (nextTo qs t k) s.low.toNat (s.high + 1 - s.low).toNat else nextTo qs t k | none => nextTo qs t k) := by
              show _ = _
              rw [nextTo_succ qs t k hlt, hx]
              unfold stepN
              simp only [pAt_nat hi, Int.toNat_natCast]
            rw [hx] at s0 s1 s2
            simp only at s0 s1 s2
            clear hx
            have hog : OG wr w3.heap.size A5 cap5 z5 := hf.og hG5 (fun j hj e => by have := (hG5.ge hj).1; omega)
            have hpx : Pds wr A5 qs := by rw [← HE2.out]; exact hog.pds
            have HPX := Lib.hid hpx
            have y0r := hf.cell y0 (fun e => by simp only at e; omega)
            have y1r := hf.cell y1 (fun e => by simp only at e; omega)
            obtain ⟨pb, po, rfl, PK, pk, hpn⟩ := hpx.at_ hi
            have hpc := hpn.c1
            have hpk := hpn.k
            have HSM := Lib.hid (HSYM.out _ (List.getElem_mem hi))
            have HBM := Lib.hid (HBY.out _ (List.getElem_mem hi))
            have hpl := HQS.out _ (List.getElem_mem hi)
            have HDL0 : Hid (∀ X, Pds X (some ⟨pb, po, none⟩) qs → Calls Try.prog 25 #[.agg #[.int .i64 hd5, .slice (some ⟨pb, po, none⟩) qs.length cap5], .agg #[.int .i64 (i : Int), .int .i64 (d : Int), .int .i64 (f : Int)]] X fun e w' => e = .returned (.int .i64 (waitB qs[i] d)) ∧ Below X.heap.size X w') := fun X h => head_any hd5 qs _ cap5 i d f X h (by omega) HQS.out hi hdl
            clear hpn hpx hog
            have hii : (i : Int) < (qs.length : Int) := by omega
            generalize qs[i] = p at *
            by_cases hw1 : waitB p d = -1
            · have hdl2 : d < p.body.length := by
                rcases Nat.lt_or_ge d p.body.length with h1 | h1
                · exact h1
                · unfold waitB at hw1; rw [List.getElem?_eq_none h1] at hw1; cases hw1
              have hsh : p.body[d].head = -1 := by unfold waitB at hw1; rw [List.getElem?_eq_getElem hdl2] at hw1; exact hw1
              have hsb := HBM.out _ (List.getElem_mem hdl2) hsh
              rw [List.getElem?_eq_getElem hdl2] at NS
              simp only [hsh, if_true] at NS
              obtain ⟨sb, so, rfl, hsy2⟩ := hpk.at_ hdl2
              obtain ⟨t0, t1, t2⟩ := hsy2
              have HDL : Hid (∀ X, Pds X (some ⟨pb, po, none⟩) qs → Calls Try.prog 25 #[.agg #[.int .i64 hd5, .slice (some ⟨pb, po, none⟩) qs.length cap5], .agg #[.int .i64 (i : Int), .int .i64 (d : Int), .int .i64 (f : Int)]] X fun e w' => e = .returned (.int .i64 (-1)) ∧ Below X.heap.size X w') := fun X h => by
                have := HDL0.out X h
                rw [hw1] at this
                exact this
              clear hw1 HDL0 hsh
              generalize p.body[d] = s at *
              have y0 := y0r
              have y1 := y1r
              go_wp2
              refine wp_region_held_drew (S := (fun X => X.cell? ⟨kb, ko + k * 3, none⟩ = some (.int .i64 (i : Int)) ∧ X.cell? ⟨kb, ko + k * 3 + 1, none⟩ = some (.int .i64 (d : Int)) ∧ X.cell? ⟨kb, ko + k * 3 + 2, none⟩ = some (.int .i64 (f : Int)) ∧ X.cell? ⟨w5.heap.size, 0, none⟩ = some (.int .i64 hd5) ∧ X.cell? ⟨w5.heap.size, 1, none⟩ = some (.slice (some ⟨pb, po, none⟩) qs.length cap5))) (by kernel_rfl) ?_ (fun hHeld => ?_)
              · exact ⟨s0, s1, s2, y0, y1⟩
              (first
                | (refine held_take (i := 0) (v := ?_) rfl (by kernel_rfl) (by kernel_rfl) (by kernel_rfl) (fun _ _ _ h => h) (Or.inl ⟨rfl, ?_⟩) (by assumption) ?_; rotate_left; (intro X hSw; (try dsimp only at hSw); (go_simp <;> with_reducible rfl)))
                | (refine held_take (i := 0) (v := undef) rfl (by kernel_rfl) (by kernel_rfl) (by kernel_rfl) (fun _ _ _ h => h) (Or.inr ⟨rfl, rfl⟩) (by assumption) ?_)); simp only [Act.put, List.setIfInBounds_toArray, List.set_cons_zero, List.set_cons_succ]
              (first
                | (refine held_take (i := 1) (v := ?_) rfl (by kernel_rfl) (by kernel_rfl) (by kernel_rfl) (fun _ _ _ h => h) (Or.inl ⟨rfl, ?_⟩) (by assumption) ?_; rotate_left; (intro X hSw; (try dsimp only at hSw); (go_simp <;> with_reducible rfl)))
                | (refine held_take (i := 1) (v := undef) rfl (by kernel_rfl) (by kernel_rfl) (by kernel_rfl) (fun _ _ _ h => h) (Or.inr ⟨rfl, rfl⟩) (by assumption) ?_)); simp only [Act.put, List.setIfInBounds_toArray, List.set_cons_zero, List.set_cons_succ]
              (first
                | (refine held_take (i := 2) (v := ?_) rfl (by kernel_rfl) (by kernel_rfl) (by kernel_rfl) (fun _ _ _ h => h) (Or.inl ⟨rfl, ?_⟩) (by assumption) ?_; rotate_left; (intro X hSw; (try dsimp only at hSw); (go_simp <;> with_reducible rfl)))
                | (refine held_take (i := 2) (v := undef) rfl (by kernel_rfl) (by kernel_rfl) (by kernel_rfl) (fun _ _ _ h => h) (Or.inr ⟨rfl, rfl⟩) (by assumption) ?_)); simp only [Act.put, List.setIfInBounds_toArray, List.set_cons_zero, List.set_cons_succ]
              (first
                | (refine held_take (i := 3) (v := ?_) rfl (by kernel_rfl) (by kernel_rfl) (by kernel_rfl) (fun _ _ _ h => h) (Or.inl ⟨rfl, ?_⟩) (by assumption) ?_; rotate_left; (intro X hSw; (try dsimp only at hSw); (go_simp <;> with_reducible rfl)))
                | (refine held_take (i := 3) (v := undef) rfl (by kernel_rfl) (by kernel_rfl) (by kernel_rfl) (fun _ _ _ h => h) (Or.inr ⟨rfl, rfl⟩) (by assumption) ?_)); simp only [Act.put, List.setIfInBounds_toArray, List.set_cons_zero, List.set_cons_succ]
              (first
                | (refine held_take (i := 4) (v := ?_) rfl (by kernel_rfl) (by kernel_rfl) (by kernel_rfl) (fun _ _ _ h => h) (Or.inl ⟨rfl, ?_⟩) (by assumption) ?_; rotate_left; (intro X hSw; (try dsimp only at hSw); (go_simp <;> with_reducible rfl)))
                | (refine held_take (i := 4) (v := undef) rfl (by kernel_rfl) (by kernel_rfl) (by kernel_rfl) (fun _ _ _ h => h) (Or.inr ⟨rfl, rfl⟩) (by assumption) ?_)); simp only [Act.put, List.setIfInBounds_toArray, List.set_cons_zero, List.set_cons_succ]
              refine wpAnyH_ready (rs := [5]) (by kernel_rfl) (by simp) ?_
              refine AllReadyH.cons rfl (fun K hK => ?_) AllReadyH.nil
              go_simp
              go_wp2_with (go_at_call 25; refine (HDL.out _ HPX.out.drew).mono ?_; rintro e w6 ⟨rfl, hb6⟩)
              refine hK.out _ _ ?_ (fun hHeld => ?_)
              · exact ⟨cell_keep hb6 s0, cell_keep hb6 s1, cell_keep hb6 s2, cell_keep hb6 y0, cell_keep hb6 y1⟩
              clear hK K
              (first
                | (refine held_take (i := 6) (v := ?_) rfl (by kernel_rfl) (by kernel_rfl) (by kernel_rfl) (fun _ _ _ h => h) (Or.inl ⟨rfl, ?_⟩) (by assumption) ?_; rotate_left; (intro X hSw; (try dsimp only at hSw); (go_simp <;> with_reducible rfl)))
                | (refine held_take (i := 6) (v := undef) rfl (by kernel_rfl) (by kernel_rfl) (by kernel_rfl) (fun _ _ _ h => h) (Or.inr ⟨rfl, rfl⟩) (by assumption) ?_)); simp only [Act.put, List.setIfInBounds_toArray, List.set_cons_zero, List.set_cons_succ]
              refine wpAnyH_done (by kernel_rfl) ?_ _
              have hbd : Below wr.heap.size wr w6 := (Below.refl wr.heap.size wr).drew.trans hb6
              have hO6 := hO.keep hbd
              have hf6 := hf.trans (Fr.of_below _ hbd)
              have hb6' := hb.trans (hbd.mono hb.size)
              replace s0 := cell_keep hbd s0
              replace s1 := cell_keep hbd s1
              replace y1 := cell_keep hbd y1
              replace hpc := cell_keep hbd hpc
              replace t0 := cell_keep hbd t0
              replace t1 := cell_keep hbd t1
              replace t2 := cell_keep hbd t2
              have hdl' : (d : Int) < (p.body.length : Int) := by omega
              clear hHeld hb6 hbd hO hf hb s2 y0
              have HO6 := Lib.hid hO6
              have HF6 := Lib.hid hf6
              have HB6 := Lib.hid hb6'
              clear hO6 hf6 hb6'
              go_wp2
              go_region_held3 (fun X => X.cell? ⟨kb, ko + k * 3, none⟩ = some (.int .i64 (i : Int)) ∧ X.cell? ⟨kb, ko + k * 3 + 1, none⟩ = some (.int .i64 (d : Int)) ∧ X.cell? ⟨w5.heap.size, 1, none⟩ = some (.slice (some ⟨pb, po, none⟩) qs.length cap5) ∧ X.cell? ⟨pb, po + i * 2 + 1, none⟩ = some (.slice (some ⟨sb, so, none⟩) p.body.length pk) ∧ X.cell? ⟨sb, so + d * 3, none⟩ = some (.int .i64 s.head) ∧ X.cell? ⟨sb, so + d * 3 + 1, none⟩ = some (.int .i64 s.low) ∧ X.cell? ⟨sb, so + d * 3 + 2, none⟩ = some (.int .i64 s.high))
                (first | exact ⟨s0, s1, y1, hpc, t0, t1, t2⟩ | exact ⟨cell_alloc s0 _, cell_alloc s1 _, cell_alloc y1 _, cell_alloc hpc _, cell_alloc t0 _, cell_alloc t1 _, cell_alloc t2 _⟩)
                (fail)
              have b1 : (w6.alloc (.cells #[.int .i64 s.head, .int .i64 s.low, .int .i64 s.high] 68)).drew.cell? ⟨w6.heap.size, 1, none⟩ = some (.int .i64 s.low) := by simp
              have b2 : (w6.alloc (.cells #[.int .i64 s.head, .int .i64 s.low, .int .i64 s.high] 68)).drew.cell? ⟨w6.heap.size, 2, none⟩ = some (.int .i64 s.high) := by simp
              have hbx : Below w6.heap.size w6 (w6.alloc (.cells #[.int .i64 s.head, .int .i64 s.low, .int .i64 s.high] 68)).drew := (below_box _).drew
              have hO7 := HO6.out.keep hbx
              have HF7 := Lib.hid (HF6.out.trans (Fr.of_below _ hbx))
              have HB7 := Lib.hid (HB6.out.trans (hbx.mono HB6.out.size))
              have hg6 : w.heap.size + 1 + 1 < w6.heap.size := HO6.out.lt
              clear hbx HO6 HF6 HB6 s0 s1 y1 hpc t0 t1 t2
              generalize (w6.alloc (.cells #[.int .i64 s.head, .int .i64 s.low, .int .i64 s.high] 68)).drew = Y at *
              obtain ⟨lo, hlo⟩ : ∃ lo : Nat, s.low = lo := ⟨s.low.toNat, by omega⟩
              obtain ⟨hh, hhh⟩ : ∃ hh : Nat, s.high = hh := ⟨s.high.toNat, by omega⟩
              rw [hlo] at b1
              rw [hhh] at b2
              have hlh : lo ≤ hh ∧ hh ≤ 255 := by omega
              have EF : Hid (nextTo qs t (k + 1) = fill (nextTo qs t k) lo (hh + 1 - lo)) := by
                show _ = _
                rw [NS.out, hlo, hhh]
                congr 1
                omega
              have hnl := nextTo_length qs t k
              generalize nextTo qs t k = B at *
              have HNL := Lib.hid hnl
              clear NS hsb hlo hhh hnl
              go_wp2
              go_loopw [10] (fun i wr => ∃ v : Nat, lo ≤ v ∧ v ≤ hh + 1 ∧ i = .int .i64 v ∧ Own wr (w.heap.size + 1 + 1) 4 (bools (fill B lo (v - lo))) ∧ Fr (fun j => j = w.heap.size + 1 + 1) (fun j => j = w.heap.size + 1 + 1) Y wr) (fun i _ => hh + 1 - (intOf i).toNat)
              case atStart => exact ⟨lo, Nat.le_refl _, by omega, rfl, by rw [Nat.sub_self]; exact hO7, Fr.refl _ _⟩
              case round =>
                clear hO7
                obtain ⟨v, hv1, hv2, rfl, hO, hfi⟩ := hrel
                have b2r := hfi.cell b2 (fun e => by simp only at e; omega)
                by_cases hvl : v ≤ hh
                · have hvl' : (v : Int) ≤ (hh : Int) := by omega
                  have hfl : (fill B lo (v - lo)).length = 256 := by rw [fill_length]; exact HNL.out
                  have hv256 : (v : Int) < 256 := by omega
                  have hgl := hO.lt
                  obtain ⟨u0, hu0⟩ : ∃ u, wr.cell? ⟨w.heap.size + 1 + 1, v, none⟩ = some u := ⟨_, hO.cell_ (by rw [bools_length, hfl]; omega)⟩
                  have f0 := hO.frozen v
                  have hO8 := hO.putFlag v true
                  have e1 : (fill B lo (v - lo)).set v true = fill B lo (v + 1 - lo) := by
                    rw [show v + 1 - lo = (v - lo) + 1 by omega]
                    show _ = (fill B lo (v - lo)).set (lo + (v - lo)) true
                    rw [show lo + (v - lo) = v by omega]
                  rw [e1] at hO8
                  have hf8 := hfi.setCell (p := ⟨w.heap.size + 1 + 1, v, none⟩) rfl (.bool true)
                  have HO8 := Lib.hid hO8
                  have HF8 := Lib.hid hf8
                  clear hO hfi hfl e1 hO8 hf8
                  go_wp2
                  go_roundw
                  case rel => exact ⟨v + 1, by omega, by omega, by go_num, HO8.out, HF8.out⟩
                  case measure => simp [intOf]; omega
                · have hvl' : ¬ (v : Int) ≤ (hh : Int) := by omega
                  have ev : v - lo = hh + 1 - lo := by omega
                  rw [ev, ← EF.out] at hO
                  have hf9 := HF7.out.trans hfi
                  have hb9 : Below w.heap.size w wr := HB7.out.trans (hfi.below (base := w.heap.size) (fun j e => by omega) HB7.out.size)
                  clear ev hfi
                  go_wp2
                  go_roundw
                  case rel => exact ⟨k + 1, by omega, by go_num, hO, hf9, hb9⟩
                  case measure => simp [intOf]; omega
            · have hwb : (waitB p d != -1) = true := by simp [hw1]
              have EF : Hid (nextTo qs t (k + 1) = nextTo qs t k) := by
                show _ = _
                rw [NS.out]
                unfold waitB at hw1
                split
                · rename_i s e
                  rw [e] at hw1
                  rw [if_neg hw1]
                · rfl
              have HDL := HDL0
              generalize waitB p d = wv at *
              clear hw1 HDL0 NS
              have y0 := y0r
              have y1 := y1r
              go_wp2
              refine wp_region_held_drew (S := (fun X => X.cell? ⟨kb, ko + k * 3, none⟩ = some (.int .i64 (i : Int)) ∧ X.cell? ⟨kb, ko + k * 3 + 1, none⟩ = some (.int .i64 (d : Int)) ∧ X.cell? ⟨kb, ko + k * 3 + 2, none⟩ = some (.int .i64 (f : Int)) ∧ X.cell? ⟨w5.heap.size, 0, none⟩ = some (.int .i64 hd5) ∧ X.cell? ⟨w5.heap.size, 1, none⟩ = some (.slice (some ⟨pb, po, none⟩) qs.length cap5))) (by kernel_rfl) ?_ (fun hHeld => ?_)
              · exact ⟨s0, s1, s2, y0, y1⟩
              (first
                | (refine held_take (i := 0) (v := ?_) rfl (by kernel_rfl) (by kernel_rfl) (by kernel_rfl) (fun _ _ _ h => h) (Or.inl ⟨rfl, ?_⟩) (by assumption) ?_; rotate_left; (intro X hSw; (try dsimp only at hSw); (go_simp <;> with_reducible rfl)))
                | (refine held_take (i := 0) (v := undef) rfl (by kernel_rfl) (by kernel_rfl) (by kernel_rfl) (fun _ _ _ h => h) (Or.inr ⟨rfl, rfl⟩) (by assumption) ?_)); simp only [Act.put, List.setIfInBounds_toArray, List.set_cons_zero, List.set_cons_succ]
              (first
                | (refine held_take (i := 1) (v := ?_) rfl (by kernel_rfl) (by kernel_rfl) (by kernel_rfl) (fun _ _ _ h => h) (Or.inl ⟨rfl, ?_⟩) (by assumption) ?_; rotate_left; (intro X hSw; (try dsimp only at hSw); (go_simp <;> with_reducible rfl)))
                | (refine held_take (i := 1) (v := undef) rfl (by kernel_rfl) (by kernel_rfl) (by kernel_rfl) (fun _ _ _ h => h) (Or.inr ⟨rfl, rfl⟩) (by assumption) ?_)); simp only [Act.put, List.setIfInBounds_toArray, List.set_cons_zero, List.set_cons_succ]
              (first
                | (refine held_take (i := 2) (v := ?_) rfl (by kernel_rfl) (by kernel_rfl) (by kernel_rfl) (fun _ _ _ h => h) (Or.inl ⟨rfl, ?_⟩) (by assumption) ?_; rotate_left; (intro X hSw; (try dsimp only at hSw); (go_simp <;> with_reducible rfl)))
                | (refine held_take (i := 2) (v := undef) rfl (by kernel_rfl) (by kernel_rfl) (by kernel_rfl) (fun _ _ _ h => h) (Or.inr ⟨rfl, rfl⟩) (by assumption) ?_)); simp only [Act.put, List.setIfInBounds_toArray, List.set_cons_zero, List.set_cons_succ]
              (first
                | (refine held_take (i := 3) (v := ?_) rfl (by kernel_rfl) (by kernel_rfl) (by kernel_rfl) (fun _ _ _ h => h) (Or.inl ⟨rfl, ?_⟩) (by assumption) ?_; rotate_left; (intro X hSw; (try dsimp only at hSw); (go_simp <;> with_reducible rfl)))
                | (refine held_take (i := 3) (v := undef) rfl (by kernel_rfl) (by kernel_rfl) (by kernel_rfl) (fun _ _ _ h => h) (Or.inr ⟨rfl, rfl⟩) (by assumption) ?_)); simp only [Act.put, List.setIfInBounds_toArray, List.set_cons_zero, List.set_cons_succ]
              (first
                | (refine held_take (i := 4) (v := ?_) rfl (by kernel_rfl) (by kernel_rfl) (by kernel_rfl) (fun _ _ _ h => h) (Or.inl ⟨rfl, ?_⟩) (by assumption) ?_; rotate_left; (intro X hSw; (try dsimp only at hSw); (go_simp <;> with_reducible rfl)))
                | (refine held_take (i := 4) (v := undef) rfl (by kernel_rfl) (by kernel_rfl) (by kernel_rfl) (fun _ _ _ h => h) (Or.inr ⟨rfl, rfl⟩) (by assumption) ?_)); simp only [Act.put, List.setIfInBounds_toArray, List.set_cons_zero, List.set_cons_succ]
              refine wpAnyH_ready (rs := [5]) (by kernel_rfl) (by simp) ?_
              refine AllReadyH.cons rfl (fun K hK => ?_) AllReadyH.nil
              go_simp
              go_wp2_with (go_at_call 25; refine (HDL.out _ HPX.out.drew).mono ?_; rintro e w6 ⟨rfl, hb6⟩)
              refine hK.out _ _ ?_ (fun hHeld => ?_)
              · exact ⟨cell_keep hb6 s0, cell_keep hb6 s1, cell_keep hb6 s2, cell_keep hb6 y0, cell_keep hb6 y1⟩
              clear hK K
              (first
                | (refine held_take (i := 6) (v := ?_) rfl (by kernel_rfl) (by kernel_rfl) (by kernel_rfl) (fun _ _ _ h => h) (Or.inl ⟨rfl, ?_⟩) (by assumption) ?_; rotate_left; (intro X hSw; (try dsimp only at hSw); (go_simp <;> with_reducible rfl)))
                | (refine held_take (i := 6) (v := undef) rfl (by kernel_rfl) (by kernel_rfl) (by kernel_rfl) (fun _ _ _ h => h) (Or.inr ⟨rfl, rfl⟩) (by assumption) ?_)); simp only [Act.put, List.setIfInBounds_toArray, List.set_cons_zero, List.set_cons_succ]
              refine wpAnyH_done (by kernel_rfl) ?_ _
              have hbd : Below wr.heap.size wr w6 := (Below.refl wr.heap.size wr).drew.trans hb6
              have hO6 := hO.keep hbd
              have hf6 := hf.trans (Fr.of_below _ hbd)
              have hb6' := hb.trans (hbd.mono hb.size)
              rw [← EF.out] at hO6
              clear hHeld hb6 hbd hO hf hb
              go_wp2
              go_roundw
              case rel => exact ⟨k + 1, by omega, by go_num, hO6, hf6, hb6'⟩
              case measure => simp [intOf]; omega
          · have hlt' : ¬ (k : Int) < (t.length : Int) := by omega
            obtain rfl : k = t.length := by omega
            have FIN := Lib.hid (EPT.out wr hO hb)
            go_wp2
            go_ret
            exact FIN.out

end Go.Proofs.Ytafldjbmheopjaa
