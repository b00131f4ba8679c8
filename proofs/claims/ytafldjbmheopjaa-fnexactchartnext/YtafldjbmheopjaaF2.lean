/- Items of a chart that are in form: compareItems, isItem; charts in form, plain. -/
import Derived.Test.YtafldjbmheopjaaF1
namespace Go.Proofs.Ytafldjbmheopjaa
open Go.RowKit
set_option linter.unusedVariables false

theorem or3_any (g c : Nat) (x y z : Int) (w : World) (h0 : w.cell? ⟨g, 0, none⟩ = some (.int .i64 x)) (h1 : w.cell? ⟨g, 1, none⟩ = some (.int .i64 y)) (h2 : w.cell? ⟨g, 2, none⟩ = some (.int .i64 z)) :
    Calls Try.prog 77 #[.slice (some ⟨g, 0, none⟩) 3 c] w fun e w' => e = .returned (.int .i64 (orI [x, y, z])) ∧ w = w' := by
  refine or_any (some ⟨g, 0, none⟩) c [x, y, z] w (.inr ⟨g, 0, rfl, fun i hi => ?_⟩) (by simp)
  match i, hi with
  | 0, _ => exact h0
  | 1, _ => exact h1
  | 2, _ => exact h2
  | (n + 3), hi => simp at hi; omega

set_option maxRecDepth 100000 in
set_option maxHeartbeats 1000000 in
theorem compare_any (a b : Sy) (w : World) :
    Calls Try.prog 64 #[.agg #[.int .i64 a.head, .int .i64 a.low, .int .i64 a.high], .agg #[.int .i64 b.head, .int .i64 b.low, .int .i64 b.high]] w fun e w' => e = .returned (.int .i64 (cmpB a b)) ∧ Below w.heap.size w w' := by
  have hb0 : Below w.heap.size w ((w.alloc (.cells #[.int .i64 a.head, .int .i64 a.low, .int .i64 a.high] 54)).alloc (.cells #[.int .i64 b.head, .int .i64 b.low, .int .i64 b.high] 54)) := (below_box _).alloc (by simp) _
  have HB0 := Lib.hid hb0
  clear hb0
  have E : Hid (cmpB a b = orI [cmpI a.head b.head, cmpI a.low b.low, cmpI a.high b.high]) := rfl
  go_enter Try.func64, Try.ntmps64
  go_wp2
  generalize hX1 : cmpI a.head b.head = x1 at *
  generalize hX2 : cmpI a.low b.low = x2 at *
  generalize hX3 : cmpI a.high b.high = x3 at *
  have c0 : ((w.alloc (.cells #[.int .i64 a.head, .int .i64 a.low, .int .i64 a.high] 54)).alloc (.cells #[.int .i64 b.head, .int .i64 b.low, .int .i64 b.high] 54)).cell? ⟨w.heap.size, 0, none⟩ = some (.int .i64 a.head) := by simp
  have c1 : ((w.alloc (.cells #[.int .i64 a.head, .int .i64 a.low, .int .i64 a.high] 54)).alloc (.cells #[.int .i64 b.head, .int .i64 b.low, .int .i64 b.high] 54)).cell? ⟨w.heap.size, 1, none⟩ = some (.int .i64 a.low) := by simp
  have c2 : ((w.alloc (.cells #[.int .i64 a.head, .int .i64 a.low, .int .i64 a.high] 54)).alloc (.cells #[.int .i64 b.head, .int .i64 b.low, .int .i64 b.high] 54)).cell? ⟨w.heap.size, 2, none⟩ = some (.int .i64 a.high) := by simp
  have c3 : ((w.alloc (.cells #[.int .i64 a.head, .int .i64 a.low, .int .i64 a.high] 54)).alloc (.cells #[.int .i64 b.head, .int .i64 b.low, .int .i64 b.high] 54)).cell? ⟨w.heap.size + 1, 0, none⟩ = some (.int .i64 b.head) := by simp
  have c4 : ((w.alloc (.cells #[.int .i64 a.head, .int .i64 a.low, .int .i64 a.high] 54)).alloc (.cells #[.int .i64 b.head, .int .i64 b.low, .int .i64 b.high] 54)).cell? ⟨w.heap.size + 1, 1, none⟩ = some (.int .i64 b.low) := by simp
  have c5 : ((w.alloc (.cells #[.int .i64 a.head, .int .i64 a.low, .int .i64 a.high] 54)).alloc (.cells #[.int .i64 b.head, .int .i64 b.low, .int .i64 b.high] 54)).cell? ⟨w.heap.size + 1, 2, none⟩ = some (.int .i64 b.high) := by simp
  generalize (w.alloc (.cells #[.int .i64 a.head, .int .i64 a.low, .int .i64 a.high] 54)).alloc (.cells #[.int .i64 b.head, .int .i64 b.low, .int .i64 b.high] 54) = W at *
  go_region_held3 (fun X => X.cell? ⟨w.heap.size, 0, none⟩ = some (.int .i64 a.head) ∧ X.cell? ⟨w.heap.size, 1, none⟩ = some (.int .i64 a.low) ∧ X.cell? ⟨w.heap.size, 2, none⟩ = some (.int .i64 a.high) ∧ X.cell? ⟨w.heap.size + 1, 0, none⟩ = some (.int .i64 b.head) ∧ X.cell? ⟨w.heap.size + 1, 1, none⟩ = some (.int .i64 b.low) ∧ X.cell? ⟨w.heap.size + 1, 2, none⟩ = some (.int .i64 b.high))
    (first | exact ⟨c0, c1, c2, c3, c4, c5⟩ | exact ⟨cell_alloc c0 _, cell_alloc c1 _, cell_alloc c2 _, cell_alloc c3 _, cell_alloc c4 _, cell_alloc c5 _⟩)
    (first | (go_at_call 78; refine (cmp_any _ _ _).mono ?_; rintro e w' ⟨rfl, rfl⟩; (try rw [hX1]); (try rw [hX2]); (try rw [hX3]))
           | (go_at_call 77; refine (or3_any W.heap.size 3 x1 x2 x3 _ (by simp) (by simp) (by simp)).mono ?_; rintro e w' ⟨rfl, rfl⟩))
  go_wp2
  go_ret
  exact ⟨ret_int E.out.symm, HB0.out.trans ((below_box _).drew.mono HB0.out.size)⟩

/-- The production of an item; an empty one if there is none. -/
def pAt (ps : List Pd) (h : Int) : Pd := ps.getD h.toNat ⟨0, []⟩
theorem pAt_nat {ps : List Pd} {i : Nat} (h : i < ps.length) : pAt ps (i : Int) = ps[i] := by unfold pAt; simp [h]

/-- Whether an item of the set at a place is in form. -/
def itemOkB (ps : List Pd) (n : Nat) (x : Sy) : Bool :=
  decide (0 ≤ x.head) && decide (x.head < ps.length) && decide (0 ≤ x.low) && decide (x.low ≤ (pAt ps x.head).body.length) && decide (0 ≤ x.high) && decide (x.high ≤ n)

set_option maxRecDepth 100000 in
set_option maxHeartbeats 1000000 in
theorem isItem_any (ps : List Pd) (a : Option Addr) (c n : Nat) (x : Sy) (w : World) (hr : Pds w a ps) (hm : ps.length ≤ 1048576) :
    Calls Try.prog 63 #[.agg #[.int .i64 x.head, .int .i64 x.low, .int .i64 x.high], .slice a ps.length c, .int .i64 (n : Int)] w fun e w' => e = .returned (.bool (itemOkB ps n x)) ∧ Below w.heap.size w w' := by
  have HR := Lib.hid (hr.alloc (.cells #[.int .i64 x.head, .int .i64 x.low, .int .i64 x.high] 54))
  clear hr
  by_cases h1 : 0 ≤ x.head
  · have d1 : decide (0 ≤ x.head) = true := decide_eq_true h1
    by_cases h2 : x.head < ps.length
    · have d2 : decide (x.head < (ps.length : Int)) = true := decide_eq_true h2
      by_cases h3 : 0 ≤ x.low
      · have d3 : decide (0 ≤ x.low) = true := decide_eq_true h3
        obtain ⟨xh, xl, xf⟩ := x
        simp only at *
        obtain ⟨i, rfl⟩ : ∃ i : Nat, xh = i := ⟨xh.toNat, by omega⟩
        have hi : i < ps.length := by omega
        obtain ⟨b, off, rfl, K, kc, hn⟩ := HR.out.at_ hi
        have c1 := hn.c1
        clear hn
        have EP := Lib.hid (pAt_nat hi)
        generalize ps[i] = p at *
        by_cases h4 : xl ≤ p.body.length
        · have d4 : decide (xl ≤ (p.body.length : Int)) = true := decide_eq_true h4
          by_cases h5 : 0 ≤ xf
          · have d5 : decide (0 ≤ xf) = true := decide_eq_true h5
            by_cases h6 : xf ≤ n
            · have d6 : decide (xf ≤ (n : Int)) = true := decide_eq_true h6
              have E : Hid (itemOkB ps n ⟨(i : Int), xl, xf⟩ = true) := by show _ = _; unfold itemOkB; simp only [EP.out, d1, d2, d3, d4, d5, d6]; rfl
              go_enter Try.func63, Try.ntmps63
              go_wp2
              go_quiet (fail)
              go_wp2
              go_ret
              exact ⟨ret_bool E.out.symm, below_drewN (below_box _) _⟩
            · have d6 : decide (xf ≤ (n : Int)) = false := decide_eq_false h6
              have E : Hid (itemOkB ps n ⟨(i : Int), xl, xf⟩ = false) := by show _ = _; unfold itemOkB; simp only [EP.out, d1, d2, d3, d4, d5, d6]; rfl
              go_enter Try.func63, Try.ntmps63
              go_wp2
              go_quiet (fail)
              go_wp2
              go_ret
              exact ⟨ret_bool E.out.symm, below_drewN (below_box _) _⟩
          · have d5 : decide (0 ≤ xf) = false := decide_eq_false h5
            have E : Hid (itemOkB ps n ⟨(i : Int), xl, xf⟩ = false) := by show _ = _; unfold itemOkB; simp only [EP.out, d1, d2, d3, d4, d5]; rfl
            go_enter Try.func63, Try.ntmps63
            go_wp2
            go_quiet (fail)
            go_wp2
            go_ret
            exact ⟨ret_bool E.out.symm, below_drewN (below_box _) _⟩
        · have d4 : decide (xl ≤ (p.body.length : Int)) = false := decide_eq_false h4
          have E : Hid (itemOkB ps n ⟨(i : Int), xl, xf⟩ = false) := by show _ = _; unfold itemOkB; simp only [EP.out, d1, d2, d3, d4]; rfl
          go_enter Try.func63, Try.ntmps63
          go_wp2
          go_quiet (fail)
          go_wp2
          go_ret
          exact ⟨ret_bool E.out.symm, below_drewN (below_box _) _⟩
      · have d3 : decide (0 ≤ x.low) = false := decide_eq_false h3
        have E : Hid (itemOkB ps n x = false) := by show _ = _; unfold itemOkB; simp only [d1, d2, d3]; rfl
        go_enter Try.func63, Try.ntmps63
        go_wp2
        go_quiet (fail)
        go_wp2
        go_ret
        exact ⟨ret_bool E.out.symm, below_drewN (below_box _) _⟩
    · have d2 : decide (x.head < (ps.length : Int)) = false := decide_eq_false h2
      have E : Hid (itemOkB ps n x = false) := by show _ = _; unfold itemOkB; simp only [d1, d2]; rfl
      go_enter Try.func63, Try.ntmps63
      go_wp2
      go_quiet (fail)
      go_wp2
      go_ret
      exact ⟨ret_bool E.out.symm, below_drewN (below_box _) _⟩
  · have d1 : decide (0 ≤ x.head) = false := decide_eq_false h1
    have E : Hid (itemOkB ps n x = false) := by show _ = _; unfold itemOkB; simp only [d1]; rfl
    go_enter Try.func63, Try.ntmps63
    go_wp2
    go_quiet (fail)
    go_wp2
    go_ret
    exact ⟨ret_bool E.out.symm, below_drewN (below_box _) _⟩

/-- The item at a place of a set is in form, and stands behind the one ahead of it. -/
def stepOkB (ps : List Pd) (n : Nat) (t : List Sy) (k : Nat) : Bool :=
  match t[k]? with
  | some x => itemOkB ps n x && (match k with | 0 => true | j + 1 => match t[j]? with | some y => lessB y x | none => true)
  | none => true
def setOkB (ps : List Pd) (n : Nat) (t : List Sy) : Bool := (List.range t.length).all (stepOkB ps n t)
def setsOkB (ps : List Pd) (ts : List (List Sy)) : Bool := (List.range ts.length).all (fun i => match ts[i]? with | some t => setOkB ps i t | none => true)
/-- Whether a chart is in form. -/
def chartOkB (ps : List Pd) (ts : List (List Sy)) : Bool := decide (1 ≤ ts.length) && decide (ts.length ≤ 81) && setsOkB ps ts

theorem setOkB_iff {ps : List Pd} {n : Nat} {t : List Sy} : setOkB ps n t = true ↔ ∀ j, j < t.length → stepOkB ps n t j = true := by
  unfold setOkB; rw [List.all_eq_true]
  exact ⟨fun h j hj => h j (List.mem_range.2 hj), fun h j hj => h j (List.mem_range.1 hj)⟩
theorem setOkB_bad {ps : List Pd} {n k : Nat} {t : List Sy} (hk : k < t.length) (h : stepOkB ps n t k = false) : setOkB ps n t = false := by
  cases e : setOkB ps n t
  · rfl
  · rw [setOkB_iff.1 e k hk] at h; cases h
theorem setsOkB_iff {ps : List Pd} {ts : List (List Sy)} : setsOkB ps ts = true ↔ ∀ j (h : j < ts.length), setOkB ps j ts[j] = true := by
  unfold setsOkB; rw [List.all_eq_true]
  constructor
  · intro h j hj
    have := h j (List.mem_range.2 hj)
    rw [List.getElem?_eq_getElem hj] at this
    exact this
  · intro h j hj
    have hj' := List.mem_range.1 hj
    rw [List.getElem?_eq_getElem hj']
    exact h j hj'
theorem setsOkB_bad {ps : List Pd} {ts : List (List Sy)} {k : Nat} (hk : k < ts.length) (h : setOkB ps k ts[k] = false) : setsOkB ps ts = false := by
  cases e : setsOkB ps ts
  · rfl
  · rw [setsOkB_iff.1 e k hk] at h; cases h
theorem step0 {ps : List Pd} {n : Nat} {t : List Sy} (h : 0 < t.length) : stepOkB ps n t 0 = itemOkB ps n t[0] := by
  unfold stepOkB; rw [List.getElem?_eq_getElem h]; simp
theorem stepS {ps : List Pd} {n j : Nat} {t : List Sy} (h : j + 1 < t.length) : stepOkB ps n t (j + 1) = (itemOkB ps n t[j + 1] && lessB t[j] t[j + 1]) := by
  have e : stepOkB ps n t (j + 1) = (match t[j + 1]? with | some x => itemOkB ps n x && (match t[j]? with | some y => lessB y x | none => true) | none => true) := rfl
  rw [e, List.getElem?_eq_getElem h, List.getElem?_eq_getElem (by omega : j < t.length)]

end Go.Proofs.Ytafldjbmheopjaa
