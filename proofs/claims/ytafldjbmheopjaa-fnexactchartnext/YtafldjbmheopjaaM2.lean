/- slices.Clone of productions and of symbols. -/
import Derived.Test.YtafldjbmheopjaaM1
import Derived.Lib.SliceRun
namespace Go.Proofs.Ytafldjbmheopjaa
open Go.RowKit
set_option linter.unusedVariables false

theorem Row.news {w : World} {ad : Addr} {xs : List Value} (h : Row w (some ad) xs) : ∀ j u, xs[j]? = some u → w.cell? (ad.add j) = some u := by
  intro j u hu
  rcases h with h | ⟨b, off, e, h⟩
  · rw [h] at hu; cases hu
  · injection e with e
    subst e
    have e1 : (Addr.add ⟨b, off, none⟩ j) = ⟨b, off + j, none⟩ := by unfold Addr.add; split <;> simp_all
    obtain ⟨hj, hu⟩ := List.getElem?_eq_some_iff.1 hu
    rw [e1, h j hj, hu]
theorem Row.none_nil {w : World} {xs : List Value} (h : Row w none xs) : xs = [] := by
  rcases h with h | ⟨b, off, e, h⟩
  · exact h
  · cases e
theorem Syms.row {w : World} {a : Option Addr} {ss : List Sy} (h : Syms w a ss) : Row w a (symCells ss) := by
  rcases h with h | ⟨b, off, e, h⟩
  · subst h; exact .inl rfl
  · refine .inr ⟨b, off, e, fun i hi => ?_⟩
    have := Syms.cells h i _ (List.getElem?_eq_getElem hi)
    have e1 : (Addr.add ⟨b, off, none⟩ i) = ⟨b, off + i, none⟩ := by unfold Addr.add; split <;> simp_all
    rw [e1] at this; exact this
theorem Row.syms {w : World} {a : Option Addr} {ss : List Sy} (h : Row w a (symCells ss)) : Syms w a ss := by
  rcases h with h | ⟨b, off, e, h⟩
  · have : ss = [] := by
      cases ss with
      | nil => rfl
      | cons x r => cases h
    exact .inl this
  · refine .inr ⟨b, off, e, fun i hi => ?_⟩
    have hl := symCells_length ss
    obtain ⟨g0, g1, g2⟩ := symCells_get ss i hi
    have c0 := h (i * 3) (by omega)
    have c1 := h (i * 3 + 1) (by omega)
    have c2 := h (i * 3 + 2) (by omega)
    rw [List.getElem?_eq_getElem (by omega)] at g0 g1 g2
    injection g0 with g0
    injection g1 with g1
    injection g2 with g2
    rw [g0] at c0
    rw [g1] at c1
    rw [g2] at c2
    exact ⟨c0, c1, c2⟩
theorem own_empty (w : World) (e : TypeId) (size base : Nat) (hb : base ≤ w.heap.size) : (w.alloc (.cells #[] e)).ownsRow base e size (.slice (some ⟨w.heap.size, 0, none⟩) 0 0) 0 [] := by
  refine ⟨by simp, .inr ⟨w.heap.size, 0, #[], rfl, hb, ?_, Nat.le_refl _, by simp [maxLen], by simp, by simp⟩⟩
  exact Own.new w e #[]
theorem own_rowN {w : World} {base : Nat} {e : TypeId} {size : Nat} {A : Option Addr} {n c : Nat} {xs : List Value} (h : w.ownsRow base e size (.slice A n c) n xs) : Row w A xs := by
  rcases h.2 with ⟨hv, rfl⟩ | ⟨g, cap, cur, hv, _⟩
  · have := h.1; simp at this; exact .inl this
  · have hA : A = some ⟨g, 0, none⟩ := by injection hv
    subst hA
    refine .inr ⟨g, 0, rfl, fun i hi => ?_⟩
    have hc := h.cells (g := g) rfl i xs[i] (List.getElem?_eq_getElem hi)
    have e1 : (Addr.add ⟨g, 0, none⟩ i) = ⟨g, 0 + i, none⟩ := by unfold Addr.add; split <;> simp_all
    rw [e1] at hc; exact hc

/-- A row that is new: the values of a row, in a block of the call's own. -/
def CloneTo (e : TypeId) (size n : Nat) (xs : List Value) (w : World) (en : Ending) (w' : World) : Prop :=
  ∃ A cap, en = .returned (.slice A n cap) ∧ w'.ownsRow w.heap.size e size (.slice A n cap) n xs ∧ Below w.heap.size w w'

set_option maxRecDepth 100000 in
set_option maxHeartbeats 1000000 in
theorem clonePds_any (a : Option Addr) (c : Nat) (xs : List Pv) (w : World) (hr : Row w a (pvCells xs)) (hm : xs.length ≤ 1048576) :
    Calls Try.prog 71 #[.slice a xs.length c] w (CloneTo 57 2 xs.length (pvCells xs) w) := by
  obtain ⟨i0, hi0, hz0, hz1, hz2⟩ := info_parts info43
  have HI := Lib.hid (And.intro hi0 (And.intro hz0 (And.intro hz1 hz2)))
  clear hi0 hz0 hz1 hz2
  cases a with
  | none =>
    have hx := hr.none_nil
    have : xs = [] := by
      cases xs with
      | nil => rfl
      | cons x r => cases hx
    subst this
    clear hr hx
    have q : ∀ (w : World) (a : Option Addr) (n c n' c' : Nat), (binOp .eql 31 (.slice a n c) (.slice none n' c')).run Try.prog w = .ok (.bool a.isNone) w := fun w a n c n' c' => Lib.run_eql_slice_nil w _ _ a n c n' c' Try.underlying31
    go_enter Try.func71, Try.ntmps71
    go_wp2
    go_ret
    exact ⟨none, 0, rfl, World.ownsRow_nil _ _ _ _, Below.refl _ _⟩
  | some ad =>
    have HR := Lib.hid hr
    clear hr
    have q : ∀ (w : World) (a : Option Addr) (n c n' c' : Nat), (binOp .eql 31 (.slice a n c) (.slice none n' c')).run Try.prog w = .ok (.bool a.isNone) w := fun w a n c n' c' => Lib.run_eql_slice_nil w _ _ a n c n' c' Try.underlying31
    go_enter Try.func71, Try.ntmps71
    go_wp2_with (at_builtin; refine wpList_append_own_at _ rfl _ _ 31 rfl w.heap.size 57 i0 (.agg #[.int .i64 0, .slice none 0 0]) 2 32 Try.underlying31 HI.out.1 HI.out.2.1 HI.out.2.2.1 HI.out.2.2.2 rfl (by decide) _ _ _ rfl (own_empty w 57 2 _ (Nat.le_refl _)) ad xs.length c (pvCells xs) rfl (pvCells_length xs) ?c1 ?c2 ?c3 ?c4 ?c5 ?_)
    case c1 => exact (HR.out.alloc _).news
    case c2 => exact pvCells_one xs
    case c3 => unfold maxLen; omega
    case c4 => omega
    case c5 => simp
    intro v' w4 hown' hgrow _ hblk
    obtain ⟨A', cap', rfl⟩ := own_form hown'
    have hb' : Below w.heap.size w w4 := (below_box _).grown hgrow (by simp) (fun k hk => by simp [Value.ownBlock] at hk; omega)
    go_wp2
    go_ret
    exact ⟨A', cap', rfl, hown', hb'⟩

set_option maxRecDepth 100000 in
set_option maxHeartbeats 1000000 in
theorem cloneSyms_any (a : Option Addr) (c : Nat) (ss : List Sy) (w : World) (hr : Row w a (symCells ss)) (hm : ss.length ≤ 1048576) :
    Calls Try.prog 87 #[.slice a ss.length c] w (CloneTo 68 3 ss.length (symCells ss) w) := by
  obtain ⟨i0, hi0, hz0, hz1, hz2⟩ := info_parts info46
  have HI := Lib.hid (And.intro hi0 (And.intro hz0 (And.intro hz1 hz2)))
  clear hi0 hz0 hz1 hz2
  cases a with
  | none =>
    have hx := hr.none_nil
    have : ss = [] := by
      cases ss with
      | nil => rfl
      | cons x r => cases hx
    subst this
    clear hr hx
    have q : ∀ (w : World) (a : Option Addr) (n c n' c' : Nat), (binOp .eql 55 (.slice a n c) (.slice none n' c')).run Try.prog w = .ok (.bool a.isNone) w := fun w a n c n' c' => Lib.run_eql_slice_nil w _ _ a n c n' c' Try.underlying55
    go_enter Try.func87, Try.ntmps87
    go_wp2
    go_ret
    exact ⟨none, 0, rfl, World.ownsRow_nil _ _ _ _, Below.refl _ _⟩
  | some ad =>
    have HR := Lib.hid hr
    clear hr
    have q : ∀ (w : World) (a : Option Addr) (n c n' c' : Nat), (binOp .eql 55 (.slice a n c) (.slice none n' c')).run Try.prog w = .ok (.bool a.isNone) w := fun w a n c n' c' => Lib.run_eql_slice_nil w _ _ a n c n' c' Try.underlying55
    go_enter Try.func87, Try.ntmps87
    go_wp2_with (at_builtin; refine wpList_append_own_at _ rfl _ _ 55 rfl w.heap.size 68 i0 (.agg #[.int .i64 0, .int .i64 0, .int .i64 0]) 3 24 Try.underlying55 HI.out.1 HI.out.2.1 HI.out.2.2.1 HI.out.2.2.2 rfl (by decide) _ _ _ rfl (own_empty w 68 3 _ (Nat.le_refl _)) ad ss.length c (symCells ss) rfl (symCells_length ss) ?c1 ?c2 ?c3 ?c4 ?c5 ?_)
    case c1 => exact (HR.out.alloc _).news
    case c2 => exact symCells_one ss
    case c3 => unfold maxLen; omega
    case c4 => omega
    case c5 => simp
    intro v' w4 hown' hgrow _ hblk
    obtain ⟨A', cap', rfl⟩ := own_form hown'
    have hb' : Below w.heap.size w w4 := (below_box _).grown hgrow (by simp) (fun k hk => by simp [Value.ownBlock] at hk; omega)
    go_wp2
    go_ret
    exact ⟨A', cap', rfl, hown', hb'⟩

end Go.Proofs.Ytafldjbmheopjaa
