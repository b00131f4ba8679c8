/- Words for memory: a slice that reads as a list of cells, and what keeps it so. No condition. -/
import Derived.Test.YtkhcappjhefkjaaGreatDoorRows
import Derived.WalkKit
import Derived.WalkSpells
import Derived.WalkLawsBesides
import Derived.Lib.Hide
import Derived.Deep.QuietTactic
import Derived.BigQuiet
import Derived.Deep.Draws
import Derived.Deep.OwnRows
import Derived.Deep.RegionWith
import Derived.Deep.RegionHeld3
import Derived.Deep.RegionLaw
import Derived.Deep.AppendLies
import Derived.StillTailTactics
import Derived.OwnWalk
import Derived.Deep.DeepCutAuto
namespace Go.Proofs.YtkhcappjhefkjaaGreatDoor
open Go.RowKit

/-- The slice at 'a' holds, cell by cell, the values 'xs'. -/
def Row (w : World) (a : Option Addr) (xs : List Value) : Prop :=
  xs = [] ∨ ∃ b off, a = some ⟨b, off, none⟩ ∧ ∀ i (h : i < xs.length), w.cell? ⟨b, off + i, none⟩ = some xs[i]

theorem cell_lt {w : World} {p : Addr} {v : Value} (h : w.cell? p = some v) : p.block < w.heap.size := by
  rcases Nat.lt_or_ge p.block w.heap.size with h1 | h1
  · exact h1
  · unfold World.cell? at h
    rw [Array.getElem?_eq_none h1] at h
    cases h

theorem cell_keep {W w1 : World} (hb : Below W.heap.size W w1) {p : Addr} {v : Value} (h : W.cell? p = some v) : w1.cell? p = some v := (hb.cell (cell_lt h)).trans h
theorem frozen_keep {W w1 : World} (hb : Below W.heap.size W w1) {p : Addr} {v : Value} (h : W.cell? p = some v) (hf : W.frozen? p = false) : w1.frozen? p = false := (hb.frozen (cell_lt h)).trans hf

theorem cell_alloc {w : World} {p : Addr} {v : Value} (h : w.cell? p = some v) (o : Obj) : (w.alloc o).cell? p = some v := (World.cell?_alloc_lt w o p (cell_lt h)).trans h
theorem frozen_alloc {w : World} {p : Addr} {v : Value} (h : w.cell? p = some v) (hf : w.frozen? p = false) (o : Obj) : (w.alloc o).frozen? p = false :=
  ((((Below.refl _ _).alloc (Nat.le_refl _) o : Below w.heap.size w (w.alloc o)).frozen (cell_lt h))).trans hf

theorem Row.keep {w w' : World} {a : Option Addr} {xs : List Value} (h : Row w a xs) (hb : Below w.heap.size w w') : Row w' a xs := by
  rcases h with h | ⟨b, off, ha, hc⟩
  · exact .inl h
  · exact .inr ⟨b, off, ha, fun i hi => (hb.cell (p := ⟨b, off + i, none⟩) (cell_lt (hc i hi))).trans (hc i hi)⟩

theorem Row.drew {w : World} {a : Option Addr} {xs : List Value} (h : Row w a xs) : Row w.drew a xs := h
theorem Row.drewN {w : World} {a : Option Addr} {xs : List Value} (h : Row w a xs) (n : Nat) : Row (w.drewN n) a xs := h
theorem Row.alloc {w : World} {a : Option Addr} {xs : List Value} (h : Row w a xs) (o : Obj) : Row (w.alloc o) a xs := h.keep ((Below.refl _ _).alloc (Nat.le_refl _) _)

theorem Row.at_ {w : World} {a : Option Addr} {xs : List Value} (h : Row w a xs) {k : Nat} (hk : k < xs.length) :
    ∃ b off, a = some ⟨b, off, none⟩ ∧ w.cell? ⟨b, off + k, none⟩ = some xs[k] := by
  rcases h with h | ⟨b, off, ha, hc⟩
  · subst h; simp at hk
  · exact ⟨b, off, ha, hc k hk⟩

theorem Row.nil {w : World} {a : Option Addr} : Row w a [] := .inl rfl

/-- The cells of a list of strings. -/
def strs (ss : List ByteArray) : List Value := ss.map .string
/-- The cells of a list of ints. -/
def ints (zs : List Int) : List Value := zs.map (.int .i64)

@[simp] theorem strs_length (ss : List ByteArray) : (strs ss).length = ss.length := by simp [strs]
@[simp] theorem ints_length (zs : List Int) : (ints zs).length = zs.length := by simp [ints]
theorem strs_get (ss : List ByteArray) (k : Nat) (h : k < (strs ss).length) : (strs ss)[k] = .string (ss[k]'(by simpa using h)) := by simp [strs]
theorem ints_get (zs : List Int) (k : Nat) (h : k < (ints zs).length) : (ints zs)[k] = .int .i64 (zs[k]'(by simpa using h)) := by simp [ints]

theorem Row.str {w : World} {a : Option Addr} {ss : List ByteArray} (h : Row w a (strs ss)) {k : Nat} (hk : k < ss.length) :
    ∃ b off, a = some ⟨b, off, none⟩ ∧ w.cell? ⟨b, off + k, none⟩ = some (.string ss[k]) := by
  obtain ⟨b, off, ha, hc⟩ := h.at_ (k := k) (by simpa using hk)
  exact ⟨b, off, ha, by rw [hc, strs_get]⟩
theorem Row.int {w : World} {a : Option Addr} {zs : List Int} (h : Row w a (ints zs)) {k : Nat} (hk : k < zs.length) :
    ∃ b off, a = some ⟨b, off, none⟩ ∧ w.cell? ⟨b, off + k, none⟩ = some (.int .i64 zs[k]) := by
  obtain ⟨b, off, ha, hc⟩ := h.at_ (k := k) (by simpa using hk)
  exact ⟨b, off, ha, by rw [hc, ints_get]⟩

/-- Block 'g' is just the cells 'xs' of the element type 't', and may be written. -/
def Own (w : World) (g : Nat) (t : TypeId) (xs : List Value) : Prop := w.heap[g]? = some (.cells xs.toArray t (0, 0))

section
variable {w w' : World} {g : Nat} {t : TypeId} {xs : List Value}
theorem Own.lt (h : Own w g t xs) : g < w.heap.size := (Array.getElem?_eq_some_iff.1 h).1
theorem Own.cell (h : Own w g t xs) (i : Nat) : w.cell? ⟨g, i, none⟩ = xs[i]? := by
  rw [cell_of_row w g i _ t (0, 0) h]; simp
theorem Own.cell_ (h : Own w g t xs) {i : Nat} (hi : i < xs.length) : w.cell? ⟨g, i, none⟩ = some xs[i] := by
  rw [h.cell]; simp [hi]
theorem Own.frozen (h : Own w g t xs) (i : Nat) : w.frozen? ⟨g, i, none⟩ = false := by
  unfold Own at h
  simp [World.frozen?, h]
theorem Own.new (w : World) (t : TypeId) (cs : Array Value) : Own (w.alloc (.cells cs t)) w.heap.size t cs.toList := by
  unfold Own
  show (w.heap.push _)[w.heap.size]? = _
  simp
theorem Own.made (w : World) (t : TypeId) (z : Value) (n : Nat) : Own (w.alloc (.cells (madeCells #[z] n) t)) w.heap.size t (List.replicate n z) := by
  have h := Own.new w t (madeCells #[z] n)
  rwa [toList_madeCells_one] at h
theorem Own.drew (h : Own w g t xs) : Own w.drew g t xs := h
theorem Own.drewN (h : Own w g t xs) (n : Nat) : Own (w.drewN n) g t xs := h
theorem Own.below {B : Nat} (h : Own w g t xs) (hb : Below B w w') (hg : g < B) : Own w' g t xs := (hb.block g hg).trans h
theorem Own.keep (h : Own w g t xs) (hb : Below w.heap.size w w') : Own w' g t xs := h.below hb h.lt
theorem Own.alloc (h : Own w g t xs) (o : Obj) : Own (w.alloc o) g t xs := (Below.heap_alloc w o g h.lt).trans h
theorem Own.set_ (h : Own w g t xs) (i : Nat) (v : Value) : Own (w.setCell ⟨g, i, none⟩ v) g t (xs.set i v) := by
  unfold Own at h ⊢
  simp [World.setCell, Array.getElem?_modify, h]
theorem Own.far (h : Own w g t xs) {p : Addr} (hp : g ≠ p.block) (v : Value) : Own (w.setCell p v) g t xs := (Below.heap_setCell w p v g hp).trans h
theorem Own.row (h : Own w g t xs) : Row w (some ⟨g, 0, none⟩) xs :=
  .inr ⟨g, 0, rfl, fun i hi => by rw [Nat.zero_add]; exact h.cell_ hi⟩
end

theorem bytes_eq {a b : ByteArray} (h : a.toList = b.toList) : a = b := by
  rw [ByteArray.toList_eq, ByteArray.toList_eq] at h
  exact WideShapes.bytes_inj h
theorem str_ne {a b : ByteArray} (h : a ≠ b) : (a.toList == b.toList) = false := by
  rw [beq_eq_false_iff_ne]
  exact fun e => h (bytes_eq e)

theorem set_next {z v : Value} {ys : List Value} {n k : Nat} (hy : ys.length = k) (hk : k < n) :
    (ys ++ List.replicate (n - k) z).set k v = (ys ++ [v]) ++ List.replicate (n - (k + 1)) z := by
  subst hy
  rw [List.set_append_right _ _ (Nat.le_refl _), Nat.sub_self]
  obtain ⟨m, hm⟩ : ∃ m, n - ys.length = m + 1 := ⟨n - ys.length - 1, by omega⟩
  have hm' : n - (ys.length + 1) = m := by omega
  rw [hm, hm', List.replicate_succ]
  simp

/-- Of a region whose operations are a list: take number i first. -/
theorem held_take {P : Program} {l : List Oper} {Q : Exit → Act → World → Prop} {md : Region.Mode} {S : World → Prop} {i : Nat} {oi : Oper} {v : Value} {fuel : Nat} {listed : Array Bool} {a : Act} {w : World} (hi : l[i]? = some oi)
    (hs : Region.noSelect l.toArray = true) (hf : Region.free md l.toArray listed i = true) (hr : (Region.ready md l.toArray listed).contains i = true)
    (hQ : ∀ c a w, Q (.panic c) (a.put oi.dst v) w → Q (.panic c) a w) (hy : YieldsIf P l.toArray S oi v a) (hS : S w)
    (h : wpAnyH P md l.toArray Q S fuel (listed.setIfInBounds i true) (a.put oi.dst v) w) : wpAnyH P md l.toArray Q S (fuel + 1) listed a w :=
  wpAnyH_take (by simpa using hi) hs hf hr hQ hy hS h

theorem ret_bool {a b : Bool} (h : a = b) : Ending.returned (.bool a) = .returned (.bool b) := by rw [h]
theorem ret_int {k : IntKind} {a b : Int} (h : a = b) : Ending.returned (.int k a) = .returned (.int k b) := by rw [h]
theorem below_box {w : World} (o : Obj) : Below w.heap.size w (w.alloc o) := (Below.refl _ _).alloc (Nat.le_refl _) _
theorem below_drewN {B : Nat} {a w : World} (h : Below B a w) (n : Nat) : Below B a (w.drewN n) := ⟨h.os, h.tape, h.output, h.size, h.block⟩

/-- All blocks from a place on stay as they are. -/
def Upon (B0 : Nat) (w w' : World) : Prop := ∀ k, B0 ≤ k → k < w.heap.size → w'.heap[k]? = w.heap[k]?
theorem Upon.of_below {B0 : Nat} {w w' : World} (hb : Below w.heap.size w w') : Upon B0 w w' := fun k _ h => hb.block k h
theorem Upon.set_ {B0 : Nat} {w : World} {p : Addr} (hp : p.block < B0) (v : Value) : Upon B0 w (w.setCell p v) := fun k h _ => Below.heap_setCell w p v k (by omega)
theorem Upon.trans {B0 : Nat} {w w' w'' : World} (h : Upon B0 w w') (hs : w.heap.size ≤ w'.heap.size) (h' : Upon B0 w' w'') : Upon B0 w w'' := fun k h1 h2 => (h' k h1 (by omega)).trans (h k h1 h2)
theorem Upon.cell {B0 : Nat} {w w' : World} (h : Upon B0 w w') {p : Addr} {v : Value} (hc : w.cell? p = some v) (hp : B0 ≤ p.block) : w'.cell? p = some v := by
  rw [World.cell?_of_block (h p.block hp (cell_lt hc))]; exact hc
theorem Upon.row {B0 : Nat} {w w' : World} (h : Upon B0 w w') {A : Option Addr} {xs : List Value} (hr : Row w A xs) (hA : ∀ x, A = some x → B0 ≤ x.block) : Row w' A xs := by
  rcases hr with hr | ⟨b, off, ha, hc⟩
  · exact .inl hr
  · exact .inr ⟨b, off, ha, fun i hi => h.cell (hc i hi) (by have := hA _ ha; exact this)⟩

end Go.Proofs.YtkhcappjhefkjaaGreatDoor

