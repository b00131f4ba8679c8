/- Words for memory: a slice that reads as a list of cells, and what keeps it so. No condition. -/
import Derived.Test.YtkgiklmdpdakbaaRows
import Derived.WalkKit
import Derived.WalkSpells
import Derived.WalkLawsBesides
import Derived.Lib.Hide
import Derived.Deep.QuietTactic
import Derived.BigQuiet
import Derived.Deep.Draws
import Derived.Deep.OwnRows
import Derived.Deep.RegionWith
import Derived.Deep.RegionHeld3
import Derived.Deep.RegionLaw
import Derived.Deep.AppendLies
import Derived.StillTailTactics
import Derived.OwnWalk
import Derived.Deep.DeepCutAuto
namespace Go.Proofs.Ytkgiklmdpdakbaa
open Go.RowKit

/-- The slice at 'a' holds, cell by cell, the values 'xs'. -/
def Row (w : World) (a : Option Addr) (xs : List Value) : Prop :=
  xs = [] ∨ ∃ b off, a = some ⟨b, off, none⟩ ∧ ∀ i (h : i < xs.length), w.cell? ⟨b, off + i, none⟩ = some xs[i]

theorem cell_lt {w : World} {p : Addr} {v : Value} (h : w.cell? p = some v) : p.block < w.heap.size := by
  rcases Nat.lt_or_ge p.block w.heap.size with h1 | h1
  · exact h1
  · unfold World.cell? at h
    rw [Array.getElem?_eq_none h1] at h
    cases h

theorem cell_keep {W w1 : World} (hb : Below W.heap.size W w1) {p : Addr} {v : Value} (h : W.cell? p = some v) : w1.cell? p = some v := (hb.cell (cell_lt h)).trans h
theorem frozen_keep {W w1 : World} (hb : Below W.heap.size W w1) {p : Addr} {v : Value} (h : W.cell? p = some v) (hf : W.frozen? p = false) : w1.frozen? p = false := (hb.frozen (cell_lt h)).trans hf

theorem cell_alloc {w : World} {p : Addr} {v : Value} (h : w.cell? p = some v) (o : Obj) : (w.alloc o).cell? p = some v := (World.cell?_alloc_lt w o p (cell_lt h)).trans h
theorem frozen_alloc {w : World} {p : Addr} {v : Value} (h : w.cell? p = some v) (hf : w.frozen? p = false) (o : Obj) : (w.alloc o).frozen? p = false :=
  ((((Below.refl _ _).alloc (Nat.le_refl _) o : Below w.heap.size w (w.alloc o)).frozen (cell_lt h))).trans hf

theorem Row.keep {w w' : World} {a : Option Addr} {xs : List Value} (h : Row w a xs) (hb : Below w.heap.size w w') : Row w' a xs := by
  rcases h with h | ⟨b, off, ha, hc⟩
  · exact .inl h
  · exact .inr ⟨b, off, ha, fun i hi => (hb.cell (p := ⟨b, off + i, none⟩) (cell_lt (hc i hi))).trans (hc i hi)⟩

theorem Row.drew {w : World} {a : Option Addr} {xs : List Value} (h : Row w a xs) : Row w.drew a xs := h
theorem Row.drewN {w : World} {a : Option Addr} {xs : List Value} (h : Row w a xs) (n : Nat) : Row (w.drewN n) a xs := h
theorem Row.alloc {w : World} {a : Option Addr} {xs : List Value} (h : Row w a xs) (o : Obj) : Row (w.alloc o) a xs := h.keep ((Below.refl _ _).alloc (Nat.le_refl _) _)

theorem Row.at_ {w : World} {a : Option Addr} {xs : List Value} (h : Row w a xs) {k : Nat} (hk : k < xs.length) :
    ∃ b off, a = some ⟨b, off, none⟩ ∧ w.cell? ⟨b, off + k, none⟩ = some xs[k] := by
  rcases h with h | ⟨b, off, ha, hc⟩
  · subst h; simp at hk
  · exact ⟨b, off, ha, hc k hk⟩

theorem Row.nil {w : World} {a : Option Addr} : Row w a [] := .inl rfl

/-- The cells of a list of strings. -/
def strs (ss : List ByteArray) : List Value := ss.map .string
/-- The cells of a list of ints. -/
def ints (zs : List Int) : List Value := zs.map (.int .i64)

@[simp] theorem strs_length (ss : List ByteArray) : (strs ss).length = ss.length := by simp [strs]
@[simp] theorem ints_length (zs : List Int) : (ints zs).length = zs.length := by simp [ints]
theorem strs_get (ss : List ByteArray) (k : Nat) (h : k < (strs ss).length) : (strs ss)[k] = .string (ss[k]'(by simpa using h)) := by simp [strs]
theorem ints_get (zs : List Int) (k : Nat) (h : k < (ints zs).length) : (ints zs)[k] = .int .i64 (zs[k]'(by simpa using h)) := by simp [ints]

theorem Row.str {w : World} {a : Option Addr} {ss : List ByteArray} (h : Row w a (strs ss)) {k : Nat} (hk : k < ss.length) :
    ∃ b off, a = some ⟨b, off, none⟩ ∧ w.cell? ⟨b, off + k, none⟩ = some (.string ss[k]) := by
  obtain ⟨b, off, ha, hc⟩ := h.at_ (k := k) (by simpa using hk)
  exact ⟨b, off, ha, by rw [hc, strs_get]⟩
theorem Row.int {w : World} {a : Option Addr} {zs : List Int} (h : Row w a (ints zs)) {k : Nat} (hk : k < zs.length) :
    ∃ b off, a = some ⟨b, off, none⟩ ∧ w.cell? ⟨b, off + k, none⟩ = some (.int .i64 zs[k]) := by
  obtain ⟨b, off, ha, hc⟩ := h.at_ (k := k) (by simpa using hk)
  exact ⟨b, off, ha, by rw [hc, ints_get]⟩

/-- Block 'g' is just the cells 'xs' of the element type 't', and may be written. -/
def Own (w : World) (g : Nat) (t : TypeId) (xs : List Value) : Prop := w.heap[g]? = some (.cells xs.toArray t (0, 0))

section
variable {w w' : World} {g : Nat} {t : TypeId} {xs : List Value}
theorem Own.lt (h : Own w g t xs) : g < w.heap.size := (Array.getElem?_eq_some_iff.1 h).1
theorem Own.cell (h : Own w g t xs) (i : Nat) : w.cell? ⟨g, i, none⟩ = xs[i]? := by
  rw [cell_of_row w g i _ t (0, 0) h]; simp
theorem Own.cell_ (h : Own w g t xs) {i : Nat} (hi : i < xs.length) : w.cell? ⟨g, i, none⟩ = some xs[i] := by
  rw [h.cell]; simp [hi]
theorem Own.frozen (h : Own w g t xs) (i : Nat) : w.frozen? ⟨g, i, none⟩ = false := by
  unfold Own at h
  simp [World.frozen?, h]
theorem Own.new (w : World) (t : TypeId) (cs : Array Value) : Own (w.alloc (.cells cs t)) w.heap.size t cs.toList := by
  unfold Own
  show (w.heap.push _)[w.heap.size]? = _
  simp
theorem Own.made (w : World) (t : TypeId) (z : Value) (n : Nat) : Own (w.alloc (.cells (madeCells #[z] n) t)) w.heap.size t (List.replicate n z) := by
  have h := Own.new w t (madeCells #[z] n)
  rwa [toList_madeCells_one] at h
theorem Own.drew (h : Own w g t xs) : Own w.drew g t xs := h
theorem Own.drewN (h : Own w g t xs) (n : Nat) : Own (w.drewN n) g t xs := h
theorem Own.below {B : Nat} (h : Own w g t xs) (hb : Below B w w') (hg : g < B) : Own w' g t xs := (hb.block g hg).trans h
theorem Own.keep (h : Own w g t xs) (hb : Below w.heap.size w w') : Own w' g t xs := h.below hb h.lt
theorem Own.alloc (h : Own w g t xs) (o : Obj) : Own (w.alloc o) g t xs := (Below.heap_alloc w o g h.lt).trans h
theorem Own.set_ (h : Own w g t xs) (i : Nat) (v : Value) : Own (w.setCell ⟨g, i, none⟩ v) g t (xs.set i v) := by
  unfold Own at h ⊢
  simp [World.setCell, Array.getElem?_modify, h]
theorem Own.far (h : Own w g t xs) {p : Addr} (hp : g ≠ p.block) (v : Value) : Own (w.setCell p v) g t xs := (Below.heap_setCell w p v g hp).trans h
theorem Own.row (h : Own w g t xs) : Row w (some ⟨g, 0, none⟩) xs :=
  .inr ⟨g, 0, rfl, fun i hi => by rw [Nat.zero_add]; exact h.cell_ hi⟩
end

theorem bytes_eq {a b : ByteArray} (h : a.toList = b.toList) : a = b := by
  rw [ByteArray.toList_eq, ByteArray.toList_eq] at h
  exact WideShapes.bytes_inj h
theorem str_ne {a b : ByteArray} (h : a ≠ b) : (a.toList == b.toList) = false := by
  rw [beq_eq_false_iff_ne]
  exact fun e => h (bytes_eq e)

theorem set_next {z v : Value} {ys : List Value} {n k : Nat} (hy : ys.length = k) (hk : k < n) :
    (ys ++ List.replicate (n - k) z).set k v = (ys ++ [v]) ++ List.replicate (n - (k + 1)) z := by
  subst hy
  rw [List.set_append_right _ _ (Nat.le_refl _), Nat.sub_self]
  obtain ⟨m, hm⟩ : ∃ m, n - ys.length = m + 1 := ⟨n - ys.length - 1, by omega⟩
  have hm' : n - (ys.length + 1) = m := by omega
  rw [hm, hm', List.replicate_succ]
  simp

/-- Of a region whose operations are a list: take number i first. -/
theorem held_take {P : Program} {l : List Oper} {Q : Exit → Act → World → Prop} {md : Region.Mode} {S : World → Prop} {i : Nat} {oi : Oper} {v : Value} {fuel : Nat} {listed : Array Bool} {a : Act} {w : World} (hi : l[i]? = some oi)
    (hs : Region.noSelect l.toArray = true) (hf : Region.free md l.toArray listed i = true) (hr : (Region.ready md l.toArray listed).contains i = true)
    (hQ : ∀ c a w, Q (.panic c) (a.put oi.dst v) w → Q (.panic c) a w) (hy : YieldsIf P l.toArray S oi v a) (hS : S w)
    (h : wpAnyH P md l.toArray Q S fuel (listed.setIfInBounds i true) (a.put oi.dst v) w) : wpAnyH P md l.toArray Q S (fuel + 1) listed a w :=
  wpAnyH_take (by simpa using hi) hs hf hr hQ hy hS h

end Go.Proofs.Ytkgiklmdpdakbaa

/- Parts of grammars, plain and in memory. -/
namespace Go.Proofs.Ytkgiklmdpdakbaa
open Go.RowKit
set_option linter.unusedVariables false

theorem ret_bool {a b : Bool} (h : a = b) : Ending.returned (.bool a) = .returned (.bool b) := by rw [h]
theorem ret_int {k : IntKind} {a b : Int} (h : a = b) : Ending.returned (.int k a) = .returned (.int k b) := by rw [h]
theorem below_box {w : World} (o : Obj) : Below w.heap.size w (w.alloc o) := (Below.refl _ _).alloc (Nat.le_refl _) _
theorem below_drewN {B : Nat} {a w : World} (h : Below B a w) (n : Nat) : Below B a (w.drewN n) := ⟨h.os, h.tape, h.output, h.size, h.block⟩

/-- A part, plain. -/
inductive Pt where
  | mk (kind : Int) (text : ByteArray) (low high : List Int) (kids : List Pt) (mn mx : Int) : Pt

def Pt.kids : Pt → List Pt
  | .mk _ _ _ _ k _ _ => k

mutual
def Pt.ht : Pt → Nat
  | .mk _ _ _ _ kids _ _ => htL kids + 1
def htL : List Pt → Nat
  | [] => 0
  | p :: r => max p.ht (htL r)
end
theorem ht_mem {p : Pt} : ∀ {kids : List Pt}, p ∈ kids → p.ht ≤ htL kids
  | q :: r, h => by
    unfold htL
    rcases List.mem_cons.1 h with rfl | h
    · exact Nat.le_max_left _ _
    · exact Nat.le_trans (ht_mem h) (Nat.le_max_right _ _)
theorem ht_mk {k : Int} {t : ByteArray} {lo hi : List Int} {kids : List Pt} {mn mx : Int} : (Pt.mk k t lo hi kids mn mx).ht = htL kids + 1 := by rw [Pt.ht]

/-- Whatever there is in a part is at most so long. -/
inductive Lim (M : Nat) : Pt → Prop
  | mk (k : Int) (t : ByteArray) (lo hi : List Int) (kids : List Pt) (mn mx : Int) : t.size ≤ M → lo.length ≤ M → hi.length ≤ M → kids.length ≤ M → (∀ p ∈ kids, Lim M p) → Lim M (.mk k t lo hi kids mn mx)

/-- One part in seven cells from a place on, and all that it has in memory, in blocks from B0 on. -/
inductive PtAt (w : World) (B0 : Nat) : Nat → Nat → Pt → Prop
  | mk (b off : Nat) (k : Int) (t : ByteArray) (lo hi : List Int) (kids : List Pt) (mn mx : Int) (A B K : Option Addr) (ca cb kc : Nat) (kb ko : Nat)
    (c0 : w.cell? ⟨b, off, none⟩ = some (.int .i64 k)) (c1 : w.cell? ⟨b, off + 1, none⟩ = some (.string t))
    (c2 : w.cell? ⟨b, off + 2, none⟩ = some (.slice A lo.length ca)) (c3 : w.cell? ⟨b, off + 3, none⟩ = some (.slice B hi.length cb))
    (c4 : w.cell? ⟨b, off + 4, none⟩ = some (.slice K kids.length kc)) (c5 : w.cell? ⟨b, off + 5, none⟩ = some (.int .i64 mn)) (c6 : w.cell? ⟨b, off + 6, none⟩ = some (.int .i64 mx))
    (hA : Row w A (ints lo)) (hB : Row w B (ints hi)) (hK : kids ≠ [] → K = some ⟨kb, ko, none⟩) (hk : ∀ i (h : i < kids.length), PtAt w B0 kb (ko + i * 7) kids[i])
    (l0 : B0 ≤ b) (l1 : ∀ x, A = some x → B0 ≤ x.block) (l2 : ∀ x, B = some x → B0 ≤ x.block) : PtAt w B0 b off (.mk k t lo hi kids mn mx)

/-- Parts, one behind the other. -/
def Pts (w : World) (B0 : Nat) (K : Option Addr) (ps : List Pt) : Prop := ∃ b off, (ps ≠ [] → K = some ⟨b, off, none⟩) ∧ ∀ i (h : i < ps.length), PtAt w B0 b (off + i * 7) ps[i]

theorem Pts.at_ {w : World} {B0 : Nat} {K : Option Addr} {ps : List Pt} (h : Pts w B0 K ps) {i : Nat} (hi : i < ps.length) : ∃ b off, K = some ⟨b, off, none⟩ ∧ PtAt w B0 b (off + i * 7) ps[i] := by
  obtain ⟨b, off, e, h⟩ := h
  exact ⟨b, off, e (fun h0 => by subst h0; simp at hi), h i hi⟩

/-- What a part that is handed on by value has in memory. -/
structure PtV (w : World) (B0 : Nat) (lo hi : List Int) (kids : List Pt) (A B K : Option Addr) : Prop where
  a : Row w A (ints lo)
  b : Row w B (ints hi)
  k : Pts w B0 K kids
  l1 : ∀ x, A = some x → B0 ≤ x.block
  l2 : ∀ x, B = some x → B0 ≤ x.block

/-- All blocks from a place on stay as they are. -/
def Upon (B0 : Nat) (w w' : World) : Prop := ∀ k, B0 ≤ k → k < w.heap.size → w'.heap[k]? = w.heap[k]?
theorem Upon.of_below {B0 : Nat} {w w' : World} (hb : Below w.heap.size w w') : Upon B0 w w' := fun k _ h => hb.block k h
theorem Upon.set_ {B0 : Nat} {w : World} {p : Addr} (hp : p.block < B0) (v : Value) : Upon B0 w (w.setCell p v) := fun k h _ => Below.heap_setCell w p v k (by omega)
theorem Upon.trans {B0 : Nat} {w w' w'' : World} (h : Upon B0 w w') (hs : w.heap.size ≤ w'.heap.size) (h' : Upon B0 w' w'') : Upon B0 w w'' := fun k h1 h2 => (h' k h1 (by omega)).trans (h k h1 h2)
theorem Upon.cell {B0 : Nat} {w w' : World} (h : Upon B0 w w') {p : Addr} {v : Value} (hc : w.cell? p = some v) (hp : B0 ≤ p.block) : w'.cell? p = some v := by
  rw [World.cell?_of_block (h p.block hp (cell_lt hc))]; exact hc
theorem Upon.row {B0 : Nat} {w w' : World} (h : Upon B0 w w') {A : Option Addr} {xs : List Value} (hr : Row w A xs) (hA : ∀ x, A = some x → B0 ≤ x.block) : Row w' A xs := by
  rcases hr with hr | ⟨b, off, ha, hc⟩
  · exact .inl hr
  · exact .inr ⟨b, off, ha, fun i hi => h.cell (hc i hi) (by have := hA _ ha; exact this)⟩

theorem PtAt.mv {w w' : World} {B0 : Nat} (hu : Upon B0 w w') {b off : Nat} {p : Pt} (h : PtAt w B0 b off p) : PtAt w' B0 b off p := by
  induction h with
  | mk b off k t lo hi kids mn mx A B K ca cb kc kb ko c0 c1 c2 c3 c4 c5 c6 hA hB hK hk l0 l1 l2 ih =>
    exact .mk b off k t lo hi kids mn mx A B K ca cb kc kb ko (hu.cell c0 l0) (hu.cell c1 l0) (hu.cell c2 l0) (hu.cell c3 l0) (hu.cell c4 l0) (hu.cell c5 l0) (hu.cell c6 l0) (hu.row hA l1) (hu.row hB l2) hK ih l0 l1 l2
theorem PtAt.low {w : World} {B0 B1 : Nat} (hB : B1 ≤ B0) {b off : Nat} {p : Pt} (h : PtAt w B0 b off p) : PtAt w B1 b off p := by
  induction h with
  | mk b off k t lo hi kids mn mx A B K ca cb kc kb ko c0 c1 c2 c3 c4 c5 c6 hA hB hK hk l0 l1 l2 ih =>
    exact .mk b off k t lo hi kids mn mx A B K ca cb kc kb ko c0 c1 c2 c3 c4 c5 c6 hA hB hK ih (by omega) (fun x e => by have := l1 x e; omega) (fun x e => by have := l2 x e; omega)
theorem PtAt.keep {w w' : World} {B0 : Nat} {b off : Nat} {p : Pt} (h : PtAt w B0 b off p) (hb : Below w.heap.size w w') : PtAt w' B0 b off p := h.mv (.of_below hb)
theorem Pts.mv {w w' : World} {B0 : Nat} {K : Option Addr} {ps : List Pt} (h : Pts w B0 K ps) (hu : Upon B0 w w') : Pts w' B0 K ps := by
  obtain ⟨b, off, e, h⟩ := h
  exact ⟨b, off, e, fun i hi => (h i hi).mv hu⟩
theorem Pts.keep {w w' : World} {B0 : Nat} {K : Option Addr} {ps : List Pt} (h : Pts w B0 K ps) (hb : Below w.heap.size w w') : Pts w' B0 K ps := h.mv (.of_below hb)
theorem Pts.low {w : World} {B0 B1 : Nat} {K : Option Addr} {ps : List Pt} (h : Pts w B0 K ps) (hB : B1 ≤ B0) : Pts w B1 K ps := by
  obtain ⟨b, off, e, h⟩ := h
  exact ⟨b, off, e, fun i hi => (h i hi).low hB⟩
theorem PtV.mv {w w' : World} {B0 : Nat} {lo hi : List Int} {kids : List Pt} {A B K : Option Addr} (h : PtV w B0 lo hi kids A B K) (hu : Upon B0 w w') : PtV w' B0 lo hi kids A B K := ⟨hu.row h.a h.l1, hu.row h.b h.l2, h.k.mv hu, h.l1, h.l2⟩
theorem PtV.keep {w w' : World} {B0 : Nat} {lo hi : List Int} {kids : List Pt} {A B K : Option Addr} (h : PtV w B0 lo hi kids A B K) (hb : Below w.heap.size w w') : PtV w' B0 lo hi kids A B K := h.mv (.of_below hb)
theorem PtV.low {w : World} {B0 B1 : Nat} {lo hi : List Int} {kids : List Pt} {A B K : Option Addr} (h : PtV w B0 lo hi kids A B K) (hB : B1 ≤ B0) : PtV w B1 lo hi kids A B K := ⟨h.a, h.b, h.k.low hB, fun x e => by have := h.l1 x e; omega, fun x e => by have := h.l2 x e; omega⟩

/-- The cells of a part, as a load of it finds them. -/
structure PtCells (w : World) (b off : Nat) (k : Int) (t : ByteArray) (lo hi : List Int) (kids : List Pt) (mn mx : Int) (A B K : Option Addr) (ca cb kc : Nat) : Prop where
  c0 : w.cell? ⟨b, off, none⟩ = some (.int .i64 k)
  c1 : w.cell? ⟨b, off + 1, none⟩ = some (.string t)
  c2 : w.cell? ⟨b, off + 2, none⟩ = some (.slice A lo.length ca)
  c3 : w.cell? ⟨b, off + 3, none⟩ = some (.slice B hi.length cb)
  c4 : w.cell? ⟨b, off + 4, none⟩ = some (.slice K kids.length kc)
  c5 : w.cell? ⟨b, off + 5, none⟩ = some (.int .i64 mn)
  c6 : w.cell? ⟨b, off + 6, none⟩ = some (.int .i64 mx)
theorem PtAt.open_ {w : World} {B0 b off : Nat} {k : Int} {t : ByteArray} {lo hi : List Int} {kids : List Pt} {mn mx : Int} (h : PtAt w B0 b off (.mk k t lo hi kids mn mx)) :
    ∃ A B K ca cb kc, PtCells w b off k t lo hi kids mn mx A B K ca cb kc ∧ PtV w B0 lo hi kids A B K := by
  cases h with
  | mk _ _ _ _ _ _ _ _ _ A B K ca cb kc kb ko c0 c1 c2 c3 c4 c5 c6 hA hB hK hk l0 l1 l2 => exact ⟨A, B, K, ca, cb, kc, ⟨c0, c1, c2, c3, c4, c5, c6⟩, hA, hB, ⟨kb, ko, hK, hk⟩, l1, l2⟩
theorem PtCells.mk_ {w : World} {B0 b off : Nat} {k : Int} {t : ByteArray} {lo hi : List Int} {kids : List Pt} {mn mx : Int} {A B K : Option Addr} {ca cb kc : Nat} (h : PtCells w b off k t lo hi kids mn mx A B K ca cb kc) (hv : PtV w B0 lo hi kids A B K) (hb : B0 ≤ b) : PtAt w B0 b off (.mk k t lo hi kids mn mx) := by
  obtain ⟨kb, ko, hK, hk⟩ := hv.k
  exact .mk b off k t lo hi kids mn mx A B K ca cb kc kb ko h.c0 h.c1 h.c2 h.c3 h.c4 h.c5 h.c6 hv.a hv.b hK hk hb hv.l1 hv.l2

/-- What sizing leaves: below 0, or all of it is small. -/
def SzPost (S : Prop) (w : World) (e : Ending) (w' : World) : Prop := ∃ r : Int, e = .returned (.int .i64 r) ∧ r ≤ 1048576 ∧ (r < 0 ∨ (0 ≤ r ∧ S)) ∧ Below w.heap.size w w'

end Go.Proofs.Ytkgiklmdpdakbaa

/- Rules in memory, and how large they are. -/
namespace Go.Proofs.Ytkgiklmdpdakbaa
open Go.RowKit
set_option linter.unusedVariables false

structure Ru where
  name : ByteArray
  p : Pt

/-- One rule in eight cells from a place on. -/
structure RuAt (w : World) (B0 b off : Nat) (r : Ru) : Prop where
  n : w.cell? ⟨b, off, none⟩ = some (.string r.name)
  p : PtAt w B0 b (off + 1) r.p
/-- Rules, one behind the other. -/
def Rus (w : World) (B0 : Nat) (a : Option Addr) (rs : List Ru) : Prop := rs = [] ∨ ∃ b off, a = some ⟨b, off, none⟩ ∧ B0 ≤ b ∧ ∀ i (h : i < rs.length), RuAt w B0 b (off + i * 8) rs[i]

theorem Rus.keep {w w' : World} {B0 : Nat} {a : Option Addr} {rs : List Ru} (h : Rus w B0 a rs) (hb : Below w.heap.size w w') : Rus w' B0 a rs := by
  rcases h with h | ⟨b, off, e, hb0, h⟩
  · exact .inl h
  · exact .inr ⟨b, off, e, hb0, fun i hi => ⟨cell_keep hb (h i hi).n, (h i hi).p.keep hb⟩⟩
theorem Rus.at_ {w : World} {B0 : Nat} {a : Option Addr} {rs : List Ru} (h : Rus w B0 a rs) {i : Nat} (hi : i < rs.length) : ∃ b off, a = some ⟨b, off, none⟩ ∧ RuAt w B0 b (off + i * 8) rs[i] := by
  rcases h with h | ⟨b, off, e, hb0, h⟩
  · subst h; simp at hi
  · exact ⟨b, off, e, h i hi⟩

/-- What is asked of rules that came in, and of those that are small. -/
def LimR (M : Nat) (rs : List Ru) : Prop := ∀ r ∈ rs, r.name.size ≤ M ∧ Lim M r.p

end Go.Proofs.Ytkgiklmdpdakbaa

/- Whether a grammar is ok, plain; the small functions of the specification. -/
namespace Go.Proofs.Ytkgiklmdpdakbaa
open Go.RowKit
set_option linter.unusedVariables false

/-- A call answers whether something holds. -/
def BoolPost (P : Prop) (w : World) (e : Ending) (w' : World) : Prop := ∃ r : Bool, e = .returned (.bool r) ∧ (r = true ↔ P) ∧ Below w.heap.size w w'

theorem iffF {P : Prop} (h : ¬ P) : (false = true ↔ P) := ⟨(fun e => by cases e), fun p => absurd p h⟩
theorem iffT {P : Prop} (h : P) : (true = true ↔ P) := ⟨fun _ => h, fun _ => rfl⟩

def inB (n lo hi : Int) : Bool := decide (lo ≤ n) && decide (n ≤ hi)
theorem inB_iff {n lo hi : Int} : inB n lo hi = true ↔ lo ≤ n ∧ n ≤ hi := by unfold inB; simp

set_option maxHeartbeats 400000 in
theorem in_any (n lo hi : Int) (w : World) :
    Calls Try.prog 28 #[.int .i64 n, .int .i64 lo, .int .i64 hi] w fun e w' => e = .returned (.bool (inB n lo hi)) ∧ w = w' := by
  go_enter Try.func28, Try.ntmps28
  go_wp2
  · go_ret
    exact ⟨ret_bool (by unfold inB; simp [*]), rfl⟩
  · go_ret
    exact ⟨ret_bool (by unfold inB; simp; omega), rfl⟩

/-- A name: 1 to 8 small letters. -/
def NameP (t : ByteArray) : Prop := 1 ≤ t.size ∧ t.size ≤ 8 ∧ ∀ j (h : j < t.size), 97 ≤ t[j].toNat ∧ t[j].toNat ≤ 122

set_option maxRecDepth 100000 in
set_option maxHeartbeats 1000000 in
theorem l2Name_any (t : ByteArray) (w : World) (hm : t.size ≤ 1048576) : Calls Try.prog 64 #[.string t] w (BoolPost (NameP t) w) := by
  by_cases h1 : t.size < 1
  · have h1' : (t.size : Int) < 1 := by omega
    have H := Lib.hid h1
    go_enter Try.func64, Try.ntmps64
    go_wp2
    go_ret
    exact ⟨false, rfl, iffF (fun h => by have := h.1; have := H.out; omega), Below.refl _ _⟩
  · by_cases h2 : 8 < t.size
    · have h2' : (8 : Int) < t.size := by omega
      have h1' : ¬ (t.size : Int) < 1 := by omega
      have H := Lib.hid h2
      go_enter Try.func64, Try.ntmps64
      go_wp2
      go_ret
      exact ⟨false, rfl, iffF (fun h => by have := h.2.1; have := H.out; omega), Below.refl _ _⟩
    · have h1' : ¬ (t.size : Int) < 1 := by omega
      have h2' : ¬ (8 : Int) < t.size := by omega
      go_enter Try.func64, Try.ntmps64
      go_wp2
      go_loop [3] (fun i => ∃ j : Nat, j ≤ t.size ∧ i = .int .i64 j ∧ Hid (∀ u (h : u < t.size), u < j → 97 ≤ t[u].toNat ∧ t[u].toNat ≤ 122)) (fun i => t.size - (intOf i).toNat)
      case atStart => exact ⟨0, Nat.zero_le _, rfl, fun u _ hu => by omega⟩
      case round =>
        obtain ⟨j, hj, rfl, HU⟩ := hrel
        by_cases hlt : j < t.size
        · have hlt' : (j : Int) < (t.size : Int) := by omega
          have HUJ : Hid (97 ≤ t[j].toNat ∧ t[j].toNat ≤ 122 → ∀ u (h : u < t.size), u < j + 1 → 97 ≤ t[u].toNat ∧ t[u].toNat ≤ 122) := fun h1 u hu huj => by
            rcases Nat.lt_succ_iff_lt_or_eq.1 huj with h3 | h3
            · exact HU.out u hu h3
            · subst h3; exact h1
          have HNO : Hid (NameP t → 97 ≤ t[j].toNat ∧ t[j].toNat ≤ 122) := fun h => h.2.2 j hlt
          by_cases g1 : t[j].toNat < 97
          · have g1' : (t[j].toNat : Int) < 97 := by omega
            have G := Lib.hid g1
            go_wp2
            go_ret
            exact ⟨false, rfl, iffF (fun h => by have := (HNO.out h).1; have := G.out; omega), Below.refl _ _⟩
          · have g1' : ¬ (t[j].toNat : Int) < 97 := by omega
            by_cases g2 : 122 < t[j].toNat
            · have g2' : (122 : Int) < (t[j].toNat : Int) := by omega
              have G := Lib.hid g2
              go_wp2
              go_ret
              exact ⟨false, rfl, iffF (fun h => by have := (HNO.out h).2; have := G.out; omega), Below.refl _ _⟩
            · have g2' : ¬ (122 : Int) < (t[j].toNat : Int) := by omega
              have HU2 := Lib.hid (HUJ.out ⟨by omega, by omega⟩)
              clear HU HUJ HNO
              go_wp2
              go_round
              case rel => exact ⟨j + 1, by omega, by go_num, HU2⟩
              case measure => simp [intOf]; omega
        · have hlt' : ¬ (j : Int) < (t.size : Int) := by omega
          go_wp2
          go_ret
          exact ⟨true, rfl, iffT ⟨by omega, by omega, fun u hu => HU.out u hu (by omega)⟩, Below.refl _ _⟩

/-- The place of a rule by its name, or -1. -/
def RuleIx (rs : List Ru) (t : ByteArray) (r : Int) : Prop := (r = -1 ∧ ∀ x ∈ rs, x.name ≠ t) ∨ ∃ k : Nat, r = k ∧ ∃ h : k < rs.length, rs[k].name = t ∧ ∀ j (h : j < rs.length), j < k → rs[j].name ≠ t
theorem RuleIx.one {rs : List Ru} {t : ByteArray} {r s : Int} (h : RuleIx rs t r) (h' : RuleIx rs t s) : r = s := by
  rcases h with ⟨h1, h2⟩ | ⟨k, h1, hk, h2, h3⟩
  · rcases h' with ⟨g1, g2⟩ | ⟨k', g1, hk', g2, g3⟩
    · rw [h1, g1]
    · exact absurd g2 (h2 _ (List.getElem_mem hk'))
  · rcases h' with ⟨g1, g2⟩ | ⟨k', g1, hk', g2, g3⟩
    · exact absurd h2 (g2 _ (List.getElem_mem hk))
    · rcases Nat.lt_trichotomy k k' with h | h | h
      · exact absurd h2 (g3 k hk h)
      · rw [h1, g1, h]
      · exact absurd g2 (h3 k' hk' h)
theorem RuleIx.ge {rs : List Ru} {t : ByteArray} {r : Int} (h : RuleIx rs t r) : 0 ≤ r ↔ ∃ x ∈ rs, x.name = t := by
  rcases h with ⟨h1, h2⟩ | ⟨k, h1, hk, h2, h3⟩
  · constructor
    · intro h; omega
    · rintro ⟨x, hx, e⟩; exact absurd e (h2 x hx)
  · exact ⟨fun _ => ⟨_, List.getElem_mem hk, h2⟩, fun _ => by omega⟩
theorem RuleIx.bound {rs : List Ru} {t : ByteArray} {r : Int} (h : RuleIx rs t r) : -1 ≤ r ∧ r < rs.length := by
  rcases h with ⟨h1, h2⟩ | ⟨k, h1, hk, h2, h3⟩ <;> omega

set_option maxRecDepth 100000 in
set_option maxHeartbeats 1000000 in
theorem l2Rule_any (rs : List Ru) (t : ByteArray) (a : Option Addr) (c B0 : Nat) (w : World) (hr : Rus w B0 a rs) (hm : rs.length ≤ 1048576) :
    Calls Try.prog 65 #[.agg #[.slice a rs.length c], .string t] w fun e w' => ∃ r : Int, e = .returned (.int .i64 r) ∧ RuleIx rs t r ∧ Below w.heap.size w w' := by
  have hbx : Below w.heap.size w (w.alloc (.cells #[.slice a rs.length c] 64)) := below_box _
  have HR := Lib.hid (hr.keep hbx)
  have k0 : (w.alloc (.cells #[.slice a rs.length c] 64)).cell? ⟨w.heap.size, 0, none⟩ = some (.slice a rs.length c) := by simp
  clear hr
  go_enter Try.func65, Try.ntmps65
  go_wp2
  generalize w.alloc (.cells #[.slice a rs.length c] 64) = W0 at *
  have kl := cell_lt k0
  simp only at kl
  go_loop [5] (fun i => ∃ j : Nat, j ≤ rs.length ∧ i = .int .i64 j ∧ Hid (∀ u (h : u < rs.length), u < j → rs[u].name ≠ t)) (fun i => rs.length - (intOf i).toNat)
  case atStart => exact ⟨0, Nat.zero_le _, rfl, fun u _ hu => by omega⟩
  case round =>
    obtain ⟨j, hj, rfl, HU⟩ := hrel
    by_cases hlt : j < rs.length
    · have hlt' : (j : Int) < (rs.length : Int) := by omega
      obtain ⟨b, off, rfl, hn⟩ := HR.out.at_ hlt
      have n0 := hn.n
      clear hn
      by_cases g : rs[j].name = t
      · have G := Lib.hid g
        have g1 : (rs[j].name.toList == t.toList) = true := by rw [g]; simp
        clear g
        go_wp2
        go_ret
        exact ⟨j, rfl, .inr ⟨j, rfl, hlt, G.out, HU⟩, hbx⟩
      · have g1 := str_ne g
        have HU2 : Hid (∀ u (h : u < rs.length), u < j + 1 → rs[u].name ≠ t) := fun u hu huj => by
          rcases Nat.lt_succ_iff_lt_or_eq.1 huj with h3 | h3
          · exact HU.out u hu h3
          · subst h3; exact g
        clear HU g
        go_wp2
        go_round
        case rel => exact ⟨j + 1, by omega, by go_num, HU2⟩
        case measure => simp [intOf]; omega
    · have hlt' : ¬ (j : Int) < (rs.length : Int) := by omega
      go_wp2
      go_ret
      refine ⟨-1, rfl, .inl ⟨rfl, fun x hx => ?_⟩, hbx⟩
      obtain ⟨u, hu, rfl⟩ := List.getElem_of_mem hx
      exact HU.out u hu (by omega)

/-- Nothing but kids. -/
def BareP (t : ByteArray) (lo hi : List Int) : Prop := t.size = 0 ∧ lo.length = 0 ∧ hi.length = 0
theorem empty_iff (t : ByteArray) : t.toList.isEmpty = decide (t.size = 0) := by
  rw [ByteArray.toList_eq]
  by_cases h : t.size = 0
  · have : t.data = #[] := Array.eq_empty_of_size_eq_zero h
    rw [decide_eq_true h, this]; rfl
  · rw [decide_eq_false h]
    cases e : t.data.toList with
    | nil => exact absurd (by have := congrArg List.length e; simpa using this) h
    | cons x r => rfl

set_option maxRecDepth 100000 in
set_option maxHeartbeats 1000000 in
theorem l2Bare_any (k : Int) (t : ByteArray) (lo hi : List Int) (nk : Nat) (mn mx : Int) (A B K : Option Addr) (ca cb kc : Nat) (w : World) (l2 : lo.length ≤ 1048576) (l3 : hi.length ≤ 1048576) :
    Calls Try.prog 80 #[.agg #[.int .i64 k, .string t, .slice A lo.length ca, .slice B hi.length cb, .slice K nk kc, .int .i64 mn, .int .i64 mx]] w (BoolPost (BareP t lo hi) w) := by
  have e := empty_iff t
  by_cases h : t.size = 0
  · rw [decide_eq_true h] at e
    have H := Lib.hid h
    clear h
    go_enter Try.func80, Try.ntmps80
    go_wp2
    go_ret
    refine ⟨_, rfl, ?_, below_box _⟩
    have := H.out
    first | rw [decide_eq_true_iff] | rw [beq_iff_eq]
    unfold BareP
    omega
  · rw [decide_eq_false h] at e
    have H := Lib.hid h
    clear h
    go_enter Try.func80, Try.ntmps80
    go_wp2
    go_ret
    exact ⟨false, rfl, iffF (fun h => H.out h.1), below_box _⟩

end Go.Proofs.Ytkgiklmdpdakbaa

