/- Parts of grammars, plain and in memory. -/
import Derived.Test.YtkgiklmdpdakbaaBase
namespace Go.Proofs.Ytkgiklmdpdakbaa
open Go.RowKit
set_option linter.unusedVariables false

theorem ret_bool {a b : Bool} (h : a = b) : Ending.returned (.bool a) = .returned (.bool b) := by rw [h]
theorem ret_int {k : IntKind} {a b : Int} (h : a = b) : Ending.returned (.int k a) = .returned (.int k b) := by rw [h]
theorem below_box {w : World} (o : Obj) : Below w.heap.size w (w.alloc o) := (Below.refl _ _).alloc (Nat.le_refl _) _
theorem below_drewN {B : Nat} {a w : World} (h : Below B a w) (n : Nat) : Below B a (w.drewN n) := ⟨h.os, h.tape, h.output, h.size, h.block⟩

/-- A part, plain. -/
inductive Pt where
  | mk (kind : Int) (text : ByteArray) (low high : List Int) (kids : List Pt) (mn mx : Int) : Pt

def Pt.kids : Pt → List Pt
  | .mk _ _ _ _ k _ _ => k

mutual
def Pt.ht : Pt → Nat
  | .mk _ _ _ _ kids _ _ => htL kids + 1
def htL : List Pt → Nat
  | [] => 0
  | p :: r => max p.ht (htL r)
end
theorem ht_mem {p : Pt} : ∀ {kids : List Pt}, p ∈ kids → p.ht ≤ htL kids
  | q :: r, h => by
    unfold htL
    rcases List.mem_cons.1 h with rfl | h
    · exact Nat.le_max_left _ _
    · exact Nat.le_trans (ht_mem h) (Nat.le_max_right _ _)
theorem ht_mk {k : Int} {t : ByteArray} {lo hi : List Int} {kids : List Pt} {mn mx : Int} : (Pt.mk k t lo hi kids mn mx).ht = htL kids + 1 := by rw [Pt.ht]

/-- Whatever there is in a part is at most so long. -/
inductive Lim (M : Nat) : Pt → Prop
  | mk (k : Int) (t : ByteArray) (lo hi : List Int) (kids : List Pt) (mn mx : Int) : t.size ≤ M → lo.length ≤ M → hi.length ≤ M → kids.length ≤ M → (∀ p ∈ kids, Lim M p) → Lim M (.mk k t lo hi kids mn mx)

/-- One part in seven cells from a place on, and all that it has in memory, in blocks from B0 on. -/
inductive PtAt (w : World) (B0 : Nat) : Nat → Nat → Pt → Prop
  | mk (b off : Nat) (k : Int) (t : ByteArray) (lo hi : List Int) (kids : List Pt) (mn mx : Int) (A B K : Option Addr) (ca cb kc : Nat) (kb ko : Nat)
    (c0 : w.cell? ⟨b, off, none⟩ = some (.int .i64 k)) (c1 : w.cell? ⟨b, off + 1, none⟩ = some (.string t))
    (c2 : w.cell? ⟨b, off + 2, none⟩ = some (.slice A lo.length ca)) (c3 : w.cell? ⟨b, off + 3, none⟩ = some (.slice B hi.length cb))
    (c4 : w.cell? ⟨b, off + 4, none⟩ = some (.slice K kids.length kc)) (c5 : w.cell? ⟨b, off + 5, none⟩ = some (.int .i64 mn)) (c6 : w.cell? ⟨b, off + 6, none⟩ = some (.int .i64 mx))
    (hA : Row w A (ints lo)) (hB : Row w B (ints hi)) (hK : kids ≠ [] → K = some ⟨kb, ko, none⟩) (hk : ∀ i (h : i < kids.length), PtAt w B0 kb (ko + i * 7) kids[i])
    (l0 : B0 ≤ b) (l1 : ∀ x, A = some x → B0 ≤ x.block) (l2 : ∀ x, B = some x → B0 ≤ x.block) : PtAt w B0 b off (.mk k t lo hi kids mn mx)

/-- Parts, one behind the other. -/
def Pts (w : World) (B0 : Nat) (K : Option Addr) (ps : List Pt) : Prop := ∃ b off, (ps ≠ [] → K = some ⟨b, off, none⟩) ∧ ∀ i (h : i < ps.length), PtAt w B0 b (off + i * 7) ps[i]

theorem Pts.at_ {w : World} {B0 : Nat} {K : Option Addr} {ps : List Pt} (h : Pts w B0 K ps) {i : Nat} (hi : i < ps.length) : ∃ b off, K = some ⟨b, off, none⟩ ∧ PtAt w B0 b (off + i * 7) ps[i] := by
  obtain ⟨b, off, e, h⟩ := h
  exact ⟨b, off, e (fun h0 => by subst h0; simp at hi), h i hi⟩

/-- What a part that is handed on by value has in memory. -/
structure PtV (w : World) (B0 : Nat) (lo hi : List Int) (kids : List Pt) (A B K : Option Addr) : Prop where
  a : Row w A (ints lo)
  b : Row w B (ints hi)
  k : Pts w B0 K kids
  l1 : ∀ x, A = some x → B0 ≤ x.block
  l2 : ∀ x, B = some x → B0 ≤ x.block

/-- All blocks from a place on stay as they are. -/
def Upon (B0 : Nat) (w w' : World) : Prop := ∀ k, B0 ≤ k → k < w.heap.size → w'.heap[k]? = w.heap[k]?
theorem Upon.of_below {B0 : Nat} {w w' : World} (hb : Below w.heap.size w w') : Upon B0 w w' := fun k _ h => hb.block k h
theorem Upon.set_ {B0 : Nat} {w : World} {p : Addr} (hp : p.block < B0) (v : Value) : Upon B0 w (w.setCell p v) := fun k h _ => Below.heap_setCell w p v k (by omega)
theorem Upon.trans {B0 : Nat} {w w' w'' : World} (h : Upon B0 w w') (hs : w.heap.size ≤ w'.heap.size) (h' : Upon B0 w' w'') : Upon B0 w w'' := fun k h1 h2 => (h' k h1 (by omega)).trans (h k h1 h2)
theorem Upon.cell {B0 : Nat} {w w' : World} (h : Upon B0 w w') {p : Addr} {v : Value} (hc : w.cell? p = some v) (hp : B0 ≤ p.block) : w'.cell? p = some v := by
  rw [World.cell?_of_block (h p.block hp (cell_lt hc))]; exact hc
theorem Upon.row {B0 : Nat} {w w' : World} (h : Upon B0 w w') {A : Option Addr} {xs : List Value} (hr : Row w A xs) (hA : ∀ x, A = some x → B0 ≤ x.block) : Row w' A xs := by
  rcases hr with hr | ⟨b, off, ha, hc⟩
  · exact .inl hr
  · exact .inr ⟨b, off, ha, fun i hi => h.cell (hc i hi) (by have := hA _ ha; exact this)⟩

theorem PtAt.mv {w w' : World} {B0 : Nat} (hu : Upon B0 w w') {b off : Nat} {p : Pt} (h : PtAt w B0 b off p) : PtAt w' B0 b off p := by
  induction h with
  | mk b off k t lo hi kids mn mx A B K ca cb kc kb ko c0 c1 c2 c3 c4 c5 c6 hA hB hK hk l0 l1 l2 ih =>
    exact .mk b off k t lo hi kids mn mx A B K ca cb kc kb ko (hu.cell c0 l0) (hu.cell c1 l0) (hu.cell c2 l0) (hu.cell c3 l0) (hu.cell c4 l0) (hu.cell c5 l0) (hu.cell c6 l0) (hu.row hA l1) (hu.row hB l2) hK ih l0 l1 l2
theorem PtAt.low {w : World} {B0 B1 : Nat} (hB : B1 ≤ B0) {b off : Nat} {p : Pt} (h : PtAt w B0 b off p) : PtAt w B1 b off p := by
  induction h with
  | mk b off k t lo hi kids mn mx A B K ca cb kc kb ko c0 c1 c2 c3 c4 c5 c6 hA hB hK hk l0 l1 l2 ih =>
    exact .mk b off k t lo hi kids mn mx A B K ca cb kc kb ko c0 c1 c2 c3 c4 c5 c6 hA hB hK ih (by omega) (fun x e => by have := l1 x e; omega) (fun x e => by have := l2 x e; omega)
theorem PtAt.keep {w w' : World} {B0 : Nat} {b off : Nat} {p : Pt} (h : PtAt w B0 b off p) (hb : Below w.heap.size w w') : PtAt w' B0 b off p := h.mv (.of_below hb)
theorem Pts.mv {w w' : World} {B0 : Nat} {K : Option Addr} {ps : List Pt} (h : Pts w B0 K ps) (hu : Upon B0 w w') : Pts w' B0 K ps := by
  obtain ⟨b, off, e, h⟩ := h
  exact ⟨b, off, e, fun i hi => (h i hi).mv hu⟩
theorem Pts.keep {w w' : World} {B0 : Nat} {K : Option Addr} {ps : List Pt} (h : Pts w B0 K ps) (hb : Below w.heap.size w w') : Pts w' B0 K ps := h.mv (.of_below hb)
theorem Pts.low {w : World} {B0 B1 : Nat} {K : Option Addr} {ps : List Pt} (h : Pts w B0 K ps) (hB : B1 ≤ B0) : Pts w B1 K ps := by
  obtain ⟨b, off, e, h⟩ := h
  exact ⟨b, off, e, fun i hi => (h i hi).low hB⟩
theorem PtV.mv {w w' : World} {B0 : Nat} {lo hi : List Int} {kids : List Pt} {A B K : Option Addr} (h : PtV w B0 lo hi kids A B K) (hu : Upon B0 w w') : PtV w' B0 lo hi kids A B K := ⟨hu.row h.a h.l1, hu.row h.b h.l2, h.k.mv hu, h.l1, h.l2⟩
theorem PtV.keep {w w' : World} {B0 : Nat} {lo hi : List Int} {kids : List Pt} {A B K : Option Addr} (h : PtV w B0 lo hi kids A B K) (hb : Below w.heap.size w w') : PtV w' B0 lo hi kids A B K := h.mv (.of_below hb)
theorem PtV.low {w : World} {B0 B1 : Nat} {lo hi : List Int} {kids : List Pt} {A B K : Option Addr} (h : PtV w B0 lo hi kids A B K) (hB : B1 ≤ B0) : PtV w B1 lo hi kids A B K := ⟨h.a, h.b, h.k.low hB, fun x e => by have := h.l1 x e; omega, fun x e => by have := h.l2 x e; omega⟩

/-- The cells of a part, as a load of it finds them. -/
structure PtCells (w : World) (b off : Nat) (k : Int) (t : ByteArray) (lo hi : List Int) (kids : List Pt) (mn mx : Int) (A B K : Option Addr) (ca cb kc : Nat) : Prop where
  c0 : w.cell? ⟨b, off, none⟩ = some (.int .i64 k)
  c1 : w.cell? ⟨b, off + 1, none⟩ = some (.string t)
  c2 : w.cell? ⟨b, off + 2, none⟩ = some (.slice A lo.length ca)
  c3 : w.cell? ⟨b, off + 3, none⟩ = some (.slice B hi.length cb)
  c4 : w.cell? ⟨b, off + 4, none⟩ = some (.slice K kids.length kc)
  c5 : w.cell? ⟨b, off + 5, none⟩ = some (.int .i64 mn)
  c6 : w.cell? ⟨b, off + 6, none⟩ = some (.int .i64 mx)
theorem PtAt.open_ {w : World} {B0 b off : Nat} {k : Int} {t : ByteArray} {lo hi : List Int} {kids : List Pt} {mn mx : Int} (h : PtAt w B0 b off (.mk k t lo hi kids mn mx)) :
    ∃ A B K ca cb kc, PtCells w b off k t lo hi kids mn mx A B K ca cb kc ∧ PtV w B0 lo hi kids A B K := by
  cases h with
  | mk _ _ _ _ _ _ _ _ _ A B K ca cb kc kb ko c0 c1 c2 c3 c4 c5 c6 hA hB hK hk l0 l1 l2 => exact ⟨A, B, K, ca, cb, kc, ⟨c0, c1, c2, c3, c4, c5, c6⟩, hA, hB, ⟨kb, ko, hK, hk⟩, l1, l2⟩
theorem PtCells.mk_ {w : World} {B0 b off : Nat} {k : Int} {t : ByteArray} {lo hi : List Int} {kids : List Pt} {mn mx : Int} {A B K : Option Addr} {ca cb kc : Nat} (h : PtCells w b off k t lo hi kids mn mx A B K ca cb kc) (hv : PtV w B0 lo hi kids A B K) (hb : B0 ≤ b) : PtAt w B0 b off (.mk k t lo hi kids mn mx) := by
  obtain ⟨kb, ko, hK, hk⟩ := hv.k
  exact .mk b off k t lo hi kids mn mx A B K ca cb kc kb ko h.c0 h.c1 h.c2 h.c3 h.c4 h.c5 h.c6 hv.a hv.b hK hk hb hv.l1 hv.l2

/-- What sizing leaves: below 0, or all of it is small. -/
def SzPost (S : Prop) (w : World) (e : Ending) (w' : World) : Prop := ∃ r : Int, e = .returned (.int .i64 r) ∧ r ≤ 1048576 ∧ (r < 0 ∨ (0 ≤ r ∧ S)) ∧ Below w.heap.size w w'

end Go.Proofs.Ytkgiklmdpdakbaa
