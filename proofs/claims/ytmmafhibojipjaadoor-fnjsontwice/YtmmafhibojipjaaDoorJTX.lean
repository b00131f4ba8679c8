/- What the law FnJsonTwice has in memory: a value, and a copy of its cells with rows of its own. -/
import Derived.Test.YtmmafhibojipjaaDoorJV
namespace Go.Proofs.YtmmafhibojipjaaDoor
open Go.RowKit
set_option linter.unusedVariables false

/-- The value in block V, the copy's cells in block X; all of it lies before block B. -/
structure XJ (w0 : World) (V X B : Nat) (k : Int) (f : Bool) (t : ByteArray) (ns : List ByteArray) (kids : List Js) (A K : Option Addr) (ca kc : Nat) (cs : List Value) (w : World) : Prop where
  o : Own w V 26 (c5 k f t A ns.length ca K kids.length kc)
  c : JsC w (fun b => b < B ∧ b ≠ V ∧ b ≠ X) (c5 k f t A ns.length ca K kids.length kc) (.mk k f t ns kids)
  l : LimJ 1048576 (.mk k f t ns kids)
  x : Own w X 26 cs
  b : Below w0.heap.size w0 w
  hV : w0.heap.size ≤ V
  hX : w0.heap.size ≤ X
  hne : V ≠ X
  vB : V < B
  xB : X < B
  hB : B ≤ w.heap.size
section
variable {w0 w w' : World} {V X B : Nat} {k : Int} {f : Bool} {t : ByteArray} {ns : List ByteArray} {kids : List Js} {A K : Option Addr} {ca kc : Nat} {cs : List Value}
theorem XJ.upon (h : XJ w0 V X B k f t ns kids A K ca kc cs w) (hb : Below B w w') : XJ w0 V X B k f t ns kids A K ca kc cs w' :=
  ⟨(hb.block V h.vB).trans h.o, h.c.mv fun b hF _ => hb.block b hF.1, h.l, (hb.block X h.xB).trans h.x, h.b.trans (hb.mono (by have := h.hV; have := h.vB; omega)), h.hV, h.hX, h.hne, h.vB, h.xB, Nat.le_trans h.hB hb.size⟩
theorem XJ.set (h : XJ w0 V X B k f t ns kids A K ca kc cs w) (i : Nat) (u : Value) : XJ w0 V X B k f t ns kids A K ca kc (cs.set i u) (w.setCell ⟨X, i, none⟩ u) :=
  ⟨(Below.heap_setCell _ _ _ V h.hne).trans h.o, h.c.mv fun b hF _ => Below.heap_setCell _ _ _ b hF.2.2, h.l, h.x.set_ i u, h.b.setCell h.hX u, h.hV, h.hX, h.hne, h.vB, h.xB, by have := h.hB; simpa using this⟩
theorem XJ.grow (h : XJ w0 V X B k f t ns kids A K ca kc cs w) : XJ w0 V X w.heap.size k f t ns kids A K ca kc cs w :=
  ⟨h.o, h.c.mono fun b hF hl => ⟨hl, hF.2⟩, h.l, h.x, h.b, h.hV, h.hX, h.hne, h.o.lt, h.x.lt, Nat.le_refl _⟩
theorem XJ.drew (h : XJ w0 V X B k f t ns kids A K ca kc cs w) : XJ w0 V X B k f t ns kids A K ca kc cs w.drew :=
  ⟨h.o.drew, h.c.mv fun b _ hl => (Below.refl w.heap.size w).drew.block b hl, h.l, h.x.drew, h.b.drew, h.hV, h.hX, h.hne, h.vB, h.xB, h.hB⟩
theorem VJ.copy (h : VJ w0 V k f t ns kids A K ca kc w) : XJ w0 V w.heap.size (w.heap.size + 1) k f t ns kids A K ca kc (c5 k f t A ns.length ca K kids.length kc) (w.alloc (.cells (c5 k f t A ns.length ca K kids.length kc).toArray 26)) :=
  ⟨h.o.alloc _, h.c.mv' fun b hF hl => ⟨Below.heap_alloc w _ b hl, by omega, hF, by omega⟩, h.l, by simpa using Own.new w 26 (c5 k f t A ns.length ca K kids.length kc).toArray, h.b.alloc h.b.size _, h.h, h.b.size, by have := h.o.lt; omega, by have := h.o.lt; omega, by omega, by simp⟩
/-- The kids as a row of cells. -/
theorem JsC.flat {F : Nat → Prop} (h : JsC w F (c5 k f t A ns.length ca K kids.length kc) (.mk k f t ns kids)) (h0 : kids ≠ []) :
    ∃ kb ko L, K = some ⟨kb, ko, none⟩ ∧ F kb ∧ L.length = kids.length * 5 ∧ (∀ j u, L[j]? = some u → w.cell? ⟨kb, ko + j, none⟩ = some u) ∧ ∀ i (h : i < kids.length), JsC w F (g5 L i) kids[i] := by
  generalize hcs : c5 k f t A ns.length ca K kids.length kc = cs at h
  generalize hp : Js.mk k f t ns kids = p at h
  cases h with
  | mk k0 f0 t0 ns0 kids0 A0 K0 ca0 kc0 kb ko css hA lA eA hK hl hc hk =>
    injection hp with _ _ _ e1 e2
    subst e1 e2
    simp only [c5, List.cons.injEq, Value.slice.injEq, and_true, true_and] at hcs
    obtain ⟨_, _, _, ⟨rfl, rfl⟩, rfl, _⟩ := hcs
    have get : ∀ q, q < kids.length * 5 → ((List.range (kids.length * 5)).map fun q => (css (q / 5)).getD (q % 5) undef)[q]? = some ((css (q / 5)).getD (q % 5) undef) := fun q hq => by simp [hq]
    have cget : ∀ q, q < kids.length * 5 → (css (q / 5))[q % 5]? = some ((css (q / 5)).getD (q % 5) undef) := fun q hq => by
      have h5 := hl (q / 5) (by omega)
      have : q % 5 < (css (q / 5)).length := by omega
      rw [List.getElem?_eq_getElem this, List.getD_eq_getElem?_getD, List.getElem?_eq_getElem this]; rfl
    refine ⟨kb, ko, (List.range (kids.length * 5)).map fun q => (css (q / 5)).getD (q % 5) undef, (hK h0).1, (hK h0).2, by simp, fun j u hu => ?_, fun i hi => ?_⟩
    · have hj : j < kids.length * 5 := by simpa using (List.getElem?_eq_some_iff.1 hu).1
      rw [get j hj] at hu
      have := hc (j / 5) (by omega) (j % 5) u ((cget j hj).trans hu)
      rwa [Nat.add_assoc, show j / 5 * 5 + j % 5 = j by omega] at this
    · have e : g5 ((List.range (kids.length * 5)).map fun q => (css (q / 5)).getD (q % 5) undef) i = css i := by
        refine List.ext_getElem? fun j => ?_
        by_cases hj : j < 5
        · rw [g5_get hj, get _ (by omega), ← cget _ (by omega), show (i * 5 + j) / 5 = i by omega, show (i * 5 + j) % 5 = j by omega]
        · rw [List.getElem?_eq_none (by rw [g5_len (by simp; omega)]; omega), List.getElem?_eq_none (by rw [hl i hi]; omega)]
      rw [e]; exact hk i hi
end
theorem own_news {w : World} {g : Nat} {t : TypeId} {xs : List Value} (h : Own w g t xs) : ∀ j u, xs[j]? = some u → w.cell? ((⟨g, 0, none⟩ : Addr).add j) = some u := by
  intro j u hu
  have e1 : (Addr.add ⟨g, 0, none⟩ j) = ⟨g, j, none⟩ := by unfold Addr.add; split <;> simp_all
  rw [e1, h.cell]; exact hu
theorem add_at (b off i : Nat) : (Addr.add ⟨b, off, none⟩ i) = ⟨b, off + i, none⟩ := by unfold Addr.add; split <;> simp_all
/-- What lies before block B, but for X, reads as it did. -/
def Kept (B X : Nat) (a w : World) : Prop := ∀ z, z < B → z ≠ X → w.heap[z]? = a.heap[z]?
theorem Kept.of {B X : Nat} {a w : World} (h : Below B a w) : Kept B X a w := fun z hz _ => h.block z hz
theorem Kept.set {B X : Nat} {a w : World} (h : Kept B X a w) (i : Nat) (u : Value) : Kept B X a (w.setCell ⟨X, i, none⟩ u) := fun z hz hx => (Below.heap_setCell _ _ _ z hx).trans (h z hz hx)
theorem Kept.cell {B X : Nat} {a w : World} (h : Kept B X a w) {p : Addr} {u : Value} (hp : a.cell? p = some u) (h1 : p.block < B) (h2 : p.block ≠ X) : w.cell? p = some u := by
  rw [World.cell?_of_block (w := a) (h _ h1 h2)]; exact hp

/-- A name twice: no value is so. -/
theorem not_twice {f : Bool} {t : ByteArray} {ns : List ByteArray} {kids : List Js} (h0 : 0 < ns.length) : ¬ JsonP (.mk 6 f t (ns ++ [ns[0]]) kids) := by
  intro h
  have ho := h.2.1.one
  rcases ho with h | h | h | h | h | h
  · omega
  · omega
  · omega
  · omega
  · omega
  · obtain ⟨_, _, _, _, _, h6⟩ := h
    refine h6 ns.length (by simp) 0 h0 ?_
    rw [List.getElem_append_left h0, List.getElem_append_right (by omega)]
    simp
end Go.Proofs.YtmmafhibojipjaaDoor
