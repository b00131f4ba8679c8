/- What the drawn laws on values have in memory. -/
import Derived.Test.YtmmafhibojipjaaDoorJD9
import Derived.Test.YtmmafhibojipjaaDoorJ20
namespace Go.Proofs.YtmmafhibojipjaaDoor
open Go.RowKit
set_option linter.unusedVariables false

def LawTrue (w : World) (e : Ending) (w' : World) : Prop := e = .returned (.bool true) ∧ Below w.heap.size w w'

/-- A law's value in block V. -/
structure VJ (w0 : World) (V : Nat) (k : Int) (f : Bool) (t : ByteArray) (ns : List ByteArray) (kids : List Js) (A K : Option Addr) (ca kc : Nat) (w : World) : Prop where
  o : Own w V 26 (c5 k f t A ns.length ca K kids.length kc)
  c : JsC w (fun b => b ≠ V) (c5 k f t A ns.length ca K kids.length kc) (.mk k f t ns kids)
  l : LimJ 1048576 (.mk k f t ns kids)
  b : Below w0.heap.size w0 w
  h : w0.heap.size ≤ V
section
variable {w0 w w' : World} {V : Nat} {k : Int} {f : Bool} {t : ByteArray} {ns : List ByteArray} {kids : List Js} {A K : Option Addr} {ca kc : Nat}
theorem VJ.keep (h : VJ w0 V k f t ns kids A K ca kc w) (hb : Below w.heap.size w w') : VJ w0 V k f t ns kids A K ca kc w' :=
  ⟨h.o.keep hb, h.c.mv fun b _ hl => hb.block b hl, h.l, h.b.trans (hb.mono h.b.size), h.h⟩
theorem VJ.drew (h : VJ w0 V k f t ns kids A K ca kc w) : VJ w0 V k f t ns kids A K ca kc w.drew := h.keep (Below.refl _ _).drew
theorem VJ.v (h : VJ w0 V k f t ns kids A K ca kc w) : JsV w 0 ns kids A K := h.c.jsV.1
theorem VJ.e (h : VJ w0 V k f t ns kids A K ca kc w) : ns.length ≤ ca := h.c.jsV.2
theorem VJ.cells (h : VJ w0 V k f t ns kids A K ca kc w) : w.cell? ⟨V, 0, none⟩ = some (.int .i64 k) ∧ w.cell? ⟨V, 1, none⟩ = some (.bool f) ∧ w.cell? ⟨V, 2, none⟩ = some (.string t) ∧ w.cell? ⟨V, 3, none⟩ = some (.slice A ns.length ca) ∧ w.cell? ⟨V, 4, none⟩ = some (.slice K kids.length kc) := c5_cells h.o
theorem VJ.start {F : Nat → Prop} (hv : JsC w F (c5 k f t A ns.length ca K kids.length kc) (.mk k f t ns kids)) (hl : LimJ 1048576 (.mk k f t ns kids)) (hb : Below w0.heap.size w0 w) : VJ w0 w.heap.size k f t ns kids A K ca kc (w.alloc (.cells (c5 k f t A ns.length ca K kids.length kc).toArray 26)) :=
  ⟨by simpa using Own.new w 26 (c5 k f t A ns.length ca K kids.length kc).toArray, hv.mv' fun b _ hl => ⟨Below.heap_alloc w _ b hl, by omega⟩, hl, hb.alloc hb.size _, hb.size⟩
/-- The value put into a list of itself. -/
theorem VJ.wrap (h : VJ w0 V k f t ns kids A K ca kc w) : VJ w0 V 5 false ⟨#[]⟩ [] [.mk k f t ns kids] none (some ⟨w.heap.size, 0, none⟩) 0 1
    (five (w.alloc (.cells (c5 k f t A ns.length ca K kids.length kc).toArray 26)) V (.int .i64 5) (.bool false) (.string ⟨#[]⟩) (.slice none 0 0) (.slice (some ⟨w.heap.size, 0, none⟩) 1 1)) := by
  have hl := h.o.lt
  have hc := h.c.wrap (by omega)
  refine ⟨five_cells (h.o.alloc _) rfl 5 false ⟨#[]⟩ none (some ⟨w.heap.size, 0, none⟩) 0 0 1 1, hc.mv fun b hb _ => five_other _ _ _ _ _ b hb, .mk 5 false _ [] [_] (by decide) (by simp) (by simp) (by simp) (by simpa using h.l), ?_, h.h⟩
  have hb := h.b.alloc h.b.size (.cells (c5 k f t A ns.length ca K kids.length kc).toArray 26)
  exact ((((hb.setCell h.h _).setCell h.h _).setCell h.h _).setCell h.h _).setCell h.h _
theorem Own.new_ (w : World) (t : TypeId) (arr : Array Value) {n : Nat} (h : w.heap.size = n) : Own (w.alloc (.cells arr t)) n t arr.toList := h ▸ Own.new w t arr
/-- A list of values whose cells lie in one block. -/
theorem JsC.list {W : World} {F : Nat → Prop} {M kc : Nat} {L : List Value} {kids : List Js} (css : Nat → List Value) (ho : Own W M 26 L) (hF : F M) (h5 : ∀ i, (css i).length = 5)
    (hc : ∀ i, i < kids.length → ∀ j u, (css i)[j]? = some u → L[i * 5 + j]? = some u) (hk : ∀ i (h : i < kids.length), JsC W F (css i) kids[i]) : JsC W F (c5 5 false ⟨#[]⟩ none 0 0 (some ⟨M, 0, none⟩) kids.length kc) (.mk 5 false ⟨#[]⟩ [] kids) :=
  JsC.mk 5 false ⟨#[]⟩ [] kids none (some ⟨M, 0, none⟩) 0 kc M 0 css (.inl rfl) (fun h0 => absurd rfl h0) (Nat.le_refl _) (fun _ => ⟨rfl, hF⟩) (fun i _ => h5 i) (fun i hi j u hu => by rw [ho.cell, Nat.zero_add]; exact hc i hi j u hu) hk
theorem JsC.bare (W : World) (F : Nat → Prop) (k : Int) (f : Bool) : JsC W F (c5 k f ⟨#[]⟩ none 0 0 none 0 0) (.mk k f ⟨#[]⟩ [] []) :=
  JsC.mk k f ⟨#[]⟩ [] [] none none 0 0 0 0 (fun _ => []) (.inl rfl) (fun h0 => absurd rfl h0) (Nat.le_refl _) (fun h0 => absurd rfl h0) (fun i hi => absurd hi (by simp)) (fun i hi => absurd hi (by simp)) (fun i hi => absurd hi (by simp))
/-- Two small values, and one more without kids. -/
def pairJ : List Js := [.mk 1 false ⟨#[]⟩ [] [], .mk 2 true ⟨#[]⟩ [] []]
theorem jsonP_pair : JsonP (.mk 5 false ⟨#[]⟩ [] pairJ) := by
  refine ⟨by decide, .mk _ _ _ _ _ (by simp [OneP]; rfl) (fun p hp => ?_), by decide, by decide⟩
  simp [pairJ] at hp
  rcases hp with rfl | rfl
  · exact .mk _ _ _ _ _ (by simp [OneP]; rfl) (by simp)
  · exact .mk _ _ _ _ _ (by simp [OneP]; rfl) (by simp)
theorem jsonP_three {k : Int} {f : Bool} {t : ByteArray} {ns : List ByteArray} (h : JsonP (.mk k f t ns [])) : JsonP (.mk 5 false ⟨#[]⟩ [] (pairJ ++ [.mk k f t ns []])) := by
  have hl := jtx_len 5 _ h.1 h.2.1
  have hn : (Js.mk k f t ns []).nodes = 1 := by rw [nodesJ_mk]; rfl
  have hh : (Js.mk k f t ns []).ht = 1 := by rw [htJ_mk]; rfl
  rw [hn] at hl
  refine ⟨?_, .mk _ _ _ _ _ (by simp [OneP]; rfl) (fun p hp => ?_), ?_, ?_⟩
  · rw [htJ_mk]; simp only [pairJ, List.cons_append, List.nil_append, htJ, htJ_mk]; decide
  · simp [pairJ] at hp
    rcases hp with rfl | rfl | rfl
    · exact .mk _ _ _ _ _ (by simp [OneP]; rfl) (by simp)
    · exact .mk _ _ _ _ _ (by simp [OneP]; rfl) (by simp)
    · exact h.2.1
  · rw [nodesJ_mk]; simp only [pairJ, List.cons_append, List.nil_append, nodesJ, nodesJ_mk]; decide
  · rw [jtx_mk]
    simp only [show ¬ (5 : Int) = 1 by omega, show ¬ (5 : Int) = 2 by omega, show ¬ (5 : Int) = 3 by omega, show ¬ (5 : Int) = 4 by omega, show ¬ (5 : Int) = 6 by omega, if_false, List.length_cons, List.length_append, List.length_nil, pairJ, List.cons_append, List.nil_append, List.map_cons, List.map_nil, kidsT]
    have e1 : (jtx (.mk 1 false ⟨#[]⟩ [] [])).length = 4 := by decide
    have e2 : (jtx (.mk 2 true ⟨#[]⟩ [] [])).length = 4 := by decide
    simp [e1, e2]
    omega
theorem gen_world {P : World → Prop} {W : World} (h : ∀ X, X = W → P X) : P W := h W rfl
/-- A part of a value that is ok. -/
theorem kidsT_mem (form : Bool) (ns : List ByteArray) {x : List UInt8} : ∀ (ts : List (List UInt8)) (j : Nat), x ∈ ts → x.length ≤ (kidsT form ns j ts).length
  | y :: r, j, h => by
    simp only [kidsT, List.length_append]
    rcases List.mem_cons.1 h with rfl | h
    · omega
    · have := kidsT_mem form ns r (j + 1) h; omega
theorem JsonP.kid (h : JsonP (.mk k f t ns kids)) {p : Js} (hp : p ∈ kids) : JsonP p := by
  obtain ⟨h1, h2, h3, h4⟩ := h
  rw [htJ_mk] at h1
  rw [nodesJ_mk] at h3
  have q1 := htJ_mem hp
  have q2 := nodesJ_mem hp
  refine ⟨by omega, h2.kids p hp, by omega, ?_⟩
  have h0 : 0 < kids.length := List.length_pos_of_mem hp
  have h5 : k = 5 ∨ k = 6 := by rcases h2.one with h | h | h | h | h | h <;> omega
  have m1 := kidsT_mem false ns (kids.map jtx) 0 (List.mem_map_of_mem hp)
  have m2 := kidsT_mem true ns (kids.map jtx) 0 (List.mem_map_of_mem hp)
  rw [jtx_mk] at h4
  rcases h5 with rfl | rfl
  · simp only [show ¬ (5 : Int) = 1 by omega, show ¬ (5 : Int) = 2 by omega, show ¬ (5 : Int) = 3 by omega, show ¬ (5 : Int) = 4 by omega, show ¬ (5 : Int) = 6 by omega, if_false, List.length_cons, List.length_append, List.length_nil] at h4
    omega
  · simp only [show ¬ (6 : Int) = 1 by omega, show ¬ (6 : Int) = 2 by omega, show ¬ (6 : Int) = 3 by omega, show ¬ (6 : Int) = 4 by omega, if_false, if_true, List.length_cons, List.length_append, List.length_nil] at h4
    omega
end
end Go.Proofs.YtmmafhibojipjaaDoor
