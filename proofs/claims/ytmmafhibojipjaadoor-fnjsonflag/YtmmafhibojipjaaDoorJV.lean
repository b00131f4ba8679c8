/- What the drawn laws on values have in memory. -/
import Derived.Test.YtmmafhibojipjaaDoorJD9
import Derived.Test.YtmmafhibojipjaaDoorJ20
namespace Go.Proofs.YtmmafhibojipjaaDoor
open Go.RowKit
set_option linter.unusedVariables false

def LawTrue (w : World) (e : Ending) (w' : World) : Prop := e = .returned (.bool true) ∧ Below w.heap.size w w'

/-- A law's value in block V. -/
structure VJ (w0 : World) (V : Nat) (k : Int) (f : Bool) (t : ByteArray) (ns : List ByteArray) (kids : List Js) (A K : Option Addr) (ca kc : Nat) (w : World) : Prop where
  o : Own w V 26 (c5 k f t A ns.length ca K kids.length kc)
  v : JsV w 0 ns kids A K
  l : LimJ 1048576 (.mk k f t ns kids)
  e : ns.length ≤ ca
  b : Below w0.heap.size w0 w
  h : w0.heap.size ≤ V
section
variable {w0 w w' : World} {V : Nat} {k : Int} {f : Bool} {t : ByteArray} {ns : List ByteArray} {kids : List Js} {A K : Option Addr} {ca kc : Nat}
theorem VJ.keep (h : VJ w0 V k f t ns kids A K ca kc w) (hb : Below w.heap.size w w') : VJ w0 V k f t ns kids A K ca kc w' :=
  ⟨h.o.keep hb, h.v.keep hb, h.l, h.e, h.b.trans (hb.mono h.b.size), h.h⟩
theorem VJ.drew (h : VJ w0 V k f t ns kids A K ca kc w) : VJ w0 V k f t ns kids A K ca kc w.drew := ⟨h.o.drew, h.v.keep (Below.refl _ _).drew, h.l, h.e, h.b.drew, h.h⟩
theorem VJ.cells (h : VJ w0 V k f t ns kids A K ca kc w) : w.cell? ⟨V, 0, none⟩ = some (.int .i64 k) ∧ w.cell? ⟨V, 1, none⟩ = some (.bool f) ∧ w.cell? ⟨V, 2, none⟩ = some (.string t) ∧ w.cell? ⟨V, 3, none⟩ = some (.slice A ns.length ca) ∧ w.cell? ⟨V, 4, none⟩ = some (.slice K kids.length kc) := c5_cells h.o
theorem VJ.start (hv : JsV w 0 ns kids A K) (hl : LimJ 1048576 (.mk k f t ns kids)) (he : ns.length ≤ ca) (hb : Below w0.heap.size w0 w) : VJ w0 w.heap.size k f t ns kids A K ca kc (w.alloc (.cells (c5 k f t A ns.length ca K kids.length kc).toArray 26)) :=
  ⟨by simpa using Own.new w 26 (c5 k f t A ns.length ca K kids.length kc).toArray, hv.keep (below_box _), hl, he, hb.alloc hb.size _, hb.size⟩
end
end Go.Proofs.YtmmafhibojipjaaDoor
