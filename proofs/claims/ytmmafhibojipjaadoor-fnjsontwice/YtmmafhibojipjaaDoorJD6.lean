/- A value that fits a schema, mostly: of each height that is drawn. (l71Json is to follow here.) -/
import Derived.Test.YtmmafhibojipjaaDoorJD5
namespace Go.Proofs.YtmmafhibojipjaaDoor
open Go.RowKit
set_option linter.unusedVariables false

theorem drawFit_all : ∀ n, n ≤ 4 → FitD n
  | 0, _ => fun k mn mx ns ms kids A M K ca ma kc B g N w hok => by cases hok
  | n + 1, h => fit_step (drawFit_all n (by omega)) (by omega)

/-- Longer bounds. -/
theorem LimJ.up {M M' : Nat} (h : M ≤ M') {p : Js} (hp : LimJ M p) : LimJ M' p := by
  induction hp with
  | mk k f t ns kids h1 h2 h3 h4 h5 ih => exact .mk k f t ns kids (by omega) (by omega) (fun n hn => by have := h3 n hn; omega) (by omega) ih

/-- What l71Json says of the value that it draws: all that the laws on values want; of what was there only the reader's block has turned. -/
def DrawnJ (w : World) (B g N : Nat) (e : Ending) (w' : World) : Prop :=
  ∃ (k : Int) (f : Bool) (t : ByteArray) (ns : List ByteArray) (kids : List Js) (A K : Option Addr) (ca kc : Nat), e = .returned (.agg (c5 k f t A ns.length ca K kids.length kc).toArray) ∧
    JsC w' (fun b => w.heap.size ≤ b) (c5 k f t A ns.length ca K kids.length kc) (.mk k f t ns kids) ∧ LimJ 1048576 (.mk k f t ns kids) ∧ Rd w' B g (N + 40000) ∧ w.grownBy w' (some g)

/-- What is owned stays owned in each world in which, of what was there, only the reader's block has turned. -/
theorem JsCT.touch {w w' : World} {s g : Nat} {ns : List ByteArray} {kids : List Js} {A K : Option Addr} {ca kc : Nat} (h : JsCT w s ns kids A K ca kc) (hg : w.grownBy w' (some g)) (hs : g < s) : JsCT w' s ns kids A K ca kc :=
  h.keep fun b hb hl => hg.block b hl (fun e => by injection e with e; omega)
theorem JsCT.le {w : World} {s : Nat} {ns : List ByteArray} {kids : List Js} {A K : Option Addr} {ca kc : Nat} (h : JsCT w s ns kids A K ca kc) : ns.length ≤ ca := own_le h.oA

end Go.Proofs.YtmmafhibojipjaaDoor
