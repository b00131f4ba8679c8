/-
  No cell of these rows narrows 'for every input' (looked for: loops, veiled, ifaces, maps, wideKeys, modest, calm, conditions, laid).
  DERIVED. THE GIVEN ROWS OF THIS SEAT. 3 by the template 'for every input the law returns true; each argument reads behind the call as it read before'; 0 by the template 'total and deterministic' (their statements: YtccnnfklphnijaaTotals.lean).
  GIVEN WITH THE SEED: the statements are not yours to turn. If you find one false, say at which input.
  Laid BY PROGRAM, IN A SANDBOX (cutbox-rows.mjs): the forced cells as the released guide's own fill.sh prints them over the translation a167d0af9cfec822… (all of the seat's roots in one cut). By AI agents, Wed Nov 11 2026. No macro, syntax, notation, axiom, sorry.
-/
import Derived.Test.YtccnnfklphnijaaChecked
import GoSem.Claim
import GoSem.ClaimJoined
import GoSem.ClaimMapViews
import Derived.JoinedTies
import Derived.KernelRfl
namespace Go.Proofs.Ytccnnfklphnijaa
/- THE CELL 'sum', in the pinned program and in every row, IS THE sha256 OF THE DUMP (.gsa) THAT YtccnnfklphnijaaProg.lean LOADS. Nothing in Lean hashes anything: it is a label: what it is worth is what the hold of that sum in a sandbox is worth. -/
noncomputable def Try.pinned : Pinned := { name := "ytccnnfklphnijaa", sum := "a167d0af9cfec8221d1843bc9bc0490c5150d29269692136320f209bd1d6f1da", checked := Try.checked }
namespace Rows
def none {H : Type} : Left H := { results := [], args := [] }

/-- 'laws.FnExactChartStart': WHATEVER THE INPUT: true; the input reads as it did. -/
def fnExactChartStartSpec : ChangeSpec := { name := "fnExactChartStart", fn := fun _ => fun
  | [d] => { results := [.lit (.bool true)], args := [d] }
  | _ => none }
def fnExactChartStartRow : OpenClaim := { program := "ytccnnfklphnijaa", sum := "a167d0af9cfec8221d1843bc9bc0490c5150d29269692136320f209bd1d6f1da", func := "loop.example/fretwork/laws.FnExactChartStart", spec := "fnExactChartStart", unfollowed := true, recurses := true, plainKeys := false, apart := false }
def FnExactChartStartSaid : Prop := fnExactChartStartRow.holds Try.pinned (OpenSpec.ofChange fnExactChartStartSpec)

/-- ITS FALSE NEIGHBOUR: 'it returns false'. Refute it at one input. -/
def fnExactChartStartWrong : ChangeSpec := { name := "fnExactChartStart", fn := fun _ => fun
  | [d] => { results := [.lit (.bool false)], args := [d] }
  | _ => none }
def FnExactChartStartWrongFalsely : Prop := fnExactChartStartRow.holds Try.pinned (OpenSpec.ofChange fnExactChartStartWrong)

/-- 'laws.FnExactChartEnds': WHATEVER THE INPUT: true; the input reads as it did. -/
def fnExactChartEndsSpec : ChangeSpec := { name := "fnExactChartEnds", fn := fun _ => fun
  | [d1, d2] => { results := [.lit (.bool true)], args := [d1, d2] }
  | _ => none }
def fnExactChartEndsRow : OpenClaim := { program := "ytccnnfklphnijaa", sum := "a167d0af9cfec8221d1843bc9bc0490c5150d29269692136320f209bd1d6f1da", func := "loop.example/fretwork/laws.FnExactChartEnds", spec := "fnExactChartEnds", unfollowed := true, recurses := true, plainKeys := false, apart := false }
def FnExactChartEndsSaid : Prop := fnExactChartEndsRow.holds Try.pinned (OpenSpec.ofChange fnExactChartEndsSpec)

/-- ITS FALSE NEIGHBOUR: 'it returns false'. Refute it at one input. -/
def fnExactChartEndsWrong : ChangeSpec := { name := "fnExactChartEnds", fn := fun _ => fun
  | [d1, d2] => { results := [.lit (.bool false)], args := [d1, d2] }
  | _ => none }
def FnExactChartEndsWrongFalsely : Prop := fnExactChartEndsRow.holds Try.pinned (OpenSpec.ofChange fnExactChartEndsWrong)

/-- 'laws.FnExactChartNext': WHATEVER THE INPUT: true; the input reads as it did. -/
def fnExactChartNextSpec : ChangeSpec := { name := "fnExactChartNext", fn := fun _ => fun
  | [d1, d2] => { results := [.lit (.bool true)], args := [d1, d2] }
  | _ => none }
def fnExactChartNextRow : OpenClaim := { program := "ytccnnfklphnijaa", sum := "a167d0af9cfec8221d1843bc9bc0490c5150d29269692136320f209bd1d6f1da", func := "loop.example/fretwork/laws.FnExactChartNext", spec := "fnExactChartNext", unfollowed := true, recurses := true, plainKeys := false, apart := false }
def FnExactChartNextSaid : Prop := fnExactChartNextRow.holds Try.pinned (OpenSpec.ofChange fnExactChartNextSpec)

/-- ITS FALSE NEIGHBOUR: 'it returns false'. Refute it at one input. -/
def fnExactChartNextWrong : ChangeSpec := { name := "fnExactChartNext", fn := fun _ => fun
  | [d1, d2] => { results := [.lit (.bool false)], args := [d1, d2] }
  | _ => none }
def FnExactChartNextWrongFalsely : Prop := fnExactChartNextRow.holds Try.pinned (OpenSpec.ofChange fnExactChartNextWrong)

/- THE SECOND FORM. 'bulk': how many values and letters a reading holds, each counted each time it is reached (what is shared counts as often as it is met; a slice's spare places count too). A statement '..UptoSaid' is the law's where the arguments, and the package variables that the reading takes, are together of bulk at most 1048576: NARROWER than '..Said'. Prove '..Said' where nothing that the law and all that it calls make is longer than what came in: it says more and counts as full. Else prove '..UptoSaid'. A law counts once. -/
mutual
def uptoBulk {H : Type} : DataW H → Nat
  | .lit (.string bytes) => bytes.length + 1
  | .lit _ => 1
  | .nil => 1
  | .ptr d => uptoBulk d + 1
  | .slice elems spare => uptoBulkAll elems + uptoBulkAll spare + 1
  | .agg parts => uptoBulkAll parts + 1
  | .iface _ d => uptoBulk d + 1
  | .map entries => uptoBulkEntries entries + 1
  | .held _ => 1
def uptoBulkAll {H : Type} : List (DataW H) → Nat
  | [] => 0
  | d :: r => uptoBulk d + uptoBulkAll r
def uptoBulkEntries {H : Type} : List (Lit × DataW H) → Nat
  | [] => 0
  | x :: r => uptoBulkEntry x + uptoBulkEntries r
def uptoBulkEntry {H : Type} : Lit × DataW H → Nat
  | (.string bytes, d) => bytes.length + uptoBulk d + 1
  | (_, d) => uptoBulk d + 1
 end
def uptoSmall : (H : Type) → List (DataW H) → Bool := fun _ ds => decide (uptoBulkAll ds ≤ 1048576)
def OpenSpec.upto (s : _root_.Go.ChangeSpec) : _root_.Go.OpenSpec := { _root_.Go.OpenSpec.ofChange s with cond := some uptoSmall }

/-- 'laws.FnExactChartStart', WHERE WHAT IT READS IS OF BULK AT MOST 1048576: true; the input reads as it did. -/
def fnExactChartStartUptoRow : OpenClaim := { program := "ytccnnfklphnijaa", sum := "a167d0af9cfec8221d1843bc9bc0490c5150d29269692136320f209bd1d6f1da", func := "loop.example/fretwork/laws.FnExactChartStart", spec := "fnExactChartStart", unfollowed := true, recurses := true, plainKeys := false, apart := false, narrowed := true }
def FnExactChartStartUptoSaid : Prop := fnExactChartStartUptoRow.holds Try.pinned (OpenSpec.upto fnExactChartStartSpec)

/-- 'laws.FnExactChartEnds', WHERE WHAT IT READS IS OF BULK AT MOST 1048576: true; the input reads as it did. -/
def fnExactChartEndsUptoRow : OpenClaim := { program := "ytccnnfklphnijaa", sum := "a167d0af9cfec8221d1843bc9bc0490c5150d29269692136320f209bd1d6f1da", func := "loop.example/fretwork/laws.FnExactChartEnds", spec := "fnExactChartEnds", unfollowed := true, recurses := true, plainKeys := false, apart := false, narrowed := true }
def FnExactChartEndsUptoSaid : Prop := fnExactChartEndsUptoRow.holds Try.pinned (OpenSpec.upto fnExactChartEndsSpec)

/-- 'laws.FnExactChartNext', WHERE WHAT IT READS IS OF BULK AT MOST 1048576: true; the input reads as it did. -/
def fnExactChartNextUptoRow : OpenClaim := { program := "ytccnnfklphnijaa", sum := "a167d0af9cfec8221d1843bc9bc0490c5150d29269692136320f209bd1d6f1da", func := "loop.example/fretwork/laws.FnExactChartNext", spec := "fnExactChartNext", unfollowed := true, recurses := true, plainKeys := false, apart := false, narrowed := true }
def FnExactChartNextUptoSaid : Prop := fnExactChartNextUptoRow.holds Try.pinned (OpenSpec.upto fnExactChartNextSpec)

end Rows
end Go.Proofs.Ytccnnfklphnijaa
