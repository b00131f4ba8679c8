/-
  No cell of these rows narrows 'for every input' (looked for: loops, veiled, ifaces, maps, wideKeys, modest, calm, conditions, laid).
  DERIVED. THE GIVEN ROWS OF THIS SEAT. 16 by the template 'for every input the law returns true; each argument reads behind the call as it read before'; 0 by the template 'total and deterministic' (their statements: YtcanhkngikeeiaaTotals.lean).
  GIVEN WITH THE SEED: the statements are not yours to turn. If you find one false, say at which input.
  Laid BY PROGRAM, IN A SANDBOX (cutbox-rows.mjs): the forced cells as the released guide's own fill.sh prints them over the translation aa97f067140dc503… (all of the seat's roots in one cut). By AI agents, Wed Nov 11 2026. No macro, syntax, notation, axiom, sorry.
-/
import Derived.Test.YtcanhkngikeeiaaChecked
import GoSem.Claim
import GoSem.ClaimJoined
import GoSem.ClaimMapViews
import Derived.JoinedTies
import Derived.KernelRfl
namespace Go.Proofs.Ytcanhkngikeeiaa
/- THE CELL 'sum', in the pinned program and in every row, IS THE sha256 OF THE DUMP (.gsa) THAT YtcanhkngikeeiaaProg.lean LOADS. Nothing in Lean hashes anything: it is a label: what it is worth is what the hold of that sum in a sandbox is worth. -/
noncomputable def Try.pinned : Pinned := { name := "ytcanhkngikeeiaa", sum := "aa97f067140dc5036ee89083ff660a5b8cb970a2edcdc54ca73c6740dee09bd5", checked := Try.checked }
namespace Rows
def none {H : Type} : Left H := { results := [], args := [] }

/-- 'laws.FnVocText': WHATEVER THE INPUT: true; the input reads as it did. -/
def fnVocTextSpec : ChangeSpec := { name := "fnVocText", fn := fun _ => fun
  | [d1, d2] => { results := [.lit (.bool true)], args := [d1, d2] }
  | _ => none }
def fnVocTextRow : OpenClaim := { program := "ytcanhkngikeeiaa", sum := "aa97f067140dc5036ee89083ff660a5b8cb970a2edcdc54ca73c6740dee09bd5", func := "loop.example/fretwork/laws.FnVocText", spec := "fnVocText", inPlace := ["internal/abi.NoEscape"], unfollowed := true, recurses := true, apart := false }
def FnVocTextSaid : Prop := fnVocTextRow.holds Try.pinned (OpenSpec.ofChange fnVocTextSpec)

/-- ITS FALSE NEIGHBOUR: 'it returns false'. Refute it at one input. -/
def fnVocTextWrong : ChangeSpec := { name := "fnVocText", fn := fun _ => fun
  | [d1, d2] => { results := [.lit (.bool false)], args := [d1, d2] }
  | _ => none }
def FnVocTextWrongFalsely : Prop := fnVocTextRow.holds Try.pinned (OpenSpec.ofChange fnVocTextWrong)

/-- 'laws.FnVocLong': WHATEVER THE INPUT: true; the input reads as it did. -/
def fnVocLongSpec : ChangeSpec := { name := "fnVocLong", fn := fun _ => fun
  | [d] => { results := [.lit (.bool true)], args := [d] }
  | _ => none }
def fnVocLongRow : OpenClaim := { program := "ytcanhkngikeeiaa", sum := "aa97f067140dc5036ee89083ff660a5b8cb970a2edcdc54ca73c6740dee09bd5", func := "loop.example/fretwork/laws.FnVocLong", spec := "fnVocLong", inPlace := ["internal/abi.NoEscape"], unfollowed := true, recurses := true, apart := false }
def FnVocLongSaid : Prop := fnVocLongRow.holds Try.pinned (OpenSpec.ofChange fnVocLongSpec)

/-- ITS FALSE NEIGHBOUR: 'it returns false'. Refute it at one input. -/
def fnVocLongWrong : ChangeSpec := { name := "fnVocLong", fn := fun _ => fun
  | [d] => { results := [.lit (.bool false)], args := [d] }
  | _ => none }
def FnVocLongWrongFalsely : Prop := fnVocLongRow.holds Try.pinned (OpenSpec.ofChange fnVocLongWrong)

/-- 'laws.FnVocFirst': WHATEVER THE INPUT: true; the input reads as it did. -/
def fnVocFirstSpec : ChangeSpec := { name := "fnVocFirst", fn := fun _ => fun
  | [d] => { results := [.lit (.bool true)], args := [d] }
  | _ => none }
def fnVocFirstRow : OpenClaim := { program := "ytcanhkngikeeiaa", sum := "aa97f067140dc5036ee89083ff660a5b8cb970a2edcdc54ca73c6740dee09bd5", func := "loop.example/fretwork/laws.FnVocFirst", spec := "fnVocFirst", unfollowed := true, recurses := true, apart := false }
def FnVocFirstSaid : Prop := fnVocFirstRow.holds Try.pinned (OpenSpec.ofChange fnVocFirstSpec)

/-- ITS FALSE NEIGHBOUR: 'it returns false'. Refute it at one input. -/
def fnVocFirstWrong : ChangeSpec := { name := "fnVocFirst", fn := fun _ => fun
  | [d] => { results := [.lit (.bool false)], args := [d] }
  | _ => none }
def FnVocFirstWrongFalsely : Prop := fnVocFirstRow.holds Try.pinned (OpenSpec.ofChange fnVocFirstWrong)

/-- 'laws.FnVocSingle': WHATEVER THE INPUT: true; the input reads as it did. -/
def fnVocSingleSpec : ChangeSpec := { name := "fnVocSingle", fn := fun _ => fun
  | [d] => { results := [.lit (.bool true)], args := [d] }
  | _ => none }
def fnVocSingleRow : OpenClaim := { program := "ytcanhkngikeeiaa", sum := "aa97f067140dc5036ee89083ff660a5b8cb970a2edcdc54ca73c6740dee09bd5", func := "loop.example/fretwork/laws.FnVocSingle", spec := "fnVocSingle", unfollowed := true, recurses := true, apart := false }
def FnVocSingleSaid : Prop := fnVocSingleRow.holds Try.pinned (OpenSpec.ofChange fnVocSingleSpec)

/-- ITS FALSE NEIGHBOUR: 'it returns false'. Refute it at one input. -/
def fnVocSingleWrong : ChangeSpec := { name := "fnVocSingle", fn := fun _ => fun
  | [d] => { results := [.lit (.bool false)], args := [d] }
  | _ => none }
def FnVocSingleWrongFalsely : Prop := fnVocSingleRow.holds Try.pinned (OpenSpec.ofChange fnVocSingleWrong)

/-- 'laws.FnVocEnd': WHATEVER THE INPUT: true; the input reads as it did. -/
def fnVocEndSpec : ChangeSpec := { name := "fnVocEnd", fn := fun _ => fun
  | [d] => { results := [.lit (.bool true)], args := [d] }
  | _ => none }
def fnVocEndRow : OpenClaim := { program := "ytcanhkngikeeiaa", sum := "aa97f067140dc5036ee89083ff660a5b8cb970a2edcdc54ca73c6740dee09bd5", func := "loop.example/fretwork/laws.FnVocEnd", spec := "fnVocEnd", inPlace := ["internal/abi.NoEscape"], unfollowed := true, recurses := true, apart := false }
def FnVocEndSaid : Prop := fnVocEndRow.holds Try.pinned (OpenSpec.ofChange fnVocEndSpec)

/-- ITS FALSE NEIGHBOUR: 'it returns false'. Refute it at one input. -/
def fnVocEndWrong : ChangeSpec := { name := "fnVocEnd", fn := fun _ => fun
  | [d] => { results := [.lit (.bool false)], args := [d] }
  | _ => none }
def FnVocEndWrongFalsely : Prop := fnVocEndRow.holds Try.pinned (OpenSpec.ofChange fnVocEndWrong)

/-- 'laws.FnTrieMake': WHATEVER THE INPUT: true; the input reads as it did. -/
def fnTrieMakeSpec : ChangeSpec := { name := "fnTrieMake", fn := fun _ => fun
  | [d] => { results := [.lit (.bool true)], args := [d] }
  | _ => none }
def fnTrieMakeRow : OpenClaim := { program := "ytcanhkngikeeiaa", sum := "aa97f067140dc5036ee89083ff660a5b8cb970a2edcdc54ca73c6740dee09bd5", func := "loop.example/fretwork/laws.FnTrieMake", spec := "fnTrieMake", inPlace := ["internal/bytealg.abigen_runtime_cmpstring"], unfollowed := true, recurses := true, apart := false }
def FnTrieMakeSaid : Prop := fnTrieMakeRow.holds Try.pinned (OpenSpec.ofChange fnTrieMakeSpec)

/-- ITS FALSE NEIGHBOUR: 'it returns false'. Refute it at one input. -/
def fnTrieMakeWrong : ChangeSpec := { name := "fnTrieMake", fn := fun _ => fun
  | [d] => { results := [.lit (.bool false)], args := [d] }
  | _ => none }
def FnTrieMakeWrongFalsely : Prop := fnTrieMakeRow.holds Try.pinned (OpenSpec.ofChange fnTrieMakeWrong)

/-- 'laws.FnTrieFind': WHATEVER THE INPUT: true; the input reads as it did. -/
def fnTrieFindSpec : ChangeSpec := { name := "fnTrieFind", fn := fun _ => fun
  | [d1, d2] => { results := [.lit (.bool true)], args := [d1, d2] }
  | _ => none }
def fnTrieFindRow : OpenClaim := { program := "ytcanhkngikeeiaa", sum := "aa97f067140dc5036ee89083ff660a5b8cb970a2edcdc54ca73c6740dee09bd5", func := "loop.example/fretwork/laws.FnTrieFind", spec := "fnTrieFind", inPlace := ["internal/bytealg.abigen_runtime_cmpstring"], unfollowed := true, recurses := true, apart := false }
def FnTrieFindSaid : Prop := fnTrieFindRow.holds Try.pinned (OpenSpec.ofChange fnTrieFindSpec)

/-- ITS FALSE NEIGHBOUR: 'it returns false'. Refute it at one input. -/
def fnTrieFindWrong : ChangeSpec := { name := "fnTrieFind", fn := fun _ => fun
  | [d1, d2] => { results := [.lit (.bool false)], args := [d1, d2] }
  | _ => none }
def FnTrieFindWrongFalsely : Prop := fnTrieFindRow.holds Try.pinned (OpenSpec.ofChange fnTrieFindWrong)

/-- 'laws.FnTrieOrder': WHATEVER THE INPUT: true; the input reads as it did. -/
def fnTrieOrderSpec : ChangeSpec := { name := "fnTrieOrder", fn := fun _ => fun
  | [d] => { results := [.lit (.bool true)], args := [d] }
  | _ => none }
def fnTrieOrderRow : OpenClaim := { program := "ytcanhkngikeeiaa", sum := "aa97f067140dc5036ee89083ff660a5b8cb970a2edcdc54ca73c6740dee09bd5", func := "loop.example/fretwork/laws.FnTrieOrder", spec := "fnTrieOrder", inPlace := ["internal/bytealg.abigen_runtime_cmpstring"], unfollowed := true, recurses := true, apart := false }
def FnTrieOrderSaid : Prop := fnTrieOrderRow.holds Try.pinned (OpenSpec.ofChange fnTrieOrderSpec)

/-- ITS FALSE NEIGHBOUR: 'it returns false'. Refute it at one input. -/
def fnTrieOrderWrong : ChangeSpec := { name := "fnTrieOrder", fn := fun _ => fun
  | [d] => { results := [.lit (.bool false)], args := [d] }
  | _ => none }
def FnTrieOrderWrongFalsely : Prop := fnTrieOrderRow.holds Try.pinned (OpenSpec.ofChange fnTrieOrderWrong)

/-- 'laws.FnTrieCount': WHATEVER THE INPUT: true; the input reads as it did. -/
def fnTrieCountSpec : ChangeSpec := { name := "fnTrieCount", fn := fun _ => fun
  | [d] => { results := [.lit (.bool true)], args := [d] }
  | _ => none }
def fnTrieCountRow : OpenClaim := { program := "ytcanhkngikeeiaa", sum := "aa97f067140dc5036ee89083ff660a5b8cb970a2edcdc54ca73c6740dee09bd5", func := "loop.example/fretwork/laws.FnTrieCount", spec := "fnTrieCount", inPlace := ["internal/bytealg.abigen_runtime_cmpstring"], unfollowed := true, recurses := true, apart := false }
def FnTrieCountSaid : Prop := fnTrieCountRow.holds Try.pinned (OpenSpec.ofChange fnTrieCountSpec)

/-- ITS FALSE NEIGHBOUR: 'it returns false'. Refute it at one input. -/
def fnTrieCountWrong : ChangeSpec := { name := "fnTrieCount", fn := fun _ => fun
  | [d] => { results := [.lit (.bool false)], args := [d] }
  | _ => none }
def FnTrieCountWrongFalsely : Prop := fnTrieCountRow.holds Try.pinned (OpenSpec.ofChange fnTrieCountWrong)

/-- 'laws.FnVocPlace': WHATEVER THE INPUT: true; the input reads as it did. -/
def fnVocPlaceSpec : ChangeSpec := { name := "fnVocPlace", fn := fun _ => fun
  | [d1, d2] => { results := [.lit (.bool true)], args := [d1, d2] }
  | _ => none }
def fnVocPlaceRow : OpenClaim := { program := "ytcanhkngikeeiaa", sum := "aa97f067140dc5036ee89083ff660a5b8cb970a2edcdc54ca73c6740dee09bd5", func := "loop.example/fretwork/laws.FnVocPlace", spec := "fnVocPlace", inPlace := ["internal/abi.NoEscape"], unfollowed := true, recurses := true, apart := false }
def FnVocPlaceSaid : Prop := fnVocPlaceRow.holds Try.pinned (OpenSpec.ofChange fnVocPlaceSpec)

/-- ITS FALSE NEIGHBOUR: 'it returns false'. Refute it at one input. -/
def fnVocPlaceWrong : ChangeSpec := { name := "fnVocPlace", fn := fun _ => fun
  | [d1, d2] => { results := [.lit (.bool false)], args := [d1, d2] }
  | _ => none }
def FnVocPlaceWrongFalsely : Prop := fnVocPlaceRow.holds Try.pinned (OpenSpec.ofChange fnVocPlaceWrong)

/-- 'laws.FnTrieRoot': WHATEVER THE INPUT: true; the input reads as it did. -/
def fnTrieRootSpec : ChangeSpec := { name := "fnTrieRoot", fn := fun _ => fun
  | [d] => { results := [.lit (.bool true)], args := [d] }
  | _ => none }
def fnTrieRootRow : OpenClaim := { program := "ytcanhkngikeeiaa", sum := "aa97f067140dc5036ee89083ff660a5b8cb970a2edcdc54ca73c6740dee09bd5", func := "loop.example/fretwork/laws.FnTrieRoot", spec := "fnTrieRoot", inPlace := ["internal/bytealg.abigen_runtime_cmpstring"], unfollowed := true, recurses := true, apart := false }
def FnTrieRootSaid : Prop := fnTrieRootRow.holds Try.pinned (OpenSpec.ofChange fnTrieRootSpec)

/-- ITS FALSE NEIGHBOUR: 'it returns false'. Refute it at one input. -/
def fnTrieRootWrong : ChangeSpec := { name := "fnTrieRoot", fn := fun _ => fun
  | [d] => { results := [.lit (.bool false)], args := [d] }
  | _ => none }
def FnTrieRootWrongFalsely : Prop := fnTrieRootRow.holds Try.pinned (OpenSpec.ofChange fnTrieRootWrong)

/-- 'laws.FnExactVocOk': WHATEVER THE INPUT: true; the input reads as it did. -/
def fnExactVocOkSpec : ChangeSpec := { name := "fnExactVocOk", fn := fun _ => fun
  | [d] => { results := [.lit (.bool true)], args := [d] }
  | _ => none }
def fnExactVocOkRow : OpenClaim := { program := "ytcanhkngikeeiaa", sum := "aa97f067140dc5036ee89083ff660a5b8cb970a2edcdc54ca73c6740dee09bd5", func := "loop.example/fretwork/laws.FnExactVocOk", spec := "fnExactVocOk", unfollowed := true, recurses := true, apart := false }
def FnExactVocOkSaid : Prop := fnExactVocOkRow.holds Try.pinned (OpenSpec.ofChange fnExactVocOkSpec)

/-- ITS FALSE NEIGHBOUR: 'it returns false'. Refute it at one input. -/
def fnExactVocOkWrong : ChangeSpec := { name := "fnExactVocOk", fn := fun _ => fun
  | [d] => { results := [.lit (.bool false)], args := [d] }
  | _ => none }
def FnExactVocOkWrongFalsely : Prop := fnExactVocOkRow.holds Try.pinned (OpenSpec.ofChange fnExactVocOkWrong)

/-- 'laws.FnExactVocText': WHATEVER THE INPUT: true; the input reads as it did. -/
def fnExactVocTextSpec : ChangeSpec := { name := "fnExactVocText", fn := fun _ => fun
  | [d1, d2] => { results := [.lit (.bool true)], args := [d1, d2] }
  | _ => none }
def fnExactVocTextRow : OpenClaim := { program := "ytcanhkngikeeiaa", sum := "aa97f067140dc5036ee89083ff660a5b8cb970a2edcdc54ca73c6740dee09bd5", func := "loop.example/fretwork/laws.FnExactVocText", spec := "fnExactVocText", inPlace := ["internal/abi.NoEscape"], unfollowed := true, recurses := true, apart := false }
def FnExactVocTextSaid : Prop := fnExactVocTextRow.holds Try.pinned (OpenSpec.ofChange fnExactVocTextSpec)

/-- ITS FALSE NEIGHBOUR: 'it returns false'. Refute it at one input. -/
def fnExactVocTextWrong : ChangeSpec := { name := "fnExactVocText", fn := fun _ => fun
  | [d1, d2] => { results := [.lit (.bool false)], args := [d1, d2] }
  | _ => none }
def FnExactVocTextWrongFalsely : Prop := fnExactVocTextRow.holds Try.pinned (OpenSpec.ofChange fnExactVocTextWrong)

/-- 'laws.FnExactVocLong': WHATEVER THE INPUT: true; the input reads as it did. -/
def fnExactVocLongSpec : ChangeSpec := { name := "fnExactVocLong", fn := fun _ => fun
  | [d1, d2] => { results := [.lit (.bool true)], args := [d1, d2] }
  | _ => none }
def fnExactVocLongRow : OpenClaim := { program := "ytcanhkngikeeiaa", sum := "aa97f067140dc5036ee89083ff660a5b8cb970a2edcdc54ca73c6740dee09bd5", func := "loop.example/fretwork/laws.FnExactVocLong", spec := "fnExactVocLong", unfollowed := true, recurses := true, apart := false }
def FnExactVocLongSaid : Prop := fnExactVocLongRow.holds Try.pinned (OpenSpec.ofChange fnExactVocLongSpec)

/-- ITS FALSE NEIGHBOUR: 'it returns false'. Refute it at one input. -/
def fnExactVocLongWrong : ChangeSpec := { name := "fnExactVocLong", fn := fun _ => fun
  | [d1, d2] => { results := [.lit (.bool false)], args := [d1, d2] }
  | _ => none }
def FnExactVocLongWrongFalsely : Prop := fnExactVocLongRow.holds Try.pinned (OpenSpec.ofChange fnExactVocLongWrong)

/-- 'laws.FnExactTrieMake': WHATEVER THE INPUT: true; the input reads as it did. -/
def fnExactTrieMakeSpec : ChangeSpec := { name := "fnExactTrieMake", fn := fun _ => fun
  | [d] => { results := [.lit (.bool true)], args := [d] }
  | _ => none }
def fnExactTrieMakeRow : OpenClaim := { program := "ytcanhkngikeeiaa", sum := "aa97f067140dc5036ee89083ff660a5b8cb970a2edcdc54ca73c6740dee09bd5", func := "loop.example/fretwork/laws.FnExactTrieMake", spec := "fnExactTrieMake", inPlace := ["internal/bytealg.abigen_runtime_cmpstring"], unfollowed := true, recurses := true, apart := false }
def FnExactTrieMakeSaid : Prop := fnExactTrieMakeRow.holds Try.pinned (OpenSpec.ofChange fnExactTrieMakeSpec)

/-- ITS FALSE NEIGHBOUR: 'it returns false'. Refute it at one input. -/
def fnExactTrieMakeWrong : ChangeSpec := { name := "fnExactTrieMake", fn := fun _ => fun
  | [d] => { results := [.lit (.bool false)], args := [d] }
  | _ => none }
def FnExactTrieMakeWrongFalsely : Prop := fnExactTrieMakeRow.holds Try.pinned (OpenSpec.ofChange fnExactTrieMakeWrong)

/-- 'laws.FnExactTrieFind': WHATEVER THE INPUT: true; the input reads as it did. -/
def fnExactTrieFindSpec : ChangeSpec := { name := "fnExactTrieFind", fn := fun _ => fun
  | [d1, d2] => { results := [.lit (.bool true)], args := [d1, d2] }
  | _ => none }
def fnExactTrieFindRow : OpenClaim := { program := "ytcanhkngikeeiaa", sum := "aa97f067140dc5036ee89083ff660a5b8cb970a2edcdc54ca73c6740dee09bd5", func := "loop.example/fretwork/laws.FnExactTrieFind", spec := "fnExactTrieFind", unfollowed := true, recurses := true, apart := false }
def FnExactTrieFindSaid : Prop := fnExactTrieFindRow.holds Try.pinned (OpenSpec.ofChange fnExactTrieFindSpec)

/-- ITS FALSE NEIGHBOUR: 'it returns false'. Refute it at one input. -/
def fnExactTrieFindWrong : ChangeSpec := { name := "fnExactTrieFind", fn := fun _ => fun
  | [d1, d2] => { results := [.lit (.bool false)], args := [d1, d2] }
  | _ => none }
def FnExactTrieFindWrongFalsely : Prop := fnExactTrieFindRow.holds Try.pinned (OpenSpec.ofChange fnExactTrieFindWrong)

/- THE SECOND FORM. 'bulk': how many values and letters a reading holds, each counted each time it is reached (what is shared counts as often as it is met; a slice's spare places count too). A statement '..UptoSaid' is the law's where the arguments, and the package variables that the reading takes, are together of bulk at most 1048576: NARROWER than '..Said'. Prove '..Said' where nothing that the law and all that it calls make is longer than what came in: it says more and counts as full. Else prove '..UptoSaid'. A law counts once. -/
mutual
def uptoBulk {H : Type} : DataW H → Nat
  | .lit (.string bytes) => bytes.length + 1
  | .lit _ => 1
  | .nil => 1
  | .ptr d => uptoBulk d + 1
  | .slice elems spare => uptoBulkAll elems + uptoBulkAll spare + 1
  | .agg parts => uptoBulkAll parts + 1
  | .iface _ d => uptoBulk d + 1
  | .map entries => uptoBulkEntries entries + 1
  | .held _ => 1
def uptoBulkAll {H : Type} : List (DataW H) → Nat
  | [] => 0
  | d :: r => uptoBulk d + uptoBulkAll r
def uptoBulkEntries {H : Type} : List (Lit × DataW H) → Nat
  | [] => 0
  | x :: r => uptoBulkEntry x + uptoBulkEntries r
def uptoBulkEntry {H : Type} : Lit × DataW H → Nat
  | (.string bytes, d) => bytes.length + uptoBulk d + 1
  | (_, d) => uptoBulk d + 1
 end
def uptoSmall : (H : Type) → List (DataW H) → Bool := fun _ ds => decide (uptoBulkAll ds ≤ 1048576)
def OpenSpec.upto (s : _root_.Go.ChangeSpec) : _root_.Go.OpenSpec := { _root_.Go.OpenSpec.ofChange s with cond := some uptoSmall }

/-- 'laws.FnVocText', WHERE WHAT IT READS IS OF BULK AT MOST 1048576: true; the input reads as it did. -/
def fnVocTextUptoRow : OpenClaim := { program := "ytcanhkngikeeiaa", sum := "aa97f067140dc5036ee89083ff660a5b8cb970a2edcdc54ca73c6740dee09bd5", func := "loop.example/fretwork/laws.FnVocText", spec := "fnVocText", inPlace := ["internal/abi.NoEscape"], unfollowed := true, recurses := true, apart := false, narrowed := true }
def FnVocTextUptoSaid : Prop := fnVocTextUptoRow.holds Try.pinned (OpenSpec.upto fnVocTextSpec)

/-- 'laws.FnVocLong', WHERE WHAT IT READS IS OF BULK AT MOST 1048576: true; the input reads as it did. -/
def fnVocLongUptoRow : OpenClaim := { program := "ytcanhkngikeeiaa", sum := "aa97f067140dc5036ee89083ff660a5b8cb970a2edcdc54ca73c6740dee09bd5", func := "loop.example/fretwork/laws.FnVocLong", spec := "fnVocLong", inPlace := ["internal/abi.NoEscape"], unfollowed := true, recurses := true, apart := false, narrowed := true }
def FnVocLongUptoSaid : Prop := fnVocLongUptoRow.holds Try.pinned (OpenSpec.upto fnVocLongSpec)

/-- 'laws.FnVocFirst', WHERE WHAT IT READS IS OF BULK AT MOST 1048576: true; the input reads as it did. -/
def fnVocFirstUptoRow : OpenClaim := { program := "ytcanhkngikeeiaa", sum := "aa97f067140dc5036ee89083ff660a5b8cb970a2edcdc54ca73c6740dee09bd5", func := "loop.example/fretwork/laws.FnVocFirst", spec := "fnVocFirst", unfollowed := true, recurses := true, apart := false, narrowed := true }
def FnVocFirstUptoSaid : Prop := fnVocFirstUptoRow.holds Try.pinned (OpenSpec.upto fnVocFirstSpec)

/-- 'laws.FnVocSingle', WHERE WHAT IT READS IS OF BULK AT MOST 1048576: true; the input reads as it did. -/
def fnVocSingleUptoRow : OpenClaim := { program := "ytcanhkngikeeiaa", sum := "aa97f067140dc5036ee89083ff660a5b8cb970a2edcdc54ca73c6740dee09bd5", func := "loop.example/fretwork/laws.FnVocSingle", spec := "fnVocSingle", unfollowed := true, recurses := true, apart := false, narrowed := true }
def FnVocSingleUptoSaid : Prop := fnVocSingleUptoRow.holds Try.pinned (OpenSpec.upto fnVocSingleSpec)

/-- 'laws.FnVocEnd', WHERE WHAT IT READS IS OF BULK AT MOST 1048576: true; the input reads as it did. -/
def fnVocEndUptoRow : OpenClaim := { program := "ytcanhkngikeeiaa", sum := "aa97f067140dc5036ee89083ff660a5b8cb970a2edcdc54ca73c6740dee09bd5", func := "loop.example/fretwork/laws.FnVocEnd", spec := "fnVocEnd", inPlace := ["internal/abi.NoEscape"], unfollowed := true, recurses := true, apart := false, narrowed := true }
def FnVocEndUptoSaid : Prop := fnVocEndUptoRow.holds Try.pinned (OpenSpec.upto fnVocEndSpec)

/-- 'laws.FnTrieMake', WHERE WHAT IT READS IS OF BULK AT MOST 1048576: true; the input reads as it did. -/
def fnTrieMakeUptoRow : OpenClaim := { program := "ytcanhkngikeeiaa", sum := "aa97f067140dc5036ee89083ff660a5b8cb970a2edcdc54ca73c6740dee09bd5", func := "loop.example/fretwork/laws.FnTrieMake", spec := "fnTrieMake", inPlace := ["internal/bytealg.abigen_runtime_cmpstring"], unfollowed := true, recurses := true, apart := false, narrowed := true }
def FnTrieMakeUptoSaid : Prop := fnTrieMakeUptoRow.holds Try.pinned (OpenSpec.upto fnTrieMakeSpec)

/-- 'laws.FnTrieFind', WHERE WHAT IT READS IS OF BULK AT MOST 1048576: true; the input reads as it did. -/
def fnTrieFindUptoRow : OpenClaim := { program := "ytcanhkngikeeiaa", sum := "aa97f067140dc5036ee89083ff660a5b8cb970a2edcdc54ca73c6740dee09bd5", func := "loop.example/fretwork/laws.FnTrieFind", spec := "fnTrieFind", inPlace := ["internal/bytealg.abigen_runtime_cmpstring"], unfollowed := true, recurses := true, apart := false, narrowed := true }
def FnTrieFindUptoSaid : Prop := fnTrieFindUptoRow.holds Try.pinned (OpenSpec.upto fnTrieFindSpec)

/-- 'laws.FnTrieOrder', WHERE WHAT IT READS IS OF BULK AT MOST 1048576: true; the input reads as it did. -/
def fnTrieOrderUptoRow : OpenClaim := { program := "ytcanhkngikeeiaa", sum := "aa97f067140dc5036ee89083ff660a5b8cb970a2edcdc54ca73c6740dee09bd5", func := "loop.example/fretwork/laws.FnTrieOrder", spec := "fnTrieOrder", inPlace := ["internal/bytealg.abigen_runtime_cmpstring"], unfollowed := true, recurses := true, apart := false, narrowed := true }
def FnTrieOrderUptoSaid : Prop := fnTrieOrderUptoRow.holds Try.pinned (OpenSpec.upto fnTrieOrderSpec)

/-- 'laws.FnTrieCount', WHERE WHAT IT READS IS OF BULK AT MOST 1048576: true; the input reads as it did. -/
def fnTrieCountUptoRow : OpenClaim := { program := "ytcanhkngikeeiaa", sum := "aa97f067140dc5036ee89083ff660a5b8cb970a2edcdc54ca73c6740dee09bd5", func := "loop.example/fretwork/laws.FnTrieCount", spec := "fnTrieCount", inPlace := ["internal/bytealg.abigen_runtime_cmpstring"], unfollowed := true, recurses := true, apart := false, narrowed := true }
def FnTrieCountUptoSaid : Prop := fnTrieCountUptoRow.holds Try.pinned (OpenSpec.upto fnTrieCountSpec)

/-- 'laws.FnVocPlace', WHERE WHAT IT READS IS OF BULK AT MOST 1048576: true; the input reads as it did. -/
def fnVocPlaceUptoRow : OpenClaim := { program := "ytcanhkngikeeiaa", sum := "aa97f067140dc5036ee89083ff660a5b8cb970a2edcdc54ca73c6740dee09bd5", func := "loop.example/fretwork/laws.FnVocPlace", spec := "fnVocPlace", inPlace := ["internal/abi.NoEscape"], unfollowed := true, recurses := true, apart := false, narrowed := true }
def FnVocPlaceUptoSaid : Prop := fnVocPlaceUptoRow.holds Try.pinned (OpenSpec.upto fnVocPlaceSpec)

/-- 'laws.FnTrieRoot', WHERE WHAT IT READS IS OF BULK AT MOST 1048576: true; the input reads as it did. -/
def fnTrieRootUptoRow : OpenClaim := { program := "ytcanhkngikeeiaa", sum := "aa97f067140dc5036ee89083ff660a5b8cb970a2edcdc54ca73c6740dee09bd5", func := "loop.example/fretwork/laws.FnTrieRoot", spec := "fnTrieRoot", inPlace := ["internal/bytealg.abigen_runtime_cmpstring"], unfollowed := true, recurses := true, apart := false, narrowed := true }
def FnTrieRootUptoSaid : Prop := fnTrieRootUptoRow.holds Try.pinned (OpenSpec.upto fnTrieRootSpec)

/-- 'laws.FnExactVocOk', WHERE WHAT IT READS IS OF BULK AT MOST 1048576: true; the input reads as it did. -/
def fnExactVocOkUptoRow : OpenClaim := { program := "ytcanhkngikeeiaa", sum := "aa97f067140dc5036ee89083ff660a5b8cb970a2edcdc54ca73c6740dee09bd5", func := "loop.example/fretwork/laws.FnExactVocOk", spec := "fnExactVocOk", unfollowed := true, recurses := true, apart := false, narrowed := true }
def FnExactVocOkUptoSaid : Prop := fnExactVocOkUptoRow.holds Try.pinned (OpenSpec.upto fnExactVocOkSpec)

/-- 'laws.FnExactVocText', WHERE WHAT IT READS IS OF BULK AT MOST 1048576: true; the input reads as it did. -/
def fnExactVocTextUptoRow : OpenClaim := { program := "ytcanhkngikeeiaa", sum := "aa97f067140dc5036ee89083ff660a5b8cb970a2edcdc54ca73c6740dee09bd5", func := "loop.example/fretwork/laws.FnExactVocText", spec := "fnExactVocText", inPlace := ["internal/abi.NoEscape"], unfollowed := true, recurses := true, apart := false, narrowed := true }
def FnExactVocTextUptoSaid : Prop := fnExactVocTextUptoRow.holds Try.pinned (OpenSpec.upto fnExactVocTextSpec)

/-- 'laws.FnExactVocLong', WHERE WHAT IT READS IS OF BULK AT MOST 1048576: true; the input reads as it did. -/
def fnExactVocLongUptoRow : OpenClaim := { program := "ytcanhkngikeeiaa", sum := "aa97f067140dc5036ee89083ff660a5b8cb970a2edcdc54ca73c6740dee09bd5", func := "loop.example/fretwork/laws.FnExactVocLong", spec := "fnExactVocLong", unfollowed := true, recurses := true, apart := false, narrowed := true }
def FnExactVocLongUptoSaid : Prop := fnExactVocLongUptoRow.holds Try.pinned (OpenSpec.upto fnExactVocLongSpec)

/-- 'laws.FnExactTrieMake', WHERE WHAT IT READS IS OF BULK AT MOST 1048576: true; the input reads as it did. -/
def fnExactTrieMakeUptoRow : OpenClaim := { program := "ytcanhkngikeeiaa", sum := "aa97f067140dc5036ee89083ff660a5b8cb970a2edcdc54ca73c6740dee09bd5", func := "loop.example/fretwork/laws.FnExactTrieMake", spec := "fnExactTrieMake", inPlace := ["internal/bytealg.abigen_runtime_cmpstring"], unfollowed := true, recurses := true, apart := false, narrowed := true }
def FnExactTrieMakeUptoSaid : Prop := fnExactTrieMakeUptoRow.holds Try.pinned (OpenSpec.upto fnExactTrieMakeSpec)

/-- 'laws.FnExactTrieFind', WHERE WHAT IT READS IS OF BULK AT MOST 1048576: true; the input reads as it did. -/
def fnExactTrieFindUptoRow : OpenClaim := { program := "ytcanhkngikeeiaa", sum := "aa97f067140dc5036ee89083ff660a5b8cb970a2edcdc54ca73c6740dee09bd5", func := "loop.example/fretwork/laws.FnExactTrieFind", spec := "fnExactTrieFind", unfollowed := true, recurses := true, apart := false, narrowed := true }
def FnExactTrieFindUptoSaid : Prop := fnExactTrieFindUptoRow.holds Try.pinned (OpenSpec.upto fnExactTrieFindSpec)

end Rows
end Go.Proofs.Ytcanhkngikeeiaa
