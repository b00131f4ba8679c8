/-
  NARROWER THAN 'FOR EVERY INPUT', by the rows' own cells (each row's printed sentence says how): FnJsonBack: laid · FnJsonKids: laid · FnJsonBare: laid · FnJsonDeep: laid · FnJsonTwice: laid · FnJsonFlag: laid · FnExactJsonOk: loops, laid · FnExactJsonWrite: loops, laid.
  DERIVED. THE GIVEN ROWS OF THIS SEAT. 8 by the template 'for every input the law returns true; each argument reads behind the call as it read before'; 0 by the template 'total and deterministic' (their statements: YtmmafhibojipjaaDoorTotals.lean).
  GIVEN WITH THE SEED: the statements are not yours to turn. If you find one false, say at which input.
  Laid BY PROGRAM, IN A SANDBOX (cutbox-rows.mjs): the forced cells as the released guide's own fill.sh prints them over the translation 74c58ac4847f925b… (all of the seat's roots in one cut). By AI agents, Wed Nov 11 2026. No macro, syntax, notation, axiom, sorry.
-/
import Derived.Test.YtmmafhibojipjaaDoorChecked
import GoSem.PinnedTables
import GoSem.Claim
import GoSem.ClaimJoined
import GoSem.ClaimMapViews
import Derived.JoinedTies
import Derived.KernelRfl
namespace Go.Proofs.YtmmafhibojipjaaDoor
/- THE CELL 'sum', in the pinned program and in every row, IS THE sha256 OF THE DUMP (.gsa) THAT YtmmafhibojipjaaDoorProg.lean LOADS. Nothing in Lean hashes anything: it is a label: what it is worth is what the hold of that sum in a sandbox is worth. -/
noncomputable def Tryd.pinned : Pinned := { name := "ytmmafhibojipjaadoor", sum := "74c58ac4847f925b498bafde792ea5c218967dfd1e6eb53cdd47dc5e9fa5a989", checked := Tryd.checked }
namespace Rows
def none {H : Type} : Left H := { results := [], args := [] }

/- WHAT THE LISTED PACKAGE-LEVEL VARIABLES READ AS WHEN THE CALL BEGINS. Each datum BY PROGRAM (the guide's laid-datum.mjs) off the statement by which the dump's own 'gosem.cut.vars' lays the variable. In a bare row this is a premise. The card (YtmmafhibojipjaaDoorCards.lean) ties it to the program's text. -/
def laid_unicode_utf8_acceptRanges {H : Type} : DataW H := .agg [.agg [.lit (.int .u8 128), .lit (.int .u8 191)], .agg [.lit (.int .u8 160), .lit (.int .u8 191)], .agg [.lit (.int .u8 128), .lit (.int .u8 159)], .agg [.lit (.int .u8 144), .lit (.int .u8 191)], .agg [.lit (.int .u8 128), .lit (.int .u8 143)], .agg [.lit (.int .u8 0), .lit (.int .u8 0)], .agg [.lit (.int .u8 0), .lit (.int .u8 0)], .agg [.lit (.int .u8 0), .lit (.int .u8 0)], .agg [.lit (.int .u8 0), .lit (.int .u8 0)], .agg [.lit (.int .u8 0), .lit (.int .u8 0)], .agg [.lit (.int .u8 0), .lit (.int .u8 0)], .agg [.lit (.int .u8 0), .lit (.int .u8 0)], .agg [.lit (.int .u8 0), .lit (.int .u8 0)], .agg [.lit (.int .u8 0), .lit (.int .u8 0)], .agg [.lit (.int .u8 0), .lit (.int .u8 0)], .agg [.lit (.int .u8 0), .lit (.int .u8 0)]]
/-- One of Go's own tables, pinned by name: the form's constant. -/
def laid_unicode_utf8_first : DataW Unit := Go.Pinned.utf8First

/-- 'laws.FnJsonBack': WHATEVER THE INPUT: true; the input reads as it did. -/
def fnJsonBackSpec : ChangeSpec := { name := "fnJsonBack", fn := fun _ => fun
  | [d] => { results := [.lit (.bool true)], args := [d] }
  | _ => none }
def fnJsonBackRow : OpenClaim := { program := "ytmmafhibojipjaadoor", sum := "74c58ac4847f925b498bafde792ea5c218967dfd1e6eb53cdd47dc5e9fa5a989", func := "loop.example/fretwork/laws.FnJsonBack", spec := "fnJsonBack", inPlace := ["internal/bytealg.IndexByteString", "internal/bytealg.IndexString", "internal/abi.NoEscape"], unfollowed := true, recurses := true, named := ["unicode/utf8.first", "unicode/utf8.acceptRanges", "internal/bytealg.MaxLen"], apart := false, laid := [("unicode/utf8.acceptRanges", laid_unicode_utf8_acceptRanges), ("unicode/utf8.first", laid_unicode_utf8_first)] }
def FnJsonBackSaid : Prop := fnJsonBackRow.holds Tryd.pinned (OpenSpec.ofChange fnJsonBackSpec)

/-- ITS FALSE NEIGHBOUR: 'it returns false'. Refute it at one input. -/
def fnJsonBackWrong : ChangeSpec := { name := "fnJsonBack", fn := fun _ => fun
  | [d] => { results := [.lit (.bool false)], args := [d] }
  | _ => none }
def FnJsonBackWrongFalsely : Prop := fnJsonBackRow.holds Tryd.pinned (OpenSpec.ofChange fnJsonBackWrong)

/-- 'laws.FnJsonKids': WHATEVER THE INPUT: true; the input reads as it did. -/
def fnJsonKidsSpec : ChangeSpec := { name := "fnJsonKids", fn := fun _ => fun
  | [d] => { results := [.lit (.bool true)], args := [d] }
  | _ => none }
def fnJsonKidsRow : OpenClaim := { program := "ytmmafhibojipjaadoor", sum := "74c58ac4847f925b498bafde792ea5c218967dfd1e6eb53cdd47dc5e9fa5a989", func := "loop.example/fretwork/laws.FnJsonKids", spec := "fnJsonKids", inPlace := ["internal/bytealg.IndexByteString", "internal/bytealg.IndexString", "internal/abi.NoEscape"], unfollowed := true, recurses := true, named := ["unicode/utf8.first", "unicode/utf8.acceptRanges", "internal/bytealg.MaxLen"], apart := false, laid := [("unicode/utf8.acceptRanges", laid_unicode_utf8_acceptRanges), ("unicode/utf8.first", laid_unicode_utf8_first)] }
def FnJsonKidsSaid : Prop := fnJsonKidsRow.holds Tryd.pinned (OpenSpec.ofChange fnJsonKidsSpec)

/-- ITS FALSE NEIGHBOUR: 'it returns false'. Refute it at one input. -/
def fnJsonKidsWrong : ChangeSpec := { name := "fnJsonKids", fn := fun _ => fun
  | [d] => { results := [.lit (.bool false)], args := [d] }
  | _ => none }
def FnJsonKidsWrongFalsely : Prop := fnJsonKidsRow.holds Tryd.pinned (OpenSpec.ofChange fnJsonKidsWrong)

/-- 'laws.FnJsonBare': WHATEVER THE INPUT: true; the input reads as it did. -/
def fnJsonBareSpec : ChangeSpec := { name := "fnJsonBare", fn := fun _ => fun
  | [d] => { results := [.lit (.bool true)], args := [d] }
  | _ => none }
def fnJsonBareRow : OpenClaim := { program := "ytmmafhibojipjaadoor", sum := "74c58ac4847f925b498bafde792ea5c218967dfd1e6eb53cdd47dc5e9fa5a989", func := "loop.example/fretwork/laws.FnJsonBare", spec := "fnJsonBare", inPlace := ["internal/bytealg.IndexByteString", "internal/bytealg.IndexString", "internal/abi.NoEscape"], unfollowed := true, recurses := true, named := ["unicode/utf8.first", "unicode/utf8.acceptRanges", "internal/bytealg.MaxLen"], apart := false, laid := [("unicode/utf8.acceptRanges", laid_unicode_utf8_acceptRanges), ("unicode/utf8.first", laid_unicode_utf8_first)] }
def FnJsonBareSaid : Prop := fnJsonBareRow.holds Tryd.pinned (OpenSpec.ofChange fnJsonBareSpec)

/-- ITS FALSE NEIGHBOUR: 'it returns false'. Refute it at one input. -/
def fnJsonBareWrong : ChangeSpec := { name := "fnJsonBare", fn := fun _ => fun
  | [d] => { results := [.lit (.bool false)], args := [d] }
  | _ => none }
def FnJsonBareWrongFalsely : Prop := fnJsonBareRow.holds Tryd.pinned (OpenSpec.ofChange fnJsonBareWrong)

/-- 'laws.FnJsonDeep': WHATEVER THE INPUT: true; the input reads as it did. -/
def fnJsonDeepSpec : ChangeSpec := { name := "fnJsonDeep", fn := fun _ => fun
  | [d] => { results := [.lit (.bool true)], args := [d] }
  | _ => none }
def fnJsonDeepRow : OpenClaim := { program := "ytmmafhibojipjaadoor", sum := "74c58ac4847f925b498bafde792ea5c218967dfd1e6eb53cdd47dc5e9fa5a989", func := "loop.example/fretwork/laws.FnJsonDeep", spec := "fnJsonDeep", inPlace := ["internal/bytealg.IndexByteString", "internal/bytealg.IndexString", "internal/abi.NoEscape"], unfollowed := true, recurses := true, named := ["unicode/utf8.first", "unicode/utf8.acceptRanges", "internal/bytealg.MaxLen"], apart := false, laid := [("unicode/utf8.acceptRanges", laid_unicode_utf8_acceptRanges), ("unicode/utf8.first", laid_unicode_utf8_first)] }
def FnJsonDeepSaid : Prop := fnJsonDeepRow.holds Tryd.pinned (OpenSpec.ofChange fnJsonDeepSpec)

/-- ITS FALSE NEIGHBOUR: 'it returns false'. Refute it at one input. -/
def fnJsonDeepWrong : ChangeSpec := { name := "fnJsonDeep", fn := fun _ => fun
  | [d] => { results := [.lit (.bool false)], args := [d] }
  | _ => none }
def FnJsonDeepWrongFalsely : Prop := fnJsonDeepRow.holds Tryd.pinned (OpenSpec.ofChange fnJsonDeepWrong)

/-- 'laws.FnJsonTwice': WHATEVER THE INPUT: true; the input reads as it did. -/
def fnJsonTwiceSpec : ChangeSpec := { name := "fnJsonTwice", fn := fun _ => fun
  | [d] => { results := [.lit (.bool true)], args := [d] }
  | _ => none }
def fnJsonTwiceRow : OpenClaim := { program := "ytmmafhibojipjaadoor", sum := "74c58ac4847f925b498bafde792ea5c218967dfd1e6eb53cdd47dc5e9fa5a989", func := "loop.example/fretwork/laws.FnJsonTwice", spec := "fnJsonTwice", inPlace := ["internal/bytealg.IndexByteString", "internal/bytealg.IndexString", "internal/abi.NoEscape"], unfollowed := true, recurses := true, named := ["unicode/utf8.first", "unicode/utf8.acceptRanges", "internal/bytealg.MaxLen"], apart := false, laid := [("unicode/utf8.acceptRanges", laid_unicode_utf8_acceptRanges), ("unicode/utf8.first", laid_unicode_utf8_first)] }
def FnJsonTwiceSaid : Prop := fnJsonTwiceRow.holds Tryd.pinned (OpenSpec.ofChange fnJsonTwiceSpec)

/-- ITS FALSE NEIGHBOUR: 'it returns false'. Refute it at one input. -/
def fnJsonTwiceWrong : ChangeSpec := { name := "fnJsonTwice", fn := fun _ => fun
  | [d] => { results := [.lit (.bool false)], args := [d] }
  | _ => none }
def FnJsonTwiceWrongFalsely : Prop := fnJsonTwiceRow.holds Tryd.pinned (OpenSpec.ofChange fnJsonTwiceWrong)

/-- 'laws.FnJsonFlag': WHATEVER THE INPUT: true; the input reads as it did. -/
def fnJsonFlagSpec : ChangeSpec := { name := "fnJsonFlag", fn := fun _ => fun
  | [d] => { results := [.lit (.bool true)], args := [d] }
  | _ => none }
def fnJsonFlagRow : OpenClaim := { program := "ytmmafhibojipjaadoor", sum := "74c58ac4847f925b498bafde792ea5c218967dfd1e6eb53cdd47dc5e9fa5a989", func := "loop.example/fretwork/laws.FnJsonFlag", spec := "fnJsonFlag", inPlace := ["internal/bytealg.IndexByteString", "internal/bytealg.IndexString", "internal/abi.NoEscape"], unfollowed := true, recurses := true, named := ["unicode/utf8.first", "unicode/utf8.acceptRanges", "internal/bytealg.MaxLen"], apart := false, laid := [("unicode/utf8.acceptRanges", laid_unicode_utf8_acceptRanges), ("unicode/utf8.first", laid_unicode_utf8_first)] }
def FnJsonFlagSaid : Prop := fnJsonFlagRow.holds Tryd.pinned (OpenSpec.ofChange fnJsonFlagSpec)

/-- ITS FALSE NEIGHBOUR: 'it returns false'. Refute it at one input. -/
def fnJsonFlagWrong : ChangeSpec := { name := "fnJsonFlag", fn := fun _ => fun
  | [d] => { results := [.lit (.bool false)], args := [d] }
  | _ => none }
def FnJsonFlagWrongFalsely : Prop := fnJsonFlagRow.holds Tryd.pinned (OpenSpec.ofChange fnJsonFlagWrong)

/-- 'laws.FnExactJsonOk': WHATEVER THE INPUT: true; the input reads as it did. -/
def fnExactJsonOkSpec : ChangeSpec := { name := "fnExactJsonOk", fn := fun _ => fun
  | [d] => { results := [.lit (.bool true)], args := [d] }
  | _ => none }
def fnExactJsonOkRow : OpenClaim := { program := "ytmmafhibojipjaadoor", sum := "74c58ac4847f925b498bafde792ea5c218967dfd1e6eb53cdd47dc5e9fa5a989", func := "loop.example/fretwork/laws.FnExactJsonOk", spec := "fnExactJsonOk", inPlace := ["internal/bytealg.IndexByteString", "internal/bytealg.IndexString", "internal/abi.NoEscape"], unfollowed := true, recurses := true, named := ["unicode/utf8.first", "unicode/utf8.acceptRanges", "internal/bytealg.MaxLen"], loops := true, apart := false, laid := [("unicode/utf8.acceptRanges", laid_unicode_utf8_acceptRanges), ("unicode/utf8.first", laid_unicode_utf8_first)] }
def FnExactJsonOkSaid : Prop := fnExactJsonOkRow.holds Tryd.pinned (OpenSpec.ofChange fnExactJsonOkSpec)

/-- ITS FALSE NEIGHBOUR: 'it returns false'. Refute it at one input. -/
def fnExactJsonOkWrong : ChangeSpec := { name := "fnExactJsonOk", fn := fun _ => fun
  | [d] => { results := [.lit (.bool false)], args := [d] }
  | _ => none }
def FnExactJsonOkWrongFalsely : Prop := fnExactJsonOkRow.holds Tryd.pinned (OpenSpec.ofChange fnExactJsonOkWrong)

/-- 'laws.FnExactJsonWrite': WHATEVER THE INPUT: true; the input reads as it did. -/
def fnExactJsonWriteSpec : ChangeSpec := { name := "fnExactJsonWrite", fn := fun _ => fun
  | [d] => { results := [.lit (.bool true)], args := [d] }
  | _ => none }
def fnExactJsonWriteRow : OpenClaim := { program := "ytmmafhibojipjaadoor", sum := "74c58ac4847f925b498bafde792ea5c218967dfd1e6eb53cdd47dc5e9fa5a989", func := "loop.example/fretwork/laws.FnExactJsonWrite", spec := "fnExactJsonWrite", inPlace := ["internal/bytealg.IndexByteString", "internal/bytealg.IndexString", "internal/abi.NoEscape"], unfollowed := true, recurses := true, named := ["unicode/utf8.first", "unicode/utf8.acceptRanges", "internal/bytealg.MaxLen"], loops := true, apart := false, laid := [("unicode/utf8.acceptRanges", laid_unicode_utf8_acceptRanges), ("unicode/utf8.first", laid_unicode_utf8_first)] }
def FnExactJsonWriteSaid : Prop := fnExactJsonWriteRow.holds Tryd.pinned (OpenSpec.ofChange fnExactJsonWriteSpec)

/-- ITS FALSE NEIGHBOUR: 'it returns false'. Refute it at one input. -/
def fnExactJsonWriteWrong : ChangeSpec := { name := "fnExactJsonWrite", fn := fun _ => fun
  | [d] => { results := [.lit (.bool false)], args := [d] }
  | _ => none }
def FnExactJsonWriteWrongFalsely : Prop := fnExactJsonWriteRow.holds Tryd.pinned (OpenSpec.ofChange fnExactJsonWriteWrong)

/- THE SECOND FORM. 'bulk': how many values and letters a reading holds, each counted each time it is reached (what is shared counts as often as it is met; a slice's spare places count too). A statement '..UptoSaid' is the law's where the arguments, and the package variables that the reading takes, are together of bulk at most 1048576: NARROWER than '..Said'. Prove '..Said' where nothing that the law and all that it calls make is longer than what came in: it says more and counts as full. Else prove '..UptoSaid'. A law counts once. -/
mutual
def uptoBulk {H : Type} : DataW H → Nat
  | .lit (.string bytes) => bytes.length + 1
  | .lit _ => 1
  | .nil => 1
  | .ptr d => uptoBulk d + 1
  | .slice elems spare => uptoBulkAll elems + uptoBulkAll spare + 1
  | .agg parts => uptoBulkAll parts + 1
  | .iface _ d => uptoBulk d + 1
  | .map entries => uptoBulkEntries entries + 1
  | .held _ => 1
def uptoBulkAll {H : Type} : List (DataW H) → Nat
  | [] => 0
  | d :: r => uptoBulk d + uptoBulkAll r
def uptoBulkEntries {H : Type} : List (Lit × DataW H) → Nat
  | [] => 0
  | x :: r => uptoBulkEntry x + uptoBulkEntries r
def uptoBulkEntry {H : Type} : Lit × DataW H → Nat
  | (.string bytes, d) => bytes.length + uptoBulk d + 1
  | (_, d) => uptoBulk d + 1
 end
def uptoSmall : (H : Type) → List (DataW H) → Bool := fun _ ds => decide (uptoBulkAll ds ≤ 1048576)
def OpenSpec.upto (s : _root_.Go.ChangeSpec) : _root_.Go.OpenSpec := { _root_.Go.OpenSpec.ofChange s with cond := some uptoSmall }

/-- 'laws.FnJsonBack', WHERE WHAT IT READS IS OF BULK AT MOST 1048576: true; the input reads as it did. -/
def fnJsonBackUptoRow : OpenClaim := { program := "ytmmafhibojipjaadoor", sum := "74c58ac4847f925b498bafde792ea5c218967dfd1e6eb53cdd47dc5e9fa5a989", func := "loop.example/fretwork/laws.FnJsonBack", spec := "fnJsonBack", inPlace := ["internal/bytealg.IndexByteString", "internal/bytealg.IndexString", "internal/abi.NoEscape"], unfollowed := true, recurses := true, named := ["unicode/utf8.first", "unicode/utf8.acceptRanges", "internal/bytealg.MaxLen"], apart := false, laid := [("unicode/utf8.acceptRanges", laid_unicode_utf8_acceptRanges), ("unicode/utf8.first", laid_unicode_utf8_first)], narrowed := true }
def FnJsonBackUptoSaid : Prop := fnJsonBackUptoRow.holds Tryd.pinned (OpenSpec.upto fnJsonBackSpec)

/-- 'laws.FnJsonKids', WHERE WHAT IT READS IS OF BULK AT MOST 1048576: true; the input reads as it did. -/
def fnJsonKidsUptoRow : OpenClaim := { program := "ytmmafhibojipjaadoor", sum := "74c58ac4847f925b498bafde792ea5c218967dfd1e6eb53cdd47dc5e9fa5a989", func := "loop.example/fretwork/laws.FnJsonKids", spec := "fnJsonKids", inPlace := ["internal/bytealg.IndexByteString", "internal/bytealg.IndexString", "internal/abi.NoEscape"], unfollowed := true, recurses := true, named := ["unicode/utf8.first", "unicode/utf8.acceptRanges", "internal/bytealg.MaxLen"], apart := false, laid := [("unicode/utf8.acceptRanges", laid_unicode_utf8_acceptRanges), ("unicode/utf8.first", laid_unicode_utf8_first)], narrowed := true }
def FnJsonKidsUptoSaid : Prop := fnJsonKidsUptoRow.holds Tryd.pinned (OpenSpec.upto fnJsonKidsSpec)

/-- 'laws.FnJsonBare', WHERE WHAT IT READS IS OF BULK AT MOST 1048576: true; the input reads as it did. -/
def fnJsonBareUptoRow : OpenClaim := { program := "ytmmafhibojipjaadoor", sum := "74c58ac4847f925b498bafde792ea5c218967dfd1e6eb53cdd47dc5e9fa5a989", func := "loop.example/fretwork/laws.FnJsonBare", spec := "fnJsonBare", inPlace := ["internal/bytealg.IndexByteString", "internal/bytealg.IndexString", "internal/abi.NoEscape"], unfollowed := true, recurses := true, named := ["unicode/utf8.first", "unicode/utf8.acceptRanges", "internal/bytealg.MaxLen"], apart := false, laid := [("unicode/utf8.acceptRanges", laid_unicode_utf8_acceptRanges), ("unicode/utf8.first", laid_unicode_utf8_first)], narrowed := true }
def FnJsonBareUptoSaid : Prop := fnJsonBareUptoRow.holds Tryd.pinned (OpenSpec.upto fnJsonBareSpec)

/-- 'laws.FnJsonDeep', WHERE WHAT IT READS IS OF BULK AT MOST 1048576: true; the input reads as it did. -/
def fnJsonDeepUptoRow : OpenClaim := { program := "ytmmafhibojipjaadoor", sum := "74c58ac4847f925b498bafde792ea5c218967dfd1e6eb53cdd47dc5e9fa5a989", func := "loop.example/fretwork/laws.FnJsonDeep", spec := "fnJsonDeep", inPlace := ["internal/bytealg.IndexByteString", "internal/bytealg.IndexString", "internal/abi.NoEscape"], unfollowed := true, recurses := true, named := ["unicode/utf8.first", "unicode/utf8.acceptRanges", "internal/bytealg.MaxLen"], apart := false, laid := [("unicode/utf8.acceptRanges", laid_unicode_utf8_acceptRanges), ("unicode/utf8.first", laid_unicode_utf8_first)], narrowed := true }
def FnJsonDeepUptoSaid : Prop := fnJsonDeepUptoRow.holds Tryd.pinned (OpenSpec.upto fnJsonDeepSpec)

/-- 'laws.FnJsonTwice', WHERE WHAT IT READS IS OF BULK AT MOST 1048576: true; the input reads as it did. -/
def fnJsonTwiceUptoRow : OpenClaim := { program := "ytmmafhibojipjaadoor", sum := "74c58ac4847f925b498bafde792ea5c218967dfd1e6eb53cdd47dc5e9fa5a989", func := "loop.example/fretwork/laws.FnJsonTwice", spec := "fnJsonTwice", inPlace := ["internal/bytealg.IndexByteString", "internal/bytealg.IndexString", "internal/abi.NoEscape"], unfollowed := true, recurses := true, named := ["unicode/utf8.first", "unicode/utf8.acceptRanges", "internal/bytealg.MaxLen"], apart := false, laid := [("unicode/utf8.acceptRanges", laid_unicode_utf8_acceptRanges), ("unicode/utf8.first", laid_unicode_utf8_first)], narrowed := true }
def FnJsonTwiceUptoSaid : Prop := fnJsonTwiceUptoRow.holds Tryd.pinned (OpenSpec.upto fnJsonTwiceSpec)

/-- 'laws.FnJsonFlag', WHERE WHAT IT READS IS OF BULK AT MOST 1048576: true; the input reads as it did. -/
def fnJsonFlagUptoRow : OpenClaim := { program := "ytmmafhibojipjaadoor", sum := "74c58ac4847f925b498bafde792ea5c218967dfd1e6eb53cdd47dc5e9fa5a989", func := "loop.example/fretwork/laws.FnJsonFlag", spec := "fnJsonFlag", inPlace := ["internal/bytealg.IndexByteString", "internal/bytealg.IndexString", "internal/abi.NoEscape"], unfollowed := true, recurses := true, named := ["unicode/utf8.first", "unicode/utf8.acceptRanges", "internal/bytealg.MaxLen"], apart := false, laid := [("unicode/utf8.acceptRanges", laid_unicode_utf8_acceptRanges), ("unicode/utf8.first", laid_unicode_utf8_first)], narrowed := true }
def FnJsonFlagUptoSaid : Prop := fnJsonFlagUptoRow.holds Tryd.pinned (OpenSpec.upto fnJsonFlagSpec)

/-- 'laws.FnExactJsonOk', WHERE WHAT IT READS IS OF BULK AT MOST 1048576: true; the input reads as it did. -/
def fnExactJsonOkUptoRow : OpenClaim := { program := "ytmmafhibojipjaadoor", sum := "74c58ac4847f925b498bafde792ea5c218967dfd1e6eb53cdd47dc5e9fa5a989", func := "loop.example/fretwork/laws.FnExactJsonOk", spec := "fnExactJsonOk", inPlace := ["internal/bytealg.IndexByteString", "internal/bytealg.IndexString", "internal/abi.NoEscape"], unfollowed := true, recurses := true, named := ["unicode/utf8.first", "unicode/utf8.acceptRanges", "internal/bytealg.MaxLen"], loops := true, apart := false, laid := [("unicode/utf8.acceptRanges", laid_unicode_utf8_acceptRanges), ("unicode/utf8.first", laid_unicode_utf8_first)], narrowed := true }
def FnExactJsonOkUptoSaid : Prop := fnExactJsonOkUptoRow.holds Tryd.pinned (OpenSpec.upto fnExactJsonOkSpec)

/-- 'laws.FnExactJsonWrite', WHERE WHAT IT READS IS OF BULK AT MOST 1048576: true; the input reads as it did. -/
def fnExactJsonWriteUptoRow : OpenClaim := { program := "ytmmafhibojipjaadoor", sum := "74c58ac4847f925b498bafde792ea5c218967dfd1e6eb53cdd47dc5e9fa5a989", func := "loop.example/fretwork/laws.FnExactJsonWrite", spec := "fnExactJsonWrite", inPlace := ["internal/bytealg.IndexByteString", "internal/bytealg.IndexString", "internal/abi.NoEscape"], unfollowed := true, recurses := true, named := ["unicode/utf8.first", "unicode/utf8.acceptRanges", "internal/bytealg.MaxLen"], loops := true, apart := false, laid := [("unicode/utf8.acceptRanges", laid_unicode_utf8_acceptRanges), ("unicode/utf8.first", laid_unicode_utf8_first)], narrowed := true }
def FnExactJsonWriteUptoSaid : Prop := fnExactJsonWriteUptoRow.holds Tryd.pinned (OpenSpec.upto fnExactJsonWriteSpec)

end Rows
end Go.Proofs.YtmmafhibojipjaaDoor
