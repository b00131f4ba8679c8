/-
  NARROWER THAN 'FOR EVERY INPUT', by the rows' own cells (each row's printed sentence says how): FnExactSchemaOk: loops, laid · FnExactSchemaFits: loops, laid · FnExactSchemaSome: loops, laid · FnSchemaKind: laid · FnSchemaAny: laid · FnSchemaList: laid · FnSchemaForm: laid · FnSchemaWide: laid · FnSchemaMust: laid · FnSchemaOrder: laid · FnSchemaOne: laid · FnSchemaWord: laid.
  DERIVED. THE GIVEN ROWS OF THIS SEAT. 12 by the template 'for every input the law returns true; each argument reads behind the call as it read before'; 0 by the template 'total and deterministic' (their statements: YtkhcappjhefkjaaGreatDoorTotals.lean).
  GIVEN WITH THE SEED: the statements are not yours to turn. If you find one false, say at which input.
  Laid BY PROGRAM, IN A SANDBOX (cutbox-rows.mjs): the forced cells as the released guide's own fill.sh prints them over the translation e4a1857b7b3aa08a… (all of the seat's roots in one cut). By AI agents, Wed Nov 11 2026. No macro, syntax, notation, axiom, sorry.
-/
import Derived.Test.YtkhcappjhefkjaaGreatDoorChecked
import GoSem.PinnedTables
import GoSem.Claim
import GoSem.ClaimJoined
import GoSem.ClaimMapViews
import Derived.JoinedTies
import Derived.KernelRfl
namespace Go.Proofs.YtkhcappjhefkjaaGreatDoor
/- THE CELL 'sum', in the pinned program and in every row, IS THE sha256 OF THE DUMP (.gsa) THAT YtkhcappjhefkjaaGreatDoorProg.lean LOADS. Nothing in Lean hashes anything: it is a label: what it is worth is what the hold of that sum in a sandbox is worth. -/
noncomputable def Tryz.pinned : Pinned := { name := "ytkhcappjhefkjaagreatdoor", sum := "e4a1857b7b3aa08a4428ef950da3b12bbb2bec19ed560c3a1757d05e50e0d712", checked := Tryz.checked }
namespace Rows
def none {H : Type} : Left H := { results := [], args := [] }

/- WHAT THE LISTED PACKAGE-LEVEL VARIABLES READ AS WHEN THE CALL BEGINS. Each datum BY PROGRAM (the guide's laid-datum.mjs) off the statement by which the dump's own 'gosem.cut.vars' lays the variable. In a bare row this is a premise. The card (YtkhcappjhefkjaaGreatDoorCards.lean) ties it to the program's text. -/
def laid_unicode_utf8_acceptRanges {H : Type} : DataW H := .agg [.agg [.lit (.int .u8 128), .lit (.int .u8 191)], .agg [.lit (.int .u8 160), .lit (.int .u8 191)], .agg [.lit (.int .u8 128), .lit (.int .u8 159)], .agg [.lit (.int .u8 144), .lit (.int .u8 191)], .agg [.lit (.int .u8 128), .lit (.int .u8 143)], .agg [.lit (.int .u8 0), .lit (.int .u8 0)], .agg [.lit (.int .u8 0), .lit (.int .u8 0)], .agg [.lit (.int .u8 0), .lit (.int .u8 0)], .agg [.lit (.int .u8 0), .lit (.int .u8 0)], .agg [.lit (.int .u8 0), .lit (.int .u8 0)], .agg [.lit (.int .u8 0), .lit (.int .u8 0)], .agg [.lit (.int .u8 0), .lit (.int .u8 0)], .agg [.lit (.int .u8 0), .lit (.int .u8 0)], .agg [.lit (.int .u8 0), .lit (.int .u8 0)], .agg [.lit (.int .u8 0), .lit (.int .u8 0)], .agg [.lit (.int .u8 0), .lit (.int .u8 0)]]
/-- One of Go's own tables, pinned by name: the form's constant. -/
def laid_unicode_utf8_first : DataW Unit := Go.Pinned.utf8First

/-- 'laws.FnExactSchemaOk': WHATEVER THE INPUT: true; the input reads as it did. -/
def fnExactSchemaOkSpec : ChangeSpec := { name := "fnExactSchemaOk", fn := fun _ => fun
  | [d] => { results := [.lit (.bool true)], args := [d] }
  | _ => none }
def fnExactSchemaOkRow : OpenClaim := { program := "ytkhcappjhefkjaagreatdoor", sum := "e4a1857b7b3aa08a4428ef950da3b12bbb2bec19ed560c3a1757d05e50e0d712", func := "loop.example/fretwork/laws.FnExactSchemaOk", spec := "fnExactSchemaOk", inPlace := ["internal/abi.NoEscape", "internal/bytealg.MakeNoZero", "internal/bytealg.IndexByteString", "internal/bytealg.IndexString"], unfollowed := true, recurses := true, named := ["unicode/utf8.first", "unicode/utf8.acceptRanges", "internal/bytealg.MaxLen"], loops := true, apart := false, laid := [("unicode/utf8.acceptRanges", laid_unicode_utf8_acceptRanges), ("unicode/utf8.first", laid_unicode_utf8_first)] }
def FnExactSchemaOkSaid : Prop := fnExactSchemaOkRow.holds Tryz.pinned (OpenSpec.ofChange fnExactSchemaOkSpec)

/-- ITS FALSE NEIGHBOUR: 'it returns false'. Refute it at one input. -/
def fnExactSchemaOkWrong : ChangeSpec := { name := "fnExactSchemaOk", fn := fun _ => fun
  | [d] => { results := [.lit (.bool false)], args := [d] }
  | _ => none }
def FnExactSchemaOkWrongFalsely : Prop := fnExactSchemaOkRow.holds Tryz.pinned (OpenSpec.ofChange fnExactSchemaOkWrong)

/-- 'laws.FnExactSchemaFits': WHATEVER THE INPUT: true; the input reads as it did. -/
def fnExactSchemaFitsSpec : ChangeSpec := { name := "fnExactSchemaFits", fn := fun _ => fun
  | [d1, d2] => { results := [.lit (.bool true)], args := [d1, d2] }
  | _ => none }
def fnExactSchemaFitsRow : OpenClaim := { program := "ytkhcappjhefkjaagreatdoor", sum := "e4a1857b7b3aa08a4428ef950da3b12bbb2bec19ed560c3a1757d05e50e0d712", func := "loop.example/fretwork/laws.FnExactSchemaFits", spec := "fnExactSchemaFits", inPlace := ["internal/abi.NoEscape", "internal/bytealg.MakeNoZero", "internal/bytealg.IndexByteString", "internal/bytealg.IndexString"], unfollowed := true, recurses := true, named := ["unicode/utf8.first", "unicode/utf8.acceptRanges", "internal/bytealg.MaxLen"], loops := true, apart := false, laid := [("unicode/utf8.acceptRanges", laid_unicode_utf8_acceptRanges), ("unicode/utf8.first", laid_unicode_utf8_first)] }
def FnExactSchemaFitsSaid : Prop := fnExactSchemaFitsRow.holds Tryz.pinned (OpenSpec.ofChange fnExactSchemaFitsSpec)

/-- ITS FALSE NEIGHBOUR: 'it returns false'. Refute it at one input. -/
def fnExactSchemaFitsWrong : ChangeSpec := { name := "fnExactSchemaFits", fn := fun _ => fun
  | [d1, d2] => { results := [.lit (.bool false)], args := [d1, d2] }
  | _ => none }
def FnExactSchemaFitsWrongFalsely : Prop := fnExactSchemaFitsRow.holds Tryz.pinned (OpenSpec.ofChange fnExactSchemaFitsWrong)

/-- 'laws.FnExactSchemaSome': WHATEVER THE INPUT: true; the input reads as it did. -/
def fnExactSchemaSomeSpec : ChangeSpec := { name := "fnExactSchemaSome", fn := fun _ => fun
  | [d] => { results := [.lit (.bool true)], args := [d] }
  | _ => none }
def fnExactSchemaSomeRow : OpenClaim := { program := "ytkhcappjhefkjaagreatdoor", sum := "e4a1857b7b3aa08a4428ef950da3b12bbb2bec19ed560c3a1757d05e50e0d712", func := "loop.example/fretwork/laws.FnExactSchemaSome", spec := "fnExactSchemaSome", inPlace := ["internal/abi.NoEscape", "internal/bytealg.MakeNoZero", "internal/bytealg.IndexByteString", "internal/bytealg.IndexString"], unfollowed := true, recurses := true, named := ["unicode/utf8.first", "unicode/utf8.acceptRanges", "internal/bytealg.MaxLen"], loops := true, apart := false, laid := [("unicode/utf8.acceptRanges", laid_unicode_utf8_acceptRanges), ("unicode/utf8.first", laid_unicode_utf8_first)] }
def FnExactSchemaSomeSaid : Prop := fnExactSchemaSomeRow.holds Tryz.pinned (OpenSpec.ofChange fnExactSchemaSomeSpec)

/-- ITS FALSE NEIGHBOUR: 'it returns false'. Refute it at one input. -/
def fnExactSchemaSomeWrong : ChangeSpec := { name := "fnExactSchemaSome", fn := fun _ => fun
  | [d] => { results := [.lit (.bool false)], args := [d] }
  | _ => none }
def FnExactSchemaSomeWrongFalsely : Prop := fnExactSchemaSomeRow.holds Tryz.pinned (OpenSpec.ofChange fnExactSchemaSomeWrong)

/-- 'laws.FnSchemaKind': WHATEVER THE INPUT: true; the input reads as it did. -/
def fnSchemaKindSpec : ChangeSpec := { name := "fnSchemaKind", fn := fun _ => fun
  | [d] => { results := [.lit (.bool true)], args := [d] }
  | _ => none }
def fnSchemaKindRow : OpenClaim := { program := "ytkhcappjhefkjaagreatdoor", sum := "e4a1857b7b3aa08a4428ef950da3b12bbb2bec19ed560c3a1757d05e50e0d712", func := "loop.example/fretwork/laws.FnSchemaKind", spec := "fnSchemaKind", inPlace := ["internal/abi.NoEscape", "internal/bytealg.MakeNoZero", "internal/bytealg.IndexByteString", "internal/bytealg.IndexString"], unfollowed := true, recurses := true, named := ["unicode/utf8.first", "unicode/utf8.acceptRanges", "internal/bytealg.MaxLen"], apart := false, laid := [("unicode/utf8.acceptRanges", laid_unicode_utf8_acceptRanges), ("unicode/utf8.first", laid_unicode_utf8_first)] }
def FnSchemaKindSaid : Prop := fnSchemaKindRow.holds Tryz.pinned (OpenSpec.ofChange fnSchemaKindSpec)

/-- ITS FALSE NEIGHBOUR: 'it returns false'. Refute it at one input. -/
def fnSchemaKindWrong : ChangeSpec := { name := "fnSchemaKind", fn := fun _ => fun
  | [d] => { results := [.lit (.bool false)], args := [d] }
  | _ => none }
def FnSchemaKindWrongFalsely : Prop := fnSchemaKindRow.holds Tryz.pinned (OpenSpec.ofChange fnSchemaKindWrong)

/-- 'laws.FnSchemaAny': WHATEVER THE INPUT: true; the input reads as it did. -/
def fnSchemaAnySpec : ChangeSpec := { name := "fnSchemaAny", fn := fun _ => fun
  | [d1, d2] => { results := [.lit (.bool true)], args := [d1, d2] }
  | _ => none }
def fnSchemaAnyRow : OpenClaim := { program := "ytkhcappjhefkjaagreatdoor", sum := "e4a1857b7b3aa08a4428ef950da3b12bbb2bec19ed560c3a1757d05e50e0d712", func := "loop.example/fretwork/laws.FnSchemaAny", spec := "fnSchemaAny", inPlace := ["internal/abi.NoEscape", "internal/bytealg.MakeNoZero", "internal/bytealg.IndexByteString", "internal/bytealg.IndexString"], unfollowed := true, recurses := true, named := ["unicode/utf8.first", "unicode/utf8.acceptRanges", "internal/bytealg.MaxLen"], apart := false, laid := [("unicode/utf8.acceptRanges", laid_unicode_utf8_acceptRanges), ("unicode/utf8.first", laid_unicode_utf8_first)] }
def FnSchemaAnySaid : Prop := fnSchemaAnyRow.holds Tryz.pinned (OpenSpec.ofChange fnSchemaAnySpec)

/-- ITS FALSE NEIGHBOUR: 'it returns false'. Refute it at one input. -/
def fnSchemaAnyWrong : ChangeSpec := { name := "fnSchemaAny", fn := fun _ => fun
  | [d1, d2] => { results := [.lit (.bool false)], args := [d1, d2] }
  | _ => none }
def FnSchemaAnyWrongFalsely : Prop := fnSchemaAnyRow.holds Tryz.pinned (OpenSpec.ofChange fnSchemaAnyWrong)

/-- 'laws.FnSchemaList': WHATEVER THE INPUT: true; the input reads as it did. -/
def fnSchemaListSpec : ChangeSpec := { name := "fnSchemaList", fn := fun _ => fun
  | [d1, d2] => { results := [.lit (.bool true)], args := [d1, d2] }
  | _ => none }
def fnSchemaListRow : OpenClaim := { program := "ytkhcappjhefkjaagreatdoor", sum := "e4a1857b7b3aa08a4428ef950da3b12bbb2bec19ed560c3a1757d05e50e0d712", func := "loop.example/fretwork/laws.FnSchemaList", spec := "fnSchemaList", inPlace := ["internal/abi.NoEscape", "internal/bytealg.MakeNoZero", "internal/bytealg.IndexByteString", "internal/bytealg.IndexString"], unfollowed := true, recurses := true, named := ["unicode/utf8.first", "unicode/utf8.acceptRanges", "internal/bytealg.MaxLen"], apart := false, laid := [("unicode/utf8.acceptRanges", laid_unicode_utf8_acceptRanges), ("unicode/utf8.first", laid_unicode_utf8_first)] }
def FnSchemaListSaid : Prop := fnSchemaListRow.holds Tryz.pinned (OpenSpec.ofChange fnSchemaListSpec)

/-- ITS FALSE NEIGHBOUR: 'it returns false'. Refute it at one input. -/
def fnSchemaListWrong : ChangeSpec := { name := "fnSchemaList", fn := fun _ => fun
  | [d1, d2] => { results := [.lit (.bool false)], args := [d1, d2] }
  | _ => none }
def FnSchemaListWrongFalsely : Prop := fnSchemaListRow.holds Tryz.pinned (OpenSpec.ofChange fnSchemaListWrong)

/-- 'laws.FnSchemaForm': WHATEVER THE INPUT: true; the input reads as it did. -/
def fnSchemaFormSpec : ChangeSpec := { name := "fnSchemaForm", fn := fun _ => fun
  | [d1, d2] => { results := [.lit (.bool true)], args := [d1, d2] }
  | _ => none }
def fnSchemaFormRow : OpenClaim := { program := "ytkhcappjhefkjaagreatdoor", sum := "e4a1857b7b3aa08a4428ef950da3b12bbb2bec19ed560c3a1757d05e50e0d712", func := "loop.example/fretwork/laws.FnSchemaForm", spec := "fnSchemaForm", inPlace := ["internal/abi.NoEscape", "internal/bytealg.MakeNoZero", "internal/bytealg.IndexByteString", "internal/bytealg.IndexString"], unfollowed := true, recurses := true, named := ["unicode/utf8.first", "unicode/utf8.acceptRanges", "internal/bytealg.MaxLen"], apart := false, laid := [("unicode/utf8.acceptRanges", laid_unicode_utf8_acceptRanges), ("unicode/utf8.first", laid_unicode_utf8_first)] }
def FnSchemaFormSaid : Prop := fnSchemaFormRow.holds Tryz.pinned (OpenSpec.ofChange fnSchemaFormSpec)

/-- ITS FALSE NEIGHBOUR: 'it returns false'. Refute it at one input. -/
def fnSchemaFormWrong : ChangeSpec := { name := "fnSchemaForm", fn := fun _ => fun
  | [d1, d2] => { results := [.lit (.bool false)], args := [d1, d2] }
  | _ => none }
def FnSchemaFormWrongFalsely : Prop := fnSchemaFormRow.holds Tryz.pinned (OpenSpec.ofChange fnSchemaFormWrong)

/-- 'laws.FnSchemaWide': WHATEVER THE INPUT: true; the input reads as it did. -/
def fnSchemaWideSpec : ChangeSpec := { name := "fnSchemaWide", fn := fun _ => fun
  | [d] => { results := [.lit (.bool true)], args := [d] }
  | _ => none }
def fnSchemaWideRow : OpenClaim := { program := "ytkhcappjhefkjaagreatdoor", sum := "e4a1857b7b3aa08a4428ef950da3b12bbb2bec19ed560c3a1757d05e50e0d712", func := "loop.example/fretwork/laws.FnSchemaWide", spec := "fnSchemaWide", inPlace := ["internal/abi.NoEscape", "internal/bytealg.MakeNoZero", "internal/bytealg.IndexByteString", "internal/bytealg.IndexString"], unfollowed := true, recurses := true, named := ["unicode/utf8.first", "unicode/utf8.acceptRanges", "internal/bytealg.MaxLen"], apart := false, laid := [("unicode/utf8.acceptRanges", laid_unicode_utf8_acceptRanges), ("unicode/utf8.first", laid_unicode_utf8_first)] }
def FnSchemaWideSaid : Prop := fnSchemaWideRow.holds Tryz.pinned (OpenSpec.ofChange fnSchemaWideSpec)

/-- ITS FALSE NEIGHBOUR: 'it returns false'. Refute it at one input. -/
def fnSchemaWideWrong : ChangeSpec := { name := "fnSchemaWide", fn := fun _ => fun
  | [d] => { results := [.lit (.bool false)], args := [d] }
  | _ => none }
def FnSchemaWideWrongFalsely : Prop := fnSchemaWideRow.holds Tryz.pinned (OpenSpec.ofChange fnSchemaWideWrong)

/-- 'laws.FnSchemaMust': WHATEVER THE INPUT: true; the input reads as it did. -/
def fnSchemaMustSpec : ChangeSpec := { name := "fnSchemaMust", fn := fun _ => fun
  | [d] => { results := [.lit (.bool true)], args := [d] }
  | _ => none }
def fnSchemaMustRow : OpenClaim := { program := "ytkhcappjhefkjaagreatdoor", sum := "e4a1857b7b3aa08a4428ef950da3b12bbb2bec19ed560c3a1757d05e50e0d712", func := "loop.example/fretwork/laws.FnSchemaMust", spec := "fnSchemaMust", inPlace := ["internal/abi.NoEscape", "internal/bytealg.MakeNoZero", "internal/bytealg.IndexByteString", "internal/bytealg.IndexString"], unfollowed := true, recurses := true, named := ["unicode/utf8.first", "unicode/utf8.acceptRanges", "internal/bytealg.MaxLen"], apart := false, laid := [("unicode/utf8.acceptRanges", laid_unicode_utf8_acceptRanges), ("unicode/utf8.first", laid_unicode_utf8_first)] }
def FnSchemaMustSaid : Prop := fnSchemaMustRow.holds Tryz.pinned (OpenSpec.ofChange fnSchemaMustSpec)

/-- ITS FALSE NEIGHBOUR: 'it returns false'. Refute it at one input. -/
def fnSchemaMustWrong : ChangeSpec := { name := "fnSchemaMust", fn := fun _ => fun
  | [d] => { results := [.lit (.bool false)], args := [d] }
  | _ => none }
def FnSchemaMustWrongFalsely : Prop := fnSchemaMustRow.holds Tryz.pinned (OpenSpec.ofChange fnSchemaMustWrong)

/-- 'laws.FnSchemaOrder': WHATEVER THE INPUT: true; the input reads as it did. -/
def fnSchemaOrderSpec : ChangeSpec := { name := "fnSchemaOrder", fn := fun _ => fun
  | [d] => { results := [.lit (.bool true)], args := [d] }
  | _ => none }
def fnSchemaOrderRow : OpenClaim := { program := "ytkhcappjhefkjaagreatdoor", sum := "e4a1857b7b3aa08a4428ef950da3b12bbb2bec19ed560c3a1757d05e50e0d712", func := "loop.example/fretwork/laws.FnSchemaOrder", spec := "fnSchemaOrder", inPlace := ["internal/abi.NoEscape", "internal/bytealg.MakeNoZero", "internal/bytealg.IndexByteString", "internal/bytealg.IndexString"], unfollowed := true, recurses := true, named := ["unicode/utf8.first", "unicode/utf8.acceptRanges", "internal/bytealg.MaxLen"], apart := false, laid := [("unicode/utf8.acceptRanges", laid_unicode_utf8_acceptRanges), ("unicode/utf8.first", laid_unicode_utf8_first)] }
def FnSchemaOrderSaid : Prop := fnSchemaOrderRow.holds Tryz.pinned (OpenSpec.ofChange fnSchemaOrderSpec)

/-- ITS FALSE NEIGHBOUR: 'it returns false'. Refute it at one input. -/
def fnSchemaOrderWrong : ChangeSpec := { name := "fnSchemaOrder", fn := fun _ => fun
  | [d] => { results := [.lit (.bool false)], args := [d] }
  | _ => none }
def FnSchemaOrderWrongFalsely : Prop := fnSchemaOrderRow.holds Tryz.pinned (OpenSpec.ofChange fnSchemaOrderWrong)

/-- 'laws.FnSchemaOne': WHATEVER THE INPUT: true; the input reads as it did. -/
def fnSchemaOneSpec : ChangeSpec := { name := "fnSchemaOne", fn := fun _ => fun
  | [d1, d2] => { results := [.lit (.bool true)], args := [d1, d2] }
  | _ => none }
def fnSchemaOneRow : OpenClaim := { program := "ytkhcappjhefkjaagreatdoor", sum := "e4a1857b7b3aa08a4428ef950da3b12bbb2bec19ed560c3a1757d05e50e0d712", func := "loop.example/fretwork/laws.FnSchemaOne", spec := "fnSchemaOne", inPlace := ["internal/abi.NoEscape", "internal/bytealg.MakeNoZero", "internal/bytealg.IndexByteString", "internal/bytealg.IndexString"], unfollowed := true, recurses := true, named := ["unicode/utf8.first", "unicode/utf8.acceptRanges", "internal/bytealg.MaxLen"], apart := false, laid := [("unicode/utf8.acceptRanges", laid_unicode_utf8_acceptRanges), ("unicode/utf8.first", laid_unicode_utf8_first)] }
def FnSchemaOneSaid : Prop := fnSchemaOneRow.holds Tryz.pinned (OpenSpec.ofChange fnSchemaOneSpec)

/-- ITS FALSE NEIGHBOUR: 'it returns false'. Refute it at one input. -/
def fnSchemaOneWrong : ChangeSpec := { name := "fnSchemaOne", fn := fun _ => fun
  | [d1, d2] => { results := [.lit (.bool false)], args := [d1, d2] }
  | _ => none }
def FnSchemaOneWrongFalsely : Prop := fnSchemaOneRow.holds Tryz.pinned (OpenSpec.ofChange fnSchemaOneWrong)

/-- 'laws.FnSchemaWord': WHATEVER THE INPUT: true; the input reads as it did. -/
def fnSchemaWordSpec : ChangeSpec := { name := "fnSchemaWord", fn := fun _ => fun
  | [d] => { results := [.lit (.bool true)], args := [d] }
  | _ => none }
def fnSchemaWordRow : OpenClaim := { program := "ytkhcappjhefkjaagreatdoor", sum := "e4a1857b7b3aa08a4428ef950da3b12bbb2bec19ed560c3a1757d05e50e0d712", func := "loop.example/fretwork/laws.FnSchemaWord", spec := "fnSchemaWord", inPlace := ["internal/bytealg.IndexByteString", "internal/bytealg.IndexString", "internal/abi.NoEscape", "internal/bytealg.MakeNoZero"], unfollowed := true, recurses := true, named := ["unicode/utf8.first", "unicode/utf8.acceptRanges", "internal/bytealg.MaxLen"], apart := false, laid := [("unicode/utf8.acceptRanges", laid_unicode_utf8_acceptRanges), ("unicode/utf8.first", laid_unicode_utf8_first)] }
def FnSchemaWordSaid : Prop := fnSchemaWordRow.holds Tryz.pinned (OpenSpec.ofChange fnSchemaWordSpec)

/-- ITS FALSE NEIGHBOUR: 'it returns false'. Refute it at one input. -/
def fnSchemaWordWrong : ChangeSpec := { name := "fnSchemaWord", fn := fun _ => fun
  | [d] => { results := [.lit (.bool false)], args := [d] }
  | _ => none }
def FnSchemaWordWrongFalsely : Prop := fnSchemaWordRow.holds Tryz.pinned (OpenSpec.ofChange fnSchemaWordWrong)

/- THE SECOND FORM. 'bulk': how many values and letters a reading holds, each counted each time it is reached (what is shared counts as often as it is met; a slice's spare places count too). A statement '..UptoSaid' is the law's where the arguments, and the package variables that the reading takes, are together of bulk at most 1048576: NARROWER than '..Said'. Prove '..Said' where nothing that the law and all that it calls make is longer than what came in: it says more and counts as full. Else prove '..UptoSaid'. A law counts once. -/
mutual
def uptoBulk {H : Type} : DataW H → Nat
  | .lit (.string bytes) => bytes.length + 1
  | .lit _ => 1
  | .nil => 1
  | .ptr d => uptoBulk d + 1
  | .slice elems spare => uptoBulkAll elems + uptoBulkAll spare + 1
  | .agg parts => uptoBulkAll parts + 1
  | .iface _ d => uptoBulk d + 1
  | .map entries => uptoBulkEntries entries + 1
  | .held _ => 1
def uptoBulkAll {H : Type} : List (DataW H) → Nat
  | [] => 0
  | d :: r => uptoBulk d + uptoBulkAll r
def uptoBulkEntries {H : Type} : List (Lit × DataW H) → Nat
  | [] => 0
  | x :: r => uptoBulkEntry x + uptoBulkEntries r
def uptoBulkEntry {H : Type} : Lit × DataW H → Nat
  | (.string bytes, d) => bytes.length + uptoBulk d + 1
  | (_, d) => uptoBulk d + 1
 end
def uptoSmall : (H : Type) → List (DataW H) → Bool := fun _ ds => decide (uptoBulkAll ds ≤ 1048576)
def OpenSpec.upto (s : _root_.Go.ChangeSpec) : _root_.Go.OpenSpec := { _root_.Go.OpenSpec.ofChange s with cond := some uptoSmall }

/-- 'laws.FnExactSchemaOk', WHERE WHAT IT READS IS OF BULK AT MOST 1048576: true; the input reads as it did. -/
def fnExactSchemaOkUptoRow : OpenClaim := { program := "ytkhcappjhefkjaagreatdoor", sum := "e4a1857b7b3aa08a4428ef950da3b12bbb2bec19ed560c3a1757d05e50e0d712", func := "loop.example/fretwork/laws.FnExactSchemaOk", spec := "fnExactSchemaOk", inPlace := ["internal/abi.NoEscape", "internal/bytealg.MakeNoZero", "internal/bytealg.IndexByteString", "internal/bytealg.IndexString"], unfollowed := true, recurses := true, named := ["unicode/utf8.first", "unicode/utf8.acceptRanges", "internal/bytealg.MaxLen"], loops := true, apart := false, laid := [("unicode/utf8.acceptRanges", laid_unicode_utf8_acceptRanges), ("unicode/utf8.first", laid_unicode_utf8_first)], narrowed := true }
def FnExactSchemaOkUptoSaid : Prop := fnExactSchemaOkUptoRow.holds Tryz.pinned (OpenSpec.upto fnExactSchemaOkSpec)

/-- 'laws.FnExactSchemaFits', WHERE WHAT IT READS IS OF BULK AT MOST 1048576: true; the input reads as it did. -/
def fnExactSchemaFitsUptoRow : OpenClaim := { program := "ytkhcappjhefkjaagreatdoor", sum := "e4a1857b7b3aa08a4428ef950da3b12bbb2bec19ed560c3a1757d05e50e0d712", func := "loop.example/fretwork/laws.FnExactSchemaFits", spec := "fnExactSchemaFits", inPlace := ["internal/abi.NoEscape", "internal/bytealg.MakeNoZero", "internal/bytealg.IndexByteString", "internal/bytealg.IndexString"], unfollowed := true, recurses := true, named := ["unicode/utf8.first", "unicode/utf8.acceptRanges", "internal/bytealg.MaxLen"], loops := true, apart := false, laid := [("unicode/utf8.acceptRanges", laid_unicode_utf8_acceptRanges), ("unicode/utf8.first", laid_unicode_utf8_first)], narrowed := true }
def FnExactSchemaFitsUptoSaid : Prop := fnExactSchemaFitsUptoRow.holds Tryz.pinned (OpenSpec.upto fnExactSchemaFitsSpec)

/-- 'laws.FnExactSchemaSome', WHERE WHAT IT READS IS OF BULK AT MOST 1048576: true; the input reads as it did. -/
def fnExactSchemaSomeUptoRow : OpenClaim := { program := "ytkhcappjhefkjaagreatdoor", sum := "e4a1857b7b3aa08a4428ef950da3b12bbb2bec19ed560c3a1757d05e50e0d712", func := "loop.example/fretwork/laws.FnExactSchemaSome", spec := "fnExactSchemaSome", inPlace := ["internal/abi.NoEscape", "internal/bytealg.MakeNoZero", "internal/bytealg.IndexByteString", "internal/bytealg.IndexString"], unfollowed := true, recurses := true, named := ["unicode/utf8.first", "unicode/utf8.acceptRanges", "internal/bytealg.MaxLen"], loops := true, apart := false, laid := [("unicode/utf8.acceptRanges", laid_unicode_utf8_acceptRanges), ("unicode/utf8.first", laid_unicode_utf8_first)], narrowed := true }
def FnExactSchemaSomeUptoSaid : Prop := fnExactSchemaSomeUptoRow.holds Tryz.pinned (OpenSpec.upto fnExactSchemaSomeSpec)

/-- 'laws.FnSchemaKind', WHERE WHAT IT READS IS OF BULK AT MOST 1048576: true; the input reads as it did. -/
def fnSchemaKindUptoRow : OpenClaim := { program := "ytkhcappjhefkjaagreatdoor", sum := "e4a1857b7b3aa08a4428ef950da3b12bbb2bec19ed560c3a1757d05e50e0d712", func := "loop.example/fretwork/laws.FnSchemaKind", spec := "fnSchemaKind", inPlace := ["internal/abi.NoEscape", "internal/bytealg.MakeNoZero", "internal/bytealg.IndexByteString", "internal/bytealg.IndexString"], unfollowed := true, recurses := true, named := ["unicode/utf8.first", "unicode/utf8.acceptRanges", "internal/bytealg.MaxLen"], apart := false, laid := [("unicode/utf8.acceptRanges", laid_unicode_utf8_acceptRanges), ("unicode/utf8.first", laid_unicode_utf8_first)], narrowed := true }
def FnSchemaKindUptoSaid : Prop := fnSchemaKindUptoRow.holds Tryz.pinned (OpenSpec.upto fnSchemaKindSpec)

/-- 'laws.FnSchemaAny', WHERE WHAT IT READS IS OF BULK AT MOST 1048576: true; the input reads as it did. -/
def fnSchemaAnyUptoRow : OpenClaim := { program := "ytkhcappjhefkjaagreatdoor", sum := "e4a1857b7b3aa08a4428ef950da3b12bbb2bec19ed560c3a1757d05e50e0d712", func := "loop.example/fretwork/laws.FnSchemaAny", spec := "fnSchemaAny", inPlace := ["internal/abi.NoEscape", "internal/bytealg.MakeNoZero", "internal/bytealg.IndexByteString", "internal/bytealg.IndexString"], unfollowed := true, recurses := true, named := ["unicode/utf8.first", "unicode/utf8.acceptRanges", "internal/bytealg.MaxLen"], apart := false, laid := [("unicode/utf8.acceptRanges", laid_unicode_utf8_acceptRanges), ("unicode/utf8.first", laid_unicode_utf8_first)], narrowed := true }
def FnSchemaAnyUptoSaid : Prop := fnSchemaAnyUptoRow.holds Tryz.pinned (OpenSpec.upto fnSchemaAnySpec)

/-- 'laws.FnSchemaList', WHERE WHAT IT READS IS OF BULK AT MOST 1048576: true; the input reads as it did. -/
def fnSchemaListUptoRow : OpenClaim := { program := "ytkhcappjhefkjaagreatdoor", sum := "e4a1857b7b3aa08a4428ef950da3b12bbb2bec19ed560c3a1757d05e50e0d712", func := "loop.example/fretwork/laws.FnSchemaList", spec := "fnSchemaList", inPlace := ["internal/abi.NoEscape", "internal/bytealg.MakeNoZero", "internal/bytealg.IndexByteString", "internal/bytealg.IndexString"], unfollowed := true, recurses := true, named := ["unicode/utf8.first", "unicode/utf8.acceptRanges", "internal/bytealg.MaxLen"], apart := false, laid := [("unicode/utf8.acceptRanges", laid_unicode_utf8_acceptRanges), ("unicode/utf8.first", laid_unicode_utf8_first)], narrowed := true }
def FnSchemaListUptoSaid : Prop := fnSchemaListUptoRow.holds Tryz.pinned (OpenSpec.upto fnSchemaListSpec)

/-- 'laws.FnSchemaForm', WHERE WHAT IT READS IS OF BULK AT MOST 1048576: true; the input reads as it did. -/
def fnSchemaFormUptoRow : OpenClaim := { program := "ytkhcappjhefkjaagreatdoor", sum := "e4a1857b7b3aa08a4428ef950da3b12bbb2bec19ed560c3a1757d05e50e0d712", func := "loop.example/fretwork/laws.FnSchemaForm", spec := "fnSchemaForm", inPlace := ["internal/abi.NoEscape", "internal/bytealg.MakeNoZero", "internal/bytealg.IndexByteString", "internal/bytealg.IndexString"], unfollowed := true, recurses := true, named := ["unicode/utf8.first", "unicode/utf8.acceptRanges", "internal/bytealg.MaxLen"], apart := false, laid := [("unicode/utf8.acceptRanges", laid_unicode_utf8_acceptRanges), ("unicode/utf8.first", laid_unicode_utf8_first)], narrowed := true }
def FnSchemaFormUptoSaid : Prop := fnSchemaFormUptoRow.holds Tryz.pinned (OpenSpec.upto fnSchemaFormSpec)

/-- 'laws.FnSchemaWide', WHERE WHAT IT READS IS OF BULK AT MOST 1048576: true; the input reads as it did. -/
def fnSchemaWideUptoRow : OpenClaim := { program := "ytkhcappjhefkjaagreatdoor", sum := "e4a1857b7b3aa08a4428ef950da3b12bbb2bec19ed560c3a1757d05e50e0d712", func := "loop.example/fretwork/laws.FnSchemaWide", spec := "fnSchemaWide", inPlace := ["internal/abi.NoEscape", "internal/bytealg.MakeNoZero", "internal/bytealg.IndexByteString", "internal/bytealg.IndexString"], unfollowed := true, recurses := true, named := ["unicode/utf8.first", "unicode/utf8.acceptRanges", "internal/bytealg.MaxLen"], apart := false, laid := [("unicode/utf8.acceptRanges", laid_unicode_utf8_acceptRanges), ("unicode/utf8.first", laid_unicode_utf8_first)], narrowed := true }
def FnSchemaWideUptoSaid : Prop := fnSchemaWideUptoRow.holds Tryz.pinned (OpenSpec.upto fnSchemaWideSpec)

/-- 'laws.FnSchemaMust', WHERE WHAT IT READS IS OF BULK AT MOST 1048576: true; the input reads as it did. -/
def fnSchemaMustUptoRow : OpenClaim := { program := "ytkhcappjhefkjaagreatdoor", sum := "e4a1857b7b3aa08a4428ef950da3b12bbb2bec19ed560c3a1757d05e50e0d712", func := "loop.example/fretwork/laws.FnSchemaMust", spec := "fnSchemaMust", inPlace := ["internal/abi.NoEscape", "internal/bytealg.MakeNoZero", "internal/bytealg.IndexByteString", "internal/bytealg.IndexString"], unfollowed := true, recurses := true, named := ["unicode/utf8.first", "unicode/utf8.acceptRanges", "internal/bytealg.MaxLen"], apart := false, laid := [("unicode/utf8.acceptRanges", laid_unicode_utf8_acceptRanges), ("unicode/utf8.first", laid_unicode_utf8_first)], narrowed := true }
def FnSchemaMustUptoSaid : Prop := fnSchemaMustUptoRow.holds Tryz.pinned (OpenSpec.upto fnSchemaMustSpec)

/-- 'laws.FnSchemaOrder', WHERE WHAT IT READS IS OF BULK AT MOST 1048576: true; the input reads as it did. -/
def fnSchemaOrderUptoRow : OpenClaim := { program := "ytkhcappjhefkjaagreatdoor", sum := "e4a1857b7b3aa08a4428ef950da3b12bbb2bec19ed560c3a1757d05e50e0d712", func := "loop.example/fretwork/laws.FnSchemaOrder", spec := "fnSchemaOrder", inPlace := ["internal/abi.NoEscape", "internal/bytealg.MakeNoZero", "internal/bytealg.IndexByteString", "internal/bytealg.IndexString"], unfollowed := true, recurses := true, named := ["unicode/utf8.first", "unicode/utf8.acceptRanges", "internal/bytealg.MaxLen"], apart := false, laid := [("unicode/utf8.acceptRanges", laid_unicode_utf8_acceptRanges), ("unicode/utf8.first", laid_unicode_utf8_first)], narrowed := true }
def FnSchemaOrderUptoSaid : Prop := fnSchemaOrderUptoRow.holds Tryz.pinned (OpenSpec.upto fnSchemaOrderSpec)

/-- 'laws.FnSchemaOne', WHERE WHAT IT READS IS OF BULK AT MOST 1048576: true; the input reads as it did. -/
def fnSchemaOneUptoRow : OpenClaim := { program := "ytkhcappjhefkjaagreatdoor", sum := "e4a1857b7b3aa08a4428ef950da3b12bbb2bec19ed560c3a1757d05e50e0d712", func := "loop.example/fretwork/laws.FnSchemaOne", spec := "fnSchemaOne", inPlace := ["internal/abi.NoEscape", "internal/bytealg.MakeNoZero", "internal/bytealg.IndexByteString", "internal/bytealg.IndexString"], unfollowed := true, recurses := true, named := ["unicode/utf8.first", "unicode/utf8.acceptRanges", "internal/bytealg.MaxLen"], apart := false, laid := [("unicode/utf8.acceptRanges", laid_unicode_utf8_acceptRanges), ("unicode/utf8.first", laid_unicode_utf8_first)], narrowed := true }
def FnSchemaOneUptoSaid : Prop := fnSchemaOneUptoRow.holds Tryz.pinned (OpenSpec.upto fnSchemaOneSpec)

/-- 'laws.FnSchemaWord', WHERE WHAT IT READS IS OF BULK AT MOST 1048576: true; the input reads as it did. -/
def fnSchemaWordUptoRow : OpenClaim := { program := "ytkhcappjhefkjaagreatdoor", sum := "e4a1857b7b3aa08a4428ef950da3b12bbb2bec19ed560c3a1757d05e50e0d712", func := "loop.example/fretwork/laws.FnSchemaWord", spec := "fnSchemaWord", inPlace := ["internal/bytealg.IndexByteString", "internal/bytealg.IndexString", "internal/abi.NoEscape", "internal/bytealg.MakeNoZero"], unfollowed := true, recurses := true, named := ["unicode/utf8.first", "unicode/utf8.acceptRanges", "internal/bytealg.MaxLen"], apart := false, laid := [("unicode/utf8.acceptRanges", laid_unicode_utf8_acceptRanges), ("unicode/utf8.first", laid_unicode_utf8_first)], narrowed := true }
def FnSchemaWordUptoSaid : Prop := fnSchemaWordUptoRow.holds Tryz.pinned (OpenSpec.upto fnSchemaWordSpec)

end Rows
end Go.Proofs.YtkhcappjhefkjaaGreatDoor
