/-
  DERIVED. GIVEN WITH THE SEED: THE CARDS: each row of YtjfohdalpjoaeaaDoorRows.lean that lists a variable, with what it lists TIED to the program's text (the seventh form; the later family's looks); each row that meets fmt, with fmt's text TOLD by the authors' own Lean function (tested against real Go, not proved from fmt's source: count such statements apart). THE CARD IS WHAT COUNTS. Prove the row's statement (the work); the ties are given (YtjfohdalpjoaeaaDoorTie.lean); close each card by the builder's one call (the guide's Derived/Test/ToyasCard.lean, 'card_holds'). Laid BY PROGRAM, IN A SANDBOX (cutbox-door.mjs). By AI agents, Wed Nov 11 2026. No macro, syntax, notation, axiom, sorry.
-/
import Derived.Test.YtjfohdalpjoaeaaDoorRows
import GoSem.ClaimSeven
namespace Go.Proofs.YtjfohdalpjoaeaaDoor
namespace Rows

/-- THE TIED CARD OF 'laws.FnGramLess'. -/
def fnGramLessCard : Claim7 := { stood := { row := fnGramLessRow, standIns := [], harness := (true, "b5dfeff1b47070967a6cbc0b3c866b757b3d84d46d713df12692b8c8782da134"), looks := true }, kinds := [], alts := [], laidByText := true, laidKinds := [.data, .pinned], laidTests := true, laidLooks := .later }
def FnGramLessCardSaid : Prop := Claim7.holds Tryd.pinned (.plain (OpenSpec.ofChange fnGramLessSpec)) fnGramLessCard

/-- THE TIED CARD OF 'laws.FnExactGramOk'. -/
def fnExactGramOkCard : Claim7 := { stood := { row := fnExactGramOkRow, standIns := [], harness := (true, "b5dfeff1b47070967a6cbc0b3c866b757b3d84d46d713df12692b8c8782da134"), looks := true }, kinds := [], alts := [], laidByText := true, laidKinds := [.data, .pinned], laidTests := true, laidLooks := .later }
def FnExactGramOkCardSaid : Prop := Claim7.holds Tryd.pinned (.plain (OpenSpec.ofChange fnExactGramOkSpec)) fnExactGramOkCard

/-- THE SECOND FORM's CARD OF 'laws.FnGramLess'. -/
def fnGramLessUptoCard : Claim7 := { stood := { row := fnGramLessUptoRow, standIns := [], harness := (true, "b5dfeff1b47070967a6cbc0b3c866b757b3d84d46d713df12692b8c8782da134"), looks := true }, kinds := [], alts := [], laidByText := true, laidKinds := [.data, .pinned], laidTests := true, laidLooks := .later }
def FnGramLessUptoCardSaid : Prop := Claim7.holds Tryd.pinned (.plain (OpenSpec.upto fnGramLessSpec)) fnGramLessUptoCard

/-- THE SECOND FORM's CARD OF 'laws.FnExactGramOk'. -/
def fnExactGramOkUptoCard : Claim7 := { stood := { row := fnExactGramOkUptoRow, standIns := [], harness := (true, "b5dfeff1b47070967a6cbc0b3c866b757b3d84d46d713df12692b8c8782da134"), looks := true }, kinds := [], alts := [], laidByText := true, laidKinds := [.data, .pinned], laidTests := true, laidLooks := .later }
def FnExactGramOkUptoCardSaid : Prop := Claim7.holds Tryd.pinned (.plain (OpenSpec.upto fnExactGramOkSpec)) fnExactGramOkUptoCard
end Rows
end Go.Proofs.YtjfohdalpjoaeaaDoor
