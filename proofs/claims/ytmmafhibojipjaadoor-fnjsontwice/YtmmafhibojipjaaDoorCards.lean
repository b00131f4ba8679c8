/-
  DERIVED. GIVEN WITH THE SEED: THE CARDS: each row of YtmmafhibojipjaaDoorRows.lean that lists a variable, with what it lists TIED to the program's text (the seventh form; the later family's looks); each row that meets fmt, with fmt's text TOLD by the authors' own Lean function (tested against real Go, not proved from fmt's source: count such statements apart). THE CARD IS WHAT COUNTS. Prove the row's statement (the work); the ties are given (YtmmafhibojipjaaDoorTie.lean); close each card by the builder's one call (the guide's Derived/Test/ToyasCard.lean, 'card_holds'). Laid BY PROGRAM, IN A SANDBOX (cutbox-door.mjs). By AI agents, Wed Nov 11 2026. No macro, syntax, notation, axiom, sorry.
-/
import Derived.Test.YtmmafhibojipjaaDoorRows
import GoSem.ClaimSeven
namespace Go.Proofs.YtmmafhibojipjaaDoor
namespace Rows

/-- THE TIED CARD OF 'laws.FnJsonBack'. -/
def fnJsonBackCard : Claim7 := { stood := { row := fnJsonBackRow, standIns := [], harness := (true, "d15ca74e34549e7172fa4b6d5b4b57696f2411dc1316341ccc2f809ba765b63e"), looks := true }, kinds := [], alts := [], laidByText := true, laidKinds := [.data, .pinned], laidTests := true, laidLooks := .later }
def FnJsonBackCardSaid : Prop := Claim7.holds Tryd.pinned (.plain (OpenSpec.ofChange fnJsonBackSpec)) fnJsonBackCard

/-- THE TIED CARD OF 'laws.FnJsonKids'. -/
def fnJsonKidsCard : Claim7 := { stood := { row := fnJsonKidsRow, standIns := [], harness := (true, "d15ca74e34549e7172fa4b6d5b4b57696f2411dc1316341ccc2f809ba765b63e"), looks := true }, kinds := [], alts := [], laidByText := true, laidKinds := [.data, .pinned], laidTests := true, laidLooks := .later }
def FnJsonKidsCardSaid : Prop := Claim7.holds Tryd.pinned (.plain (OpenSpec.ofChange fnJsonKidsSpec)) fnJsonKidsCard

/-- THE TIED CARD OF 'laws.FnJsonBare'. -/
def fnJsonBareCard : Claim7 := { stood := { row := fnJsonBareRow, standIns := [], harness := (true, "d15ca74e34549e7172fa4b6d5b4b57696f2411dc1316341ccc2f809ba765b63e"), looks := true }, kinds := [], alts := [], laidByText := true, laidKinds := [.data, .pinned], laidTests := true, laidLooks := .later }
def FnJsonBareCardSaid : Prop := Claim7.holds Tryd.pinned (.plain (OpenSpec.ofChange fnJsonBareSpec)) fnJsonBareCard

/-- THE TIED CARD OF 'laws.FnJsonDeep'. -/
def fnJsonDeepCard : Claim7 := { stood := { row := fnJsonDeepRow, standIns := [], harness := (true, "d15ca74e34549e7172fa4b6d5b4b57696f2411dc1316341ccc2f809ba765b63e"), looks := true }, kinds := [], alts := [], laidByText := true, laidKinds := [.data, .pinned], laidTests := true, laidLooks := .later }
def FnJsonDeepCardSaid : Prop := Claim7.holds Tryd.pinned (.plain (OpenSpec.ofChange fnJsonDeepSpec)) fnJsonDeepCard

/-- THE TIED CARD OF 'laws.FnJsonTwice'. -/
def fnJsonTwiceCard : Claim7 := { stood := { row := fnJsonTwiceRow, standIns := [], harness := (true, "d15ca74e34549e7172fa4b6d5b4b57696f2411dc1316341ccc2f809ba765b63e"), looks := true }, kinds := [], alts := [], laidByText := true, laidKinds := [.data, .pinned], laidTests := true, laidLooks := .later }
def FnJsonTwiceCardSaid : Prop := Claim7.holds Tryd.pinned (.plain (OpenSpec.ofChange fnJsonTwiceSpec)) fnJsonTwiceCard

/-- THE TIED CARD OF 'laws.FnJsonFlag'. -/
def fnJsonFlagCard : Claim7 := { stood := { row := fnJsonFlagRow, standIns := [], harness := (true, "d15ca74e34549e7172fa4b6d5b4b57696f2411dc1316341ccc2f809ba765b63e"), looks := true }, kinds := [], alts := [], laidByText := true, laidKinds := [.data, .pinned], laidTests := true, laidLooks := .later }
def FnJsonFlagCardSaid : Prop := Claim7.holds Tryd.pinned (.plain (OpenSpec.ofChange fnJsonFlagSpec)) fnJsonFlagCard

/-- THE TIED CARD OF 'laws.FnExactJsonOk'. -/
def fnExactJsonOkCard : Claim7 := { stood := { row := fnExactJsonOkRow, standIns := [], harness := (true, "d15ca74e34549e7172fa4b6d5b4b57696f2411dc1316341ccc2f809ba765b63e"), looks := true }, kinds := [], alts := [], laidByText := true, laidKinds := [.data, .pinned], laidTests := true, laidLooks := .later }
def FnExactJsonOkCardSaid : Prop := Claim7.holds Tryd.pinned (.plain (OpenSpec.ofChange fnExactJsonOkSpec)) fnExactJsonOkCard

/-- THE TIED CARD OF 'laws.FnExactJsonWrite'. -/
def fnExactJsonWriteCard : Claim7 := { stood := { row := fnExactJsonWriteRow, standIns := [], harness := (true, "d15ca74e34549e7172fa4b6d5b4b57696f2411dc1316341ccc2f809ba765b63e"), looks := true }, kinds := [], alts := [], laidByText := true, laidKinds := [.data, .pinned], laidTests := true, laidLooks := .later }
def FnExactJsonWriteCardSaid : Prop := Claim7.holds Tryd.pinned (.plain (OpenSpec.ofChange fnExactJsonWriteSpec)) fnExactJsonWriteCard

/-- THE SECOND FORM's CARD OF 'laws.FnJsonBack'. -/
def fnJsonBackUptoCard : Claim7 := { stood := { row := fnJsonBackUptoRow, standIns := [], harness := (true, "d15ca74e34549e7172fa4b6d5b4b57696f2411dc1316341ccc2f809ba765b63e"), looks := true }, kinds := [], alts := [], laidByText := true, laidKinds := [.data, .pinned], laidTests := true, laidLooks := .later }
def FnJsonBackUptoCardSaid : Prop := Claim7.holds Tryd.pinned (.plain (OpenSpec.upto fnJsonBackSpec)) fnJsonBackUptoCard

/-- THE SECOND FORM's CARD OF 'laws.FnJsonKids'. -/
def fnJsonKidsUptoCard : Claim7 := { stood := { row := fnJsonKidsUptoRow, standIns := [], harness := (true, "d15ca74e34549e7172fa4b6d5b4b57696f2411dc1316341ccc2f809ba765b63e"), looks := true }, kinds := [], alts := [], laidByText := true, laidKinds := [.data, .pinned], laidTests := true, laidLooks := .later }
def FnJsonKidsUptoCardSaid : Prop := Claim7.holds Tryd.pinned (.plain (OpenSpec.upto fnJsonKidsSpec)) fnJsonKidsUptoCard

/-- THE SECOND FORM's CARD OF 'laws.FnJsonBare'. -/
def fnJsonBareUptoCard : Claim7 := { stood := { row := fnJsonBareUptoRow, standIns := [], harness := (true, "d15ca74e34549e7172fa4b6d5b4b57696f2411dc1316341ccc2f809ba765b63e"), looks := true }, kinds := [], alts := [], laidByText := true, laidKinds := [.data, .pinned], laidTests := true, laidLooks := .later }
def FnJsonBareUptoCardSaid : Prop := Claim7.holds Tryd.pinned (.plain (OpenSpec.upto fnJsonBareSpec)) fnJsonBareUptoCard

/-- THE SECOND FORM's CARD OF 'laws.FnJsonDeep'. -/
def fnJsonDeepUptoCard : Claim7 := { stood := { row := fnJsonDeepUptoRow, standIns := [], harness := (true, "d15ca74e34549e7172fa4b6d5b4b57696f2411dc1316341ccc2f809ba765b63e"), looks := true }, kinds := [], alts := [], laidByText := true, laidKinds := [.data, .pinned], laidTests := true, laidLooks := .later }
def FnJsonDeepUptoCardSaid : Prop := Claim7.holds Tryd.pinned (.plain (OpenSpec.upto fnJsonDeepSpec)) fnJsonDeepUptoCard

/-- THE SECOND FORM's CARD OF 'laws.FnJsonTwice'. -/
def fnJsonTwiceUptoCard : Claim7 := { stood := { row := fnJsonTwiceUptoRow, standIns := [], harness := (true, "d15ca74e34549e7172fa4b6d5b4b57696f2411dc1316341ccc2f809ba765b63e"), looks := true }, kinds := [], alts := [], laidByText := true, laidKinds := [.data, .pinned], laidTests := true, laidLooks := .later }
def FnJsonTwiceUptoCardSaid : Prop := Claim7.holds Tryd.pinned (.plain (OpenSpec.upto fnJsonTwiceSpec)) fnJsonTwiceUptoCard

/-- THE SECOND FORM's CARD OF 'laws.FnJsonFlag'. -/
def fnJsonFlagUptoCard : Claim7 := { stood := { row := fnJsonFlagUptoRow, standIns := [], harness := (true, "d15ca74e34549e7172fa4b6d5b4b57696f2411dc1316341ccc2f809ba765b63e"), looks := true }, kinds := [], alts := [], laidByText := true, laidKinds := [.data, .pinned], laidTests := true, laidLooks := .later }
def FnJsonFlagUptoCardSaid : Prop := Claim7.holds Tryd.pinned (.plain (OpenSpec.upto fnJsonFlagSpec)) fnJsonFlagUptoCard

/-- THE SECOND FORM's CARD OF 'laws.FnExactJsonOk'. -/
def fnExactJsonOkUptoCard : Claim7 := { stood := { row := fnExactJsonOkUptoRow, standIns := [], harness := (true, "d15ca74e34549e7172fa4b6d5b4b57696f2411dc1316341ccc2f809ba765b63e"), looks := true }, kinds := [], alts := [], laidByText := true, laidKinds := [.data, .pinned], laidTests := true, laidLooks := .later }
def FnExactJsonOkUptoCardSaid : Prop := Claim7.holds Tryd.pinned (.plain (OpenSpec.upto fnExactJsonOkSpec)) fnExactJsonOkUptoCard

/-- THE SECOND FORM's CARD OF 'laws.FnExactJsonWrite'. -/
def fnExactJsonWriteUptoCard : Claim7 := { stood := { row := fnExactJsonWriteUptoRow, standIns := [], harness := (true, "d15ca74e34549e7172fa4b6d5b4b57696f2411dc1316341ccc2f809ba765b63e"), looks := true }, kinds := [], alts := [], laidByText := true, laidKinds := [.data, .pinned], laidTests := true, laidLooks := .later }
def FnExactJsonWriteUptoCardSaid : Prop := Claim7.holds Tryd.pinned (.plain (OpenSpec.upto fnExactJsonWriteSpec)) fnExactJsonWriteUptoCard
end Rows
end Go.Proofs.YtmmafhibojipjaaDoor
