/-
  DERIVED. GIVEN WITH THE SEED: THE CARDS: each row of YtadfjdgjlgpncaaGreatDoorRows.lean that lists a variable, with what it lists TIED to the program's text (the seventh form; the later family's looks); each row that meets fmt, with fmt's text TOLD by the authors' own Lean function (tested against real Go, not proved from fmt's source: count such statements apart). THE CARD IS WHAT COUNTS. Prove the row's statement (the work); the ties are given (YtadfjdgjlgpncaaGreatDoorTie.lean); close each card by the builder's one call (the guide's Derived/Test/ToyasCard.lean, 'card_holds'). Laid BY PROGRAM, IN A SANDBOX (cutbox-door.mjs). By AI agents, Wed Nov 11 2026. No macro, syntax, notation, axiom, sorry.
-/
import Derived.Test.YtadfjdgjlgpncaaGreatDoorRows
import GoSem.ClaimSeven
namespace Go.Proofs.YtadfjdgjlgpncaaGreatDoor
namespace Rows

/-- THE TIED CARD OF 'laws.FnGramBack'. -/
def fnGramBackCard : Claim7 := { stood := { row := fnGramBackRow, standIns := [], harness := (true, "7cce034ae889cf051acb17c7305e3053dbfa8f9c4ce46031a495bb2b8650b464"), looks := true }, kinds := [], alts := [], laidByText := true, laidKinds := [.data, .data, .data, .data, .pinned], laidTests := true, laidLooks := .later }
def FnGramBackCardSaid : Prop := Claim7.holds Tryz.pinned (.plain (OpenSpec.ofChange fnGramBackSpec)) fnGramBackCard

/-- THE TIED CARD OF 'laws.FnGramStrict'. -/
def fnGramStrictCard : Claim7 := { stood := { row := fnGramStrictRow, standIns := [], harness := (true, "7cce034ae889cf051acb17c7305e3053dbfa8f9c4ce46031a495bb2b8650b464"), looks := true }, kinds := [], alts := [], laidByText := true, laidKinds := [.data, .data, .data, .data, .pinned], laidTests := true, laidLooks := .later }
def FnGramStrictCardSaid : Prop := Claim7.holds Tryz.pinned (.plain (OpenSpec.ofChange fnGramStrictSpec)) fnGramStrictCard

/-- THE TIED CARD OF 'laws.FnGramTwo'. -/
def fnGramTwoCard : Claim7 := { stood := { row := fnGramTwoRow, standIns := [], harness := (true, "7cce034ae889cf051acb17c7305e3053dbfa8f9c4ce46031a495bb2b8650b464"), looks := true }, kinds := [], alts := [], laidByText := true, laidKinds := [.data, .pinned], laidTests := true, laidLooks := .later }
def FnGramTwoCardSaid : Prop := Claim7.holds Tryz.pinned (.plain (OpenSpec.ofChange fnGramTwoSpec)) fnGramTwoCard

/-- THE TIED CARD OF 'laws.FnGramBlank'. -/
def fnGramBlankCard : Claim7 := { stood := { row := fnGramBlankRow, standIns := [], harness := (true, "7cce034ae889cf051acb17c7305e3053dbfa8f9c4ce46031a495bb2b8650b464"), looks := true }, kinds := [], alts := [], laidByText := true, laidKinds := [.data, .data, .data, .data, .pinned], laidTests := true, laidLooks := .later }
def FnGramBlankCardSaid : Prop := Claim7.holds Tryz.pinned (.plain (OpenSpec.ofChange fnGramBlankSpec)) fnGramBlankCard

/-- THE TIED CARD OF 'laws.FnGramNot'. -/
def fnGramNotCard : Claim7 := { stood := { row := fnGramNotRow, standIns := [], harness := (true, "7cce034ae889cf051acb17c7305e3053dbfa8f9c4ce46031a495bb2b8650b464"), looks := true }, kinds := [], alts := [], laidByText := true, laidKinds := [.data, .data, .data, .data, .pinned], laidTests := true, laidLooks := .later }
def FnGramNotCardSaid : Prop := Claim7.holds Tryz.pinned (.plain (OpenSpec.ofChange fnGramNotSpec)) fnGramNotCard

/-- THE TIED CARD OF 'laws.FnExactGramWrite'. -/
def fnExactGramWriteCard : Claim7 := { stood := { row := fnExactGramWriteRow, standIns := [], harness := (true, "7cce034ae889cf051acb17c7305e3053dbfa8f9c4ce46031a495bb2b8650b464"), looks := true }, kinds := [], alts := [], laidByText := true, laidKinds := [.data, .data, .data, .data, .pinned], laidTests := true, laidLooks := .later }
def FnExactGramWriteCardSaid : Prop := Claim7.holds Tryz.pinned (.plain (OpenSpec.ofChange fnExactGramWriteSpec)) fnExactGramWriteCard

/-- THE TIED CARD OF 'laws.FnExactGramRead'. -/
def fnExactGramReadCard : Claim7 := { stood := { row := fnExactGramReadRow, standIns := [], harness := (true, "7cce034ae889cf051acb17c7305e3053dbfa8f9c4ce46031a495bb2b8650b464"), looks := true }, kinds := [], alts := [], laidByText := true, laidKinds := [.data, .pinned], laidTests := true, laidLooks := .later }
def FnExactGramReadCardSaid : Prop := Claim7.holds Tryz.pinned (.plain (OpenSpec.ofChange fnExactGramReadSpec)) fnExactGramReadCard

/-- THE SECOND FORM's CARD OF 'laws.FnGramBack'. -/
def fnGramBackUptoCard : Claim7 := { stood := { row := fnGramBackUptoRow, standIns := [], harness := (true, "7cce034ae889cf051acb17c7305e3053dbfa8f9c4ce46031a495bb2b8650b464"), looks := true }, kinds := [], alts := [], laidByText := true, laidKinds := [.data, .data, .data, .data, .pinned], laidTests := true, laidLooks := .later }
def FnGramBackUptoCardSaid : Prop := Claim7.holds Tryz.pinned (.plain (OpenSpec.upto fnGramBackSpec)) fnGramBackUptoCard

/-- THE SECOND FORM's CARD OF 'laws.FnGramStrict'. -/
def fnGramStrictUptoCard : Claim7 := { stood := { row := fnGramStrictUptoRow, standIns := [], harness := (true, "7cce034ae889cf051acb17c7305e3053dbfa8f9c4ce46031a495bb2b8650b464"), looks := true }, kinds := [], alts := [], laidByText := true, laidKinds := [.data, .data, .data, .data, .pinned], laidTests := true, laidLooks := .later }
def FnGramStrictUptoCardSaid : Prop := Claim7.holds Tryz.pinned (.plain (OpenSpec.upto fnGramStrictSpec)) fnGramStrictUptoCard

/-- THE SECOND FORM's CARD OF 'laws.FnGramTwo'. -/
def fnGramTwoUptoCard : Claim7 := { stood := { row := fnGramTwoUptoRow, standIns := [], harness := (true, "7cce034ae889cf051acb17c7305e3053dbfa8f9c4ce46031a495bb2b8650b464"), looks := true }, kinds := [], alts := [], laidByText := true, laidKinds := [.data, .pinned], laidTests := true, laidLooks := .later }
def FnGramTwoUptoCardSaid : Prop := Claim7.holds Tryz.pinned (.plain (OpenSpec.upto fnGramTwoSpec)) fnGramTwoUptoCard

/-- THE SECOND FORM's CARD OF 'laws.FnGramBlank'. -/
def fnGramBlankUptoCard : Claim7 := { stood := { row := fnGramBlankUptoRow, standIns := [], harness := (true, "7cce034ae889cf051acb17c7305e3053dbfa8f9c4ce46031a495bb2b8650b464"), looks := true }, kinds := [], alts := [], laidByText := true, laidKinds := [.data, .data, .data, .data, .pinned], laidTests := true, laidLooks := .later }
def FnGramBlankUptoCardSaid : Prop := Claim7.holds Tryz.pinned (.plain (OpenSpec.upto fnGramBlankSpec)) fnGramBlankUptoCard

/-- THE SECOND FORM's CARD OF 'laws.FnGramNot'. -/
def fnGramNotUptoCard : Claim7 := { stood := { row := fnGramNotUptoRow, standIns := [], harness := (true, "7cce034ae889cf051acb17c7305e3053dbfa8f9c4ce46031a495bb2b8650b464"), looks := true }, kinds := [], alts := [], laidByText := true, laidKinds := [.data, .data, .data, .data, .pinned], laidTests := true, laidLooks := .later }
def FnGramNotUptoCardSaid : Prop := Claim7.holds Tryz.pinned (.plain (OpenSpec.upto fnGramNotSpec)) fnGramNotUptoCard

/-- THE SECOND FORM's CARD OF 'laws.FnExactGramWrite'. -/
def fnExactGramWriteUptoCard : Claim7 := { stood := { row := fnExactGramWriteUptoRow, standIns := [], harness := (true, "7cce034ae889cf051acb17c7305e3053dbfa8f9c4ce46031a495bb2b8650b464"), looks := true }, kinds := [], alts := [], laidByText := true, laidKinds := [.data, .data, .data, .data, .pinned], laidTests := true, laidLooks := .later }
def FnExactGramWriteUptoCardSaid : Prop := Claim7.holds Tryz.pinned (.plain (OpenSpec.upto fnExactGramWriteSpec)) fnExactGramWriteUptoCard

/-- THE SECOND FORM's CARD OF 'laws.FnExactGramRead'. -/
def fnExactGramReadUptoCard : Claim7 := { stood := { row := fnExactGramReadUptoRow, standIns := [], harness := (true, "7cce034ae889cf051acb17c7305e3053dbfa8f9c4ce46031a495bb2b8650b464"), looks := true }, kinds := [], alts := [], laidByText := true, laidKinds := [.data, .pinned], laidTests := true, laidLooks := .later }
def FnExactGramReadUptoCardSaid : Prop := Claim7.holds Tryz.pinned (.plain (OpenSpec.upto fnExactGramReadSpec)) fnExactGramReadUptoCard
end Rows
end Go.Proofs.YtadfjdgjlgpncaaGreatDoor
