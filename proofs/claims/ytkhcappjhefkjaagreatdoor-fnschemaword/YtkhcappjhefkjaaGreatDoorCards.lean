/-
  DERIVED. GIVEN WITH THE SEED: THE CARDS: each row of YtkhcappjhefkjaaGreatDoorRows.lean that lists a variable, with what it lists TIED to the program's text (the seventh form; the later family's looks); each row that meets fmt, with fmt's text TOLD by the authors' own Lean function (tested against real Go, not proved from fmt's source: count such statements apart). THE CARD IS WHAT COUNTS. Prove the row's statement (the work); the ties are given (YtkhcappjhefkjaaGreatDoorTie.lean); close each card by the builder's one call (the guide's Derived/Test/ToyasCard.lean, 'card_holds'). Laid BY PROGRAM, IN A SANDBOX (cutbox-door.mjs). By AI agents, Wed Nov 11 2026. No macro, syntax, notation, axiom, sorry.
-/
import Derived.Test.YtkhcappjhefkjaaGreatDoorRows
import GoSem.ClaimSeven
namespace Go.Proofs.YtkhcappjhefkjaaGreatDoor
namespace Rows

/-- THE TIED CARD OF 'laws.FnExactSchemaOk'. -/
def fnExactSchemaOkCard : Claim7 := { stood := { row := fnExactSchemaOkRow, standIns := [], harness := (true, "054d4150324304400be6515dfd5dc40fd72b52e02b9cf61f36dc53b1cfe246f4"), looks := true }, kinds := [], alts := [], laidByText := true, laidKinds := [.data, .pinned], laidTests := true, laidLooks := .later }
def FnExactSchemaOkCardSaid : Prop := Claim7.holds Tryz.pinned (.plain (OpenSpec.ofChange fnExactSchemaOkSpec)) fnExactSchemaOkCard

/-- THE TIED CARD OF 'laws.FnExactSchemaFits'. -/
def fnExactSchemaFitsCard : Claim7 := { stood := { row := fnExactSchemaFitsRow, standIns := [], harness := (true, "054d4150324304400be6515dfd5dc40fd72b52e02b9cf61f36dc53b1cfe246f4"), looks := true }, kinds := [], alts := [], laidByText := true, laidKinds := [.data, .pinned], laidTests := true, laidLooks := .later }
def FnExactSchemaFitsCardSaid : Prop := Claim7.holds Tryz.pinned (.plain (OpenSpec.ofChange fnExactSchemaFitsSpec)) fnExactSchemaFitsCard

/-- THE TIED CARD OF 'laws.FnExactSchemaSome'. -/
def fnExactSchemaSomeCard : Claim7 := { stood := { row := fnExactSchemaSomeRow, standIns := [], harness := (true, "054d4150324304400be6515dfd5dc40fd72b52e02b9cf61f36dc53b1cfe246f4"), looks := true }, kinds := [], alts := [], laidByText := true, laidKinds := [.data, .pinned], laidTests := true, laidLooks := .later }
def FnExactSchemaSomeCardSaid : Prop := Claim7.holds Tryz.pinned (.plain (OpenSpec.ofChange fnExactSchemaSomeSpec)) fnExactSchemaSomeCard

/-- THE TIED CARD OF 'laws.FnSchemaKind'. -/
def fnSchemaKindCard : Claim7 := { stood := { row := fnSchemaKindRow, standIns := [], harness := (true, "054d4150324304400be6515dfd5dc40fd72b52e02b9cf61f36dc53b1cfe246f4"), looks := true }, kinds := [], alts := [], laidByText := true, laidKinds := [.data, .pinned], laidTests := true, laidLooks := .later }
def FnSchemaKindCardSaid : Prop := Claim7.holds Tryz.pinned (.plain (OpenSpec.ofChange fnSchemaKindSpec)) fnSchemaKindCard

/-- THE TIED CARD OF 'laws.FnSchemaAny'. -/
def fnSchemaAnyCard : Claim7 := { stood := { row := fnSchemaAnyRow, standIns := [], harness := (true, "054d4150324304400be6515dfd5dc40fd72b52e02b9cf61f36dc53b1cfe246f4"), looks := true }, kinds := [], alts := [], laidByText := true, laidKinds := [.data, .pinned], laidTests := true, laidLooks := .later }
def FnSchemaAnyCardSaid : Prop := Claim7.holds Tryz.pinned (.plain (OpenSpec.ofChange fnSchemaAnySpec)) fnSchemaAnyCard

/-- THE TIED CARD OF 'laws.FnSchemaList'. -/
def fnSchemaListCard : Claim7 := { stood := { row := fnSchemaListRow, standIns := [], harness := (true, "054d4150324304400be6515dfd5dc40fd72b52e02b9cf61f36dc53b1cfe246f4"), looks := true }, kinds := [], alts := [], laidByText := true, laidKinds := [.data, .pinned], laidTests := true, laidLooks := .later }
def FnSchemaListCardSaid : Prop := Claim7.holds Tryz.pinned (.plain (OpenSpec.ofChange fnSchemaListSpec)) fnSchemaListCard

/-- THE TIED CARD OF 'laws.FnSchemaForm'. -/
def fnSchemaFormCard : Claim7 := { stood := { row := fnSchemaFormRow, standIns := [], harness := (true, "054d4150324304400be6515dfd5dc40fd72b52e02b9cf61f36dc53b1cfe246f4"), looks := true }, kinds := [], alts := [], laidByText := true, laidKinds := [.data, .pinned], laidTests := true, laidLooks := .later }
def FnSchemaFormCardSaid : Prop := Claim7.holds Tryz.pinned (.plain (OpenSpec.ofChange fnSchemaFormSpec)) fnSchemaFormCard

/-- THE TIED CARD OF 'laws.FnSchemaWide'. -/
def fnSchemaWideCard : Claim7 := { stood := { row := fnSchemaWideRow, standIns := [], harness := (true, "054d4150324304400be6515dfd5dc40fd72b52e02b9cf61f36dc53b1cfe246f4"), looks := true }, kinds := [], alts := [], laidByText := true, laidKinds := [.data, .pinned], laidTests := true, laidLooks := .later }
def FnSchemaWideCardSaid : Prop := Claim7.holds Tryz.pinned (.plain (OpenSpec.ofChange fnSchemaWideSpec)) fnSchemaWideCard

/-- THE TIED CARD OF 'laws.FnSchemaMust'. -/
def fnSchemaMustCard : Claim7 := { stood := { row := fnSchemaMustRow, standIns := [], harness := (true, "054d4150324304400be6515dfd5dc40fd72b52e02b9cf61f36dc53b1cfe246f4"), looks := true }, kinds := [], alts := [], laidByText := true, laidKinds := [.data, .pinned], laidTests := true, laidLooks := .later }
def FnSchemaMustCardSaid : Prop := Claim7.holds Tryz.pinned (.plain (OpenSpec.ofChange fnSchemaMustSpec)) fnSchemaMustCard

/-- THE TIED CARD OF 'laws.FnSchemaOrder'. -/
def fnSchemaOrderCard : Claim7 := { stood := { row := fnSchemaOrderRow, standIns := [], harness := (true, "054d4150324304400be6515dfd5dc40fd72b52e02b9cf61f36dc53b1cfe246f4"), looks := true }, kinds := [], alts := [], laidByText := true, laidKinds := [.data, .pinned], laidTests := true, laidLooks := .later }
def FnSchemaOrderCardSaid : Prop := Claim7.holds Tryz.pinned (.plain (OpenSpec.ofChange fnSchemaOrderSpec)) fnSchemaOrderCard

/-- THE TIED CARD OF 'laws.FnSchemaOne'. -/
def fnSchemaOneCard : Claim7 := { stood := { row := fnSchemaOneRow, standIns := [], harness := (true, "054d4150324304400be6515dfd5dc40fd72b52e02b9cf61f36dc53b1cfe246f4"), looks := true }, kinds := [], alts := [], laidByText := true, laidKinds := [.data, .pinned], laidTests := true, laidLooks := .later }
def FnSchemaOneCardSaid : Prop := Claim7.holds Tryz.pinned (.plain (OpenSpec.ofChange fnSchemaOneSpec)) fnSchemaOneCard

/-- THE TIED CARD OF 'laws.FnSchemaWord'. -/
def fnSchemaWordCard : Claim7 := { stood := { row := fnSchemaWordRow, standIns := [], harness := (true, "054d4150324304400be6515dfd5dc40fd72b52e02b9cf61f36dc53b1cfe246f4"), looks := true }, kinds := [], alts := [], laidByText := true, laidKinds := [.data, .pinned], laidTests := true, laidLooks := .later }
def FnSchemaWordCardSaid : Prop := Claim7.holds Tryz.pinned (.plain (OpenSpec.ofChange fnSchemaWordSpec)) fnSchemaWordCard

/-- THE SECOND FORM's CARD OF 'laws.FnExactSchemaOk'. -/
def fnExactSchemaOkUptoCard : Claim7 := { stood := { row := fnExactSchemaOkUptoRow, standIns := [], harness := (true, "054d4150324304400be6515dfd5dc40fd72b52e02b9cf61f36dc53b1cfe246f4"), looks := true }, kinds := [], alts := [], laidByText := true, laidKinds := [.data, .pinned], laidTests := true, laidLooks := .later }
def FnExactSchemaOkUptoCardSaid : Prop := Claim7.holds Tryz.pinned (.plain (OpenSpec.upto fnExactSchemaOkSpec)) fnExactSchemaOkUptoCard

/-- THE SECOND FORM's CARD OF 'laws.FnExactSchemaFits'. -/
def fnExactSchemaFitsUptoCard : Claim7 := { stood := { row := fnExactSchemaFitsUptoRow, standIns := [], harness := (true, "054d4150324304400be6515dfd5dc40fd72b52e02b9cf61f36dc53b1cfe246f4"), looks := true }, kinds := [], alts := [], laidByText := true, laidKinds := [.data, .pinned], laidTests := true, laidLooks := .later }
def FnExactSchemaFitsUptoCardSaid : Prop := Claim7.holds Tryz.pinned (.plain (OpenSpec.upto fnExactSchemaFitsSpec)) fnExactSchemaFitsUptoCard

/-- THE SECOND FORM's CARD OF 'laws.FnExactSchemaSome'. -/
def fnExactSchemaSomeUptoCard : Claim7 := { stood := { row := fnExactSchemaSomeUptoRow, standIns := [], harness := (true, "054d4150324304400be6515dfd5dc40fd72b52e02b9cf61f36dc53b1cfe246f4"), looks := true }, kinds := [], alts := [], laidByText := true, laidKinds := [.data, .pinned], laidTests := true, laidLooks := .later }
def FnExactSchemaSomeUptoCardSaid : Prop := Claim7.holds Tryz.pinned (.plain (OpenSpec.upto fnExactSchemaSomeSpec)) fnExactSchemaSomeUptoCard

/-- THE SECOND FORM's CARD OF 'laws.FnSchemaKind'. -/
def fnSchemaKindUptoCard : Claim7 := { stood := { row := fnSchemaKindUptoRow, standIns := [], harness := (true, "054d4150324304400be6515dfd5dc40fd72b52e02b9cf61f36dc53b1cfe246f4"), looks := true }, kinds := [], alts := [], laidByText := true, laidKinds := [.data, .pinned], laidTests := true, laidLooks := .later }
def FnSchemaKindUptoCardSaid : Prop := Claim7.holds Tryz.pinned (.plain (OpenSpec.upto fnSchemaKindSpec)) fnSchemaKindUptoCard

/-- THE SECOND FORM's CARD OF 'laws.FnSchemaAny'. -/
def fnSchemaAnyUptoCard : Claim7 := { stood := { row := fnSchemaAnyUptoRow, standIns := [], harness := (true, "054d4150324304400be6515dfd5dc40fd72b52e02b9cf61f36dc53b1cfe246f4"), looks := true }, kinds := [], alts := [], laidByText := true, laidKinds := [.data, .pinned], laidTests := true, laidLooks := .later }
def FnSchemaAnyUptoCardSaid : Prop := Claim7.holds Tryz.pinned (.plain (OpenSpec.upto fnSchemaAnySpec)) fnSchemaAnyUptoCard

/-- THE SECOND FORM's CARD OF 'laws.FnSchemaList'. -/
def fnSchemaListUptoCard : Claim7 := { stood := { row := fnSchemaListUptoRow, standIns := [], harness := (true, "054d4150324304400be6515dfd5dc40fd72b52e02b9cf61f36dc53b1cfe246f4"), looks := true }, kinds := [], alts := [], laidByText := true, laidKinds := [.data, .pinned], laidTests := true, laidLooks := .later }
def FnSchemaListUptoCardSaid : Prop := Claim7.holds Tryz.pinned (.plain (OpenSpec.upto fnSchemaListSpec)) fnSchemaListUptoCard

/-- THE SECOND FORM's CARD OF 'laws.FnSchemaForm'. -/
def fnSchemaFormUptoCard : Claim7 := { stood := { row := fnSchemaFormUptoRow, standIns := [], harness := (true, "054d4150324304400be6515dfd5dc40fd72b52e02b9cf61f36dc53b1cfe246f4"), looks := true }, kinds := [], alts := [], laidByText := true, laidKinds := [.data, .pinned], laidTests := true, laidLooks := .later }
def FnSchemaFormUptoCardSaid : Prop := Claim7.holds Tryz.pinned (.plain (OpenSpec.upto fnSchemaFormSpec)) fnSchemaFormUptoCard

/-- THE SECOND FORM's CARD OF 'laws.FnSchemaWide'. -/
def fnSchemaWideUptoCard : Claim7 := { stood := { row := fnSchemaWideUptoRow, standIns := [], harness := (true, "054d4150324304400be6515dfd5dc40fd72b52e02b9cf61f36dc53b1cfe246f4"), looks := true }, kinds := [], alts := [], laidByText := true, laidKinds := [.data, .pinned], laidTests := true, laidLooks := .later }
def FnSchemaWideUptoCardSaid : Prop := Claim7.holds Tryz.pinned (.plain (OpenSpec.upto fnSchemaWideSpec)) fnSchemaWideUptoCard

/-- THE SECOND FORM's CARD OF 'laws.FnSchemaMust'. -/
def fnSchemaMustUptoCard : Claim7 := { stood := { row := fnSchemaMustUptoRow, standIns := [], harness := (true, "054d4150324304400be6515dfd5dc40fd72b52e02b9cf61f36dc53b1cfe246f4"), looks := true }, kinds := [], alts := [], laidByText := true, laidKinds := [.data, .pinned], laidTests := true, laidLooks := .later }
def FnSchemaMustUptoCardSaid : Prop := Claim7.holds Tryz.pinned (.plain (OpenSpec.upto fnSchemaMustSpec)) fnSchemaMustUptoCard

/-- THE SECOND FORM's CARD OF 'laws.FnSchemaOrder'. -/
def fnSchemaOrderUptoCard : Claim7 := { stood := { row := fnSchemaOrderUptoRow, standIns := [], harness := (true, "054d4150324304400be6515dfd5dc40fd72b52e02b9cf61f36dc53b1cfe246f4"), looks := true }, kinds := [], alts := [], laidByText := true, laidKinds := [.data, .pinned], laidTests := true, laidLooks := .later }
def FnSchemaOrderUptoCardSaid : Prop := Claim7.holds Tryz.pinned (.plain (OpenSpec.upto fnSchemaOrderSpec)) fnSchemaOrderUptoCard

/-- THE SECOND FORM's CARD OF 'laws.FnSchemaOne'. -/
def fnSchemaOneUptoCard : Claim7 := { stood := { row := fnSchemaOneUptoRow, standIns := [], harness := (true, "054d4150324304400be6515dfd5dc40fd72b52e02b9cf61f36dc53b1cfe246f4"), looks := true }, kinds := [], alts := [], laidByText := true, laidKinds := [.data, .pinned], laidTests := true, laidLooks := .later }
def FnSchemaOneUptoCardSaid : Prop := Claim7.holds Tryz.pinned (.plain (OpenSpec.upto fnSchemaOneSpec)) fnSchemaOneUptoCard

/-- THE SECOND FORM's CARD OF 'laws.FnSchemaWord'. -/
def fnSchemaWordUptoCard : Claim7 := { stood := { row := fnSchemaWordUptoRow, standIns := [], harness := (true, "054d4150324304400be6515dfd5dc40fd72b52e02b9cf61f36dc53b1cfe246f4"), looks := true }, kinds := [], alts := [], laidByText := true, laidKinds := [.data, .pinned], laidTests := true, laidLooks := .later }
def FnSchemaWordUptoCardSaid : Prop := Claim7.holds Tryz.pinned (.plain (OpenSpec.upto fnSchemaWordSpec)) fnSchemaWordUptoCard
end Rows
end Go.Proofs.YtkhcappjhefkjaaGreatDoor
