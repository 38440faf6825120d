/-
  DERIVED. GIVEN WITH THE SEED: THE CARDS: each row of YtmcopoonnhcdjaaDoorRows.lean that lists a variable, with what it lists TIED to the program's text (the seventh form; the later family's looks); each row that meets fmt, with fmt's text TOLD by the authors' own Lean function (tested against real Go, not proved from fmt's source: count such statements apart). THE CARD IS WHAT COUNTS. Prove the row's statement (the work); the ties are given (YtmcopoonnhcdjaaDoorTie.lean); close each card by the builder's one call (the guide's Derived/Test/ToyasCard.lean, 'card_holds'). Laid BY PROGRAM, IN A SANDBOX (cutbox-door.mjs). By AI agents, Wed Nov 11 2026. No macro, syntax, notation, axiom, sorry.
-/
import Derived.Test.YtmcopoonnhcdjaaDoorRows
import GoSem.ClaimSeven
namespace Go.Proofs.YtmcopoonnhcdjaaDoor
namespace Rows

/-- THE TIED CARD OF 'laws.FnExactCheckNode'. -/
def fnExactCheckNodeCard : Claim7 := { stood := { row := fnExactCheckNodeRow, standIns := [], harness := (true, "01f2d0b63ffd7eb8f9159d9d54d6bc82ebe7e2e14ea960c6433dd8bc59812c2d"), looks := false }, kinds := [], alts := [], laidByText := true, laidKinds := [.data], laidTests := true, laidLooks := .later }
def FnExactCheckNodeCardSaid : Prop := Claim7.holds Tryd.pinned (.plain (OpenSpec.ofChange fnExactCheckNodeSpec)) fnExactCheckNodeCard

/-- THE TIED CARD OF 'laws.FnExactCheckDoc'. -/
def fnExactCheckDocCard : Claim7 := { stood := { row := fnExactCheckDocRow, standIns := [], harness := (true, "01f2d0b63ffd7eb8f9159d9d54d6bc82ebe7e2e14ea960c6433dd8bc59812c2d"), looks := false }, kinds := [], alts := [], laidByText := true, laidKinds := [.data], laidTests := true, laidLooks := .later }
def FnExactCheckDocCardSaid : Prop := Claim7.holds Tryd.pinned (.plain (OpenSpec.ofChange fnExactCheckDocSpec)) fnExactCheckDocCard

/-- THE TIED CARD OF 'laws.FnExactMayInsert'. -/
def fnExactMayInsertCard : Claim7 := { stood := { row := fnExactMayInsertRow, standIns := [], harness := (true, "01f2d0b63ffd7eb8f9159d9d54d6bc82ebe7e2e14ea960c6433dd8bc59812c2d"), looks := false }, kinds := [], alts := [], laidByText := true, laidKinds := [.data], laidTests := true, laidLooks := .later }
def FnExactMayInsertCardSaid : Prop := Claim7.holds Tryd.pinned (.plain (OpenSpec.ofChange fnExactMayInsertSpec)) fnExactMayInsertCard

/-- THE TIED CARD OF 'laws.FnExactEditOK'. -/
def fnExactEditOKCard : Claim7 := { stood := { row := fnExactEditOKRow, standIns := [], harness := (true, "01f2d0b63ffd7eb8f9159d9d54d6bc82ebe7e2e14ea960c6433dd8bc59812c2d"), looks := false }, kinds := [], alts := [], laidByText := true, laidKinds := [.data], laidTests := true, laidLooks := .later }
def FnExactEditOKCardSaid : Prop := Claim7.holds Tryd.pinned (.plain (OpenSpec.ofChange fnExactEditOKSpec)) fnExactEditOKCard

/-- THE TIED CARD OF 'laws.FnExactSchemaLines'. -/
def fnExactSchemaLinesCard : Claim7 := { stood := { row := fnExactSchemaLinesRow, standIns := [], harness := (true, "01f2d0b63ffd7eb8f9159d9d54d6bc82ebe7e2e14ea960c6433dd8bc59812c2d"), looks := false }, kinds := [], alts := [], laidByText := true, laidKinds := [.data], laidTests := true, laidLooks := .later }
def FnExactSchemaLinesCardSaid : Prop := Claim7.holds Tryd.pinned (.plain (OpenSpec.ofChange fnExactSchemaLinesSpec)) fnExactSchemaLinesCard

/-- THE SECOND FORM's CARD OF 'laws.FnExactCheckNode'. -/
def fnExactCheckNodeUptoCard : Claim7 := { stood := { row := fnExactCheckNodeUptoRow, standIns := [], harness := (true, "01f2d0b63ffd7eb8f9159d9d54d6bc82ebe7e2e14ea960c6433dd8bc59812c2d"), looks := false }, kinds := [], alts := [], laidByText := true, laidKinds := [.data], laidTests := true, laidLooks := .later }
def FnExactCheckNodeUptoCardSaid : Prop := Claim7.holds Tryd.pinned (.plain (OpenSpec.upto fnExactCheckNodeSpec)) fnExactCheckNodeUptoCard

/-- THE SECOND FORM's CARD OF 'laws.FnExactCheckDoc'. -/
def fnExactCheckDocUptoCard : Claim7 := { stood := { row := fnExactCheckDocUptoRow, standIns := [], harness := (true, "01f2d0b63ffd7eb8f9159d9d54d6bc82ebe7e2e14ea960c6433dd8bc59812c2d"), looks := false }, kinds := [], alts := [], laidByText := true, laidKinds := [.data], laidTests := true, laidLooks := .later }
def FnExactCheckDocUptoCardSaid : Prop := Claim7.holds Tryd.pinned (.plain (OpenSpec.upto fnExactCheckDocSpec)) fnExactCheckDocUptoCard

/-- THE SECOND FORM's CARD OF 'laws.FnExactMayInsert'. -/
def fnExactMayInsertUptoCard : Claim7 := { stood := { row := fnExactMayInsertUptoRow, standIns := [], harness := (true, "01f2d0b63ffd7eb8f9159d9d54d6bc82ebe7e2e14ea960c6433dd8bc59812c2d"), looks := false }, kinds := [], alts := [], laidByText := true, laidKinds := [.data], laidTests := true, laidLooks := .later }
def FnExactMayInsertUptoCardSaid : Prop := Claim7.holds Tryd.pinned (.plain (OpenSpec.upto fnExactMayInsertSpec)) fnExactMayInsertUptoCard

/-- THE SECOND FORM's CARD OF 'laws.FnExactEditOK'. -/
def fnExactEditOKUptoCard : Claim7 := { stood := { row := fnExactEditOKUptoRow, standIns := [], harness := (true, "01f2d0b63ffd7eb8f9159d9d54d6bc82ebe7e2e14ea960c6433dd8bc59812c2d"), looks := false }, kinds := [], alts := [], laidByText := true, laidKinds := [.data], laidTests := true, laidLooks := .later }
def FnExactEditOKUptoCardSaid : Prop := Claim7.holds Tryd.pinned (.plain (OpenSpec.upto fnExactEditOKSpec)) fnExactEditOKUptoCard

/-- THE SECOND FORM's CARD OF 'laws.FnExactSchemaLines'. -/
def fnExactSchemaLinesUptoCard : Claim7 := { stood := { row := fnExactSchemaLinesUptoRow, standIns := [], harness := (true, "01f2d0b63ffd7eb8f9159d9d54d6bc82ebe7e2e14ea960c6433dd8bc59812c2d"), looks := false }, kinds := [], alts := [], laidByText := true, laidKinds := [.data], laidTests := true, laidLooks := .later }
def FnExactSchemaLinesUptoCardSaid : Prop := Claim7.holds Tryd.pinned (.plain (OpenSpec.upto fnExactSchemaLinesSpec)) fnExactSchemaLinesUptoCard
end Rows
end Go.Proofs.YtmcopoonnhcdjaaDoor
