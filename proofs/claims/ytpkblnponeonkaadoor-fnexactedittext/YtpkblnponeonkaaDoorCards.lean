/-
  DERIVED. GIVEN WITH THE SEED: THE CARDS: each row of YtpkblnponeonkaaDoorRows.lean that lists a variable, with what it lists TIED to the program's text (the seventh form; the later family's looks); each row that meets fmt, with fmt's text TOLD by the authors' own Lean function (tested against real Go, not proved from fmt's source: count such statements apart). THE CARD IS WHAT COUNTS. Prove the row's statement (the work); the ties are given (YtpkblnponeonkaaDoorTie.lean); close each card by the builder's one call (the guide's Derived/Test/ToyasCard.lean, 'card_holds'). Laid BY PROGRAM, IN A SANDBOX (cutbox-door.mjs). By AI agents, Wed Nov 11 2026. No macro, syntax, notation, axiom, sorry.
-/
import Derived.Test.YtpkblnponeonkaaDoorRows
import GoSem.ClaimSeven
namespace Go.Proofs.YtpkblnponeonkaaDoor
namespace Rows

/-- THE TIED CARD OF 'laws.FnExactEditOK'. -/
def fnExactEditOKCard : Claim7 := { stood := { row := fnExactEditOKRow, standIns := [], harness := (true, "38be4910caa2c908f1a01aa7343522a3163bbf5c6e2a43d5e57b532bed5e009c"), looks := true }, kinds := [], alts := [], laidByText := true, laidKinds := [.data], laidTests := true, laidLooks := .later }
def FnExactEditOKCardSaid : Prop := Claim7.holds Tryd.pinned (.plain (OpenSpec.ofChange fnExactEditOKSpec)) fnExactEditOKCard

/-- THE TIED CARD OF 'laws.FnExactEditText'. -/
def fnExactEditTextCard : Claim7 := { stood := { row := fnExactEditTextRow, standIns := [], harness := (true, "38be4910caa2c908f1a01aa7343522a3163bbf5c6e2a43d5e57b532bed5e009c"), looks := true }, kinds := [], alts := [], laidByText := true, laidKinds := [.data, .data, .data, .data], laidTests := true, laidLooks := .later }
def FnExactEditTextCardSaid : Prop := Claim7.holds Tryd.pinned (.plain (OpenSpec.ofChange fnExactEditTextSpec)) fnExactEditTextCard

/-- THE TIED CARD OF 'laws.FnExactReadEdit'. -/
def fnExactReadEditCard : Claim7 := { stood := { row := fnExactReadEditRow, standIns := [], harness := (true, "38be4910caa2c908f1a01aa7343522a3163bbf5c6e2a43d5e57b532bed5e009c"), looks := true }, kinds := [], alts := [], laidByText := true, laidKinds := [.data, .data, .data, .sentinel, .sentinel, .sentinel, .sentinel, .sentinel, .sentinel, .data], laidTests := true, laidLooks := .later }
def FnExactReadEditCardSaid : Prop := Claim7.holds Tryd.pinned (.plain (OpenSpec.ofChange fnExactReadEditSpec)) fnExactReadEditCard

/-- THE TIED CARD OF 'laws.FnExactMayInsert'. -/
def fnExactMayInsertCard : Claim7 := { stood := { row := fnExactMayInsertRow, standIns := [], harness := (true, "38be4910caa2c908f1a01aa7343522a3163bbf5c6e2a43d5e57b532bed5e009c"), looks := true }, kinds := [], alts := [], laidByText := true, laidKinds := [.data], laidTests := true, laidLooks := .later }
def FnExactMayInsertCardSaid : Prop := Claim7.holds Tryd.pinned (.plain (OpenSpec.ofChange fnExactMayInsertSpec)) fnExactMayInsertCard

/-- THE SECOND FORM's CARD OF 'laws.FnExactEditOK'. -/
def fnExactEditOKUptoCard : Claim7 := { stood := { row := fnExactEditOKUptoRow, standIns := [], harness := (true, "38be4910caa2c908f1a01aa7343522a3163bbf5c6e2a43d5e57b532bed5e009c"), looks := true }, kinds := [], alts := [], laidByText := true, laidKinds := [.data], laidTests := true, laidLooks := .later }
def FnExactEditOKUptoCardSaid : Prop := Claim7.holds Tryd.pinned (.plain (OpenSpec.upto fnExactEditOKSpec)) fnExactEditOKUptoCard

/-- THE SECOND FORM's CARD OF 'laws.FnExactEditText'. -/
def fnExactEditTextUptoCard : Claim7 := { stood := { row := fnExactEditTextUptoRow, standIns := [], harness := (true, "38be4910caa2c908f1a01aa7343522a3163bbf5c6e2a43d5e57b532bed5e009c"), looks := true }, kinds := [], alts := [], laidByText := true, laidKinds := [.data, .data, .data, .data], laidTests := true, laidLooks := .later }
def FnExactEditTextUptoCardSaid : Prop := Claim7.holds Tryd.pinned (.plain (OpenSpec.upto fnExactEditTextSpec)) fnExactEditTextUptoCard

/-- THE SECOND FORM's CARD OF 'laws.FnExactReadEdit'. -/
def fnExactReadEditUptoCard : Claim7 := { stood := { row := fnExactReadEditUptoRow, standIns := [], harness := (true, "38be4910caa2c908f1a01aa7343522a3163bbf5c6e2a43d5e57b532bed5e009c"), looks := true }, kinds := [], alts := [], laidByText := true, laidKinds := [.data, .data, .data, .sentinel, .sentinel, .sentinel, .sentinel, .sentinel, .sentinel, .data], laidTests := true, laidLooks := .later }
def FnExactReadEditUptoCardSaid : Prop := Claim7.holds Tryd.pinned (.plain (OpenSpec.upto fnExactReadEditSpec)) fnExactReadEditUptoCard

/-- THE SECOND FORM's CARD OF 'laws.FnExactMayInsert'. -/
def fnExactMayInsertUptoCard : Claim7 := { stood := { row := fnExactMayInsertUptoRow, standIns := [], harness := (true, "38be4910caa2c908f1a01aa7343522a3163bbf5c6e2a43d5e57b532bed5e009c"), looks := true }, kinds := [], alts := [], laidByText := true, laidKinds := [.data], laidTests := true, laidLooks := .later }
def FnExactMayInsertUptoCardSaid : Prop := Claim7.holds Tryd.pinned (.plain (OpenSpec.upto fnExactMayInsertSpec)) fnExactMayInsertUptoCard
end Rows
end Go.Proofs.YtpkblnponeonkaaDoor
