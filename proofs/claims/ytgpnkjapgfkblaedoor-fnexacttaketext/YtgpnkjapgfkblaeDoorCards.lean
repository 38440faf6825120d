/-
  DERIVED. GIVEN WITH THE SEED: THE CARDS: each row of YtgpnkjapgfkblaeDoorRows.lean that lists a variable, with what it lists TIED to the program's text (the seventh form; the later family's looks); each row that meets fmt, with fmt's text TOLD by the authors' own Lean function (tested against real Go, not proved from fmt's source: count such statements apart). THE CARD IS WHAT COUNTS. Prove the row's statement (the work); the ties are given (YtgpnkjapgfkblaeDoorTie.lean); close each card by the builder's one call (the guide's Derived/Test/ToyasCard.lean, 'card_holds'). Laid BY PROGRAM, IN A SANDBOX (cutbox-door.mjs). By AI agents, Wed Nov 11 2026. No macro, syntax, notation, axiom, sorry.
-/
import Derived.Test.YtgpnkjapgfkblaeDoorRows
import GoSem.ClaimSeven
namespace Go.Proofs.YtgpnkjapgfkblaeDoor
namespace Rows

/-- THE TIED CARD OF 'laws.FnExactCodeOf'. -/
def fnExactCodeOfCard : Claim7 := { stood := { row := fnExactCodeOfRow, standIns := [], harness := (true, "027696db4e9c9aaf7a33a47efab03e63e6f15ae5c561bce61d453661dc98c456"), looks := true }, kinds := [], alts := [], laidByText := true, laidKinds := [.data], laidTests := true, laidLooks := .later }
def FnExactCodeOfCardSaid : Prop := Claim7.holds Tryd.pinned (.plain (OpenSpec.ofChange fnExactCodeOfSpec)) fnExactCodeOfCard

/-- THE TIED CARD OF 'laws.FnExactPutNumber'. -/
def fnExactPutNumberCard : Claim7 := { stood := { row := fnExactPutNumberRow, standIns := [], harness := (true, "027696db4e9c9aaf7a33a47efab03e63e6f15ae5c561bce61d453661dc98c456"), looks := true }, kinds := [], alts := [], laidByText := true, laidKinds := [.sentinel, .sentinel, .sentinel, .sentinel], laidTests := true, laidLooks := .later }
def FnExactPutNumberCardSaid : Prop := Claim7.holds Tryd.pinned (.plain (OpenSpec.ofChange fnExactPutNumberSpec)) fnExactPutNumberCard

/-- THE TIED CARD OF 'laws.FnExactTakeNumber'. -/
def fnExactTakeNumberCard : Claim7 := { stood := { row := fnExactTakeNumberRow, standIns := [], harness := (true, "027696db4e9c9aaf7a33a47efab03e63e6f15ae5c561bce61d453661dc98c456"), looks := true }, kinds := [], alts := [], laidByText := true, laidKinds := [.sentinel, .sentinel, .sentinel, .sentinel], laidTests := true, laidLooks := .later }
def FnExactTakeNumberCardSaid : Prop := Claim7.holds Tryd.pinned (.plain (OpenSpec.ofChange fnExactTakeNumberSpec)) fnExactTakeNumberCard

/-- THE TIED CARD OF 'laws.FnExactTakeText'. -/
def fnExactTakeTextCard : Claim7 := { stood := { row := fnExactTakeTextRow, standIns := [], harness := (true, "027696db4e9c9aaf7a33a47efab03e63e6f15ae5c561bce61d453661dc98c456"), looks := true }, kinds := [], alts := [], laidByText := true, laidKinds := [.sentinel, .sentinel, .sentinel, .sentinel], laidTests := true, laidLooks := .later }
def FnExactTakeTextCardSaid : Prop := Claim7.holds Tryd.pinned (.plain (OpenSpec.ofChange fnExactTakeTextSpec)) fnExactTakeTextCard

/-- THE SECOND FORM's CARD OF 'laws.FnExactCodeOf'. -/
def fnExactCodeOfUptoCard : Claim7 := { stood := { row := fnExactCodeOfUptoRow, standIns := [], harness := (true, "027696db4e9c9aaf7a33a47efab03e63e6f15ae5c561bce61d453661dc98c456"), looks := true }, kinds := [], alts := [], laidByText := true, laidKinds := [.data], laidTests := true, laidLooks := .later }
def FnExactCodeOfUptoCardSaid : Prop := Claim7.holds Tryd.pinned (.plain (OpenSpec.upto fnExactCodeOfSpec)) fnExactCodeOfUptoCard

/-- THE SECOND FORM's CARD OF 'laws.FnExactPutNumber'. -/
def fnExactPutNumberUptoCard : Claim7 := { stood := { row := fnExactPutNumberUptoRow, standIns := [], harness := (true, "027696db4e9c9aaf7a33a47efab03e63e6f15ae5c561bce61d453661dc98c456"), looks := true }, kinds := [], alts := [], laidByText := true, laidKinds := [.sentinel, .sentinel, .sentinel, .sentinel], laidTests := true, laidLooks := .later }
def FnExactPutNumberUptoCardSaid : Prop := Claim7.holds Tryd.pinned (.plain (OpenSpec.upto fnExactPutNumberSpec)) fnExactPutNumberUptoCard

/-- THE SECOND FORM's CARD OF 'laws.FnExactTakeNumber'. -/
def fnExactTakeNumberUptoCard : Claim7 := { stood := { row := fnExactTakeNumberUptoRow, standIns := [], harness := (true, "027696db4e9c9aaf7a33a47efab03e63e6f15ae5c561bce61d453661dc98c456"), looks := true }, kinds := [], alts := [], laidByText := true, laidKinds := [.sentinel, .sentinel, .sentinel, .sentinel], laidTests := true, laidLooks := .later }
def FnExactTakeNumberUptoCardSaid : Prop := Claim7.holds Tryd.pinned (.plain (OpenSpec.upto fnExactTakeNumberSpec)) fnExactTakeNumberUptoCard

/-- THE SECOND FORM's CARD OF 'laws.FnExactTakeText'. -/
def fnExactTakeTextUptoCard : Claim7 := { stood := { row := fnExactTakeTextUptoRow, standIns := [], harness := (true, "027696db4e9c9aaf7a33a47efab03e63e6f15ae5c561bce61d453661dc98c456"), looks := true }, kinds := [], alts := [], laidByText := true, laidKinds := [.sentinel, .sentinel, .sentinel, .sentinel], laidTests := true, laidLooks := .later }
def FnExactTakeTextUptoCardSaid : Prop := Claim7.holds Tryd.pinned (.plain (OpenSpec.upto fnExactTakeTextSpec)) fnExactTakeTextUptoCard
end Rows
end Go.Proofs.YtgpnkjapgfkblaeDoor
