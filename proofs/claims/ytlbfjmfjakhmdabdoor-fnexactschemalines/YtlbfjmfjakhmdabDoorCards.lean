/-
  DERIVED. GIVEN WITH THE SEED: THE CARDS: each row of YtlbfjmfjakhmdabDoorRows.lean that lists a variable, with what it lists TIED to the program's text (the seventh form; the later family's looks); each row that meets fmt, with fmt's text TOLD by the authors' own Lean function (tested against real Go, not proved from fmt's source: count such statements apart). THE CARD IS WHAT COUNTS. Prove the row's statement (the work); the ties are given (YtlbfjmfjakhmdabDoorTie.lean); close each card by the builder's one call (the guide's Derived/Test/ToyasCard.lean, 'card_holds'). Laid BY PROGRAM, IN A SANDBOX (cutbox-door.mjs). By AI agents, Wed Nov 11 2026. No macro, syntax, notation, axiom, sorry.
-/
import Derived.Test.YtlbfjmfjakhmdabDoorRows
import GoSem.ClaimSeven
namespace Go.Proofs.YtlbfjmfjakhmdabDoor
namespace Rows

/-- THE TIED CARD OF 'laws.FnExactSchemaLines'. -/
def fnExactSchemaLinesCard : Claim7 := { stood := { row := fnExactSchemaLinesRow, standIns := [], harness := (true, "911fddc3da1ca69c9f22c358d538eee17d5448c8698c68b499ca38c21922f803"), looks := true }, kinds := [], alts := [], laidByText := true, laidKinds := [.data], laidTests := true, laidLooks := .later }
def FnExactSchemaLinesCardSaid : Prop := Claim7.holds Tryd.pinned (.plain (OpenSpec.ofChange fnExactSchemaLinesSpec)) fnExactSchemaLinesCard

/-- THE TIED CARD OF 'laws.FnExactReadSchema'. -/
def fnExactReadSchemaCard : Claim7 := { stood := { row := fnExactReadSchemaRow, standIns := [], harness := (true, "911fddc3da1ca69c9f22c358d538eee17d5448c8698c68b499ca38c21922f803"), looks := true }, kinds := [], alts := [], laidByText := true, laidKinds := [.sentinel, .sentinel, .sentinel, .sentinel, .data], laidTests := true, laidLooks := .later }
def FnExactReadSchemaCardSaid : Prop := Claim7.holds Tryd.pinned (.plain (OpenSpec.ofChange fnExactReadSchemaSpec)) fnExactReadSchemaCard

/-- THE TIED CARD OF 'laws.FnExactDemoSchema'. -/
def fnExactDemoSchemaCard : Claim7 := { stood := { row := fnExactDemoSchemaRow, standIns := [], harness := (true, "911fddc3da1ca69c9f22c358d538eee17d5448c8698c68b499ca38c21922f803"), looks := true }, kinds := [], alts := [], laidByText := true, laidKinds := [.sentinel, .data], laidTests := true, laidLooks := .later }
def FnExactDemoSchemaCardSaid : Prop := Claim7.holds Tryd.pinned (.plain (OpenSpec.ofChange fnExactDemoSchemaSpec)) fnExactDemoSchemaCard

/-- THE TIED CARD OF 'laws.FnSchema'. -/
def fnSchemaCard : Claim7 := { stood := { row := fnSchemaRow, standIns := [], harness := (true, "911fddc3da1ca69c9f22c358d538eee17d5448c8698c68b499ca38c21922f803"), looks := true }, kinds := [], alts := [], laidByText := true, laidKinds := [.sentinel, .sentinel, .sentinel, .sentinel, .data], laidTests := true, laidLooks := .later }
def FnSchemaCardSaid : Prop := Claim7.holds Tryd.pinned (.plain (OpenSpec.ofChange fnSchemaSpec)) fnSchemaCard

/-- THE SECOND FORM's CARD OF 'laws.FnExactSchemaLines'. -/
def fnExactSchemaLinesUptoCard : Claim7 := { stood := { row := fnExactSchemaLinesUptoRow, standIns := [], harness := (true, "911fddc3da1ca69c9f22c358d538eee17d5448c8698c68b499ca38c21922f803"), looks := true }, kinds := [], alts := [], laidByText := true, laidKinds := [.data], laidTests := true, laidLooks := .later }
def FnExactSchemaLinesUptoCardSaid : Prop := Claim7.holds Tryd.pinned (.plain (OpenSpec.upto fnExactSchemaLinesSpec)) fnExactSchemaLinesUptoCard

/-- THE SECOND FORM's CARD OF 'laws.FnExactReadSchema'. -/
def fnExactReadSchemaUptoCard : Claim7 := { stood := { row := fnExactReadSchemaUptoRow, standIns := [], harness := (true, "911fddc3da1ca69c9f22c358d538eee17d5448c8698c68b499ca38c21922f803"), looks := true }, kinds := [], alts := [], laidByText := true, laidKinds := [.sentinel, .sentinel, .sentinel, .sentinel, .data], laidTests := true, laidLooks := .later }
def FnExactReadSchemaUptoCardSaid : Prop := Claim7.holds Tryd.pinned (.plain (OpenSpec.upto fnExactReadSchemaSpec)) fnExactReadSchemaUptoCard

/-- THE SECOND FORM's CARD OF 'laws.FnExactDemoSchema'. -/
def fnExactDemoSchemaUptoCard : Claim7 := { stood := { row := fnExactDemoSchemaUptoRow, standIns := [], harness := (true, "911fddc3da1ca69c9f22c358d538eee17d5448c8698c68b499ca38c21922f803"), looks := true }, kinds := [], alts := [], laidByText := true, laidKinds := [.sentinel, .data], laidTests := true, laidLooks := .later }
def FnExactDemoSchemaUptoCardSaid : Prop := Claim7.holds Tryd.pinned (.plain (OpenSpec.upto fnExactDemoSchemaSpec)) fnExactDemoSchemaUptoCard

/-- THE SECOND FORM's CARD OF 'laws.FnSchema'. -/
def fnSchemaUptoCard : Claim7 := { stood := { row := fnSchemaUptoRow, standIns := [], harness := (true, "911fddc3da1ca69c9f22c358d538eee17d5448c8698c68b499ca38c21922f803"), looks := true }, kinds := [], alts := [], laidByText := true, laidKinds := [.sentinel, .sentinel, .sentinel, .sentinel, .data], laidTests := true, laidLooks := .later }
def FnSchemaUptoCardSaid : Prop := Claim7.holds Tryd.pinned (.plain (OpenSpec.upto fnSchemaSpec)) fnSchemaUptoCard
end Rows
end Go.Proofs.YtlbfjmfjakhmdabDoor
