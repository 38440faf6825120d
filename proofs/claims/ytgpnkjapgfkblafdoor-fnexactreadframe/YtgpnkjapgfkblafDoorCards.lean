/-
  DERIVED. GIVEN WITH THE SEED: THE CARDS: each row of YtgpnkjapgfkblafDoorRows.lean that lists a variable, with what it lists TIED to the program's text (the seventh form; the later family's looks); each row that meets fmt, with fmt's text TOLD by the authors' own Lean function (tested against real Go, not proved from fmt's source: count such statements apart). THE CARD IS WHAT COUNTS. Prove the row's statement (the work); the ties are given (YtgpnkjapgfkblafDoorTie.lean); close each card by the builder's one call (the guide's Derived/Test/ToyasCard.lean, 'card_holds'). Laid BY PROGRAM, IN A SANDBOX (cutbox-door.mjs). By AI agents, Wed Nov 11 2026. No macro, syntax, notation, axiom, sorry.
-/
import Derived.Test.YtgpnkjapgfkblafDoorRows
import GoSem.ClaimSeven
namespace Go.Proofs.YtgpnkjapgfkblafDoor
namespace Rows

/-- THE TIED CARD OF 'laws.FnExactReadFrame'. -/
def fnExactReadFrameCard : Claim7 := { stood := { row := fnExactReadFrameRow, standIns := [], harness := (true, "4a12c37afd6f5c81aa937b6008cab61e4860fbe34d01af46bdacf26286366a9d"), looks := true }, kinds := [], alts := [], laidByText := true, laidKinds := [.sentinel, .sentinel, .sentinel, .sentinel], laidTests := true, laidLooks := .later }
def FnExactReadFrameCardSaid : Prop := Claim7.holds Tryd.pinned (.plain (OpenSpec.ofChange fnExactReadFrameSpec)) fnExactReadFrameCard

/-- THE TIED CARD OF 'laws.FnExactBytesOf'. -/
def fnExactBytesOfCard : Claim7 := { stood := { row := fnExactBytesOfRow, standIns := [], harness := (true, "4a12c37afd6f5c81aa937b6008cab61e4860fbe34d01af46bdacf26286366a9d"), looks := true }, kinds := [], alts := [], laidByText := true, laidKinds := [.sentinel, .sentinel, .sentinel, .sentinel], laidTests := true, laidLooks := .later }
def FnExactBytesOfCardSaid : Prop := Claim7.holds Tryd.pinned (.plain (OpenSpec.ofChange fnExactBytesOfSpec)) fnExactBytesOfCard

/-- THE SECOND FORM's CARD OF 'laws.FnExactReadFrame'. -/
def fnExactReadFrameUptoCard : Claim7 := { stood := { row := fnExactReadFrameUptoRow, standIns := [], harness := (true, "4a12c37afd6f5c81aa937b6008cab61e4860fbe34d01af46bdacf26286366a9d"), looks := true }, kinds := [], alts := [], laidByText := true, laidKinds := [.sentinel, .sentinel, .sentinel, .sentinel], laidTests := true, laidLooks := .later }
def FnExactReadFrameUptoCardSaid : Prop := Claim7.holds Tryd.pinned (.plain (OpenSpec.upto fnExactReadFrameSpec)) fnExactReadFrameUptoCard

/-- THE SECOND FORM's CARD OF 'laws.FnExactBytesOf'. -/
def fnExactBytesOfUptoCard : Claim7 := { stood := { row := fnExactBytesOfUptoRow, standIns := [], harness := (true, "4a12c37afd6f5c81aa937b6008cab61e4860fbe34d01af46bdacf26286366a9d"), looks := true }, kinds := [], alts := [], laidByText := true, laidKinds := [.sentinel, .sentinel, .sentinel, .sentinel], laidTests := true, laidLooks := .later }
def FnExactBytesOfUptoCardSaid : Prop := Claim7.holds Tryd.pinned (.plain (OpenSpec.upto fnExactBytesOfSpec)) fnExactBytesOfUptoCard
end Rows
end Go.Proofs.YtgpnkjapgfkblafDoor
