/-
  DERIVED. GIVEN WITH THE SEED: THE CARDS: each row of YtfjhpfgffbghdaaGreatDoorRows.lean that lists a variable, with what it lists TIED to the program's text (the seventh form; the later family's looks); each row that meets fmt, with fmt's text TOLD by the authors' own Lean function (tested against real Go, not proved from fmt's source: count such statements apart). THE CARD IS WHAT COUNTS. Prove the row's statement (the work); the ties are given (YtfjhpfgffbghdaaGreatDoorTie.lean); close each card by the builder's one call (the guide's Derived/Test/ToyasCard.lean, 'card_holds'). Laid BY PROGRAM, IN A SANDBOX (cutbox-door.mjs). By AI agents, Wed Nov 11 2026. No macro, syntax, notation, axiom, sorry.
-/
import Derived.Test.YtfjhpfgffbghdaaGreatDoorRows
import GoSem.ClaimSeven
namespace Go.Proofs.YtfjhpfgffbghdaaGreatDoor
namespace Rows

/-- THE TIED CARD OF 'laws.FnExactFreeLock'. -/
def fnExactFreeLockCard : Claim7 := { stood := { row := fnExactFreeLockRow, standIns := [], harness := (true, "9ffff5fd7dfcaca274f970f9cfbebedf6f3c08c0b16612970732a4b7220851b7"), looks := false }, kinds := [], alts := [], laidByText := true, laidKinds := [.data, .data], laidTests := true, laidLooks := .later }
def FnExactFreeLockCardSaid : Prop := Claim7.holds Tryz.pinned (.plain (OpenSpec.ofChange fnExactFreeLockSpec)) fnExactFreeLockCard

/-- THE TIED CARD OF 'laws.FnExactLeaveTable'. -/
def fnExactLeaveTableCard : Claim7 := { stood := { row := fnExactLeaveTableRow, standIns := [], harness := (true, "9ffff5fd7dfcaca274f970f9cfbebedf6f3c08c0b16612970732a4b7220851b7"), looks := false }, kinds := [], alts := [], laidByText := true, laidKinds := [.data, .data], laidTests := true, laidLooks := .later }
def FnExactLeaveTableCardSaid : Prop := Claim7.holds Tryz.pinned (.plain (OpenSpec.ofChange fnExactLeaveTableSpec)) fnExactLeaveTableCard

/-- THE TIED CARD OF 'laws.FnExactBlockersOf'. -/
def fnExactBlockersOfCard : Claim7 := { stood := { row := fnExactBlockersOfRow, standIns := [], harness := (true, "9ffff5fd7dfcaca274f970f9cfbebedf6f3c08c0b16612970732a4b7220851b7"), looks := false }, kinds := [], alts := [], laidByText := true, laidKinds := [.data, .data], laidTests := true, laidLooks := .later }
def FnExactBlockersOfCardSaid : Prop := Claim7.holds Tryz.pinned (.plain (OpenSpec.ofChange fnExactBlockersOfSpec)) fnExactBlockersOfCard

/-- THE SECOND FORM's CARD OF 'laws.FnExactFreeLock'. -/
def fnExactFreeLockUptoCard : Claim7 := { stood := { row := fnExactFreeLockUptoRow, standIns := [], harness := (true, "9ffff5fd7dfcaca274f970f9cfbebedf6f3c08c0b16612970732a4b7220851b7"), looks := false }, kinds := [], alts := [], laidByText := true, laidKinds := [.data, .data], laidTests := true, laidLooks := .later }
def FnExactFreeLockUptoCardSaid : Prop := Claim7.holds Tryz.pinned (.plain (OpenSpec.upto fnExactFreeLockSpec)) fnExactFreeLockUptoCard

/-- THE SECOND FORM's CARD OF 'laws.FnExactLeaveTable'. -/
def fnExactLeaveTableUptoCard : Claim7 := { stood := { row := fnExactLeaveTableUptoRow, standIns := [], harness := (true, "9ffff5fd7dfcaca274f970f9cfbebedf6f3c08c0b16612970732a4b7220851b7"), looks := false }, kinds := [], alts := [], laidByText := true, laidKinds := [.data, .data], laidTests := true, laidLooks := .later }
def FnExactLeaveTableUptoCardSaid : Prop := Claim7.holds Tryz.pinned (.plain (OpenSpec.upto fnExactLeaveTableSpec)) fnExactLeaveTableUptoCard

/-- THE SECOND FORM's CARD OF 'laws.FnExactBlockersOf'. -/
def fnExactBlockersOfUptoCard : Claim7 := { stood := { row := fnExactBlockersOfUptoRow, standIns := [], harness := (true, "9ffff5fd7dfcaca274f970f9cfbebedf6f3c08c0b16612970732a4b7220851b7"), looks := false }, kinds := [], alts := [], laidByText := true, laidKinds := [.data, .data], laidTests := true, laidLooks := .later }
def FnExactBlockersOfUptoCardSaid : Prop := Claim7.holds Tryz.pinned (.plain (OpenSpec.upto fnExactBlockersOfSpec)) fnExactBlockersOfUptoCard
end Rows
end Go.Proofs.YtfjhpfgffbghdaaGreatDoor
