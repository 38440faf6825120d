/-
  DERIVED. GIVEN WITH THE SEED: THE PROGRAM's TIES (one call each: nine closed facts by the kernel) AND EACH ROW's TIE, after the 31st guide's Derived/Test/Toyas{Tie, Card}.lean. No idea stands in it: it is a product of the set-up. Laid BY PROGRAM, IN A SANDBOX (cutbox-door.mjs). By AI agents, Wed Nov 11 2026. No macro, syntax, notation, axiom, sorry.
-/
import Derived.Test.YtfjhpfgffbghdaaGreatDoorRows
import Derived.LaidByTextLater
import Derived.SevenTiedAt
import Derived.LaidSub
import Derived.LaidOnce
namespace Go.Proofs.YtfjhpfgffbghdaaGreatDoor
open Go
set_option maxRecDepth 100000
theorem seatTie1 : Tryz.prog.laidByTextLater [("loop.example/g00701/impl.fits", Rows.laid_loop_example_g00701_impl_fits), ("loop.example/g00701/impl.intents", Rows.laid_loop_example_g00701_impl_intents)] [.data, .data] true :=
  Program.laidByTextLater_by_one 25 8 37 (by kernel_rfl) (by kernel_rfl) (by kernel_rfl) (by kernel_rfl) (by kernel_rfl) (by kernel_rfl) (fun _ _ => by kernel_rfl)
theorem noOwnUnsafe : Tryz.pinned.checked.prog.headLifts.contains "ownunsafe" = false := by kernel_rfl
theorem tie : Tryz.prog.laidByTextLater [("loop.example/g00701/impl.fits", Rows.laid_loop_example_g00701_impl_fits), ("loop.example/g00701/impl.intents", Rows.laid_loop_example_g00701_impl_intents)] [.data, .data] true :=
  Program.laidByTextLater.sub seatTie1 ["loop.example/g00701/impl.fits", "loop.example/g00701/impl.intents"] (by kernel_rfl) (by kernel_rfl)
theorem fnExactFreeLock_row_tie : Rows.fnExactFreeLockRow.laidByTextAt .later Tryz.pinned [.data, .data] true :=
  OpenClaim.laidByTextAt_later rfl rfl tie noOwnUnsafe
theorem fnExactLeaveTable_row_tie : Rows.fnExactLeaveTableRow.laidByTextAt .later Tryz.pinned [.data, .data] true :=
  OpenClaim.laidByTextAt_later rfl rfl tie noOwnUnsafe
theorem fnExactBlockersOf_row_tie : Rows.fnExactBlockersOfRow.laidByTextAt .later Tryz.pinned [.data, .data] true :=
  OpenClaim.laidByTextAt_later rfl rfl tie noOwnUnsafe
theorem fnExactFreeLockUpto_row_tie : Rows.fnExactFreeLockUptoRow.laidByTextAt .later Tryz.pinned [.data, .data] true :=
  OpenClaim.laidByTextAt_later rfl rfl tie noOwnUnsafe
theorem fnExactLeaveTableUpto_row_tie : Rows.fnExactLeaveTableUptoRow.laidByTextAt .later Tryz.pinned [.data, .data] true :=
  OpenClaim.laidByTextAt_later rfl rfl tie noOwnUnsafe
theorem fnExactBlockersOfUpto_row_tie : Rows.fnExactBlockersOfUptoRow.laidByTextAt .later Tryz.pinned [.data, .data] true :=
  OpenClaim.laidByTextAt_later rfl rfl tie noOwnUnsafe
end Go.Proofs.YtfjhpfgffbghdaaGreatDoor
