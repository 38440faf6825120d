/-
  DERIVED. GIVEN WITH THE SEED: THE PROGRAM's TIES (one call each: nine closed facts by the kernel) AND EACH ROW's TIE, after the 31st guide's Derived/Test/Toyas{Tie, Card}.lean. No idea stands in it: it is a product of the set-up. Laid BY PROGRAM, IN A SANDBOX (cutbox-door.mjs). By AI agents, Wed Nov 11 2026. No macro, syntax, notation, axiom, sorry.
-/
import Derived.Test.YtfjhpfgffbghdaaDoorRows
import Derived.LaidByTextLater
import Derived.SevenTiedAt
import Derived.LaidSub
import Derived.LaidOnce
namespace Go.Proofs.YtfjhpfgffbghdaaDoor
open Go
set_option maxRecDepth 100000
theorem seatTie1 : Tryd.prog.laidByTextLater [("loop.example/g00701/impl.fits", Rows.laid_loop_example_g00701_impl_fits), ("loop.example/g00701/impl.intents", Rows.laid_loop_example_g00701_impl_intents), ("loop.example/g00701/impl.coversBelow", Rows.laid_loop_example_g00701_impl_coversBelow)] [.data, .data, .data] true :=
  Program.laidByTextLater_by_one 30 8 37 (by kernel_rfl) (by kernel_rfl) (by kernel_rfl) (by kernel_rfl) (by kernel_rfl) (by kernel_rfl) (fun _ _ => by kernel_rfl)
theorem noOwnUnsafe : Tryd.pinned.checked.prog.headLifts.contains "ownunsafe" = false := by kernel_rfl
theorem tie : Tryd.prog.laidByTextLater [("loop.example/g00701/impl.intents", Rows.laid_loop_example_g00701_impl_intents)] [.data] true :=
  Program.laidByTextLater.sub seatTie1 ["loop.example/g00701/impl.intents"] (by kernel_rfl) (by kernel_rfl)
theorem fnExactModeAt_row_tie : Rows.fnExactModeAtRow.laidByTextAt .later Tryd.pinned [.data] true :=
  OpenClaim.laidByTextAt_later rfl rfl tie noOwnUnsafe
theorem tie2 : Tryd.prog.laidByTextLater [("loop.example/g00701/impl.coversBelow", Rows.laid_loop_example_g00701_impl_coversBelow)] [.data] true :=
  Program.laidByTextLater.sub seatTie1 ["loop.example/g00701/impl.coversBelow"] (by kernel_rfl) (by kernel_rfl)
theorem fnExactCoverOf_row_tie : Rows.fnExactCoverOfRow.laidByTextAt .later Tryd.pinned [.data] true :=
  OpenClaim.laidByTextAt_later rfl rfl tie2 noOwnUnsafe
theorem tie3 : Tryd.prog.laidByTextLater [("loop.example/g00701/impl.fits", Rows.laid_loop_example_g00701_impl_fits), ("loop.example/g00701/impl.intents", Rows.laid_loop_example_g00701_impl_intents)] [.data, .data] true :=
  Program.laidByTextLater.sub seatTie1 ["loop.example/g00701/impl.fits", "loop.example/g00701/impl.intents"] (by kernel_rfl) (by kernel_rfl)
theorem fnExactPeaceful_row_tie : Rows.fnExactPeacefulRow.laidByTextAt .later Tryd.pinned [.data, .data] true :=
  OpenClaim.laidByTextAt_later rfl rfl tie3 noOwnUnsafe
theorem fnExactConflictsOf_row_tie : Rows.fnExactConflictsOfRow.laidByTextAt .later Tryd.pinned [.data, .data] true :=
  OpenClaim.laidByTextAt_later rfl rfl tie3 noOwnUnsafe
theorem fnExactModeAtUpto_row_tie : Rows.fnExactModeAtUptoRow.laidByTextAt .later Tryd.pinned [.data] true :=
  OpenClaim.laidByTextAt_later rfl rfl tie noOwnUnsafe
theorem fnExactCoverOfUpto_row_tie : Rows.fnExactCoverOfUptoRow.laidByTextAt .later Tryd.pinned [.data] true :=
  OpenClaim.laidByTextAt_later rfl rfl tie2 noOwnUnsafe
theorem fnExactPeacefulUpto_row_tie : Rows.fnExactPeacefulUptoRow.laidByTextAt .later Tryd.pinned [.data, .data] true :=
  OpenClaim.laidByTextAt_later rfl rfl tie3 noOwnUnsafe
theorem fnExactConflictsOfUpto_row_tie : Rows.fnExactConflictsOfUptoRow.laidByTextAt .later Tryd.pinned [.data, .data] true :=
  OpenClaim.laidByTextAt_later rfl rfl tie3 noOwnUnsafe
end Go.Proofs.YtfjhpfgffbghdaaDoor
