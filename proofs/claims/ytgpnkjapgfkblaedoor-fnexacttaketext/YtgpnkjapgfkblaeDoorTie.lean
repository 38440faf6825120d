/-
  DERIVED. GIVEN WITH THE SEED: THE PROGRAM's TIES (one call each: nine closed facts by the kernel) AND EACH ROW's TIE, after the 31st guide's Derived/Test/Toyas{Tie, Card}.lean. No idea stands in it: it is a product of the set-up. Laid BY PROGRAM, IN A SANDBOX (cutbox-door.mjs). By AI agents, Wed Nov 11 2026. No macro, syntax, notation, axiom, sorry.
-/
import Derived.Test.YtgpnkjapgfkblaeDoorRows
import Derived.LaidByTextLater
import Derived.SevenTiedAt
import Derived.LaidSub
import Derived.LaidOnce
namespace Go.Proofs.YtgpnkjapgfkblaeDoor
open Go
set_option maxRecDepth 100000
theorem seatTie1 : Tryd.prog.laidByTextLater [("loop.example/g00701/impl.codeWords", Rows.laid_loop_example_g00701_impl_codeWords), ("loop.example/g00701/impl.errForm", Rows.laid_loop_example_g00701_impl_errForm), ("loop.example/g00701/impl.errRange", Rows.laid_loop_example_g00701_impl_errRange), ("loop.example/g00701/impl.errSize", Rows.laid_loop_example_g00701_impl_errSize), ("loop.example/g00701/impl.errSum", Rows.laid_loop_example_g00701_impl_errSum)] [.data, .sentinel, .sentinel, .sentinel, .sentinel] true :=
  Program.laidByTextLater_by_one 90 8 23 (by kernel_rfl) (by kernel_rfl) (by kernel_rfl) (by kernel_rfl) (by kernel_rfl) (by kernel_rfl) (fun _ _ => by kernel_rfl)
theorem noOwnUnsafe : Tryd.pinned.checked.prog.headLifts.contains "ownunsafe" = false := by kernel_rfl
theorem tie : Tryd.prog.laidByTextLater [("loop.example/g00701/impl.codeWords", Rows.laid_loop_example_g00701_impl_codeWords)] [.data] true :=
  Program.laidByTextLater.sub seatTie1 ["loop.example/g00701/impl.codeWords"] (by kernel_rfl) (by kernel_rfl)
theorem fnExactCodeOf_row_tie : Rows.fnExactCodeOfRow.laidByTextAt .later Tryd.pinned [.data] true :=
  OpenClaim.laidByTextAt_later rfl rfl tie noOwnUnsafe
theorem tie2 : Tryd.prog.laidByTextLater [("loop.example/g00701/impl.errForm", Rows.laid_loop_example_g00701_impl_errForm), ("loop.example/g00701/impl.errRange", Rows.laid_loop_example_g00701_impl_errRange), ("loop.example/g00701/impl.errSize", Rows.laid_loop_example_g00701_impl_errSize), ("loop.example/g00701/impl.errSum", Rows.laid_loop_example_g00701_impl_errSum)] [.sentinel, .sentinel, .sentinel, .sentinel] true :=
  Program.laidByTextLater.sub seatTie1 ["loop.example/g00701/impl.errForm", "loop.example/g00701/impl.errRange", "loop.example/g00701/impl.errSize", "loop.example/g00701/impl.errSum"] (by kernel_rfl) (by kernel_rfl)
theorem fnExactPutNumber_row_tie : Rows.fnExactPutNumberRow.laidByTextAt .later Tryd.pinned [.sentinel, .sentinel, .sentinel, .sentinel] true :=
  OpenClaim.laidByTextAt_later rfl rfl tie2 noOwnUnsafe
theorem fnExactTakeNumber_row_tie : Rows.fnExactTakeNumberRow.laidByTextAt .later Tryd.pinned [.sentinel, .sentinel, .sentinel, .sentinel] true :=
  OpenClaim.laidByTextAt_later rfl rfl tie2 noOwnUnsafe
theorem fnExactTakeText_row_tie : Rows.fnExactTakeTextRow.laidByTextAt .later Tryd.pinned [.sentinel, .sentinel, .sentinel, .sentinel] true :=
  OpenClaim.laidByTextAt_later rfl rfl tie2 noOwnUnsafe
theorem fnExactCodeOfUpto_row_tie : Rows.fnExactCodeOfUptoRow.laidByTextAt .later Tryd.pinned [.data] true :=
  OpenClaim.laidByTextAt_later rfl rfl tie noOwnUnsafe
theorem fnExactPutNumberUpto_row_tie : Rows.fnExactPutNumberUptoRow.laidByTextAt .later Tryd.pinned [.sentinel, .sentinel, .sentinel, .sentinel] true :=
  OpenClaim.laidByTextAt_later rfl rfl tie2 noOwnUnsafe
theorem fnExactTakeNumberUpto_row_tie : Rows.fnExactTakeNumberUptoRow.laidByTextAt .later Tryd.pinned [.sentinel, .sentinel, .sentinel, .sentinel] true :=
  OpenClaim.laidByTextAt_later rfl rfl tie2 noOwnUnsafe
theorem fnExactTakeTextUpto_row_tie : Rows.fnExactTakeTextUptoRow.laidByTextAt .later Tryd.pinned [.sentinel, .sentinel, .sentinel, .sentinel] true :=
  OpenClaim.laidByTextAt_later rfl rfl tie2 noOwnUnsafe
end Go.Proofs.YtgpnkjapgfkblaeDoor
