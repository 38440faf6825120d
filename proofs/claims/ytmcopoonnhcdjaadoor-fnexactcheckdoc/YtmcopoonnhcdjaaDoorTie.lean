/-
  DERIVED. GIVEN WITH THE SEED: THE PROGRAM's TIES (one call each: nine closed facts by the kernel) AND EACH ROW's TIE, after the 31st guide's Derived/Test/Toyas{Tie, Card}.lean. No idea stands in it: it is a product of the set-up. Laid BY PROGRAM, IN A SANDBOX (cutbox-door.mjs). By AI agents, Wed Nov 11 2026. No macro, syntax, notation, axiom, sorry.
-/
import Derived.Test.YtmcopoonnhcdjaaDoorRows
import Derived.LaidByTextLater
import Derived.SevenTiedAt
import Derived.LaidSub
import Derived.LaidOnce
namespace Go.Proofs.YtmcopoonnhcdjaaDoor
open Go
set_option maxRecDepth 100000
theorem seatTie1 : Tryd.prog.laidByTextLater [("loop.example/g00701/impl.amounts", Rows.laid_loop_example_g00701_impl_amounts), ("loop.example/g00701/impl.editRows", Rows.laid_loop_example_g00701_impl_editRows)] [.data, .data] true :=
  Program.laidByTextLater_by_one 30 8 41 (by kernel_rfl) (by kernel_rfl) (by kernel_rfl) (by kernel_rfl) (by kernel_rfl) (by kernel_rfl) (fun _ _ => by kernel_rfl)
theorem noOwnUnsafe : Tryd.pinned.checked.prog.headLifts.contains "ownunsafe" = false := by kernel_rfl
theorem tie : Tryd.prog.laidByTextLater [("loop.example/g00701/impl.amounts", Rows.laid_loop_example_g00701_impl_amounts)] [.data] true :=
  Program.laidByTextLater.sub seatTie1 ["loop.example/g00701/impl.amounts"] (by kernel_rfl) (by kernel_rfl)
theorem fnExactCheckNode_row_tie : Rows.fnExactCheckNodeRow.laidByTextAt .later Tryd.pinned [.data] true :=
  OpenClaim.laidByTextAt_later rfl rfl tie noOwnUnsafe
theorem fnExactCheckDoc_row_tie : Rows.fnExactCheckDocRow.laidByTextAt .later Tryd.pinned [.data] true :=
  OpenClaim.laidByTextAt_later rfl rfl tie noOwnUnsafe
theorem fnExactMayInsert_row_tie : Rows.fnExactMayInsertRow.laidByTextAt .later Tryd.pinned [.data] true :=
  OpenClaim.laidByTextAt_later rfl rfl tie noOwnUnsafe
theorem fnExactSchemaLines_row_tie : Rows.fnExactSchemaLinesRow.laidByTextAt .later Tryd.pinned [.data] true :=
  OpenClaim.laidByTextAt_later rfl rfl tie noOwnUnsafe
theorem tie2 : Tryd.prog.laidByTextLater [("loop.example/g00701/impl.editRows", Rows.laid_loop_example_g00701_impl_editRows)] [.data] true :=
  Program.laidByTextLater.sub seatTie1 ["loop.example/g00701/impl.editRows"] (by kernel_rfl) (by kernel_rfl)
theorem fnExactEditOK_row_tie : Rows.fnExactEditOKRow.laidByTextAt .later Tryd.pinned [.data] true :=
  OpenClaim.laidByTextAt_later rfl rfl tie2 noOwnUnsafe
theorem fnExactCheckNodeUpto_row_tie : Rows.fnExactCheckNodeUptoRow.laidByTextAt .later Tryd.pinned [.data] true :=
  OpenClaim.laidByTextAt_later rfl rfl tie noOwnUnsafe
theorem fnExactCheckDocUpto_row_tie : Rows.fnExactCheckDocUptoRow.laidByTextAt .later Tryd.pinned [.data] true :=
  OpenClaim.laidByTextAt_later rfl rfl tie noOwnUnsafe
theorem fnExactMayInsertUpto_row_tie : Rows.fnExactMayInsertUptoRow.laidByTextAt .later Tryd.pinned [.data] true :=
  OpenClaim.laidByTextAt_later rfl rfl tie noOwnUnsafe
theorem fnExactEditOKUpto_row_tie : Rows.fnExactEditOKUptoRow.laidByTextAt .later Tryd.pinned [.data] true :=
  OpenClaim.laidByTextAt_later rfl rfl tie2 noOwnUnsafe
theorem fnExactSchemaLinesUpto_row_tie : Rows.fnExactSchemaLinesUptoRow.laidByTextAt .later Tryd.pinned [.data] true :=
  OpenClaim.laidByTextAt_later rfl rfl tie noOwnUnsafe
end Go.Proofs.YtmcopoonnhcdjaaDoor
