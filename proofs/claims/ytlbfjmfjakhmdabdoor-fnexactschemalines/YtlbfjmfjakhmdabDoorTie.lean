/-
  DERIVED. GIVEN WITH THE SEED: THE PROGRAM's TIES (one call each: nine closed facts by the kernel) AND EACH ROW's TIE, after the 31st guide's Derived/Test/Toyas{Tie, Card}.lean. No idea stands in it: it is a product of the set-up. Laid BY PROGRAM, IN A SANDBOX (cutbox-door.mjs). By AI agents, Wed Nov 11 2026. No macro, syntax, notation, axiom, sorry.
-/
import Derived.Test.YtlbfjmfjakhmdabDoorRows
import Derived.LaidByTextLater
import Derived.SevenTiedAt
import Derived.LaidSub
import Derived.LaidOnce
namespace Go.Proofs.YtlbfjmfjakhmdabDoor
open Go
set_option maxRecDepth 100000
theorem seatTie1 : Tryd.prog.laidByTextLater [("loop.example/g00701/impl.errForm", Rows.laid_loop_example_g00701_impl_errForm), ("loop.example/g00701/impl.errRange", Rows.laid_loop_example_g00701_impl_errRange), ("loop.example/g00701/impl.errSize", Rows.laid_loop_example_g00701_impl_errSize), ("loop.example/g00701/impl.errSum", Rows.laid_loop_example_g00701_impl_errSum), ("loop.example/g00701/impl.amounts", Rows.laid_loop_example_g00701_impl_amounts)] [.sentinel, .sentinel, .sentinel, .sentinel, .data] true :=
  Program.laidByTextLater_by_one 94 8 13 (by kernel_rfl) (by kernel_rfl) (by kernel_rfl) (by kernel_rfl) (by kernel_rfl) (by kernel_rfl) (fun _ _ => by kernel_rfl)
theorem noOwnUnsafe : Tryd.pinned.checked.prog.headLifts.contains "ownunsafe" = false := by kernel_rfl
theorem tie : Tryd.prog.laidByTextLater [("loop.example/g00701/impl.amounts", Rows.laid_loop_example_g00701_impl_amounts)] [.data] true :=
  Program.laidByTextLater.sub seatTie1 ["loop.example/g00701/impl.amounts"] (by kernel_rfl) (by kernel_rfl)
theorem fnExactSchemaLines_row_tie : Rows.fnExactSchemaLinesRow.laidByTextAt .later Tryd.pinned [.data] true :=
  OpenClaim.laidByTextAt_later rfl rfl tie noOwnUnsafe
theorem tie2 : Tryd.prog.laidByTextLater [("loop.example/g00701/impl.errForm", Rows.laid_loop_example_g00701_impl_errForm), ("loop.example/g00701/impl.errRange", Rows.laid_loop_example_g00701_impl_errRange), ("loop.example/g00701/impl.errSize", Rows.laid_loop_example_g00701_impl_errSize), ("loop.example/g00701/impl.errSum", Rows.laid_loop_example_g00701_impl_errSum), ("loop.example/g00701/impl.amounts", Rows.laid_loop_example_g00701_impl_amounts)] [.sentinel, .sentinel, .sentinel, .sentinel, .data] true :=
  Program.laidByTextLater.sub seatTie1 ["loop.example/g00701/impl.errForm", "loop.example/g00701/impl.errRange", "loop.example/g00701/impl.errSize", "loop.example/g00701/impl.errSum", "loop.example/g00701/impl.amounts"] (by kernel_rfl) (by kernel_rfl)
theorem fnExactReadSchema_row_tie : Rows.fnExactReadSchemaRow.laidByTextAt .later Tryd.pinned [.sentinel, .sentinel, .sentinel, .sentinel, .data] true :=
  OpenClaim.laidByTextAt_later rfl rfl tie2 noOwnUnsafe
theorem fnSchema_row_tie : Rows.fnSchemaRow.laidByTextAt .later Tryd.pinned [.sentinel, .sentinel, .sentinel, .sentinel, .data] true :=
  OpenClaim.laidByTextAt_later rfl rfl tie2 noOwnUnsafe
theorem tie3 : Tryd.prog.laidByTextLater [("loop.example/g00701/impl.errForm", Rows.laid_loop_example_g00701_impl_errForm), ("loop.example/g00701/impl.amounts", Rows.laid_loop_example_g00701_impl_amounts)] [.sentinel, .data] true :=
  Program.laidByTextLater.sub seatTie1 ["loop.example/g00701/impl.errForm", "loop.example/g00701/impl.amounts"] (by kernel_rfl) (by kernel_rfl)
theorem fnExactDemoSchema_row_tie : Rows.fnExactDemoSchemaRow.laidByTextAt .later Tryd.pinned [.sentinel, .data] true :=
  OpenClaim.laidByTextAt_later rfl rfl tie3 noOwnUnsafe
theorem fnExactSchemaLinesUpto_row_tie : Rows.fnExactSchemaLinesUptoRow.laidByTextAt .later Tryd.pinned [.data] true :=
  OpenClaim.laidByTextAt_later rfl rfl tie noOwnUnsafe
theorem fnExactReadSchemaUpto_row_tie : Rows.fnExactReadSchemaUptoRow.laidByTextAt .later Tryd.pinned [.sentinel, .sentinel, .sentinel, .sentinel, .data] true :=
  OpenClaim.laidByTextAt_later rfl rfl tie2 noOwnUnsafe
theorem fnExactDemoSchemaUpto_row_tie : Rows.fnExactDemoSchemaUptoRow.laidByTextAt .later Tryd.pinned [.sentinel, .data] true :=
  OpenClaim.laidByTextAt_later rfl rfl tie3 noOwnUnsafe
theorem fnSchemaUpto_row_tie : Rows.fnSchemaUptoRow.laidByTextAt .later Tryd.pinned [.sentinel, .sentinel, .sentinel, .sentinel, .data] true :=
  OpenClaim.laidByTextAt_later rfl rfl tie2 noOwnUnsafe
end Go.Proofs.YtlbfjmfjakhmdabDoor
