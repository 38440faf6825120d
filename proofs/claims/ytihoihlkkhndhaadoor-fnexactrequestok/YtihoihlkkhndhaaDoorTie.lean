/-
  DERIVED. GIVEN WITH THE SEED: THE PROGRAM's TIES (one call each: nine closed facts by the kernel) AND EACH ROW's TIE, after the 31st guide's Derived/Test/Toyas{Tie, Card}.lean. No idea stands in it: it is a product of the set-up. Laid BY PROGRAM, IN A SANDBOX (cutbox-door.mjs). By AI agents, Wed Nov 11 2026. No macro, syntax, notation, axiom, sorry.
-/
import Derived.Test.YtihoihlkkhndhaaDoorRows
import Derived.LaidByTextLater
import Derived.SevenTiedAt
import Derived.LaidSub
import Derived.LaidOnce
namespace Go.Proofs.YtihoihlkkhndhaaDoor
open Go
set_option maxRecDepth 100000
theorem seatTie1 : Tryd.prog.laidByTextLater [("loop.example/g00701/impl.editForms", Rows.laid_loop_example_g00701_impl_editForms), ("loop.example/g00701/impl.requestForms", Rows.laid_loop_example_g00701_impl_requestForms)] [.data, .data] true :=
  Program.laidByTextLater_by_one 39 8 61 (by kernel_rfl) (by kernel_rfl) (by kernel_rfl) (by kernel_rfl) (by kernel_rfl) (by kernel_rfl) (fun _ _ => by kernel_rfl)
theorem noOwnUnsafe : Tryd.pinned.checked.prog.headLifts.contains "ownunsafe" = false := by kernel_rfl
theorem tie : Tryd.prog.laidByTextLater [("loop.example/g00701/impl.editForms", Rows.laid_loop_example_g00701_impl_editForms), ("loop.example/g00701/impl.requestForms", Rows.laid_loop_example_g00701_impl_requestForms)] [.data, .data] true :=
  Program.laidByTextLater.sub seatTie1 ["loop.example/g00701/impl.editForms", "loop.example/g00701/impl.requestForms"] (by kernel_rfl) (by kernel_rfl)
theorem fnExactRequestOK_row_tie : Rows.fnExactRequestOKRow.laidByTextAt .later Tryd.pinned [.data, .data] true :=
  OpenClaim.laidByTextAt_later rfl rfl tie noOwnUnsafe
theorem fnExactRequestOKUpto_row_tie : Rows.fnExactRequestOKUptoRow.laidByTextAt .later Tryd.pinned [.data, .data] true :=
  OpenClaim.laidByTextAt_later rfl rfl tie noOwnUnsafe
end Go.Proofs.YtihoihlkkhndhaaDoor
