/-
  DERIVED. GIVEN WITH THE SEED: THE PROGRAM's TIES (one call each: nine closed facts by the kernel) AND EACH ROW's TIE, after the 31st guide's Derived/Test/Toyas{Tie, Card}.lean. No idea stands in it: it is a product of the set-up. Laid BY PROGRAM, IN A SANDBOX (cutbox-door.mjs). By AI agents, Wed Nov 11 2026. No macro, syntax, notation, axiom, sorry.
-/
import Derived.Test.YtpkblnponeonkaaDoorRows
import Derived.LaidByTextLater
import Derived.SevenTiedAt
import Derived.LaidSub
import Derived.LaidOnce
namespace Go.Proofs.YtpkblnponeonkaaDoor
open Go
set_option maxRecDepth 100000
theorem seatTie1 : Tryd.prog.laidByTextLater [("math/bits.deBruijn32tab", Rows.laid_math_bits_deBruijn32tab), ("math/bits.deBruijn64tab", Rows.laid_math_bits_deBruijn64tab), ("internal/strconv.uint64pow10", Rows.laid_internal_strconv_uint64pow10), ("strconv.ErrRange", Rows.laid_strconv_ErrRange), ("strconv.ErrSyntax", Rows.laid_strconv_ErrSyntax), ("loop.example/g00701/impl.errForm", Rows.laid_loop_example_g00701_impl_errForm), ("loop.example/g00701/impl.errRange", Rows.laid_loop_example_g00701_impl_errRange), ("loop.example/g00701/impl.errSize", Rows.laid_loop_example_g00701_impl_errSize), ("loop.example/g00701/impl.errSum", Rows.laid_loop_example_g00701_impl_errSum), ("loop.example/g00701/impl.amounts", Rows.laid_loop_example_g00701_impl_amounts), ("loop.example/g00701/impl.editForms", Rows.laid_loop_example_g00701_impl_editForms)] [.data, .data, .data, .sentinel, .sentinel, .sentinel, .sentinel, .sentinel, .sentinel, .data, .data] true :=
  Program.laidByTextLater_by_one 161 8 65 (by kernel_rfl) (by kernel_rfl) (by kernel_rfl) (by kernel_rfl) (by kernel_rfl) (by kernel_rfl) (fun _ _ => by kernel_rfl)
theorem noOwnUnsafe : Tryd.pinned.checked.prog.headLifts.contains "ownunsafe" = false := by kernel_rfl
theorem tie : Tryd.prog.laidByTextLater [("loop.example/g00701/impl.editForms", Rows.laid_loop_example_g00701_impl_editForms)] [.data] true :=
  Program.laidByTextLater.sub seatTie1 ["loop.example/g00701/impl.editForms"] (by kernel_rfl) (by kernel_rfl)
theorem fnExactEditOK_row_tie : Rows.fnExactEditOKRow.laidByTextAt .later Tryd.pinned [.data] true :=
  OpenClaim.laidByTextAt_later rfl rfl tie noOwnUnsafe
theorem tie2 : Tryd.prog.laidByTextLater [("math/bits.deBruijn32tab", Rows.laid_math_bits_deBruijn32tab), ("math/bits.deBruijn64tab", Rows.laid_math_bits_deBruijn64tab), ("internal/strconv.uint64pow10", Rows.laid_internal_strconv_uint64pow10), ("loop.example/g00701/impl.editForms", Rows.laid_loop_example_g00701_impl_editForms)] [.data, .data, .data, .data] true :=
  Program.laidByTextLater.sub seatTie1 ["math/bits.deBruijn32tab", "math/bits.deBruijn64tab", "internal/strconv.uint64pow10", "loop.example/g00701/impl.editForms"] (by kernel_rfl) (by kernel_rfl)
theorem fnExactEditText_row_tie : Rows.fnExactEditTextRow.laidByTextAt .later Tryd.pinned [.data, .data, .data, .data] true :=
  OpenClaim.laidByTextAt_later rfl rfl tie2 noOwnUnsafe
theorem tie3 : Tryd.prog.laidByTextLater [("math/bits.deBruijn32tab", Rows.laid_math_bits_deBruijn32tab), ("math/bits.deBruijn64tab", Rows.laid_math_bits_deBruijn64tab), ("internal/strconv.uint64pow10", Rows.laid_internal_strconv_uint64pow10), ("strconv.ErrRange", Rows.laid_strconv_ErrRange), ("strconv.ErrSyntax", Rows.laid_strconv_ErrSyntax), ("loop.example/g00701/impl.errForm", Rows.laid_loop_example_g00701_impl_errForm), ("loop.example/g00701/impl.errRange", Rows.laid_loop_example_g00701_impl_errRange), ("loop.example/g00701/impl.errSize", Rows.laid_loop_example_g00701_impl_errSize), ("loop.example/g00701/impl.errSum", Rows.laid_loop_example_g00701_impl_errSum), ("loop.example/g00701/impl.editForms", Rows.laid_loop_example_g00701_impl_editForms)] [.data, .data, .data, .sentinel, .sentinel, .sentinel, .sentinel, .sentinel, .sentinel, .data] true :=
  Program.laidByTextLater.sub seatTie1 ["math/bits.deBruijn32tab", "math/bits.deBruijn64tab", "internal/strconv.uint64pow10", "strconv.ErrRange", "strconv.ErrSyntax", "loop.example/g00701/impl.errForm", "loop.example/g00701/impl.errRange", "loop.example/g00701/impl.errSize", "loop.example/g00701/impl.errSum", "loop.example/g00701/impl.editForms"] (by kernel_rfl) (by kernel_rfl)
theorem fnExactReadEdit_row_tie : Rows.fnExactReadEditRow.laidByTextAt .later Tryd.pinned [.data, .data, .data, .sentinel, .sentinel, .sentinel, .sentinel, .sentinel, .sentinel, .data] true :=
  OpenClaim.laidByTextAt_later rfl rfl tie3 noOwnUnsafe
theorem tie4 : Tryd.prog.laidByTextLater [("loop.example/g00701/impl.amounts", Rows.laid_loop_example_g00701_impl_amounts)] [.data] true :=
  Program.laidByTextLater.sub seatTie1 ["loop.example/g00701/impl.amounts"] (by kernel_rfl) (by kernel_rfl)
theorem fnExactMayInsert_row_tie : Rows.fnExactMayInsertRow.laidByTextAt .later Tryd.pinned [.data] true :=
  OpenClaim.laidByTextAt_later rfl rfl tie4 noOwnUnsafe
theorem fnExactEditOKUpto_row_tie : Rows.fnExactEditOKUptoRow.laidByTextAt .later Tryd.pinned [.data] true :=
  OpenClaim.laidByTextAt_later rfl rfl tie noOwnUnsafe
theorem fnExactEditTextUpto_row_tie : Rows.fnExactEditTextUptoRow.laidByTextAt .later Tryd.pinned [.data, .data, .data, .data] true :=
  OpenClaim.laidByTextAt_later rfl rfl tie2 noOwnUnsafe
theorem fnExactReadEditUpto_row_tie : Rows.fnExactReadEditUptoRow.laidByTextAt .later Tryd.pinned [.data, .data, .data, .sentinel, .sentinel, .sentinel, .sentinel, .sentinel, .sentinel, .data] true :=
  OpenClaim.laidByTextAt_later rfl rfl tie3 noOwnUnsafe
theorem fnExactMayInsertUpto_row_tie : Rows.fnExactMayInsertUptoRow.laidByTextAt .later Tryd.pinned [.data] true :=
  OpenClaim.laidByTextAt_later rfl rfl tie4 noOwnUnsafe
end Go.Proofs.YtpkblnponeonkaaDoor
