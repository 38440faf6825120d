/-
  What the row's list gives of the table of powers of ten and of the table of the forms of edits.
-/
import Derived.Test.YtpkblnponeonkaaDoorEditTextLaw
import Derived.Stop.LaidErr
import Derived.Lib.LaidTab
namespace Go.Proofs.YtpkblnponeonkaaDoor
open Go.RowKit

theorem powAt_of_laid {W : World} {rest : List (String × DataW Unit)} (h : laidMet Tryd.prog (("internal/strconv.uint64pow10", Rows.laid_internal_strconv_uint64pow10) :: rest) W) : PowAt W :=
  Lib.tabIs_of_head (g := 5) (t := 203) (e := 167) (n := 20) (by kernel_rfl) (by kernel_rfl) Tryd.underlying203 Tryd.underlying167 (by kernel_rfl) (by kernel_rfl) h
end Go.Proofs.YtpkblnponeonkaaDoor
