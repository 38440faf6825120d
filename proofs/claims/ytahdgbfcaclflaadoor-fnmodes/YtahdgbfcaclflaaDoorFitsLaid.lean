/-
  What a row's list of both tables gives.
-/
import Derived.Test.YtahdgbfcaclflaaDoorFitsAt
import Derived.Test.YtahdgbfcaclflaaDoorIntentsAt
import Derived.Stop.LaidErr
namespace Go.Proofs.YtahdgbfcaclflaaDoor
open Go.RowKit

theorem both_of_laid {W : World} {rest : List (String × DataW Unit)} (h : laidMet Tryd.prog (("loop.example/g00701/impl.fits", Rows.laid_loop_example_g00701_impl_fits) :: ("loop.example/g00701/impl.intents", Rows.laid_loop_example_g00701_impl_intents) :: rest) W) : FitsAt W ∧ IntentsAt W :=
  ⟨fitsAt_of_laid h, intentsAt_of_laid (laidMet.tail h)⟩
end Go.Proofs.YtahdgbfcaclflaaDoor
