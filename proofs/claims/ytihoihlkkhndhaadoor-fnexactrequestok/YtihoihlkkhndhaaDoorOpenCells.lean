/-
  How many cells a number and a text have.
-/
import Derived.Test.YtihoihlkkhndhaaDoorProg
import Derived.Test.YtihoihlkkhndhaaDoorRows
import Derived.Deep.Slices
import Derived.Lib.SmallJoins
import Derived.ChangeOld
import Derived.OpenShut
import Derived.ProofKit
namespace Go.Proofs.YtihoihlkkhndhaaDoor
open Go.RowKit

theorem cellsInt : Tryd.prog.cellsOf 3 = 1 := by kernel_rfl
theorem cellsString : Tryd.prog.cellsOf 9 = 1 := by kernel_rfl
end Go.Proofs.YtihoihlkkhndhaaDoor
