/-
  The least number of kids of a term, and whether terms are right: what the specification answers.
-/
import Derived.Test.YtpkblnponeonkaaDoorMatchPlain
import Derived.Test.YtpkblnponeonkaaDoorSchTermImpl
import Derived.Test.YtpkblnponeonkaaDoorBasicHas
namespace Go.Proofs.YtpkblnponeonkaaDoor
open Go.RowKit

set_option maxHeartbeats 400000 in
theorem specLeast_any (m : Int) (w : World) :
    Calls Tryd.prog 80 #[.int .i64 m] w fun e w' => e = .returned (.int .i64 (leastOf m)) ∧ w' = w := by
  by_cases h0 : m = 0
  · subst h0
    go_enter Tryd.func80, Tryd.ntmps80
    go_wp2
    go_ret
    exact ⟨rfl, rfl⟩
  · have h00 : (m == 0) = false := by simpa using h0
    by_cases h3 : m = 3
    · subst h3
      go_enter Tryd.func80, Tryd.ntmps80
      go_wp2
      go_ret
      exact ⟨rfl, rfl⟩
    · have h33 : (m == 3) = false := by simpa using h3
      have HE : Hid ((leastOf m : Int) = 0) := by simp [Hid, leastOf, h0, h3]
      clear h0 h3
      go_enter Tryd.func80, Tryd.ntmps80
      go_wp2
      go_ret
      exact ⟨ret_int HE.out.symm, rfl⟩
end Go.Proofs.YtpkblnponeonkaaDoor
