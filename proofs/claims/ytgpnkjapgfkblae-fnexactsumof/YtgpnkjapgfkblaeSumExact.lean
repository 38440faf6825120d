/-
  The law FnExactSumOf's own text answers true at every text. No conditions but that the text is no longer than the model's greatest length.
-/
import Derived.Test.YtgpnkjapgfkblaeSumLaw
namespace Go.Proofs.Ytgpnkjapgfkblae
open Go.RowKit

theorem sumLaw_any (s : ByteArray) (w : World) (hs : s.size ≤ maxLen) :
    Calls Try.prog 4 #[.string s] w fun e w' => e = .returned (.bool true) ∧ w' = w := by
  have hs' := hs
  unfold maxLen at hs'
  by_cases hlt : 1048576 < s.size
  · go_enter Try.func4, Try.ntmps4
    go_wp2
    go_ret
    exact ⟨rfl, rfl⟩
  · go_enter Try.func4, Try.ntmps4
    go_wp2_with (first | (go_at_call 7; refine (specSumOf_any s _ hs).mono ?_; rintro e w' ⟨rfl, rfl⟩) | (go_at_call 8; refine (implSumOf_any s _ hs).mono ?_; rintro e w' ⟨rfl, rfl⟩))
    go_ret
    exact ⟨rfl, rfl⟩
end Go.Proofs.Ytgpnkjapgfkblae
