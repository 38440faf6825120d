/-
  The law FnExactSumOf's own text answers true at every text: SumOf answers as the specification's. No conditions but that the text is no longer than the model's greatest length.
-/
import Derived.Test.YtgpnkjapgfkblaaDoorSumWalks
namespace Go.Proofs.YtgpnkjapgfkblaaDoor
open Go.RowKit

/-- What SumOf answers: 0 of more than 65536 bytes. -/
def sumAns (s : ByteArray) : Int := if s.size ≤ 65536 then sumL s.data.toList else 0

theorem implSumOf_any (s : ByteArray) (w : World) (hs : s.size ≤ maxLen) :
    Calls Tryd.prog 18 #[.string s] w fun e w' => e = .returned (.int .i64 (sumAns s)) ∧ w' = w := by
  have hs' := hs
  unfold maxLen at hs'
  by_cases h : s.size ≤ 65536
  · have HA : Hid (sumAns s = sumL s.data.toList) := if_pos h
    go_enter Tryd.func18, Tryd.ntmps18
    go_wp2_with (go_at_call 37; refine (sumOf_any s _ hs).mono ?_; rintro e w' ⟨rfl, rfl⟩)
    go_ret
    exact ⟨by rw [HA.out]; rfl, rfl⟩
  · have HA : Hid (sumAns s = 0) := if_neg h
    go_enter Tryd.func18, Tryd.ntmps18
    go_wp2
    go_ret
    exact ⟨by rw [HA.out]; rfl, rfl⟩

theorem specSumOf_any (s : ByteArray) (w : World) (hs : s.size ≤ maxLen) :
    Calls Tryd.prog 19 #[.string s] w fun e w' => e = .returned (.int .i64 (sumAns s)) ∧ w' = w := by
  have hs' := hs
  unfold maxLen at hs'
  by_cases h : s.size ≤ 65536
  · have HA : Hid (sumAns s = sumL s.data.toList) := if_pos h
    go_enter Tryd.func19, Tryd.ntmps19
    go_wp2_with (go_at_call 38; refine (specSum_any s _ hs).mono ?_; rintro e w' ⟨rfl, rfl⟩)
    go_ret
    exact ⟨by rw [HA.out]; rfl, rfl⟩
  · have HA : Hid (sumAns s = 0) := if_neg h
    go_enter Tryd.func19, Tryd.ntmps19
    go_wp2
    go_ret
    exact ⟨by rw [HA.out]; rfl, rfl⟩
end Go.Proofs.YtgpnkjapgfkblaaDoor
