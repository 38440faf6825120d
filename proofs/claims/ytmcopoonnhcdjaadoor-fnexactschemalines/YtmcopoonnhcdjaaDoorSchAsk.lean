/-
  What is asked of a schema ahead of all else, plainly.
-/
import Derived.Test.YtmcopoonnhcdjaaDoorSchOK
namespace Go.Proofs.YtmcopoonnhcdjaaDoor
open Go.RowKit

noncomputable def schAsk (R : List PRule) : Int := by
  classical exact if 4096 < R.length then 2 else if SchemaP R then 0 else 1
theorem schAsk_long {R : List PRule} (h : 4096 < R.length) : schAsk R = 2 := by unfold schAsk; rw [if_pos h]
theorem schAsk_ok {R : List PRule} (h : SchemaP R) : schAsk R = 0 := by unfold schAsk; rw [if_neg (by have := h.few; omega), if_pos h]
theorem schAsk_bad {R : List PRule} (h : ¬ 4096 < R.length) (h1 : ¬ SchemaP R) : schAsk R = 1 := by unfold schAsk; rw [if_neg h, if_neg h1]
theorem schAsk_zero {R : List PRule} (h : schAsk R = 0) : SchemaP R := by
  unfold schAsk at h
  split at h
  · exact absurd h (by decide)
  · split at h
    · assumption
    · exact absurd h (by decide)
end Go.Proofs.YtmcopoonnhcdjaaDoor
