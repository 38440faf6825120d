/-
  What is asked of a schema ahead of all else.
-/
import Derived.Test.YtmcopoonnhcdjaaDoorSchAsk
namespace Go.Proofs.YtmcopoonnhcdjaaDoor
open Go.RowKit

set_option maxHeartbeats 1000000 in
theorem askSchema_any (n₀ : Nat) (v : Value) (R : List PRule) (w : World) (h : RulesAt n₀ w v R) (hroom : Roomy v R.length) (hn : n₀ ≤ w.heap.size) (hl : SmallRules R) (c : Int) (hc : c = schAsk R) :
    Calls Tryd.prog 48 #[v] w fun e w' => e = .returned (.int .i64 c) ∧ Below w.heap.size w w' := by
  obtain ⟨r, hr⟩ : ∃ r : Bool, r = true ↔ SchemaP R := ⟨dec _, dec_iff _⟩
  have HS := hide (implSchemaOK_any n₀ v R w h hroom hn hl r hr)
  have hlen := hl.len
  by_cases hlo : 4096 < R.length
  · have HC : Hid (c = 2) := hc.trans (schAsk_long hlo)
    obtain ⟨a, cap, rfl, -⟩ := h
    clear HS hr hc
    go_enter Tryd.func48, Tryd.ntmps48
    go_wp2_with fail
    go_ret
    obtain rfl : c = 2 := HC.out
    exact ⟨rfl, Below.refl _ _⟩
  · have HC : Hid (c = if r = true then 0 else 1) := by
      rw [Hid, hc]
      split
      · exact schAsk_ok (hr.1 (by assumption))
      · exact schAsk_bad hlo (fun h => by have := hr.2 h; contradiction)
    obtain ⟨a, cap, rfl, -⟩ := h
    clear hr hc
    go_enter Tryd.func48, Tryd.ntmps48
    go_wp2_with (go_at_call 75; refine HS.out.mono ?_; rintro e w1 ⟨rfl, hb1⟩)
    all_goals
      go_ret
      refine ⟨?_, hb1⟩
      have := HC.out
      simp_all
end Go.Proofs.YtmcopoonnhcdjaaDoor
