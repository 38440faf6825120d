/-
  What the program's HoldsOK answers.
-/
import Derived.Test.YtfjhpfgffbghdaaLocksOf
namespace Go.Proofs.Ytfjhpfgffbghdaa
open Go.RowKit

set_option maxHeartbeats 1000000 in
theorem implHoldsOK_any (n₀ : Nat) (d : PDoc) (s v : Value) (L : List PHold) (w : World) (hN : NodesAt n₀ w s d.nodes) (hV : HoldsAt n₀ w v L) (hn : n₀ ≤ w.heap.size) (hl : d.nodes.length ≤ 1048576) (hwf : WfDoc d) (hL : L.length ≤ 1048576) (r : Bool) (hr : r = true ↔ LocksP d L) :
    Calls Try.prog 13 #[.agg #[.int .i64 d.root, .int .i64 d.next, s], v] w fun e w' => e = .returned (.bool r) ∧ Below w.heap.size w w' := by
  have HR := hide hr
  have hW := (Below.refl w.heap.size w).alloc (Nat.le_refl _) (.cells #[.int .i64 d.root, .int .i64 d.next, s] 31)
  have HLo := hide (locksOf_any n₀ d s v L _ (hN.below (Nat.le_refl _) (hW.mono hn)) (hV.below (Nat.le_refl _) (hW.mono hn)) (by simp; omega) hl hwf hL)
  obtain ⟨a, cap, rfl⟩ := hV.form
  obtain ⟨sa, sc, rfl, -⟩ := hN
  clear hr hwf hV
  go_enter Try.func13, Try.ntmps13
  go_wp2_with fail
  refine HLo.out.mono ?_
  rintro e w1 (⟨c, rfl, hc, hc1, hb1⟩ | ⟨lb, tb, ad, up, kv, rfl, hok, hgr, hlk, hb1⟩)
  · have HF : Hid (r = false) := no_of HR.out fun h => hc.out.1 (hc.out.2.trans (heldAsk_ok h))
    have hc2 : (c == 0) = false := by simpa using hc1
    simp only [World.size_alloc] at hb1
    clear hc1
    go_wp2_with fail
    go_ret
    exact ⟨ret_bool HF.out.symm, hW.trans (hb1.mono (by omega))⟩
  · have HF : Hid (r = true) := HR.out.2 hok.out
    simp only [World.size_alloc] at hb1
    clear hgr hlk
    go_wp2_with fail
    go_ret
    exact ⟨ret_bool HF.out.symm, hW.trans (hb1.mono (by omega))⟩
end Go.Proofs.Ytfjhpfgffbghdaa
