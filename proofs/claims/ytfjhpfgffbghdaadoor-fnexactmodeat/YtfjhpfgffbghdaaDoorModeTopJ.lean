/-
  ModeAt: what the specification and the program answer.
-/
import Derived.Test.YtfjhpfgffbghdaaDoorSpecModeJ
import Derived.Test.YtfjhpfgffbghdaaDoorNeedsImplJ
import Derived.Test.YtfjhpfgffbghdaaDoorJoinC
import Derived.Test.YtfjhpfgffbghdaaDoorLocksAtImplJ
namespace Go.Proofs.YtfjhpfgffbghdaaDoor
open Go.RowKit

noncomputable def modeAns (d : PDoc) (L : List PHold) (s i : Int) : Int := if lockAsk d L s i = 0 then modeAtP d L s i else 0
theorem modeAns_no {d : PDoc} {L : List PHold} {s i : Int} (h : lockAsk d L s i ≠ 0) : modeAns d L s i = 0 := by unfold modeAns; rw [if_neg h]
theorem modeAns_ok {d : PDoc} {L : List PHold} {s i : Int} (h : lockAsk d L s i = 0) : modeAns d L s i = modeAtP d L s i := by unfold modeAns; rw [if_pos h]

set_option maxHeartbeats 1000000 in
theorem specModeAt_any (n₀ : Nat) (d : PDoc) (s v : Value) (L : List PHold) (ss id : Int) (w : World) (hN : NodesAt n₀ w s d.nodes) (hV : HoldsAt n₀ w v L) (hn : n₀ ≤ w.heap.size) (hl : d.nodes.length ≤ 1048576) (hkl : ∀ x ∈ d.nodes, x.kids.length ≤ 1048576) (hL : L.length ≤ 1048576) (m c : Int) (hm : m = modeAns d L ss id) (hc : c = lockAsk d L ss id) :
    Calls Tryd.prog 9 #[.agg #[.int .i64 d.root, .int .i64 d.next, s], v, .int .i64 ss, .int .i64 id] w fun e w' => e = .returned (.tuple #[.int .i64 m, .int .i64 c]) ∧ Below w.heap.size w w' := by
  have HM := hide hm
  have HC := hide hc
  have hW := (Below.refl w.heap.size w).alloc (Nat.le_refl _) (.cells #[.int .i64 d.root, .int .i64 d.next, s] 32)
  have HA := hide (specLockAsk_any n₀ d s v L ss id _ (hN.below (Nat.le_refl _) (hW.mono hn)) (hV.below (Nat.le_refl _) (hW.mono hn)) (by simp; omega) hl hkl hL c hc)
  have HMo : Hid (c = 0 → ∀ wx, Below w.heap.size w wx → Calls Tryd.prog 29 #[.agg #[.int .i64 d.root, .int .i64 d.next, s], v, .int .i64 ss, .int .i64 id] wx fun e w' => e = .returned (.int .i64 m) ∧ Below wx.heap.size wx w') := fun h wx hb => by
    have hk := lockAsk_zero (hc.symm.trans h)
    rw [hm, modeAns_ok (hc.symm.trans h)]
    exact specAt07_any n₀ d s v L ss id wx (hN.below (Nat.le_refl _) (hb.mono hn)) (hV.below (Nat.le_refl _) (hb.mono hn)) (by have := hb.size; omega) hl hkl hk.1.good hk.1.holds
  obtain ⟨a, cap, rfl⟩ := hV.form
  obtain ⟨sa, sc, rfl, -⟩ := hN
  clear hm hc hV hkl
  by_cases hlong : (4096 : Int) < (L.length : Int)
  · have HE : Hid (c = 2 ∧ m = 0) := by
      have h1 : lockAsk d L ss id = 2 := (lockAsk_bad (by rw [heldAsk_long (by omega)]; decide)).trans (heldAsk_long (by omega))
      exact ⟨HC.out.trans h1, by rw [HM.out]; exact modeAns_no (by rw [h1]; decide)⟩
    go_enter Tryd.func9, Tryd.ntmps9
    go_wp2_with fail
    go_ret2
    exact ⟨by rw [HE.out.1, HE.out.2]; rfl, hW⟩
  · by_cases h0 : c = 0
    · have HMo2 := hide (HMo.out h0)
      subst h0
      go_enter Tryd.func9, Tryd.ntmps9
      go_wp2_with fail
      refine HA.out.mono ?_
      rintro e w1 ⟨rfl, hb1⟩
      simp only [World.size_alloc] at hb1
      have hs1 := hb1.size
      simp only [World.size_alloc] at hs1
      obtain ⟨x0, x1, x2⟩ := box_doc' hb1
      have hw1 := hW.trans (hb1.mono (by omega))
      have hz : w.heap.size < w1.heap.size := by omega
      have HMo3 := hide (HMo2.out w1 hw1)
      go_wp2_with (go_at_call 29; refine HMo3.out.mono ?_; rintro e w2 ⟨rfl, hb2⟩)
      go_ret2
      exact ⟨rfl, hw1.trans (hb2.mono (by omega))⟩
    · have h1 : (c != 0) = true := by simp [h0]
      have HE : Hid (m = 0) := by rw [Hid, HM.out]; exact modeAns_no (by rw [← HC.out]; exact h0)
      clear h0 HMo
      go_enter Tryd.func9, Tryd.ntmps9
      go_wp2_with fail
      refine HA.out.mono ?_
      rintro e w1 ⟨rfl, hb1⟩
      simp only [World.size_alloc] at hb1
      go_wp2_with fail
      go_ret2
      exact ⟨by rw [HE.out]; rfl, hW.trans (hb1.mono (by omega))⟩

set_option maxHeartbeats 1000000 in
theorem implModeAt_any (n₀ : Nat) (d : PDoc) (s v : Value) (L : List PHold) (ss id : Int) (w : World) (hN : NodesAt n₀ w s d.nodes) (hV : HoldsAt n₀ w v L) (hn : n₀ ≤ w.heap.size) (hl : d.nodes.length ≤ 1048576) (hwf : WfDoc d) (hL : L.length ≤ 1048576) (hI : IntentsAt w) (m c : Int) (hm : m = modeAns d L ss id) (hc : c = lockAsk d L ss id) :
    Calls Tryd.prog 12 #[.agg #[.int .i64 d.root, .int .i64 d.next, s], v, .int .i64 ss, .int .i64 id] w fun e w' => e = .returned (.tuple #[.int .i64 m, .int .i64 c]) ∧ Below w.heap.size w w' := by
  have HM := hide hm
  have HC := hide hc
  have HI := hide hI
  have hW := (Below.refl w.heap.size w).alloc (Nat.le_refl _) (.cells #[.int .i64 d.root, .int .i64 d.next, s] 32)
  have HLo := hide (locksAt_any n₀ d s v L ss id _ (hN.below (Nat.le_refl _) (hW.mono hn)) (hV.below (Nat.le_refl _) (hW.mono hn)) (by simp; omega) hl hwf hL)
  obtain ⟨a, cap, rfl⟩ := hV.form
  obtain ⟨sa, sc, rfl, -⟩ := hN
  clear hm hc hV hwf hI
  go_enter Tryd.func12, Tryd.ntmps12
  go_wp2_with fail
  refine HLo.out.mono ?_
  rintro e w1 (⟨p, q, c2, rfl, hc, hc1, hb1⟩ | ⟨lb, tb, ad, up, kv, rfl, hok, hgr, hlk, hb1⟩)
  · have HE : Hid (c = c2 ∧ m = 0) := ⟨HC.out.trans hc.out.2.symm, by rw [HM.out]; exact modeAns_no (by rw [← hc.out.2]; exact hc.out.1)⟩
    simp only [World.size_alloc] at hb1
    go_wp2_with fail
    go_ret2
    exact ⟨by rw [HE.out.1, HE.out.2]; rfl, hW.trans (hb1.mono (by omega))⟩
  · simp only [World.size_alloc] at hb1
    have hk := lockAsk_zero hok.out
    have hs1 := hb1.size
    simp only [World.size_alloc] at hs1
    have hw1 := hW.trans (hb1.mono (by omega))
    have HE : Hid (c = 0 ∧ m = modeAtP d L ss id) := ⟨HC.out.trans hok.out, by rw [HM.out]; exact modeAns_ok hok.out⟩
    have HMo := hide (modeAt_any d hk.1.good _ _ lb tb ad up kv L hk.1.holds ss id hk.2.2 w1 hgr.out hlk.at (Nat.le_refl _) (HI.out.below hw1 HI.out.lt))
    clear hk hgr hlk
    go_wp2_with (go_at_call 32; refine HMo.out.mono ?_; rintro e w2 ⟨rfl, hb2⟩)
    go_ret2
    exact ⟨by rw [HE.out.1, HE.out.2]; rfl, hw1.trans (hb2.mono (by omega))⟩
end Go.Proofs.YtfjhpfgffbghdaaDoor
