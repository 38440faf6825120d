/-
  Peaceful: what the specification and the program answer.
-/
import Derived.Test.YtfjhpfgffbghdaaDoorSpecPeaceJ
import Derived.Test.YtfjhpfgffbghdaaDoorPeaceImplJ
import Derived.Test.YtfjhpfgffbghdaaDoorLocksOfJ
namespace Go.Proofs.YtfjhpfgffbghdaaDoor
open Go.RowKit

set_option maxHeartbeats 1000000 in
theorem specPeaceful_any (n₀ : Nat) (d : PDoc) (s v : Value) (L : List PHold) (w : World) (hN : NodesAt n₀ w s d.nodes) (hV : HoldsAt n₀ w v L) (hn : n₀ ≤ w.heap.size) (hl : d.nodes.length ≤ 1048576) (hkl : ∀ x ∈ d.nodes, x.kids.length ≤ 1048576) (hL : L.length ≤ 1048576) (r : Bool) (c : Int) (hr : r = peaceAns d L) (hc : c = heldAsk d L) :
    Calls Tryd.prog 17 #[.agg #[.int .i64 d.root, .int .i64 d.next, s], v] w fun e w' => e = .returned (.tuple #[.bool r, .int .i64 c]) ∧ Below w.heap.size w w' := by
  have HR := hide hr
  have HC := hide hc
  have hW := (Below.refl w.heap.size w).alloc (Nat.le_refl _) (.cells #[.int .i64 d.root, .int .i64 d.next, s] 32)
  obtain ⟨q, hq⟩ : ∃ q : Bool, q = true ↔ LocksP d L := ⟨dec _, dec_iff _⟩
  have HS := hide (specHoldsOK_any n₀ d s v L (w.alloc (.cells #[.int .i64 d.root, .int .i64 d.next, s] 32)) (hN.below (Nat.le_refl _) (hW.mono hn)) (hV.below (Nat.le_refl _) (hW.mono hn)) (by simp; omega) hl hkl hL q hq)
  have HPe : Hid (LocksP d L → ∀ wx, Below w.heap.size w wx → Calls Tryd.prog 38 #[.agg #[.int .i64 d.root, .int .i64 d.next, s], v] wx fun e w' => e = .returned (.bool r) ∧ Below wx.heap.size wx w') := fun h wx hb =>
    specPeace_any n₀ d s v L wx (hN.below (Nat.le_refl _) (hb.mono hn)) (hV.below (Nat.le_refl _) (hb.mono hn)) (by have := hb.size; omega) hl hkl h.good h.holds r (by rw [hr]; exact peaceAns_ok (heldAsk_ok h))
  have HQ := hide hq
  obtain ⟨a, cap, rfl⟩ := hV.form
  obtain ⟨sa, sc, rfl, -⟩ := hN
  clear hr hc hq hkl hV
  by_cases hlong : (4096 : Int) < (L.length : Int)
  · have h1 : heldAsk d L = 2 := heldAsk_long (by omega)
    have HE : Hid (c = 2 ∧ r = false) := ⟨HC.out.trans h1, by rw [HR.out]; exact peaceAns_no (by rw [h1]; decide)⟩
    go_enter Tryd.func17, Tryd.ntmps17
    go_wp2_with fail
    go_ret2
    exact ⟨by rw [HE.out.1, HE.out.2]; rfl, hW⟩
  · cases q
    · have h1 : heldAsk d L = 1 := heldAsk_bad (by omega) (fun h => by have := HQ.out.2 h; cases this)
      have HE : Hid (c = 1 ∧ r = false) := ⟨HC.out.trans h1, by rw [HR.out]; exact peaceAns_no (by rw [h1]; decide)⟩
      go_enter Tryd.func17, Tryd.ntmps17
      go_wp2_with fail
      refine HS.out.mono ?_
      rintro e w1 ⟨rfl, hb1⟩
      simp only [World.size_alloc] at hb1
      go_wp2_with fail
      go_ret2
      exact ⟨by rw [HE.out.1, HE.out.2]; rfl, hW.trans (hb1.mono (by omega))⟩
    · have HE : Hid (c = 0) := HC.out.trans (heldAsk_ok (HQ.out.1 rfl))
      have HP2 := hide (HPe.out (HQ.out.1 rfl))
      go_enter Tryd.func17, Tryd.ntmps17
      go_wp2_with fail
      refine HS.out.mono ?_
      rintro e w1 ⟨rfl, hb1⟩
      simp only [World.size_alloc] at hb1
      have hs1 := hb1.size
      simp only [World.size_alloc] at hs1
      obtain ⟨x0, x1, x2⟩ := box_doc' hb1
      have hw1 := hW.trans (hb1.mono (by omega))
      have hz : w.heap.size < w1.heap.size := by omega
      have HP3 := hide (HP2.out w1 hw1)
      go_wp2_with (go_at_call 38; refine HP3.out.mono ?_; rintro e w2 ⟨rfl, hb2⟩)
      go_ret2
      exact ⟨by rw [HE.out]; rfl, hw1.trans (hb2.mono (by omega))⟩

set_option maxHeartbeats 1000000 in
theorem implPeaceful_any (n₀ : Nat) (d : PDoc) (s v : Value) (L : List PHold) (w : World) (hN : NodesAt n₀ w s d.nodes) (hV : HoldsAt n₀ w v L) (hn : n₀ ≤ w.heap.size) (hl : d.nodes.length ≤ 1048576) (hwf : WfDoc d) (hL : L.length ≤ 1048576) (hF : FitsAt w) (hI : IntentsAt w) (r : Bool) (c : Int) (hr : r = peaceAns d L) (hc : c = heldAsk d L) :
    Calls Tryd.prog 18 #[.agg #[.int .i64 d.root, .int .i64 d.next, s], v] w fun e w' => e = .returned (.tuple #[.bool r, .int .i64 c]) ∧ Below w.heap.size w w' := by
  have HR := hide hr
  have HC := hide hc
  have HI := hide hI
  have HF := hide hF
  have hW := (Below.refl w.heap.size w).alloc (Nat.le_refl _) (.cells #[.int .i64 d.root, .int .i64 d.next, s] 32)
  have HLo := hide (locksOf_any n₀ d s v L _ (hN.below (Nat.le_refl _) (hW.mono hn)) (hV.below (Nat.le_refl _) (hW.mono hn)) (by simp; omega) hl hwf hL)
  obtain ⟨a, cap, rfl⟩ := hV.form
  obtain ⟨sa, sc, rfl, -⟩ := hN
  clear hr hc hV hwf hI hF
  go_enter Tryd.func18, Tryd.ntmps18
  go_wp2_with fail
  refine HLo.out.mono ?_
  rintro e w1 (⟨c2, rfl, hc, hc1, hb1⟩ | ⟨lb, tb, ad, up, kv, rfl, hok, hgr, hlk, hb1⟩)
  · have HE : Hid (c = c2 ∧ r = false) := ⟨HC.out.trans hc.out.2.symm, by rw [HR.out]; exact peaceAns_no (by rw [← hc.out.2]; exact hc.out.1)⟩
    simp only [World.size_alloc] at hb1
    go_wp2_with fail
    go_ret2
    exact ⟨by rw [HE.out.1, HE.out.2]; rfl, hW.trans (hb1.mono (by omega))⟩
  · simp only [World.size_alloc] at hb1
    have hs1 := hb1.size
    simp only [World.size_alloc] at hs1
    have hw1 := hW.trans (hb1.mono (by omega))
    have HE : Hid (c = 0) := HC.out.trans (heldAsk_ok hok.out)
    have HPe := hide (peaceful_any d hok.out.good _ _ lb tb ad up kv L hok.out.holds w1 hgr.out hlk.at (Nat.le_refl _) (HF.out.below hw1 HF.out.lt) (HI.out.below hw1 HI.out.lt) r (by rw [HR.out]; exact peaceAns_ok (heldAsk_ok hok.out)))
    clear hgr hlk
    go_wp2_with (go_at_call 40; refine HPe.out.mono ?_; rintro e w2 ⟨rfl, hb2⟩)
    go_ret2
    exact ⟨by rw [HE.out]; rfl, hw1.trans (hb2.mono (by omega))⟩
end Go.Proofs.YtfjhpfgffbghdaaDoor
