/-
  What a session has on a node, as the specification reckons it.
  What fits and what is needed above: what the specification answers.
-/
import Derived.Test.YtfjhpfgffbghdaaDoorJoinG
import Derived.Test.YtfjhpfgffbghdaaDoorSpecPathInJ
import Derived.Test.YtfjhpfgffbghdaaDoorBasicHasJ
import Derived.Test.YtfjhpfgffbghdaaDoorJoinH
import Derived.Test.YtfjhpfgffbghdaaDoorBasicInJ
namespace Go.Proofs.YtfjhpfgffbghdaaDoor
open Go.RowKit

set_option maxHeartbeats 2000000 in
set_option maxRecDepth 100000 in
theorem specAt07_any (n₀ : Nat) (d : PDoc) (s v : Value) (L : List PHold) (ss id : Int) (w : World) (hN : NodesAt n₀ w s d.nodes) (hV : HoldsAt n₀ w v L) (hn : n₀ ≤ w.heap.size) (hl : d.nodes.length ≤ 1048576) (hkl : ∀ x ∈ d.nodes, x.kids.length ≤ 1048576) (G : Good d) (hL : HoldsP d L) :
    Calls Tryd.prog 29 #[.agg #[.int .i64 d.root, .int .i64 d.next, s], v, .int .i64 ss, .int .i64 id] w fun e w' => e = .returned (.int .i64 (modeAtP d L ss id)) ∧ Below w.heap.size w w' := by
  obtain ⟨W0, hW0⟩ : ∃ W0, W0 = w.alloc (.cells #[.int .i64 d.root, .int .i64 d.next, s] 32) := ⟨_, rfl⟩
  have hw0 : Below w.heap.size w W0 := by rw [hW0]; exact (Below.refl w.heap.size w).alloc (Nat.le_refl _) _
  have hs0 : W0.heap.size = w.heap.size + 1 := by rw [hW0]; simp
  have hh0 : W0.heap[w.heap.size]? = some (.cells #[.int .i64 d.root, .int .i64 d.next, s] 32 (0, 0)) := by rw [hW0]; exact alloc_new w _
  have HOld : Hid (∀ wx, Below (w.heap.size + 1) W0 wx → Below w.heap.size w wx ∧ w.heap.size + 1 ≤ wx.heap.size) := fun wx hb => ⟨hw0.trans (hb.mono (by omega)), by have := hb.size; omega⟩
  have HB : Hid (∀ wx, Below (w.heap.size + 1) W0 wx → wx.cell? ⟨w.heap.size, 0, none⟩ = some (.int .i64 d.root) ∧ wx.cell? ⟨w.heap.size, 1, none⟩ = some (.int .i64 d.next) ∧ wx.cell? ⟨w.heap.size, 2, none⟩ = some s) := fun wx hb => by
    have j1 := (hb.block w.heap.size (by omega)).trans hh0
    exact ⟨cell_of_heap j1 0, cell_of_heap j1 1, cell_of_heap j1 2⟩
  have HPa : Hid (∀ wx k, k ∈ idsOf d.nodes → Below w.heap.size w wx → Calls Tryd.prog 51 #[.agg #[.int .i64 d.root, .int .i64 d.next, s], .int .i64 k] wx fun e w' => ∃ u, e = .returned u ∧ IntsAt w'.heap.size w' u (upsOf d k).reverse ∧ Below wx.heap.size wx w') := fun wx k hk hb => by
    obtain ⟨q, hq⟩ := G.dep hk
    rw [upsOf_eq G hq]
    exact (specPath_any n₀ d G s k q hq wx (hN.below (Nat.le_refl _) (hb.mono hn)) (by have := hb.size; omega) hl hkl).mono fun e w' ⟨u, he, hrow, hb'⟩ => ⟨u, he, ints_of_row hrow, hb'⟩
  have HUl : Hid (∀ k, (upsOf d k).reverse.length ≤ 1048576) := fun k => by rw [upsOf, List.reverse_reverse]; exact pathAns_len d k
  have hl30 := hL.len
  obtain ⟨sa, sc, rfl, -⟩ := hN
  obtain ⟨a, cap, rfl, hk⟩ := hV
  clear hw0 hs0 hh0 hkl
  go_enter Tryd.func29, Tryd.ntmps29
  go_wp2_with fail
  rw [← hW0]
  clear hW0
  go_loopw [9, 10] (fun m idx wr => ∃ k : Nat, k ≤ L.length ∧ m = .int .i64 (joinedOf (partI d id) (L.take k) ss) ∧ idx = .int .i64 k ∧ Below (w.heap.size + 1) W0 wr) (fun _ idx _ => L.length - (intOf idx).toNat)
  case atStart => exact ⟨0, Nat.zero_le _, rfl, rfl, Below.refl _ _⟩
  case round =>
    obtain ⟨k, hkl, rfl, rfl, hbr⟩ := hrel
    obtain ⟨hbw, hsz⟩ := HOld.out _ hbr
    by_cases hlt : k < L.length
    · obtain ⟨b, off, rfl, hb, hc⟩ := hk.resolve_left (by intro e; simp [e] at hlt)
      have hA := (hc k hlt).below hb (hbw.mono hn)
      have g0 := hA.c0
      have g1 := hA.c1
      have g2 := hA.c2
      have hxh := hL.mode _ (at_mem hlt)
      have hlt1 : (k : Int) < (L.length : Int) := by omega
      have hbl : b < wr.heap.size := by omega
      have hM : ModeP (joinedOf (partI d id) (L.take k) ss) := joinedOf_mode (take_mem fun y hy => partI_mode (hL.mode y hy).modeP)
      have HHit := hide (@joinedOf_hit (partI d id) L ss k hlt)
      have HMiss := hide (@joinedOf_miss (partI d id) L ss k hlt)
      generalize L[k]?.getD holdNil = x at *
      obtain ⟨W1, hW1⟩ : ∃ W1, W1 = wr.alloc (.cells #[.int .i64 x.session, .int .i64 x.node, .int .i64 x.mode] 47) := ⟨_, rfl⟩
      have hh1 : W1.heap[wr.heap.size]? = some (.cells #[.int .i64 x.session, .int .i64 x.node, .int .i64 x.mode] 47 (0, 0)) := by rw [hW1]; exact alloc_new wr _
      have hb1 : Below wr.heap.size wr W1 := by rw [hW1]; exact (Below.refl _ _).alloc (Nat.le_refl _) _
      have hb2 : Below (w.heap.size + 1) W0 W1 := hbr.trans (hb1.mono hsz)
      obtain ⟨x0, x1, x2⟩ := HB.out _ hbr
      have hzr : w.heap.size < wr.heap.size := by omega
      have y0 := cell_of_heap hh1 0
      have y1 := cell_of_heap hh1 1
      have y2 := cell_of_heap hh1 2
      simp only [List.getElem?_toArray, List.getElem?_cons_succ, List.getElem?_cons_zero] at y0 y1 y2
      have hz1 : wr.heap.size < W1.heap.size := (Array.getElem?_eq_some_iff.1 hh1).1
      have hz0 : w.heap.size < W1.heap.size := by omega
      clear hc hk hA
      by_cases hss : x.session = ss
      · have HE := hide (HHit.out hss)
        have hse : (x.session != ss) = false := by simp [hss]
        clear hss HHit HMiss
        by_cases hni : x.node = id
        · have HP : Hid (partI d id x = x.mode) := partI_on hni
          have hne : (x.node == id) = true := by simp [hni]
          have hJm : ModeP (joinI (joinedOf (partI d id) (L.take k) ss) x.mode) := joinI_mode hM hxh.modeP
          rw [HP.out] at HE
          clear hni
          generalize joinedOf (partI d id) (L.take k) ss = m0 at *
          go_wp2_with fail
          rw [← hW1]
          clear hW1
          go_wp2_with (go_at_call 49; refine (specJoin_any _ _ _).mono ?_; rintro e w' ⟨rfl, rfl⟩)
          exact ⟨⟨k + 1, by omega, by rw [HE.out], by go_num, hb2⟩, by simp [intOf]; omega⟩
        · have hne : (x.node == id) = false := by simp [hni]
          have HPa1 := hide (HPa.out W1 x.node hxh.2.1 (HOld.out _ hb2).1)
          have HU1 := HUl.out x.node
          obtain ⟨q, hq⟩ : ∃ q, q = hasB (upsOf d x.node).reverse id := ⟨_, rfl⟩
          have HQ := hide hq
          have HHas : Hid (∀ wx u, IntsAt wx.heap.size wx u (upsOf d x.node).reverse → Calls Tryd.prog 50 #[u, .int .i64 id] wx fun e w' => e = .returned (.bool q) ∧ w' = wx) := fun wx u hu => by
            rw [HQ.out]; exact specHas_any wx.heap.size u _ id wx hu HU1
          have HPt : Hid (q = true → partI d id x = intentI x.mode) := fun h => partI_above hni (by rw [HQ.out, hasB_iff, List.mem_reverse] at h; exact h)
          have HPf : Hid (q = false → partI d id x = 0) := fun h => partI_off hni (by rw [HQ.out, hasB_no, List.mem_reverse] at h; exact h)
          clear hni hq
          generalize (upsOf d x.node).reverse = us at *
          have hJm : ModeP (joinI (joinedOf (partI d id) (L.take k) ss) (intentI x.mode)) := joinI_mode hM (intentI_mode _)
          cases q
          · have HE2 : Hid (joinedOf (partI d id) (L.take (k + 1)) ss = joinedOf (partI d id) (L.take k) ss) := by rw [Hid, HE.out, HPf.out rfl, joinI_zero hM.1]
            clear HE
            generalize joinedOf (partI d id) (L.take k) ss = m0 at *
            go_wp2_with fail
            rw [← hW1]
            clear hW1
            refine HPa1.out.mono ?_
            rintro e w2 ⟨u, rfl, hu, hb3⟩
            have hs3 := hb3.size
            have HH2 := hide (HHas.out w2 u hu)
            obtain ⟨ua, uc, rfl, -⟩ := hu
            go_wp2_with (go_at_call 50; refine HH2.out.mono ?_; rintro e w' ⟨rfl, rfl⟩)
            exact ⟨⟨k + 1, by omega, by rw [HE2.out], by go_num, hb2.trans (hb3.mono (by omega))⟩, by simp [intOf]; omega⟩
          · have HE2 : Hid (joinedOf (partI d id) (L.take (k + 1)) ss = joinI (joinedOf (partI d id) (L.take k) ss) (intentI x.mode)) := by rw [Hid, HE.out, HPt.out rfl]
            clear HE
            generalize joinedOf (partI d id) (L.take k) ss = m0 at *
            go_wp2_with fail
            rw [← hW1]
            clear hW1
            refine HPa1.out.mono ?_
            rintro e w2 ⟨u, rfl, hu, hb3⟩
            have hs3 := hb3.size
            have HH2 := hide (HHas.out w2 u hu)
            obtain ⟨ua, uc, rfl, -⟩ := hu
            have hh2 := (hb3.block wr.heap.size hz1).trans hh1
            have z2 := cell_of_heap hh2 2
            simp only [List.getElem?_toArray, List.getElem?_cons_succ, List.getElem?_cons_zero] at z2
            have hz2 : wr.heap.size < w2.heap.size := by omega
            go_wp2_with (first | (go_at_call 50; refine HH2.out.mono ?_; rintro e w' ⟨rfl, rfl⟩) | (go_at_call 52; refine (specIntent_any _ _).mono ?_; rintro e w' ⟨rfl, rfl⟩) | (go_at_call 49; refine (specJoin_any _ _ _).mono ?_; rintro e w' ⟨rfl, rfl⟩))
            exact ⟨⟨k + 1, by omega, by rw [HE2.out], by go_num, hb2.trans (hb3.mono (by omega))⟩, by simp [intOf]; omega⟩
      · have HE := hide (HMiss.out hss)
        have hse : (x.session != ss) = true := by simp [hss]
        clear hss HHit HMiss
        generalize joinedOf (partI d id) (L.take k) ss = m0 at *
        go_wp2_with fail
        rw [← hW1]
        clear hW1
        exact ⟨⟨k + 1, by omega, by rw [HE.out], by go_num, hb2⟩, by simp [intOf]; omega⟩
    · have HF : Hid (joinedOf (partI d id) (L.take k) ss = modeAtP d L ss id) := by rw [Hid, List.take_of_length_le (by omega)]; rfl
      clear hk
      generalize joinedOf (partI d id) (L.take k) ss = m0 at *
      go_wp2_with fail
      go_ret
      exact ⟨ret_int HF.out, hbw⟩
end Go.Proofs.YtfjhpfgffbghdaaDoor

namespace Go.Proofs.YtfjhpfgffbghdaaDoor
open Go.RowKit

set_option maxHeartbeats 2000000 in
theorem specFits_le (a b : Int) (ha : ModeP a) (hb : ModeP b) (h : a ≤ b) (w : World) :
    Calls Tryd.prog 63 #[.int .i64 a, .int .i64 b] w fun e w' => e = .returned (.bool (fitsB a b)) ∧ w' = w := by
  rcases ha.cases with rfl | rfl | rfl | rfl | rfl | rfl <;> rcases hb.cases with rfl | rfl | rfl | rfl | rfl | rfl
  all_goals first | (exfalso; revert h; decide) | skip
  all_goals
    clear h
    go_enter Tryd.func63, Tryd.ntmps63
    go_wp2
    go_ret
    exact ⟨rfl, rfl⟩

set_option maxHeartbeats 400000 in
theorem specFits_any (a b : Int) (ha : ModeP a) (hb : ModeP b) (w : World) :
    Calls Tryd.prog 63 #[.int .i64 a, .int .i64 b] w fun e w' => e = .returned (.bool (fitsB a b)) ∧ w' = w := by
  by_cases h : a ≤ b
  · exact specFits_le a b ha hb h w
  · have HC := hide (specFits_le b a hb ha (by omega) w)
    have HJ : Hid (fitsB b a = fitsB a b) := fitsB_comm b a
    by_cases h0 : a = 0 ∨ b = 0
    · obtain rfl : b = 0 := by
        rcases h0 with h0 | h0
        · have := hb.1; omega
        · exact h0
      have ha0 : (a == 0) = false := by simp; omega
      have HT : Hid (fitsB a 0 = true) := by simp [Hid, fitsB]
      go_enter Tryd.func63, Tryd.ntmps63
      go_wp2
      go_ret
      exact ⟨ret_bool HT.out.symm, rfl⟩
    · have ha0 : (a == 0) = false := by simp; omega
      have hb0 : (b == 0) = false := by simp; omega
      go_enter Tryd.func63, Tryd.ntmps63
      go_wp2_with (go_at_call 63; refine HC.out.mono ?_; rintro e w' ⟨rfl, rfl⟩)
      go_ret
      exact ⟨ret_bool HJ.out, rfl⟩
end Go.Proofs.YtfjhpfgffbghdaaDoor
