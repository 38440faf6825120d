/-
  BlockersOf: what the program answers.
-/
import Derived.Test.YtfjhpfgffbghdaaGreatDoorJoinJ
import Derived.Test.YtfjhpfgffbghdaaGreatDoorBlockImplJ
import Derived.Test.YtfjhpfgffbghdaaGreatDoorRisingJ
namespace Go.Proofs.YtfjhpfgffbghdaaGreatDoor
open Go.RowKit

def TabForPost (w : World) (d : PDoc) (t : PTab) (s : Int) (e : Ending) (w' : World) : Prop :=
  (∃ c, e = .returned (.tuple #[.pointer none, .int .i64 c]) ∧ Hid (c ≠ 0 ∧ c = tabAsk d t s) ∧ (c != 0) = true ∧ Below w.heap.size w w') ∨
  (∃ (fb lb tb : Nat) (ad : Int → Nat) (up : Int → Option Int) (kv : Int → Value), e = .returned (.tuple #[.pointer (some ⟨fb, 0, none⟩), .int .i64 0]) ∧ Hid (tabAsk d t s = 0) ∧ GrownIn w.heap.size lb w' d tb ad up kv ∧ LocksOwn w.heap.size w' lb tb ad t.holds ∧ (∃ m, LocksOwn w.heap.size m lb tb ad t.holds ∧ m.heap.size ≤ fb ∧ Below fb m w') ∧ WaitsOwn w' fb lb ad t.waits ∧ Below w.heap.size w w')

set_option maxHeartbeats 2000000 in
set_option maxRecDepth 100000 in
theorem tableFor_any (n₀ : Nat) (d : PDoc) (s v : Value) (t : PTab) (ss : Int) (w : World) (hN : NodesAt n₀ w s d.nodes) (hV : TabAt n₀ w v t) (hn : n₀ ≤ w.heap.size) (hl : d.nodes.length ≤ 1048576) (hwf : WfDoc d) (S : SmallT t) :
    Calls Tryz.prog 34 #[.agg #[.int .i64 d.root, .int .i64 d.next, s], v, .int .i64 ss] w (TabForPost w d t ss) := by
  have hV' := hV
  obtain ⟨vh, vw, rfl, -, -⟩ := hV'
  obtain ⟨W0, hW0⟩ : ∃ W0, W0 = (w.alloc (.cells #[.int .i64 d.root, .int .i64 d.next, s] 38)).alloc (.cells #[vh, vw] 32) := ⟨_, rfl⟩
  obtain ⟨hw0, hs0, hB⟩ := tab_boxes hW0
  have hsz : w.heap.size ≤ W0.heap.size := by omega
  have HTo := hide (tableOf_any n₀ d s _ t W0 (hN.below (Nat.le_refl _) (hw0.mono hn)) (hV.below (Nat.le_refl _) (hw0.mono hn)) (by omega) hl hwf S)
  have HW0 := hide hw0
  obtain ⟨ha, hcap, wa, wcap, e⟩ := hV.form
  simp only [Value.agg.injEq, Array.mk.injEq, List.cons.injEq, and_true] at e
  obtain ⟨rfl, rfl⟩ := e
  obtain ⟨sa, sc, rfl, -⟩ := hN
  clear hwf hV S hB hw0 hs0
  go_enter Tryz.func34, Tryz.ntmps34
  go_wp2_with fail
  rw [← hW0]
  clear hW0
  refine HTo.out.mono ?_
  rintro e w1 (⟨rfl, hno, hb1⟩ | ⟨fb, lb, tb, ad, up, kv, rfl, hok, hgr, hlk, hm, hwt, hb1⟩)
  · have HE := hide (tabAsk_bad (s := ss) hno.out)
    have hbw := HW0.out.trans (hb1.mono hsz)
    go_wp2_with fail
    go_ret2
    exact .inl ⟨1, rfl, ⟨by decide, HE.out.symm⟩, by decide, hbw⟩
  · have hbw := HW0.out.trans (hb1.mono hsz)
    by_cases hs : 1 ≤ ss ∧ ss ≤ 999
    · have HE := hide (tabAsk_ok hok.out hs)
      have hi := inB_iff.2 hs
      have HP : Hid (GrownIn w.heap.size lb w1 d tb ad up kv ∧ LocksOwn w.heap.size w1 lb tb ad t.holds ∧ (∃ m, LocksOwn w.heap.size m lb tb ad t.holds ∧ m.heap.size ≤ fb ∧ Below fb m w1) ∧ WaitsOwn w1 fb lb ad t.waits) := by
        refine ⟨hgr.below hsz (Below.refl _ _), ⟨by have := hlk.1; omega, hlk.2⟩, ?_, hwt⟩
        obtain ⟨m, h1, h2, h3⟩ := hm
        exact ⟨m, ⟨by have := h1.1; omega, h1.2⟩, h2, h3⟩
      clear hs hgr hlk hm hwt
      go_wp2_with (go_at_call 57; refine (between_any _ _ _ _).mono ?_; rintro e w' ⟨rfl, rfl⟩)
      go_ret2
      exact .inr ⟨fb, lb, tb, ad, up, kv, rfl, HE, HP.out.1, HP.out.2.1, HP.out.2.2.1, HP.out.2.2.2, hbw⟩
    · have HE := hide (tabAsk_range hok.out hs)
      have hi := between_no hs
      clear hs hgr hlk hm hwt
      go_wp2_with (go_at_call 57; refine (between_any _ _ _ _).mono ?_; rintro e w' ⟨rfl, rfl⟩)
      go_ret2
      exact .inl ⟨4, rfl, ⟨by decide, HE.out.symm⟩, by decide, hbw⟩

set_option maxHeartbeats 2000000 in
set_option maxRecDepth 100000 in
theorem implBlockersOf_any (n₀ : Nat) (d : PDoc) (s v : Value) (t : PTab) (ss : Int) (w : World) (hN : NodesAt n₀ w s d.nodes) (hV : TabAt n₀ w v t) (hn : n₀ ≤ w.heap.size) (hl : d.nodes.length ≤ 1048576) (hwf : WfDoc d) (S : SmallT t) (hF : FitsAt w) (hI : IntentsAt w) (c : Int) (ks : List Int) (hc : c = blockCode d t ss) (hks : ks = blockAns d t ss) :
    Calls Tryz.prog 23 #[.agg #[.int .i64 d.root, .int .i64 d.next, s], v, .int .i64 ss] w (ListPost w ks c) := by
  have hV' := hV
  obtain ⟨vh, vw, rfl, -, -⟩ := hV'
  obtain ⟨W0, hW0⟩ : ∃ W0, W0 = (w.alloc (.cells #[.int .i64 d.root, .int .i64 d.next, s] 38)).alloc (.cells #[vh, vw] 32) := ⟨_, rfl⟩
  obtain ⟨hw0, hs0, hB⟩ := tab_boxes hW0
  have hsz : w.heap.size ≤ W0.heap.size := by omega
  have HTo := hide (tableFor_any n₀ d s _ t ss W0 (hN.below (Nat.le_refl _) (hw0.mono hn)) (hV.below (Nat.le_refl _) (hw0.mono hn)) (by omega) hl hwf S)
  have HW0 := hide hw0
  have HC := hide hc
  have HKs := hide hks
  have HF := hide hF
  have HI := hide hI
  have hpl := placeN_le t.waits ss
  have hSw := S.2
  obtain ⟨ha, hcap, wa, wcap, e⟩ := hV.form
  simp only [Value.agg.injEq, Array.mk.injEq, List.cons.injEq, and_true] at e
  obtain ⟨rfl, rfl⟩ := e
  obtain ⟨sa, sc, rfl, -⟩ := hN
  clear hc hks hwf hV S hB hw0 hs0 hF hI
  go_enter Tryz.func23, Tryz.ntmps23
  go_wp2_with fail
  rw [← hW0]
  clear hW0
  refine HTo.out.mono ?_
  rintro e w1 (⟨c2, rfl, hc2, hc21, hb1⟩ | ⟨fb, lb, tb, ad, up, kv, rfl, hok, hgr, hlk, hm, hwt, hb1⟩)
  · have h2 := blockCode_bad (d := d) (t := t) (s := ss) (by rw [← hc2.out.2]; exact hc2.out.1)
    have HE : Hid (c2 = c ∧ ks = []) := ⟨by rw [HC.out, h2]; exact hc2.out.2, by rw [HKs.out]; exact blockAns_no (by rw [h2, ← hc2.out.2]; exact hc2.out.1)⟩
    have hbw := HW0.out.trans (hb1.mono hsz)
    clear h2
    go_wp2_with fail
    go_ret2
    exact ⟨.slice none 0 0, ret_vc HE.out.1, by rw [HE.out.2]; exact World.ownsRow_nil _ _ _ _, hbw⟩
  · have hbw := HW0.out.trans (hb1.mono hsz)
    have hT := hide (tabAsk_zero hok.out).1
    have hwa := hwt.at
    have HPl := hide (placeOfWait_any fb lb ad t.waits ss w1 hwa.locks hSw)
    have hsz1 := hbw.size
    obtain ⟨pn, hpn⟩ : ∃ pn, pn = placeN t.waits ss := ⟨_, rfl⟩
    rw [← hpn] at HPl hpl
    by_cases hp : pn = 0
    · have h2 := blockCode_none (d := d) (t := t) (s := ss) hok.out (by rw [← hpn]; exact hp)
      have HE : Hid (c = 5 ∧ ks = []) := ⟨HC.out.trans h2, by rw [HKs.out]; exact blockAns_no (by rw [h2]; decide)⟩
      clear h2 hpn hgr hlk hm hwt hwa
      subst hp
      have hm : ((0 : Nat) : Int) - 1 = -1 := by omega
      rw [hm] at HPl
      clear hm
      go_wp2_with fail
      refine HPl.out.mono ?_
      rintro e w2 ⟨rfl, hb2⟩
      have hbw2 := hbw.trans (hb2.mono hsz1)
      go_wp2_with fail
      go_ret2
      exact ⟨.slice none 0 0, ret_vc HE.out.1.symm, by rw [HE.out.2]; exact World.ownsRow_nil _ _ _ _, hbw2⟩
    · have h2 := blockCode_ok (d := d) (t := t) (s := ss) hok.out (by rw [← hpn]; exact hp)
      have HE : Hid (c = 0 ∧ ks = blockL d t.holds t.waits (t.waits[pn - 1]?.getD holdNil) (pn - 1)) := ⟨HC.out.trans h2, by rw [HKs.out, blockAns_ok h2, hpn]⟩
      have hk : (pn : Int) - 1 = ((pn - 1 : Nat) : Int) := by omega
      rw [hk] at HPl
      have HBl : Hid (∀ wx, Below w1.heap.size w1 wx → Calls Tryz.prog 48 #[.pointer (some ⟨fb, 0, none⟩), .int .i64 ((pn - 1 : Nat) : Int)] wx fun e w' => ∃ mb, e = .returned (.map (some mb)) ∧ wx.heap.size ≤ mb ∧ Hid (BlockSetAt d t.holds t.waits (t.waits[pn - 1]?.getD holdNil) (pn - 1) w' mb) ∧ Below wx.heap.size wx w') := fun wx hb => by
        have hbx := hbw.trans (hb.mono hsz1)
        exact blockersAt_any d hT.out.locks.good W0.heap.size w1.heap.size w1.heap.size fb lb tb ad up kv t.holds t.waits hT.out.locks.holds hT.out.waits (pn - 1) (by omega) wx (hgr.out.below hb) (hlk.at.below (Nat.le_refl _) hb) (hwa.below (Nat.le_refl _) hb) hb.size hb.size (HF.out.below hbx HF.out.lt) (HI.out.below hbx HI.out.lt)
      have HRis : Hid (∀ wx mb, Hid (BlockSetAt d t.holds t.waits (t.waits[pn - 1]?.getD holdNil) (pn - 1) wx mb) → Calls Tryz.prog 49 #[.map (some mb)] wx (IdsPost wx ks)) := fun wx mb h => by
        obtain ⟨n, S, h1, h3, h4⟩ := h.out
        rw [HE.out.2]
        exact rising_any mb n S _ wx h3 (by have := hT.out.waits.len; omega) h4 (blockL_rises hT.out.locks.holds _)
      have hp1 : ¬ (((pn - 1 : Nat) : Int) < 0) := by omega
      clear h2 hpn hgr hlk hm hwt hwa hk
      generalize pn - 1 = pk at *
      go_wp2_with fail
      refine HPl.out.mono ?_
      rintro e w2 ⟨rfl, hb2⟩
      have HBl2 := hide (HBl.out w2 hb2)
      have hbw2 := hbw.trans (hb2.mono hsz1)
      have hsz2 := hbw2.size
      clear HPl HBl
      go_wp2_with fail
      refine HBl2.out.mono ?_
      rintro e w3 ⟨mb, rfl, hmb, hset, hb3⟩
      have HR3 := hide (HRis.out w3 mb hset)
      have hbw3 := hbw2.trans (hb3.mono hsz2)
      have hsz3 := hbw3.size
      clear HBl2 HRis
      go_wp2_with fail
      refine HR3.out.mono ?_
      rintro e w4 ⟨vv, rfl, hrow, hb4⟩
      have HRow := hide hrow
      clear hrow HR3
      go_wp2_with fail
      go_ret2
      exact ⟨_, ret_vc HE.out.1.symm, ownsRow_base HRow.out hsz3, hbw3.trans (hb4.mono hsz3)⟩
end Go.Proofs.YtfjhpfgffbghdaaGreatDoor
