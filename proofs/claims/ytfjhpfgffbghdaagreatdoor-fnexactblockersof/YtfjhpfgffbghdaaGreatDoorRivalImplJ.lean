/-
  Whether two waits rival each other, as the program asks it: node by node, up to the root.
-/
import Derived.Test.YtfjhpfgffbghdaaGreatDoorJoinF
import Derived.Test.YtfjhpfgffbghdaaGreatDoorJoinK
import Derived.Test.YtfjhpfgffbghdaaGreatDoorJoinJ
namespace Go.Proofs.YtfjhpfgffbghdaaGreatDoor
open Go.RowKit

set_option maxHeartbeats 4000000 in
set_option maxRecDepth 100000 in
theorem rival_any (d : PDoc) (G : Good d) (n₀ n₁ fb lb tb : Nat) (ad : Int → Nat) (up : Int → Option Int) (kv : Int → Value) (L : List PHold) (hL : HoldsP d L) (x y : PHold) (hx : HoldP d x) (hy : HoldP d y) (w : World) (hgr : Grown n₀ w d tb ad up kv) (hlk : LocksAt n₁ w lb tb ad L) (hn : n₁ ≤ w.heap.size) (hfb : fb < w.heap.size) (hfc : w.cell? ⟨fb, 0, none⟩ = some (.pointer (some ⟨lb, 0, none⟩))) (hF : FitsAt w) (hI : IntentsAt w) (r : Bool) (hr : r = true ↔ RivalP d L x y) :
    Calls Tryz.prog 77 #[.pointer (some ⟨fb, 0, none⟩), lockVal ad x, lockVal ad y] w fun e w' => e = .returned (.bool r) ∧ Below w.heap.size w w' := by
  obtain ⟨q, hq⟩ := G.dep hx.2.1
  have hpos : 0 ≤ x.node := by
    have := (show Left d x.node (upsOf d x.node) from .inl ⟨q, hq, upsOf_eq G hq⟩).pos G
    exact this
  have hne : x.node ≠ 0 := fun e => by
    have h1 := upsOf_self G hx.2.1
    have h2 : Left d x.node (upsOf d x.node) := .inl ⟨q, hq, upsOf_eq G hq⟩
    rw [e] at h1 h2
    rw [h2.done G] at h1
    cases h1
  obtain ⟨W0, hW0⟩ : ∃ W0, W0 = (w.alloc (.cells #[.int .i64 x.session, .int .i64 x.mode, .pointer (some ⟨ad x.node, 0, none⟩)] 109)).alloc (.cells #[.int .i64 y.session, .int .i64 y.mode, .pointer (some ⟨ad y.node, 0, none⟩)] 109) := ⟨_, rfl⟩
  have hw0 : Below w.heap.size w W0 := by rw [hW0]; exact ((Below.refl w.heap.size w).alloc (Nat.le_refl _) _).alloc (by simp) _
  have hs0 : W0.heap.size = w.heap.size + 1 + 1 := by rw [hW0]; simp
  have hh0 : W0.heap[w.heap.size]? = some (.cells #[.int .i64 x.session, .int .i64 x.mode, .pointer (some ⟨ad x.node, 0, none⟩)] 109 (0, 0)) := by
    rw [hW0, Below.heap_alloc _ _ _ (by simp)]; exact alloc_new w _
  have hh1 : W0.heap[w.heap.size + 1]? = some (.cells #[.int .i64 y.session, .int .i64 y.mode, .pointer (some ⟨ad y.node, 0, none⟩)] 109 (0, 0)) := by
    rw [hW0]
    have := alloc_new (w.alloc (.cells #[.int .i64 x.session, .int .i64 x.mode, .pointer (some ⟨ad x.node, 0, none⟩)] 109)) (.cells #[.int .i64 y.session, .int .i64 y.mode, .pointer (some ⟨ad y.node, 0, none⟩)] 109)
    simpa using this
  have HOld : Hid (∀ wx, Below W0.heap.size W0 wx → Below w.heap.size w wx ∧ w.heap.size + 1 + 1 ≤ wx.heap.size) := fun wx hb => ⟨hw0.trans (hb.mono (by omega)), by have := hb.size; omega⟩
  have HB : Hid (∀ wx, Below W0.heap.size W0 wx → (wx.cell? ⟨w.heap.size, 0, none⟩ = some (.int .i64 x.session) ∧ wx.cell? ⟨w.heap.size, 1, none⟩ = some (.int .i64 x.mode) ∧ wx.cell? ⟨w.heap.size, 2, none⟩ = some (.pointer (some ⟨ad x.node, 0, none⟩))) ∧ (wx.cell? ⟨w.heap.size + 1, 0, none⟩ = some (.int .i64 y.session) ∧ wx.cell? ⟨w.heap.size + 1, 1, none⟩ = some (.int .i64 y.mode) ∧ wx.cell? ⟨w.heap.size + 1, 2, none⟩ = some (.pointer (some ⟨ad y.node, 0, none⟩))) ∧ wx.cell? ⟨fb, 0, none⟩ = some (.pointer (some ⟨lb, 0, none⟩)) ∧ fb < wx.heap.size) := fun wx hb => by
    have j0 := (hb.block w.heap.size (by omega)).trans hh0
    have j1 := (hb.block (w.heap.size + 1) (by omega)).trans hh1
    have hbw := hw0.trans (hb.mono (by omega : w.heap.size ≤ W0.heap.size))
    exact ⟨⟨cell_of_heap j0 0, cell_of_heap j0 1, cell_of_heap j0 2⟩, ⟨cell_of_heap j1 0, cell_of_heap j1 1, cell_of_heap j1 2⟩, (hbw.cell (p := ⟨fb, 0, none⟩) hfb).trans hfc, by have := hbw.size; omega⟩
  have HG := hide G
  have HIn2 : Hid (∀ a ∈ idsOf d.nodes, ∀ b ∈ idsOf d.nodes, ad a = ad b → a = b) := fun a ha b hb e => by
    obtain ⟨x, hx, rfl⟩ := node_of ha
    obtain ⟨y, hy, rfl⟩ := node_of hb
    exact hgr.hung.inj x hx y hy e
  have HUp : Hid (∀ c ∈ idsOf d.nodes, ∀ wx, Below W0.heap.size W0 wx → ad c < wx.heap.size ∧ wx.cell? ⟨ad c, 4, none⟩ = some (curPtr ad (parentOf d.nodes c))) := fun c hc wx hb => by
    obtain ⟨y, hy, rfl⟩ := node_of hc
    have hgx := hgr.below (HOld.out wx hb).1
    have hB2 := (hgx.tree G) y hy
    have e4 := hB2.c4
    rw [up_ptr hgx G] at e4
    exact ⟨hB2.lt, e4⟩
  have HWi : Hid (∀ c ∈ upsOf d x.node, ∀ wx, Below W0.heap.size W0 wx → Calls Tryz.prog 104 #[.pointer (some ⟨lb, 0, none⟩), lockVal ad x, .pointer (some ⟨ad c, 0, none⟩)] wx fun e w' => e = .returned (.int .i64 (joinI (modeAtP d L x.session c) (needI x c))) ∧ Below wx.heap.size wx w') := fun c hc wx hb => by
    have hb' := (HOld.out wx hb).1
    exact modeWith_any d G n₀ w.heap.size lb tb ad up kv L hL x hx c hc wx (hgr.below hb') ((hlk.below hn (hb'.mono hn)).below (Nat.le_refl _) (Below.refl _ _)) hb'.size (hI.below hb' hI.lt)
  have HWy : Hid (∀ c ∈ upsOf d y.node, ∀ wx, Below W0.heap.size W0 wx → Calls Tryz.prog 104 #[.pointer (some ⟨lb, 0, none⟩), lockVal ad y, .pointer (some ⟨ad c, 0, none⟩)] wx fun e w' => e = .returned (.int .i64 (joinI (modeAtP d L y.session c) (needI y c))) ∧ Below wx.heap.size wx w') := fun c hc wx hb => by
    have hb' := (HOld.out wx hb).1
    exact modeWith_any d G n₀ w.heap.size lb tb ad up kv L hL y hy c hc wx (hgr.below hb') ((hlk.below hn (hb'.mono hn)).below (Nat.le_refl _) (Below.refl _ _)) hb'.size (hI.below hb' hI.lt)
  have HBl : Hid (∀ c ∈ idsOf d.nodes, ∀ wx, Below W0.heap.size W0 wx → Calls Tryz.prog 103 #[.pointer (some ⟨ad y.node, 0, none⟩), .pointer (some ⟨ad c, 0, none⟩)] wx fun e w' => e = .returned (.bool (aboveB d y.node c)) ∧ w' = wx) := fun c hc wx hb =>
    isBelow_any d G n₀ tb ad up kv y.node c hy.2.1 hc wx (hgr.below (HOld.out wx hb).1)
  have HCmp : Hid (∀ c ∈ idsOf d.nodes, c ≠ y.node → ∀ wx, Below W0.heap.size W0 wx → (binOp .eql 93 (.pointer (some ⟨ad c, 0, none⟩)) (.pointer (some ⟨ad y.node, 0, none⟩))).run Tryz.prog wx = .ok (.bool false) wx) := fun c hc hne wx hb =>
    branch_other (hgr.below (HOld.out wx hb).1).hung hc hy.2.1 (fun e => hne (by
      obtain ⟨p, hp, rfl⟩ := node_of hc
      obtain ⟨q, hq, hqe⟩ := node_of hy.2.1
      rw [← hqe] at e ⊢
      exact hgr.hung.inj p hp q hq e))
  have HAb : Hid (∀ c ∈ idsOf d.nodes, c ≠ y.node → (aboveB d y.node c = true ↔ c ∈ upsOf d y.node)) := fun c hc hne => aboveB_iff G hy.2.1 (fun e => hne e.symm)
  have HSelf : Hid (y.node ∈ upsOf d y.node) := upsOf_self G hy.2.1
  have HM1 : Hid (∀ c, ∃ m : Nat, m < 6 ∧ joinI (modeAtP d L x.session c) (needI x c) = m) := fun c => nat_modeN (joinI_mode (modeAtP_mode (fun x hx => (hL.mode x hx).modeP) _ _) (needI_mode hx.modeP c))
  have HM2 : Hid (∀ c, ∃ m : Nat, m < 6 ∧ joinI (modeAtP d L y.session c) (needI y c) = m) := fun c => nat_modeN (joinI_mode (modeAtP_mode (fun x hx => (hL.mode x hx).modeP) _ _) (needI_mode hy.modeP c))
  have HFx : Hid (∀ wx, Below W0.heap.size W0 wx → FitsAt wx ∧ 0 < wx.heap.size) := fun wx hb => by
    have h := hF.below (HOld.out wx hb).1 hF.lt
    exact ⟨h, h.lt⟩
  have HCd : Hid (∀ c, rivalAt d L x y c = !fitsB (joinI (modeAtP d L x.session c) (needI x c)) (joinI (modeAtP d L y.session c) (needI y c))) := fun _ => rfl
  have HUi : Hid (∀ c ∈ upsOf d x.node, c ∈ idsOf d.nodes) := upsOf_in G hx.2.1
  have HLf : Hid (Left d x.node (upsOf d x.node)) := .inl ⟨q, hq, upsOf_eq G hq⟩
  have HRr : Hid (r = true ↔ ∃ i ∈ upsOf d x.node, i ∈ upsOf d y.node ∧ rivalAt d L x y i = true) := hr
  clear hr hgr hlk hI hF hs0 hh0 hh1 hw0 hx hy hL hq hfb hfc
  have hb00 : Below W0.heap.size W0 W0 := Below.refl _ _
  obtain ⟨⟨y0, y1, y2⟩, ⟨z0, z1, z2⟩, f0, f1⟩ := HB.out _ hb00
  have hz2' : w.heap.size + 1 < W0.heap.size := by have := (HOld.out _ hb00).2; omega
  have hz : w.heap.size < W0.heap.size := by have := (HOld.out _ hb00).2; omega
  go_enter Tryz.func77, Tryz.ntmps77
  go_wp2_with fail
  rw [← hW0]
  clear hW0
  go_wp2_with fail
  clear y0 y1 y2 z0 z1 z2 f0 f1
  go_loopw [7] (fun pv wr => ∃ (cur : Int) (rest : List Int), pv = curPtr ad cur ∧ 0 ≤ cur ∧ Hid (Left d cur rest ∧ (∀ c ∈ rest, c ∈ upsOf d x.node) ∧ (r = true ↔ ∃ i ∈ rest, i ∈ upsOf d y.node ∧ rivalAt d L x y i = true)) ∧ Below W0.heap.size W0 wr) (fun pv _ => leftLen d ad pv)
  case atStart => exact ⟨x.node, upsOf d x.node, by rw [curPtr_some hne], hpos, ⟨HLf.out, fun _ h => h, HRr.out⟩, hb00⟩
  case round =>
    obtain ⟨cur, rest, rfl, hc0, hinv, hbr⟩ := hrel
    by_cases h0 : cur = 0
    · subst h0
      have HE : Hid (r = false) := no_of hinv.out.2.2 fun ⟨i, hi, _⟩ => by
        rw [hinv.out.1.done HG.out] at hi
        cases hi
      have hbw := (HOld.out _ hbr).1
      rw [curPtr_none]
      go_wp2_with fail
      go_ret
      exact ⟨ret_bool HE.out.symm, hbw⟩
    · obtain ⟨rest', hr1, hr2, hr3⟩ := hinv.out.1.next HG.out h0
      have hcu : cur ∈ upsOf d x.node := hinv.out.2.1 cur (by rw [hr1]; exact List.mem_cons_self)
      have HM : Hid (leftLen d ad (curPtr ad cur) = rest'.length + 1) := by rw [Hid, leftLen_eq HG.out HIn2.out hinv.out.1, hr1]; rfl
      have HMn : Hid (leftLen d ad (curPtr ad (parentOf d.nodes cur)) = rest'.length) := leftLen_eq HG.out HIn2.out hr2
      have HYes : Hid (cur ∈ upsOf d y.node → rivalAt d L x y cur = true → r = true) := fun h h' => hinv.out.2.2.2 ⟨cur, by rw [hr1]; exact List.mem_cons_self, h, h'⟩
      have HNo : Hid (¬ (cur ∈ upsOf d y.node ∧ rivalAt d L x y cur = true) → Left d (parentOf d.nodes cur) rest' ∧ (∀ c ∈ rest', c ∈ upsOf d x.node) ∧ (r = true ↔ ∃ i ∈ rest', i ∈ upsOf d y.node ∧ rivalAt d L x y i = true)) := fun h => ⟨hr2, fun c hc => hinv.out.2.1 c (by rw [hr1]; exact List.mem_cons_of_mem _ hc), by
        rw [hinv.out.2.2, hr1]
        constructor
        · rintro ⟨i, hi, h1, h2⟩
          rcases List.mem_cons.1 hi with rfl | hi
          · exact absurd ⟨h1, h2⟩ h
          · exact ⟨i, hi, h1, h2⟩
        · rintro ⟨i, hi, h1, h2⟩
          exact ⟨i, List.mem_cons_of_mem _ hi, h1, h2⟩⟩
      have hpos2 := hr2.pos HG.out
      obtain ⟨m1, hm1, hmm1⟩ := HM1.out cur
      obtain ⟨m2, hm2, hmm2⟩ := HM2.out cur
      have HCc : Hid (rivalAt d L x y cur = !fitsB (m1 : Int) (m2 : Int)) := by rw [Hid, HCd.out, hmm1, hmm2]
      have hcal := calm_cell wr
      have HW1 : Hid (∀ t : Calm wr, Calls Tryz.prog 104 #[.pointer (some ⟨lb, 0, none⟩), lockVal ad x, .pointer (some ⟨ad cur, 0, none⟩)] t.out fun e w' => e = .returned (.int .i64 (m1 : Int)) ∧ Below t.out.heap.size t.out w') := fun t => by
        have := HWi.out cur hcu t.out (hbr.trans (t.below.mono hbr.size))
        rwa [hmm1] at this
      have HA1 : Hid (cur ∈ upsOf d y.node → ∀ t : Calm wr, Calls Tryz.prog 104 #[.pointer (some ⟨lb, 0, none⟩), lockVal ad y, .pointer (some ⟨ad cur, 0, none⟩)] t.out fun e w' => e = .returned (.int .i64 (m2 : Int)) ∧ Below t.out.heap.size t.out w') := fun hc t => by
        have := HWy.out cur hc t.out (hbr.trans (t.below.mono hbr.size))
        rwa [hmm2] at this
      have HAbc := hide (HAb.out cur hr3)
      have HBlc := hide (HBl.out cur hr3 wr hbr)
      have HCmpc := hide (fun hne => HCmp.out cur hr3 hne wr hbr)
      obtain ⟨hFa, hFl⟩ := HFx.out wr hbr
      have hfc := hFa m1 m2 hm1 hm2
      have HUpc := hide (HUp.out cur hr3)
      obtain ⟨⟨y0, y1, y2⟩, ⟨z0, z1, z2⟩, f0, f1⟩ := HB.out _ hbr
      have hzr : w.heap.size < wr.heap.size := by have := (HOld.out _ hbr).2; omega
      have hzr2 : w.heap.size + 1 < wr.heap.size := by have := (HOld.out _ hbr).2; omega
      have hsr := hbr.size
      obtain ⟨pp, hpp⟩ : ∃ pp, curPtr ad (parentOf d.nodes cur) = .pointer pp := ⟨_, rfl⟩
      have HPP := hide hpp
      clear hr1 hr2 hr3 hcu hmm1 hmm2 hFa hpp
      generalize fitsB (m1 : Int) (m2 : Int) = f at *
      rw [curPtr_some h0] at HM ⊢
      by_cases hcy : cur = y.node
      · have HYs : Hid (cur ∈ upsOf d y.node) := by rw [Hid, hcy]; exact HSelf.out
        have HA2 := hide (HA1.out HYs.out)
        have hcmp : (binOp .eql 93 (.pointer (some ⟨ad cur, 0, none⟩)) (.pointer (some ⟨ad y.node, 0, none⟩))).run Tryz.prog wr = .ok (.bool true) wr := by rw [hcy]; exact branch_same _ wr
        clear hcy
        cases f
        · have HE := hide (HYes.out HYs.out HCc.out)
          go_wp2_with fail
          refine wp_region_calm (by kernel_rfl) (by kernel_rfl) ?_
          repeat (go_big_quiet_step (first | (go_at_call 104; with_reducible exact calm_of (HW1.out _)) | (go_at_call 104; with_reducible exact calm_of (HA2.out _))))
          refine wpQuiet_nil ?_
          rintro _ ⟨t, rfl⟩
          have ht := t.below
          go_wp2_with fail
          go_ret
          exact ⟨ret_bool HE.out.symm, (HOld.out _ (hbr.trans (ht.mono hsr))).1⟩
        · have HE := hide (HNo.out (fun h => by have := h.2; rw [HCc.out] at this; cases this))
          go_wp2_with fail
          refine wp_region_calm (by kernel_rfl) (by kernel_rfl) ?_
          repeat (go_big_quiet_step (first | (go_at_call 104; with_reducible exact calm_of (HW1.out _)) | (go_at_call 104; with_reducible exact calm_of (HA2.out _))))
          refine wpQuiet_nil ?_
          rintro _ ⟨t, rfl⟩
          have ht := t.below
          have hbt := hbr.trans (ht.mono hsr)
          obtain ⟨hyl, e4⟩ := HUpc.out _ hbt
          rw [HPP.out] at e4
          clear y0 y1 y2 z0 z1 z2 f0 hfc hcal
          go_wp2_with fail
          refine ⟨⟨_, rest', HPP.out.symm, hpos2, HE.out, hbt⟩, ?_⟩
          rw [← HPP.out, HM.out, HMn.out]; omega
      · have hcmp := HCmpc.out hcy
        have HAi := hide (HAbc.out hcy)
        obtain ⟨av, hav⟩ : ∃ av, av = aboveB d y.node cur := ⟨_, rfl⟩
        rw [← hav] at HBlc HAi
        clear hcy hav
        cases av
        · have HNn : Hid (cur ∉ upsOf d y.node) := fun h => by have := HAi.out.2 h; cases this
          have HE := hide (HNo.out (fun h => HNn.out h.1))
          go_wp2_with (go_at_call 103; refine HBlc.out.mono ?_; rintro e w' ⟨rfl, rfl⟩)
          refine wp_region_calm (by kernel_rfl) (by kernel_rfl) ?_
          repeat (go_big_quiet_step (fail))
          refine wpQuiet_nil ?_
          rintro _ ⟨t, rfl⟩
          have ht := t.below
          have hbt := hbr.trans (ht.mono hsr)
          obtain ⟨hyl, e4⟩ := HUpc.out _ hbt
          rw [HPP.out] at e4
          clear y0 y1 y2 z0 z1 z2 f0 hfc hcal
          go_wp2_with fail
          refine ⟨⟨_, rest', HPP.out.symm, hpos2, HE.out, hbt⟩, ?_⟩
          rw [← HPP.out, HM.out, HMn.out]; omega
        · have HYs : Hid (cur ∈ upsOf d y.node) := HAi.out.1 rfl
          have HA2 := hide (HA1.out HYs.out)
          cases f
          · have HE := hide (HYes.out HYs.out HCc.out)
            go_wp2_with (go_at_call 103; refine HBlc.out.mono ?_; rintro e w' ⟨rfl, rfl⟩)
            refine wp_region_calm (by kernel_rfl) (by kernel_rfl) ?_
            repeat (go_big_quiet_step (first | (go_at_call 104; with_reducible exact calm_of (HW1.out _)) | (go_at_call 104; with_reducible exact calm_of (HA2.out _))))
            refine wpQuiet_nil ?_
            rintro _ ⟨t, rfl⟩
            have ht := t.below
            go_wp2_with fail
            go_ret
            exact ⟨ret_bool HE.out.symm, (HOld.out _ (hbr.trans (ht.mono hsr))).1⟩
          · have HE := hide (HNo.out (fun h => by have := h.2; rw [HCc.out] at this; cases this))
            go_wp2_with (go_at_call 103; refine HBlc.out.mono ?_; rintro e w' ⟨rfl, rfl⟩)
            refine wp_region_calm (by kernel_rfl) (by kernel_rfl) ?_
            repeat (go_big_quiet_step (first | (go_at_call 104; with_reducible exact calm_of (HW1.out _)) | (go_at_call 104; with_reducible exact calm_of (HA2.out _))))
            refine wpQuiet_nil ?_
            rintro _ ⟨t, rfl⟩
            have ht := t.below
            have hbt := hbr.trans (ht.mono hsr)
            obtain ⟨hyl, e4⟩ := HUpc.out _ hbt
            rw [HPP.out] at e4
            clear y0 y1 y2 z0 z1 z2 f0 hfc hcal
            go_wp2_with fail
            refine ⟨⟨_, rest', HPP.out.symm, hpos2, HE.out, hbt⟩, ?_⟩
            rw [← HPP.out, HM.out, HMn.out]; omega
end Go.Proofs.YtfjhpfgffbghdaaGreatDoor
