/-
  Whether another session's locks stand against a lock, as the program asks it: node by node, up to the root.
-/
import Derived.Test.YtfjhpfgffbghdaaDoorClashPlainJ
import Derived.Test.YtfjhpfgffbghdaaDoorNeedsImplJ
import Derived.Test.YtfjhpfgffbghdaaDoorJoinI
import Derived.Test.YtfjhpfgffbghdaaDoorCalmJ
namespace Go.Proofs.YtfjhpfgffbghdaaDoor
open Go.RowKit

set_option maxHeartbeats 2000000 in
set_option maxRecDepth 100000 in
theorem modeWith_any (d : PDoc) (G : Good d) (n₀ n₁ lb tb : Nat) (ad : Int → Nat) (up : Int → Option Int) (kv : Int → Value) (L : List PHold) (hL : HoldsP d L) (x : PHold) (hx : HoldP d x) (i : Int) (hi : i ∈ upsOf d x.node) (w : World) (hgr : Grown n₀ w d tb ad up kv) (hlk : LocksAt n₁ w lb tb ad L) (hn : n₁ ≤ w.heap.size) (hI : IntentsAt w) :
    Calls Tryd.prog 95 #[.pointer (some ⟨lb, 0, none⟩), lockVal ad x, .pointer (some ⟨ad i, 0, none⟩)] w fun e w' => e = .returned (.int .i64 (joinI (modeAtP d L x.session i) (needI x i))) ∧ Below w.heap.size w w' := by
  have hin : i ∈ idsOf d.nodes := upsOf_in G hx.2.1 i hi
  obtain ⟨W0, hW0⟩ : ∃ W0, W0 = w.alloc (.cells #[.int .i64 x.session, .int .i64 x.mode, .pointer (some ⟨ad x.node, 0, none⟩)] 71) := ⟨_, rfl⟩
  have hw0 : Below w.heap.size w W0 := by rw [hW0]; exact (Below.refl w.heap.size w).alloc (Nat.le_refl _) _
  have hs0 : W0.heap.size = w.heap.size + 1 := by rw [hW0]; simp
  have hh0 : W0.heap[w.heap.size]? = some (.cells #[.int .i64 x.session, .int .i64 x.mode, .pointer (some ⟨ad x.node, 0, none⟩)] 71 (0, 0)) := by
    rw [hW0]; exact alloc_new w _
  have y0 := cell_of_heap hh0 0
  have y1 := cell_of_heap hh0 1
  have y2 := cell_of_heap hh0 2
  simp only [List.getElem?_toArray, List.getElem?_cons_succ, List.getElem?_cons_zero] at y0 y1 y2
  have hz : w.heap.size < W0.heap.size := by omega
  have hzl : w.heap.size ≤ W0.heap.size := by omega
  have HMo : ModeP (modeAtP d L x.session i) := modeAtP_mode (fun x hx => (hL.mode x hx).modeP) _ i
  have HNm := needI_mode hx.modeP i
  have HMa : Hid (∀ t : Calm W0, Calls Tryd.prog 32 #[.pointer (some ⟨lb, 0, none⟩), .int .i64 x.session, .pointer (some ⟨ad i, 0, none⟩)] t.out fun e w' => e = .returned (.int .i64 (modeAtP d L x.session i)) ∧ Below t.out.heap.size t.out w') := fun t => by
    have hb := hw0.trans (t.below.mono hzl)
    exact modeAt_any d G n₀ w.heap.size lb tb ad up kv L hL x.session i hin t.out (hgr.below hb) ((hlk.below hn (hb.mono hn)).below (Nat.le_refl _) (Below.refl _ _)) hb.size (hI.below hb hI.lt)
  have HNd : Hid (∀ t : Calm W0, Calls Tryd.prog 56 #[lockVal ad x, .pointer (some ⟨ad i, 0, none⟩)] t.out fun e w' => e = .returned (.int .i64 (needI x i)) ∧ Below t.out.heap.size t.out w') := fun t => by
    have hb := hw0.trans (t.below.mono hzl)
    have := needs_any d G n₀ tb ad up kv x hx i hin t.out (hgr.below hb) (hI.below hb hI.lt)
    rwa [needI_part hi] at this
  have HJo : Hid (∀ t : Calm W0, Calls Tryd.prog 78 #[.int .i64 (modeAtP d L x.session i), .int .i64 (needI x i)] t.out fun e w' => e = .returned (.int .i64 (joinI (modeAtP d L x.session i) (needI x i))) ∧ w' = t.out) := fun t => implJoin_any _ _ HMo HNm t.out
  have HW0 := hide hw0
  have hcal := calm_cell W0
  clear hgr hlk hI hs0 hh0 hw0 HMo HNm
  generalize joinI (modeAtP d L x.session i) (needI x i) = z at *
  generalize modeAtP d L x.session i = m1 at *
  generalize needI x i = m2 at *
  go_enter Tryd.func95, Tryd.ntmps95
  go_wp2_with fail
  rw [← hW0]
  clear hW0
  refine wp_region_calm (by kernel_rfl) (by kernel_rfl) ?_
  repeat (go_big_quiet_step (first | (go_at_call 32; exact calm_of (HMa.out _)) | (go_at_call 56; exact calm_of (HNd.out _)) | (go_at_call 78; exact calm_of_same (HJo.out _))))
  refine wpQuiet_nil ?_
  rintro _ ⟨t, rfl⟩
  have ht := t.below
  go_wp2_with fail
  go_ret
  exact ⟨rfl, HW0.out.trans (ht.mono hzl)⟩

set_option maxHeartbeats 4000000 in
set_option maxRecDepth 100000 in
theorem standsAgainst_any (d : PDoc) (G : Good d) (n₀ n₁ lb tb : Nat) (ad : Int → Nat) (up : Int → Option Int) (kv : Int → Value) (L : List PHold) (hL : HoldsP d L) (x : PHold) (hx : HoldP d x) (o : Int) (w : World) (hgr : Grown n₀ w d tb ad up kv) (hlk : LocksAt n₁ w lb tb ad L) (hn : n₁ ≤ w.heap.size) (hF : FitsAt w) (hI : IntentsAt w) (r : Bool) (hr : r = true ↔ ClashP d L x o) :
    Calls Tryd.prog 71 #[.pointer (some ⟨lb, 0, none⟩), .int .i64 o, lockVal ad x] w fun e w' => e = .returned (.bool r) ∧ Below w.heap.size w w' := by
  obtain ⟨q, hq⟩ := G.dep hx.2.1
  have hpos : 0 ≤ x.node := by
    have := (show Left d x.node (upsOf d x.node) from .inl ⟨q, hq, upsOf_eq G hq⟩).pos G
    exact this
  have hne : x.node ≠ 0 := fun e => by
    have h1 := upsOf_self G hx.2.1
    have h2 : Left d x.node (upsOf d x.node) := .inl ⟨q, hq, upsOf_eq G hq⟩
    rw [e] at h1 h2
    rw [h2.done G] at h1
    cases h1
  obtain ⟨W0, hW0⟩ : ∃ W0, W0 = w.alloc (.cells #[.int .i64 x.session, .int .i64 x.mode, .pointer (some ⟨ad x.node, 0, none⟩)] 71) := ⟨_, rfl⟩
  have hw0 : Below w.heap.size w W0 := by rw [hW0]; exact (Below.refl w.heap.size w).alloc (Nat.le_refl _) _
  have hs0 : W0.heap.size = w.heap.size + 1 := by rw [hW0]; simp
  have hh0 : W0.heap[w.heap.size]? = some (.cells #[.int .i64 x.session, .int .i64 x.mode, .pointer (some ⟨ad x.node, 0, none⟩)] 71 (0, 0)) := by
    rw [hW0]; exact alloc_new w _
  have hzl : w.heap.size + 1 ≤ W0.heap.size := by omega
  have HOld : Hid (∀ wx, Below W0.heap.size W0 wx → Below w.heap.size w wx ∧ w.heap.size + 1 ≤ wx.heap.size) := fun wx hb => ⟨hw0.trans (hb.mono (by omega)), by have := hb.size; omega⟩
  have HB : Hid (∀ wx, Below W0.heap.size W0 wx → wx.cell? ⟨w.heap.size, 0, none⟩ = some (.int .i64 x.session) ∧ wx.cell? ⟨w.heap.size, 1, none⟩ = some (.int .i64 x.mode) ∧ wx.cell? ⟨w.heap.size, 2, none⟩ = some (.pointer (some ⟨ad x.node, 0, none⟩))) := fun wx hb => by
    have j0 := (hb.block w.heap.size (by omega)).trans hh0
    exact ⟨cell_of_heap j0 0, cell_of_heap j0 1, cell_of_heap j0 2⟩
  have HG := hide G
  have HIn2 : Hid (∀ a ∈ idsOf d.nodes, ∀ b ∈ idsOf d.nodes, ad a = ad b → a = b) := fun a ha b hb e => by
    obtain ⟨x, hx, rfl⟩ := node_of ha
    obtain ⟨y, hy, rfl⟩ := node_of hb
    exact hgr.hung.inj x hx y hy e
  have HUp : Hid (∀ c ∈ idsOf d.nodes, ∀ wx, Below W0.heap.size W0 wx → ad c < wx.heap.size ∧ wx.cell? ⟨ad c, 4, none⟩ = some (curPtr ad (parentOf d.nodes c))) := fun c hc wx hb => by
    obtain ⟨y, hy, rfl⟩ := node_of hc
    have hgx := hgr.below (HOld.out wx hb).1
    have hB2 := (hgx.tree G) y hy
    have e4 := hB2.c4
    rw [up_ptr hgx G] at e4
    exact ⟨hB2.lt, e4⟩
  have HWi : Hid (∀ c ∈ upsOf d x.node, ∀ wx, Below W0.heap.size W0 wx → Calls Tryd.prog 95 #[.pointer (some ⟨lb, 0, none⟩), lockVal ad x, .pointer (some ⟨ad c, 0, none⟩)] wx fun e w' => e = .returned (.int .i64 (joinI (modeAtP d L x.session c) (needI x c))) ∧ Below wx.heap.size wx w') := fun c hc wx hb => by
    have hb' := (HOld.out wx hb).1
    exact modeWith_any d G n₀ w.heap.size lb tb ad up kv L hL x hx c hc wx (hgr.below hb') ((hlk.below hn (hb'.mono hn)).below (Nat.le_refl _) (Below.refl _ _)) hb'.size (hI.below hb' hI.lt)
  have HMa : Hid (∀ c ∈ upsOf d x.node, ∀ wx, Below W0.heap.size W0 wx → Calls Tryd.prog 32 #[.pointer (some ⟨lb, 0, none⟩), .int .i64 o, .pointer (some ⟨ad c, 0, none⟩)] wx fun e w' => e = .returned (.int .i64 (modeAtP d L o c)) ∧ Below wx.heap.size wx w') := fun c hc wx hb => by
    have hb' := (HOld.out wx hb).1
    exact modeAt_any d G n₀ w.heap.size lb tb ad up kv L hL o c (upsOf_in G hx.2.1 c hc) wx (hgr.below hb') ((hlk.below hn (hb'.mono hn)).below (Nat.le_refl _) (Below.refl _ _)) hb'.size (hI.below hb' hI.lt)
  have HM1 : Hid (∀ c, ∃ m : Nat, m < 6 ∧ joinI (modeAtP d L x.session c) (needI x c) = m) := fun c => nat_modeN (joinI_mode (modeAtP_mode (fun x hx => (hL.mode x hx).modeP) _ _) (needI_mode hx.modeP c))
  have HM2 : Hid (∀ c, ∃ m : Nat, m < 6 ∧ modeAtP d L o c = m) := fun c => nat_modeN (modeAtP_mode (fun x hx => (hL.mode x hx).modeP) _ _)
  have HFx : Hid (∀ wx, Below W0.heap.size W0 wx → FitsAt wx ∧ 2 < wx.heap.size) := fun wx hb => by
    have h := hF.below (HOld.out wx hb).1 hF.lt
    exact ⟨h, h.lt⟩
  have HCd : Hid (∀ c, clashAt d L x o c = !fitsB (joinI (modeAtP d L x.session c) (needI x c)) (modeAtP d L o c)) := fun _ => rfl
  have HUi : Hid (∀ c ∈ upsOf d x.node, c ∈ idsOf d.nodes) := upsOf_in G hx.2.1
  have HLf : Hid (Left d x.node (upsOf d x.node)) := .inl ⟨q, hq, upsOf_eq G hq⟩
  have HRr : Hid (r = true ↔ ∃ i ∈ upsOf d x.node, clashAt d L x o i = true) := hr
  clear hr hgr hlk hI hF hs0 hh0 hw0 hx hL hq
  have hb00 : Below W0.heap.size W0 W0 := Below.refl _ _
  obtain ⟨y0, y1, y2⟩ := HB.out _ hb00
  have hz : w.heap.size < W0.heap.size := by omega
  go_enter Tryd.func71, Tryd.ntmps71
  go_wp2_with fail
  rw [← hW0]
  clear hW0
  go_wp2_with fail
  clear y0 y1 y2
  go_loopw [7] (fun pv wr => ∃ (cur : Int) (rest : List Int), pv = curPtr ad cur ∧ 0 ≤ cur ∧ Hid (Left d cur rest ∧ (∀ c ∈ rest, c ∈ upsOf d x.node) ∧ (r = true ↔ ∃ i ∈ rest, clashAt d L x o i = true)) ∧ Below W0.heap.size W0 wr) (fun pv _ => leftLen d ad pv)
  case atStart => exact ⟨x.node, upsOf d x.node, by rw [curPtr_some hne], hpos, ⟨HLf.out, fun _ h => h, HRr.out⟩, hb00⟩
  case round =>
    obtain ⟨cur, rest, rfl, hc0, hinv, hbr⟩ := hrel
    by_cases h0 : cur = 0
    · subst h0
      have HE : Hid (r = false) := no_of hinv.out.2.2 fun ⟨i, hi, _⟩ => by
        rw [hinv.out.1.done HG.out] at hi
        cases hi
      have hbw := (HOld.out _ hbr).1
      rw [curPtr_none]
      go_wp2_with fail
      go_ret
      exact ⟨ret_bool HE.out.symm, hbw⟩
    · obtain ⟨rest', hr1, hr2, hr3⟩ := hinv.out.1.next HG.out h0
      have hcu : cur ∈ upsOf d x.node := hinv.out.2.1 cur (by rw [hr1]; exact List.mem_cons_self)
      have HM : Hid (leftLen d ad (curPtr ad cur) = rest'.length + 1) := by rw [Hid, leftLen_eq HG.out HIn2.out hinv.out.1, hr1]; rfl
      have HMn : Hid (leftLen d ad (curPtr ad (parentOf d.nodes cur)) = rest'.length) := leftLen_eq HG.out HIn2.out hr2
      have HYes : Hid (clashAt d L x o cur = true → r = true) := fun h => hinv.out.2.2.2 ⟨cur, by rw [hr1]; exact List.mem_cons_self, h⟩
      have HNo : Hid (clashAt d L x o cur = false → Left d (parentOf d.nodes cur) rest' ∧ (∀ c ∈ rest', c ∈ upsOf d x.node) ∧ (r = true ↔ ∃ i ∈ rest', clashAt d L x o i = true)) := fun h => ⟨hr2, fun c hc => hinv.out.2.1 c (by rw [hr1]; exact List.mem_cons_of_mem _ hc), by
        rw [hinv.out.2.2, hr1]
        simp [h]⟩
      have hpos2 := hr2.pos HG.out
      obtain ⟨m1, hm1, hmm1⟩ := HM1.out cur
      obtain ⟨m2, hm2, hmm2⟩ := HM2.out cur
      have HCc : Hid (clashAt d L x o cur = !fitsB (m1 : Int) (m2 : Int)) := by rw [Hid, HCd.out, hmm1, hmm2]
      have hcal := calm_cell wr
      have HW1 : Hid (∀ t : Calm wr, Calls Tryd.prog 95 #[.pointer (some ⟨lb, 0, none⟩), lockVal ad x, .pointer (some ⟨ad cur, 0, none⟩)] t.out fun e w' => e = .returned (.int .i64 (m1 : Int)) ∧ Below t.out.heap.size t.out w') := fun t => by
        have := HWi.out cur hcu t.out (hbr.trans (t.below.mono hbr.size))
        rwa [hmm1] at this
      have HA1 : Hid (∀ t : Calm wr, Calls Tryd.prog 32 #[.pointer (some ⟨lb, 0, none⟩), .int .i64 o, .pointer (some ⟨ad cur, 0, none⟩)] t.out fun e w' => e = .returned (.int .i64 (m2 : Int)) ∧ Below t.out.heap.size t.out w') := fun t => by
        have := HMa.out cur hcu t.out (hbr.trans (t.below.mono hbr.size))
        rwa [hmm2] at this
      obtain ⟨hFa, hFl⟩ := HFx.out wr hbr
      have hfc := hFa m1 m2 hm1 hm2
      have HUpc := hide (HUp.out cur hr3)
      obtain ⟨y0, y1, y2⟩ := HB.out _ hbr
      have hzr : w.heap.size < wr.heap.size := (HOld.out _ hbr).2
      have hsr := hbr.size
      obtain ⟨pp, hpp⟩ : ∃ pp, curPtr ad (parentOf d.nodes cur) = .pointer pp := ⟨_, rfl⟩
      have HPP := hide hpp
      clear hr1 hr2 hr3 hcu hmm1 hmm2 hFa hpp
      generalize fitsB (m1 : Int) (m2 : Int) = f at *
      rw [curPtr_some h0] at HM ⊢
      cases f
      · have HE := hide (HYes.out HCc.out)
        go_wp2_with fail
        refine wp_region_calm (by kernel_rfl) (by kernel_rfl) ?_
        repeat (go_big_quiet_step (first | (go_at_call 95; exact calm_of (HW1.out _)) | (go_at_call 32; exact calm_of (HA1.out _))))
        refine wpQuiet_nil ?_
        rintro _ ⟨t, rfl⟩
        have ht := t.below
        go_wp2_with fail
        go_ret
        exact ⟨ret_bool HE.out.symm, (HOld.out _ (hbr.trans (ht.mono hsr))).1⟩
      · have HE := hide (HNo.out HCc.out)
        go_wp2_with fail
        refine wp_region_calm (by kernel_rfl) (by kernel_rfl) ?_
        repeat (go_big_quiet_step (first | (go_at_call 95; exact calm_of (HW1.out _)) | (go_at_call 32; exact calm_of (HA1.out _))))
        refine wpQuiet_nil ?_
        rintro _ ⟨t, rfl⟩
        have ht := t.below
        have hbt := hbr.trans (ht.mono hsr)
        obtain ⟨hyl, e4⟩ := HUpc.out _ hbt
        rw [HPP.out] at e4
        clear y0 y1 y2 hfc hcal
        go_wp2_with fail
        refine ⟨⟨_, rest', HPP.out.symm, hpos2, HE, hbt⟩, ?_⟩
        rw [← HPP.out, HM.out, HMn.out]; omega
end Go.Proofs.YtfjhpfgffbghdaaDoor
