/-
  Whether another session's locks clash with a lock, as the specification asks it.
-/
import Derived.Test.YtfjhpfgffbghdaaGreatDoorJoinF
import Derived.Test.YtfjhpfgffbghdaaGreatDoorJoinI
import Derived.Test.YtfjhpfgffbghdaaGreatDoorJoinC
namespace Go.Proofs.YtfjhpfgffbghdaaGreatDoor
open Go.RowKit

theorem specNeed_any (x : PHold) (i : Int) (w : World) :
    Calls Tryz.prog 99 #[holdVal x, .int .i64 i] w fun e w' => e = .returned (.int .i64 (needI x i)) ∧ Below w.heap.size w w' := by
  have hW := (Below.refl w.heap.size w).alloc (Nat.le_refl _) (.cells #[.int .i64 x.session, .int .i64 x.node, .int .i64 x.mode] 86)
  by_cases h : i = x.node
  · have HE : Hid (needI x i = x.mode) := if_pos h
    have h1 : (i == x.node) = true := by simp [h]
    clear h
    go_enter Tryz.func99, Tryz.ntmps99
    go_wp2_with fail
    go_ret
    exact ⟨ret_int HE.out.symm, hW⟩
  · have HE : Hid (needI x i = intentI x.mode) := if_neg h
    have h1 : (i == x.node) = false := by simp [h]
    clear h
    go_enter Tryz.func99, Tryz.ntmps99
    go_wp2_with (go_at_call 118; refine (specIntent_any _ _).mono ?_; rintro e w' ⟨rfl, rfl⟩)
    go_ret
    exact ⟨ret_int HE.out.symm, hW⟩

set_option maxHeartbeats 4000000 in
set_option maxRecDepth 100000 in
theorem specClash_any (n₀ : Nat) (d : PDoc) (s v : Value) (L : List PHold) (x : PHold) (o : Int) (w : World) (hN : NodesAt n₀ w s d.nodes) (hV : HoldsAt n₀ w v L) (hn : n₀ ≤ w.heap.size) (hl : d.nodes.length ≤ 1048576) (hkl : ∀ x ∈ d.nodes, x.kids.length ≤ 1048576) (G : Good d) (hL : HoldsP d L) (hx : HoldP d x) (r : Bool) (hr : r = true ↔ ClashP d L x o) :
    Calls Tryz.prog 96 #[.agg #[.int .i64 d.root, .int .i64 d.next, s], v, holdVal x, .int .i64 o] w fun e w' => e = .returned (.bool r) ∧ Below w.heap.size w w' := by
  obtain ⟨W0, hW0⟩ : ∃ W0, W0 = (w.alloc (.cells #[.int .i64 d.root, .int .i64 d.next, s] 38)).alloc (.cells #[.int .i64 x.session, .int .i64 x.node, .int .i64 x.mode] 86) := ⟨_, rfl⟩
  have hw0 : Below w.heap.size w W0 := by rw [hW0]; exact ((Below.refl w.heap.size w).alloc (Nat.le_refl _) _).alloc (by simp) _
  have hs0 : W0.heap.size = w.heap.size + 1 + 1 := by rw [hW0]; simp
  have hh0 : W0.heap[w.heap.size]? = some (.cells #[.int .i64 d.root, .int .i64 d.next, s] 38 (0, 0)) := by
    rw [hW0, Below.heap_alloc _ _ _ (by simp)]; exact alloc_new w _
  have hh1 : W0.heap[w.heap.size + 1]? = some (.cells #[.int .i64 x.session, .int .i64 x.node, .int .i64 x.mode] 86 (0, 0)) := by
    rw [hW0]
    have := alloc_new (w.alloc (.cells #[.int .i64 d.root, .int .i64 d.next, s] 38)) (.cells #[.int .i64 x.session, .int .i64 x.node, .int .i64 x.mode] 86)
    simpa using this
  have HOld : Hid (∀ wx, Below W0.heap.size W0 wx → Below w.heap.size w wx ∧ w.heap.size + 1 + 1 ≤ wx.heap.size) := fun wx hb => ⟨hw0.trans (hb.mono (by omega)), by have := hb.size; omega⟩
  have HB : Hid (∀ wx, Below W0.heap.size W0 wx → (wx.cell? ⟨w.heap.size, 0, none⟩ = some (.int .i64 d.root) ∧ wx.cell? ⟨w.heap.size, 1, none⟩ = some (.int .i64 d.next) ∧ wx.cell? ⟨w.heap.size, 2, none⟩ = some s) ∧ (wx.cell? ⟨w.heap.size + 1, 0, none⟩ = some (.int .i64 x.session) ∧ wx.cell? ⟨w.heap.size + 1, 1, none⟩ = some (.int .i64 x.node) ∧ wx.cell? ⟨w.heap.size + 1, 2, none⟩ = some (.int .i64 x.mode))) := fun wx hb => by
    have j0 := (hb.block w.heap.size (by omega)).trans hh0
    have j1 := (hb.block (w.heap.size + 1) (by omega)).trans hh1
    exact ⟨⟨cell_of_heap j0 0, cell_of_heap j0 1, cell_of_heap j0 2⟩, cell_of_heap j1 0, cell_of_heap j1 1, cell_of_heap j1 2⟩
  have HPa : Hid (Calls Tryz.prog 97 #[.agg #[.int .i64 d.root, .int .i64 d.next, s], .int .i64 x.node] W0 fun e w' => ∃ ua uc, e = .returned (.slice ua (upsOf d x.node).reverse.length uc) ∧ Hid (IntsAt w'.heap.size w' (.slice ua (upsOf d x.node).reverse.length uc) (upsOf d x.node).reverse) ∧ Below W0.heap.size W0 w') := by
    obtain ⟨q, hq⟩ := G.dep hx.2.1
    have h1 := specPath_any n₀ d G s x.node q hq W0 (hN.below (Nat.le_refl _) (hw0.mono hn)) (by omega) hl hkl
    rw [← upsOf_eq G hq] at h1
    exact h1.mono fun e w' ⟨u, he, hrow, hb'⟩ => by
      obtain ⟨ua, uc, rfl⟩ := row_shape hrow
      exact ⟨ua, uc, he, ints_of_row hrow, hb'⟩
  have hUl : (upsOf d x.node).reverse.length ≤ 1048576 := by rw [upsOf, List.reverse_reverse]; exact pathAns_len d x.node
  have HAt : Hid (∀ wx ss id, Below W0.heap.size W0 wx → Calls Tryz.prog 98 #[.agg #[.int .i64 d.root, .int .i64 d.next, s], v, .int .i64 ss, .int .i64 id] wx fun e w' => e = .returned (.int .i64 (modeAtP d L ss id)) ∧ Below wx.heap.size wx w') := fun wx ss id hb =>
    specAt07_any n₀ d s v L ss id wx (hN.below (Nat.le_refl _) ((HOld.out wx hb).1.mono hn)) (hV.below (Nat.le_refl _) ((HOld.out wx hb).1.mono hn)) (by have := (HOld.out wx hb).2; omega) hl hkl G hL
  have HMo : Hid (∀ ss id, ModeP (modeAtP d L ss id)) := fun ss id => modeAtP_mode (fun x hx => (hL.mode x hx).modeP) ss id
  have HRr : Hid (r = true ↔ ∃ i ∈ (upsOf d x.node).reverse, clashAt d L x o i = true) := by
    rw [Hid, hr]
    exact ⟨fun ⟨i, h1, h2⟩ => ⟨i, List.mem_reverse.2 h1, h2⟩, fun ⟨i, h1, h2⟩ => ⟨i, List.mem_reverse.1 h1, h2⟩⟩
  have hxm := hx.modeP
  obtain ⟨a, cap, rfl⟩ := hV.form
  obtain ⟨sa, sc, rfl, -⟩ := hN
  obtain ⟨⟨x0, x1, x2⟩, y0, y1, y2⟩ := HB.out W0 (Below.refl _ _)
  have hz0 : w.heap.size < W0.heap.size := by omega
  have hz01 : w.heap.size + 1 < W0.heap.size := by omega
  clear hr hkl hV G hw0 hs0 hh0 hh1 hx hL
  generalize (upsOf d x.node).reverse = us at *
  go_enter Tryz.func96, Tryz.ntmps96
  go_wp2_with fail
  rw [← hW0]
  clear hW0
  refine HPa.out.mono ?_
  rintro e w1 ⟨ua, uc, rfl, hu, hb1⟩
  have hs1 := hb1.size
  obtain ⟨nu, hnu⟩ : ∃ nu, nu = us.length := ⟨_, rfl⟩
  rw [← hnu] at hu hUl ⊢
  have HNu := hide hnu
  have HCell : Hid (∀ k, k < nu → ∃ b o, ua = some ⟨b, o, none⟩ ∧ b < w1.heap.size ∧ w1.cell? ⟨b, o + k, none⟩ = some (.int .i64 (us[k]?.getD 0))) := fun k hk' => by
    obtain ⟨a', c', e', h'⟩ := hu.out
    simp only [Value.slice.injEq] at e'
    obtain ⟨rfl, _, rfl⟩ := e'
    obtain ⟨b, o, rfl, h1, h2⟩ := h'.resolve_left (by intro e0; rw [e0] at hnu; simp at hnu; omega)
    exact ⟨b, o, rfl, h1, h2 k (by omega)⟩
  have HOl1 : Hid (∀ wx, Below w1.heap.size w1 wx → Below W0.heap.size W0 wx) := fun wx hb => hb1.trans (hb.mono hs1)
  clear hnu hu HPa x0 x1 x2 y0 y1 y2
  go_wp2_with fail
  go_loopw [10] (fun i wr => ∃ k : Nat, k ≤ nu ∧ i = .int .i64 k ∧ Hid (∀ j, j < k → clashAt d L x o (us[j]?.getD 0) = false) ∧ Below w1.heap.size w1 wr) (fun i _ => nu - (intOf i).toNat)
  case atStart => exact ⟨0, Nat.zero_le _, rfl, fun j hj => absurd hj (by omega), Below.refl _ _⟩
  case round =>
    obtain ⟨k, hkn, rfl, hall, hbr⟩ := hrel
    have hbr0 := HOl1.out _ hbr
    obtain ⟨⟨x0, x1, x2⟩, y0, y1, y2⟩ := HB.out _ hbr0
    obtain ⟨hbw, hsz⟩ := HOld.out _ hbr0
    have hz : w.heap.size < wr.heap.size := by omega
    have hzz : w.heap.size + 1 < wr.heap.size := by omega
    by_cases hltk : k < nu
    · have hltk1 : (k : Int) < (nu : Int) := by omega
      obtain ⟨bs, os, hua, hbs, hcb⟩ := HCell.out k hltk
      have ycb := (hbr.cell (p := ⟨bs, os + k, none⟩) hbs).trans hcb
      have hbsz : bs < wr.heap.size := by have := hbr.size; omega
      subst hua
      have HYes : Hid (clashAt d L x o (us[k]?.getD 0) = true → r = true) := fun h => HRr.out.2 ⟨_, by rw [List.getElem?_eq_getElem (by have := HNu.out; omega), Option.getD_some]; exact List.getElem_mem _, h⟩
      have HNo : Hid (clashAt d L x o (us[k]?.getD 0) = false → ∀ j, j < k + 1 → clashAt d L x o (us[j]?.getD 0) = false) := fun h j hj => by
        by_cases e : j = k
        · subst e; exact h
        · exact hall.out j (by omega)
      have HCd : Hid (clashAt d L x o (us[k]?.getD 0) = !fitsB (joinI (modeAtP d L x.session (us[k]?.getD 0)) (needI x (us[k]?.getD 0))) (modeAtP d L o (us[k]?.getD 0))) := rfl
      clear hcb
      generalize us[k]?.getD 0 = y at *
      have hcal := calm_cell wr
      have HA1 : Hid (∀ (t : Calm wr) ss' y', Calls Tryz.prog 98 #[.agg #[.int .i64 d.root, .int .i64 d.next, .slice sa d.nodes.length sc], .slice a L.length cap, .int .i64 ss', .int .i64 y'] t.out fun e w' => e = .returned (.int .i64 (modeAtP d L ss' y')) ∧ Below t.out.heap.size t.out w') := fun t ss' y' =>
        HAt.out t.out ss' y' (hbr0.trans (t.below.mono hbr0.size))
      have HNd : Hid (∀ (t : Calm wr), Calls Tryz.prog 99 #[holdVal x, .int .i64 y] t.out fun e w' => e = .returned (.int .i64 (needI x y)) ∧ Below t.out.heap.size t.out w') := fun t => specNeed_any x y t.out
      have HJo : Hid (∀ (t : Calm wr), Calls Tryz.prog 84 #[.int .i64 (modeAtP d L x.session y), .int .i64 (needI x y)] t.out fun e w' => e = .returned (.int .i64 (joinI (modeAtP d L x.session y) (needI x y))) ∧ w' = t.out) := fun t => specJoin_any _ _ t.out
      have hmj := joinI_mode (HMo.out x.session y) (needI_mode hxm y)
      go_wp2_with fail
      go_cut [11] (fun v11 wc => v11 = .int .i64 (joinI (modeAtP d L x.session y) (needI x y)) ∧ Below wr.heap.size wr wc)
      case first =>
        refine wp_region_calm (by kernel_rfl) (by kernel_rfl) ?_
        repeat (go_big_quiet_step (first | (go_at_call 98; exact calm_of (HA1.out _ _ _)) | (go_at_call 99; exact calm_of (HNd.out _)) | (go_at_call 84; exact calm_of_same (HJo.out _))))
        refine wpQuiet_nil ?_
        rintro _ ⟨t, rfl⟩
        have ht := t.below
        go_wp2_with fail
        go_meet
        exact ⟨rfl, ht⟩
      case rest =>
        obtain ⟨rfl, hbc⟩ := hcut
        have hbc1 := hbr.trans (hbc.mono hbr.size)
        have hbc0 := HOl1.out _ hbc1
        clear x0 x1 x2 y0 y1 y2 hcal HA1 HNd HJo
        obtain ⟨⟨x0, x1, x2⟩, -, -, -⟩ := HB.out _ hbc0
        have ycc := (hbc.cell (p := ⟨bs, os + k, none⟩) hbsz).trans ycb
        have hsc := hbc.size
        have hzc : w.heap.size < wc.heap.size := by omega
        have hbsc : bs < wc.heap.size := by omega
        clear ycb
        have hcal := calm_cell wc
        have HA1 : Hid (∀ (t : Calm wc) ss' y', Calls Tryz.prog 98 #[.agg #[.int .i64 d.root, .int .i64 d.next, .slice sa d.nodes.length sc], .slice a L.length cap, .int .i64 ss', .int .i64 y'] t.out fun e w' => e = .returned (.int .i64 (modeAtP d L ss' y')) ∧ Below t.out.heap.size t.out w') := fun t ss' y' =>
          HAt.out t.out ss' y' (hbc0.trans (t.below.mono hbc0.size))
        have HFi : Hid (∀ t : Calm wc, Calls Tryz.prog 100 #[.int .i64 (joinI (modeAtP d L x.session y) (needI x y)), .int .i64 (modeAtP d L o y)] t.out fun e w' => e = .returned (.bool (fitsB (joinI (modeAtP d L x.session y) (needI x y)) (modeAtP d L o y))) ∧ w' = t.out) := fun t => specFits_any _ _ hmj (HMo.out o y) t.out
        generalize clashAt d L x o y = cl at *
        generalize fitsB (joinI (modeAtP d L x.session y) (needI x y)) (modeAtP d L o y) = f at *
        generalize joinI (modeAtP d L x.session y) (needI x y) = mj at *
        have hcd := HCd.out
        subst hcd
        clear HCd
        cases f
        · have HE := hide (HYes.out rfl)
          go_wp2_with fail
          refine wp_region_calm (by kernel_rfl) (by kernel_rfl) ?_
          repeat (go_big_quiet_step (first | (go_at_call 98; exact calm_of (HA1.out _ _ _)) | (go_at_call 100; exact calm_of_same (HFi.out _))))
          refine wpQuiet_nil ?_
          rintro _ ⟨t, rfl⟩
          have ht := t.below
          go_wp2_with fail
          go_ret
          exact ⟨ret_bool HE.out.symm, (HOld.out _ hbc0).1.trans (ht.mono (by omega))⟩
        · have HE := hide (HNo.out rfl)
          go_wp2_with fail
          refine wp_region_calm (by kernel_rfl) (by kernel_rfl) ?_
          repeat (go_big_quiet_step (first | (go_at_call 98; exact calm_of (HA1.out _ _ _)) | (go_at_call 100; exact calm_of_same (HFi.out _))))
          refine wpQuiet_nil ?_
          rintro _ ⟨t, rfl⟩
          have ht := t.below
          go_wp2_with fail
          exact ⟨⟨k + 1, by omega, by go_num, HE.out, hbc1.trans (ht.mono hbc1.size)⟩, by simp [intOf]; omega⟩
    · have hltk1 : ¬ (k : Int) < (nu : Int) := by omega
      have HE : Hid (r = false) := no_of HRr.out fun ⟨i, hi, hc⟩ => by
        obtain ⟨j, hj, rfl⟩ := List.getElem_of_mem hi
        have := hall.out j (by have := HNu.out; omega)
        rw [List.getElem?_eq_getElem hj, Option.getD_some, hc] at this
        cases this
      go_wp2_with fail
      go_ret
      exact ⟨ret_bool HE.out.symm, hbw⟩
end Go.Proofs.YtfjhpfgffbghdaaGreatDoor
