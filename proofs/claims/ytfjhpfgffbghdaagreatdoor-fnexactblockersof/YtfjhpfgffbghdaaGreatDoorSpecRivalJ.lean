/-
  Whether two waits rival each other, as the specification asks it: node by node, down from the root, while the paths are the same.
-/
import Derived.Test.YtfjhpfgffbghdaaGreatDoorJoinF
import Derived.Test.YtfjhpfgffbghdaaGreatDoorSpecClashJ
namespace Go.Proofs.YtfjhpfgffbghdaaGreatDoor
open Go.RowKit

set_option maxHeartbeats 4000000 in
set_option maxRecDepth 100000 in
theorem specRival_any (n₀ : Nat) (d : PDoc) (s v v' : Value) (L : List PHold) (x y : PHold) (w : World) (hN : NodesAt n₀ w s d.nodes) (hV : HoldsAt n₀ w v L) (hn : n₀ ≤ w.heap.size) (hl : d.nodes.length ≤ 1048576) (hkl : ∀ x ∈ d.nodes, x.kids.length ≤ 1048576) (G : Good d) (hL : HoldsP d L) (hx : HoldP d x) (hy : HoldP d y) (r : Bool) (hr : r = true ↔ RivalP d L x y) :
    Calls Tryz.prog 70 #[.agg #[.int .i64 d.root, .int .i64 d.next, s], .agg #[v, v'], holdVal x, holdVal y] w fun e w' => e = .returned (.bool r) ∧ Below w.heap.size w w' := by
  obtain ⟨W0, hW0⟩ : ∃ W0, W0 = (((w.alloc (.cells #[.int .i64 d.root, .int .i64 d.next, s] 38)).alloc (.cells #[v, v'] 32)).alloc (.cells #[.int .i64 x.session, .int .i64 x.node, .int .i64 x.mode] 86)).alloc (.cells #[.int .i64 y.session, .int .i64 y.node, .int .i64 y.mode] 86) := ⟨_, rfl⟩
  have hw0 : Below w.heap.size w W0 := by rw [hW0]; exact ((((Below.refl w.heap.size w).alloc (Nat.le_refl _) _).alloc (by simp) _).alloc (by simp [Nat.add_assoc]) _).alloc (by simp [Nat.add_assoc]) _
  have hs0 : W0.heap.size = w.heap.size + 1 + 1 + 1 + 1 := by rw [hW0]; simp
  have hh0 : W0.heap[w.heap.size]? = some (.cells #[.int .i64 d.root, .int .i64 d.next, s] 38 (0, 0)) := by
    rw [hW0, Below.heap_alloc _ _ _ (by simp <;> omega), Below.heap_alloc _ _ _ (by simp <;> omega), Below.heap_alloc _ _ _ (by simp)]; exact alloc_new w _
  have hh1 : W0.heap[w.heap.size + 1]? = some (.cells #[v, v'] 32 (0, 0)) := by
    rw [hW0, Below.heap_alloc _ _ _ (by simp <;> omega), Below.heap_alloc _ _ _ (by simp)]
    have := alloc_new (w.alloc (.cells #[.int .i64 d.root, .int .i64 d.next, s] 38)) (.cells #[v, v'] 32)
    simpa using this
  have hh2 : W0.heap[w.heap.size + 1 + 1]? = some (.cells #[.int .i64 x.session, .int .i64 x.node, .int .i64 x.mode] 86 (0, 0)) := by
    rw [hW0, Below.heap_alloc _ _ _ (by simp)]
    have := alloc_new ((w.alloc (.cells #[.int .i64 d.root, .int .i64 d.next, s] 38)).alloc (.cells #[v, v'] 32)) (.cells #[.int .i64 x.session, .int .i64 x.node, .int .i64 x.mode] 86)
    simpa using this
  have hh3 : W0.heap[w.heap.size + 1 + 1 + 1]? = some (.cells #[.int .i64 y.session, .int .i64 y.node, .int .i64 y.mode] 86 (0, 0)) := by
    rw [hW0]
    have := alloc_new (((w.alloc (.cells #[.int .i64 d.root, .int .i64 d.next, s] 38)).alloc (.cells #[v, v'] 32)).alloc (.cells #[.int .i64 x.session, .int .i64 x.node, .int .i64 x.mode] 86)) (.cells #[.int .i64 y.session, .int .i64 y.node, .int .i64 y.mode] 86)
    simpa using this
  have HOld : Hid (∀ wx, Below W0.heap.size W0 wx → Below w.heap.size w wx ∧ w.heap.size + 1 + 1 + 1 + 1 ≤ wx.heap.size) := fun wx hb => ⟨hw0.trans (hb.mono (by omega)), by have := hb.size; omega⟩
  have HB : Hid (∀ wx, Below W0.heap.size W0 wx → (wx.cell? ⟨w.heap.size, 0, none⟩ = some (.int .i64 d.root) ∧ wx.cell? ⟨w.heap.size, 1, none⟩ = some (.int .i64 d.next) ∧ wx.cell? ⟨w.heap.size, 2, none⟩ = some s) ∧ (wx.cell? ⟨w.heap.size + 1, 0, none⟩ = some v ∧ wx.cell? ⟨w.heap.size + 1, 1, none⟩ = some v') ∧ (wx.cell? ⟨w.heap.size + 1 + 1, 0, none⟩ = some (.int .i64 x.session) ∧ wx.cell? ⟨w.heap.size + 1 + 1, 1, none⟩ = some (.int .i64 x.node) ∧ wx.cell? ⟨w.heap.size + 1 + 1, 2, none⟩ = some (.int .i64 x.mode)) ∧ (wx.cell? ⟨w.heap.size + 1 + 1 + 1, 0, none⟩ = some (.int .i64 y.session) ∧ wx.cell? ⟨w.heap.size + 1 + 1 + 1, 1, none⟩ = some (.int .i64 y.node) ∧ wx.cell? ⟨w.heap.size + 1 + 1 + 1, 2, none⟩ = some (.int .i64 y.mode))) := fun wx hb => by
    have j0 := (hb.block w.heap.size (by omega)).trans hh0
    have j1 := (hb.block (w.heap.size + 1) (by omega)).trans hh1
    have j2 := (hb.block (w.heap.size + 1 + 1) (by omega)).trans hh2
    have j3 := (hb.block (w.heap.size + 1 + 1 + 1) (by omega)).trans hh3
    exact ⟨⟨cell_of_heap j0 0, cell_of_heap j0 1, cell_of_heap j0 2⟩, ⟨cell_of_heap j1 0, cell_of_heap j1 1⟩, ⟨cell_of_heap j2 0, cell_of_heap j2 1, cell_of_heap j2 2⟩, cell_of_heap j3 0, cell_of_heap j3 1, cell_of_heap j3 2⟩
  have HPath : Hid (∀ z, HoldP d z → ∀ wx, Below W0.heap.size W0 wx → Calls Tryz.prog 97 #[.agg #[.int .i64 d.root, .int .i64 d.next, s], .int .i64 z.node] wx fun e w' => ∃ ua uc, e = .returned (.slice ua (upsOf d z.node).reverse.length uc) ∧ Hid (IntsAt w'.heap.size w' (.slice ua (upsOf d z.node).reverse.length uc) (upsOf d z.node).reverse) ∧ Below wx.heap.size wx w') := fun z hz wx hb => by
    obtain ⟨q, hq⟩ := G.dep hz.2.1
    have h1 := specPath_any n₀ d G s z.node q hq wx (hN.below (Nat.le_refl _) ((HOld.out wx hb).1.mono hn)) (by have := (HOld.out wx hb).2; omega) hl hkl
    rw [← upsOf_eq G hq] at h1
    exact h1.mono fun e w' ⟨u, he, hrow, hb'⟩ => by
      obtain ⟨ua, uc, rfl⟩ := row_shape hrow
      exact ⟨ua, uc, he, ints_of_row hrow, hb'⟩
  have HPa := hide (HPath.out x hx W0 (Below.refl _ _))
  have HPb := hide (HPath.out y hy)
  have hUl : (upsOf d x.node).reverse.length ≤ 1048576 := by rw [upsOf, List.reverse_reverse]; exact pathAns_len d x.node
  have hVl : (upsOf d y.node).reverse.length ≤ 1048576 := by rw [upsOf, List.reverse_reverse]; exact pathAns_len d y.node
  have HAt : Hid (∀ wx ss id, Below W0.heap.size W0 wx → Calls Tryz.prog 98 #[.agg #[.int .i64 d.root, .int .i64 d.next, s], v, .int .i64 ss, .int .i64 id] wx fun e w' => e = .returned (.int .i64 (modeAtP d L ss id)) ∧ Below wx.heap.size wx w') := fun wx ss id hb =>
    specAt07_any n₀ d s v L ss id wx (hN.below (Nat.le_refl _) ((HOld.out wx hb).1.mono hn)) (hV.below (Nat.le_refl _) ((HOld.out wx hb).1.mono hn)) (by have := (HOld.out wx hb).2; omega) hl hkl G hL
  have HMo : Hid (∀ ss id, ModeP (modeAtP d L ss id)) := fun ss id => modeAtP_mode (fun x hx => (hL.mode x hx).modeP) ss id
  have HYes : Hid (∀ k, k < (upsOf d x.node).reverse.length → k < (upsOf d y.node).reverse.length → (upsOf d x.node).reverse[k]?.getD 0 = (upsOf d y.node).reverse[k]?.getD 0 → rivalAt d L x y ((upsOf d x.node).reverse[k]?.getD 0) = true → r = true) := fun k h1 h2 h3 h4 =>
    hr.2 ⟨_, ups_mem_at h1, by rw [h3]; exact ups_mem_at h2, h4⟩
  have HEnd : Hid (∀ k, (∀ j, j < k → rivalAt d L x y ((upsOf d x.node).reverse[j]?.getD 0) = false) → (k < (upsOf d x.node).reverse.length → k < (upsOf d y.node).reverse.length → (upsOf d x.node).reverse[k]?.getD 0 ≠ (upsOf d y.node).reverse[k]?.getD 0) → r = false) := fun k h1 h2 => no_of hr fun ⟨i, hi1, hi2, hi3⟩ => by
    obtain ⟨m, m1, m2, m3, m4⟩ := common_place G hx.2.1 hy.2.1 hi1 hi2
    by_cases h : m < k
    · have := h1 m h
      rw [m3, hi3] at this
      cases this
    · exact h2 (by omega) (by omega) (m4 k (by omega))
  have hxm := hx.modeP
  have hym := hy.modeP
  have HVf := hide hV.form
  obtain ⟨sa, sc, rfl, -⟩ := hN
  have hb00 : Below W0.heap.size W0 W0 := Below.refl _ _
  obtain ⟨⟨x0, x1, x2⟩, ⟨y0, y1⟩, ⟨z0, z1, z2⟩, u0, u1, u2⟩ := HB.out W0 hb00
  have hz0 : w.heap.size < W0.heap.size := by omega
  have hz1 : w.heap.size + 1 < W0.heap.size := by omega
  have hz2 : w.heap.size + 1 + 1 < W0.heap.size := by omega
  have hz3 : w.heap.size + 1 + 1 + 1 < W0.heap.size := by omega
  clear hr hkl hV G hw0 hs0 hh0 hh1 hh2 hh3 hx hy hL HPath
  generalize (upsOf d x.node).reverse = us at *
  generalize (upsOf d y.node).reverse = vs at *
  go_enter Tryz.func70, Tryz.ntmps70
  go_wp2_with fail
  rw [← hW0]
  clear hW0
  go_wp2_with fail
  refine HPa.out.mono ?_
  rintro e w1 ⟨ua, uc, rfl, hu, hb1⟩
  have hs1 := hb1.size
  clear x0 x1 x2 y0 y1 z0 z1 z2 u0 u1 u2
  obtain ⟨⟨x0, x1, x2⟩, -, -, u0, u1, u2⟩ := HB.out w1 hb1
  have hz10 : w.heap.size < w1.heap.size := by omega
  have hz13 : w.heap.size + 1 + 1 + 1 < w1.heap.size := by omega
  go_wp2_with fail
  refine (HPb.out w1 hb1).mono ?_
  rintro e w2 ⟨va, vc, rfl, hv, hb2⟩
  have hs2 := hb2.size
  obtain ⟨nu, hnu⟩ : ∃ nu, nu = us.length := ⟨_, rfl⟩
  obtain ⟨nv, hnv⟩ : ∃ nv, nv = vs.length := ⟨_, rfl⟩
  rw [← hnu] at hu hUl HYes HEnd ⊢
  rw [← hnv] at hv hVl HYes HEnd ⊢
  have HCu : Hid (∀ k, k < nu → ∃ b o, ua = some ⟨b, o, none⟩ ∧ b < w2.heap.size ∧ w2.cell? ⟨b, o + k, none⟩ = some (.int .i64 (us[k]?.getD 0))) := fun k hk' => by
    obtain ⟨a', c', e', h'⟩ := hu.out
    simp only [Value.slice.injEq] at e'
    obtain ⟨rfl, _, rfl⟩ := e'
    obtain ⟨b, o, rfl, h1, h2⟩ := h'.resolve_left (by intro e0; rw [e0] at hnu; simp at hnu; omega)
    exact ⟨b, o, rfl, by omega, (hb2.cell (p := ⟨b, o + k, none⟩) h1).trans (h2 k (by omega))⟩
  have HCv : Hid (∀ k, k < nv → ∃ b o, va = some ⟨b, o, none⟩ ∧ b < w2.heap.size ∧ w2.cell? ⟨b, o + k, none⟩ = some (.int .i64 (vs[k]?.getD 0))) := fun k hk' => by
    obtain ⟨a', c', e', h'⟩ := hv.out
    simp only [Value.slice.injEq] at e'
    obtain ⟨rfl, _, rfl⟩ := e'
    obtain ⟨b, o, rfl, h1, h2⟩ := h'.resolve_left (by intro e0; rw [e0] at hnv; simp at hnv; omega)
    exact ⟨b, o, rfl, h1, h2 k (by omega)⟩
  have HOl2 : Hid (∀ wx, Below w2.heap.size w2 wx → Below W0.heap.size W0 wx) := fun wx hb => hb1.trans ((hb2.mono hs1).trans (hb.mono (by omega)))
  clear hnu hnv hu hv HPa HPb x0 x1 x2 u0 u1 u2
  go_wp2_with fail
  go_loopw [11] (fun i wr => ∃ k : Nat, k ≤ nu ∧ i = .int .i64 k ∧ Hid (∀ j, j < k → rivalAt d L x y (us[j]?.getD 0) = false) ∧ Below w2.heap.size w2 wr) (fun i _ => nu - (intOf i).toNat)
  case atStart => exact ⟨0, Nat.zero_le _, rfl, fun j hj => absurd hj (by omega), Below.refl _ _⟩
  case round =>
    obtain ⟨k, hkn, rfl, hall, hbr⟩ := hrel
    have hbr0 := HOl2.out _ hbr
    have hsr := hbr.size
    have hfe := hide (HEnd.out k hall.out)
    have hbw := (HOld.out _ hbr0).1
    by_cases h1 : k < nu
    · have h1' : (k : Int) < (nu : Int) := by omega
      by_cases h2 : k < nv
      · have h2' : (k : Int) < (nv : Int) := by omega
        obtain ⟨b1, o1, hua, hb1', hc1⟩ := HCu.out k h1
        obtain ⟨b2, o2, hva, hb2', hc2⟩ := HCv.out k h2
        have yc1 := (hbr.cell (p := ⟨b1, o1 + k, none⟩) hb1').trans hc1
        have yc2 := (hbr.cell (p := ⟨b2, o2 + k, none⟩) hb2').trans hc2
        have hbz1 : b1 < wr.heap.size := by omega
        have hbz2 : b2 < wr.heap.size := by omega
        have HY1 := hide (HYes.out k h1 h2)
        have HNo : Hid (rivalAt d L x y (us[k]?.getD 0) = false → ∀ j, j < k + 1 → rivalAt d L x y (us[j]?.getD 0) = false) := fun h j hj => by
          by_cases e : j = k
          · subst e; exact h
          · exact hall.out j (by omega)
        have HCd : Hid (rivalAt d L x y (us[k]?.getD 0) = !fitsB (joinI (modeAtP d L x.session (us[k]?.getD 0)) (needI x (us[k]?.getD 0))) (joinI (modeAtP d L y.session (us[k]?.getD 0)) (needI y (us[k]?.getD 0)))) := rfl
        clear hc1 hc2 HYes HEnd hall
        subst hua hva
        generalize us[k]?.getD 0 = i at *
        generalize vs[k]?.getD 0 = q at *
        by_cases h3 : i = q
        · have hiq : (i == q) = true := by simp [h3]
          have HY2 := hide (HY1.out h3)
          clear h3 hfe HY1
          have hcal := calm_cell wr
          go_wp2_with fail
          refine wp_region_calm (by kernel_rfl) (by kernel_rfl) ?_
          repeat (go_big_quiet_step (fail))
          refine wpQuiet_nil ?_
          rintro _ ⟨t, rfl⟩
          have ht := t.below
          go_wp2_with fail
          have hbt := hbr.trans (ht.mono hsr)
          have hbt0 := HOl2.out _ hbt
          have hszt := ht.size
          have yct := (ht.cell (p := ⟨b1, o1 + k, none⟩) hbz1).trans yc1
          have hbzt : b1 < t.out.heap.size := by omega
          clear yc1 yc2 hcal
          obtain ⟨wt, hwt⟩ : ∃ wt, wt = t.out := ⟨_, rfl⟩
          rw [← hwt] at hbt hbt0 hszt yct hbzt ht ⊢
          clear hwt
          obtain ⟨⟨x0, x1, x2⟩, ⟨y0, y1⟩, ⟨z0, z1, z2⟩, u0, u1, u2⟩ := HB.out _ hbt0
          have hszc := (HOld.out _ hbt0).2
          have hq0 : w.heap.size < wt.heap.size := by omega
          have hq1 : w.heap.size + 1 < wt.heap.size := by omega
          have hq2 : w.heap.size + 1 + 1 < wt.heap.size := by omega
          have hq3 : w.heap.size + 1 + 1 + 1 < wt.heap.size := by omega
          have hmj := joinI_mode (HMo.out x.session i) (needI_mode hxm i)
          have hmk := joinI_mode (HMo.out y.session i) (needI_mode hym i)
          go_cut [12] (fun v12 we => v12 = .int .i64 (joinI (modeAtP d L x.session i) (needI x i)) ∧ Below wt.heap.size wt we)
          case first =>
            have hcal := calm_cell wt
            have HA1 : Hid (∀ (t : Calm wt) ss' y', Calls Tryz.prog 98 #[.agg #[.int .i64 d.root, .int .i64 d.next, .slice sa d.nodes.length sc], v, .int .i64 ss', .int .i64 y'] t.out fun e w' => e = .returned (.int .i64 (modeAtP d L ss' y')) ∧ Below t.out.heap.size t.out w') := fun t ss' y' =>
              HAt.out t.out ss' y' (hbt0.trans (t.below.mono hbt0.size))
            have HNd : Hid (∀ (t : Calm wt), Calls Tryz.prog 99 #[holdVal x, .int .i64 i] t.out fun e w' => e = .returned (.int .i64 (needI x i)) ∧ Below t.out.heap.size t.out w') := fun t => specNeed_any x i t.out
            have HJo : Hid (∀ (t : Calm wt), Calls Tryz.prog 84 #[.int .i64 (modeAtP d L x.session i), .int .i64 (needI x i)] t.out fun e w' => e = .returned (.int .i64 (joinI (modeAtP d L x.session i) (needI x i))) ∧ w' = t.out) := fun t => specJoin_any _ _ t.out
            refine wp_region_calm (by kernel_rfl) (by kernel_rfl) ?_
            repeat (go_big_quiet_step (first | (go_at_call 98; exact calm_of (HA1.out _ _ _)) | (go_at_call 99; exact calm_of (HNd.out _)) | (go_at_call 84; exact calm_of_same (HJo.out _))))
            refine wpQuiet_nil ?_
            rintro _ ⟨t, rfl⟩
            have ht := t.below
            go_wp2_with fail
            go_meet
            exact ⟨rfl, ht⟩
          case rest =>
            obtain ⟨we, rfl⟩ : ∃ y, y = wc := ⟨_, rfl⟩
            obtain ⟨rfl, hbe⟩ := hcut
            have hbe2 := hbt.trans (hbe.mono hbt.size)
            have hbe0 := HOl2.out _ hbe2
            have hsze := hbe.size
            have yce := (hbe.cell (p := ⟨b1, o1 + k, none⟩) hbzt).trans yct
            have hbze : b1 < we.heap.size := by omega
            clear x0 x1 x2 y0 y1 z0 z1 z2 u0 u1 u2 yct
            obtain ⟨⟨x0, x1, x2⟩, ⟨y0, y1⟩, ⟨z0, z1, z2⟩, u0, u1, u2⟩ := HB.out _ hbe0
            have hr0 : w.heap.size < we.heap.size := by omega
            have hr1 : w.heap.size + 1 < we.heap.size := by omega
            have hr2 : w.heap.size + 1 + 1 < we.heap.size := by omega
            have hr3 : w.heap.size + 1 + 1 + 1 < we.heap.size := by omega
            go_wp2_with fail
            go_cut [13] (fun v13 wf => v13 = .int .i64 (joinI (modeAtP d L y.session i) (needI y i)) ∧ Below we.heap.size we wf)
            case first =>
              have hcal := calm_cell we
              have HA1 : Hid (∀ (t : Calm we) ss' y', Calls Tryz.prog 98 #[.agg #[.int .i64 d.root, .int .i64 d.next, .slice sa d.nodes.length sc], v, .int .i64 ss', .int .i64 y'] t.out fun e w' => e = .returned (.int .i64 (modeAtP d L ss' y')) ∧ Below t.out.heap.size t.out w') := fun t ss' y' =>
                HAt.out t.out ss' y' (hbe0.trans (t.below.mono hbe0.size))
              have HNd : Hid (∀ (t : Calm we), Calls Tryz.prog 99 #[holdVal y, .int .i64 i] t.out fun e w' => e = .returned (.int .i64 (needI y i)) ∧ Below t.out.heap.size t.out w') := fun t => specNeed_any y i t.out
              have HJo : Hid (∀ (t : Calm we), Calls Tryz.prog 84 #[.int .i64 (modeAtP d L y.session i), .int .i64 (needI y i)] t.out fun e w' => e = .returned (.int .i64 (joinI (modeAtP d L y.session i) (needI y i))) ∧ w' = t.out) := fun t => specJoin_any _ _ t.out
              refine wp_region_calm (by kernel_rfl) (by kernel_rfl) ?_
              repeat (go_big_quiet_step (first | (go_at_call 98; exact calm_of (HA1.out _ _ _)) | (go_at_call 99; exact calm_of (HNd.out _)) | (go_at_call 84; exact calm_of_same (HJo.out _))))
              refine wpQuiet_nil ?_
              rintro _ ⟨t, rfl⟩
              have ht := t.below
              go_wp2_with fail
              go_meet
              exact ⟨rfl, ht⟩
            case rest =>
              obtain ⟨wf, rfl⟩ : ∃ y, y = wc := ⟨_, rfl⟩
              obtain ⟨rfl, hbf⟩ := hcut
              have hbf2 := hbe2.trans (hbf.mono hbe2.size)
              have hbf0 := HOl2.out _ hbf2
              have hbfw := (HOld.out _ hbf0).1
              clear x0 x1 x2 y0 y1 z0 z1 z2 u0 u1 u2 yce
              have HFi : Hid (Calls Tryz.prog 100 #[.int .i64 (joinI (modeAtP d L x.session i) (needI x i)), .int .i64 (joinI (modeAtP d L y.session i) (needI y i))] wf fun e w' => e = .returned (.bool (fitsB (joinI (modeAtP d L x.session i) (needI x i)) (joinI (modeAtP d L y.session i) (needI y i)))) ∧ w' = wf) := specFits_any _ _ hmj hmk wf
              generalize rivalAt d L x y i = cl at *
              generalize fitsB (joinI (modeAtP d L x.session i) (needI x i)) (joinI (modeAtP d L y.session i) (needI y i)) = f at *
              have hcd := HCd.out
              subst hcd
              clear HCd
              cases f
              · have HE := hide (HY2.out rfl)
                go_wp2_with (go_at_call 100; refine HFi.out.mono ?_; rintro e w' ⟨rfl, rfl⟩)
                go_ret
                exact ⟨ret_bool HE.out.symm, hbfw⟩
              · have HE := hide (HNo.out rfl)
                go_wp2_with (go_at_call 100; refine HFi.out.mono ?_; rintro e w' ⟨rfl, rfl⟩)
                exact ⟨⟨k + 1, by omega, by go_num, HE.out, hbf2⟩, by simp [intOf]; omega⟩
        · have hiq : (i == q) = false := by simp [h3]
          have HE : Hid (r = false) := hfe.out fun _ _ => h3
          clear h3 hfe HY1 HCd HNo
          have hcal := calm_cell wr
          go_wp2_with fail
          refine wp_region_calm (by kernel_rfl) (by kernel_rfl) ?_
          repeat (go_big_quiet_step (fail))
          refine wpQuiet_nil ?_
          rintro _ ⟨t, rfl⟩
          have ht := t.below
          go_wp2_with fail
          go_ret
          exact ⟨ret_bool HE.out.symm, hbw.trans (ht.mono hbw.size)⟩
      · have h2' : ¬ (k : Int) < (nv : Int) := by omega
        have HE : Hid (r = false) := hfe.out fun _ h => absurd h h2
        obtain ⟨b1, o1, hua, hb1', hc1⟩ := HCu.out k h1
        subst hua
        have hcal := calm_cell wr
        go_wp2_with fail
        refine wp_region_calm (by kernel_rfl) (by kernel_rfl) ?_
        repeat (go_big_quiet_step (fail))
        refine wpQuiet_nil ?_
        rintro _ ⟨t, rfl⟩
        have ht := t.below
        go_wp2_with fail
        go_ret
        exact ⟨ret_bool HE.out.symm, hbw.trans (ht.mono hbw.size)⟩
    · have h1' : ¬ (k : Int) < (nu : Int) := by omega
      have HE : Hid (r = false) := hfe.out fun h => absurd h h1
      have hcal := calm_cell wr
      go_wp2_with fail
      refine wp_region_calm (by kernel_rfl) (by kernel_rfl) ?_
      repeat (go_big_quiet_step (fail))
      refine wpQuiet_nil ?_
      rintro _ ⟨t, rfl⟩
      have ht := t.below
      go_wp2_with fail
      go_ret
      exact ⟨ret_bool HE.out.symm, hbw.trans (ht.mono hbw.size)⟩
end Go.Proofs.YtfjhpfgffbghdaaGreatDoor
