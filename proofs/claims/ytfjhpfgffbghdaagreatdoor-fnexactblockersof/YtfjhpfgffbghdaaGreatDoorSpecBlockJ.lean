/-
  Who stands against a wait, as the specification reckons it.
-/
import Derived.Test.YtfjhpfgffbghdaaGreatDoorSpecRiseJ
import Derived.Test.YtfjhpfgffbghdaaGreatDoorSpecRivalJ
import Derived.Test.YtfjhpfgffbghdaaGreatDoorJoinA
namespace Go.Proofs.YtfjhpfgffbghdaaGreatDoor
open Go.RowKit

set_option maxHeartbeats 4000000 in
set_option maxRecDepth 100000 in
theorem specBlockers_any (n₀ : Nat) (d : PDoc) (s v v' : Value) (L W : List PHold) (k : Nat) (w : World) (hN : NodesAt n₀ w s d.nodes) (hV : HoldsAt n₀ w v L) (hV' : HoldsAt n₀ w v' W) (hn : n₀ ≤ w.heap.size) (hl : d.nodes.length ≤ 1048576) (hkl : ∀ x ∈ d.nodes, x.kids.length ≤ 1048576) (G : Good d) (hL : HoldsP d L) (hW : WaitsP d W) (hk : k < W.length) :
    Calls Tryz.prog 46 #[.agg #[.int .i64 d.root, .int .i64 d.next, s], .agg #[v, v'], .int .i64 k] w fun e w' => ∃ u, e = .returned u ∧ w'.ownsRow w.heap.size 3 1 u (blockL d L W (W[k]?.getD holdNil) k).length ((blockL d L W (W[k]?.getD holdNil) k).map (Value.int .i64)) ∧ Below w.heap.size w w' := by
  obtain ⟨W0, hW0⟩ : ∃ W0, W0 = (w.alloc (.cells #[.int .i64 d.root, .int .i64 d.next, s] 38)).alloc (.cells #[v, v'] 32) := ⟨_, rfl⟩
  have hw0 : Below w.heap.size w W0 := by rw [hW0]; exact ((Below.refl w.heap.size w).alloc (Nat.le_refl _) _).alloc (by simp) _
  have hs0 : W0.heap.size = w.heap.size + 1 + 1 := by rw [hW0]; simp
  have hh0 : W0.heap[w.heap.size]? = some (.cells #[.int .i64 d.root, .int .i64 d.next, s] 38 (0, 0)) := by
    rw [hW0, Below.heap_alloc _ _ _ (by simp)]; exact alloc_new w _
  have hh1 : W0.heap[w.heap.size + 1]? = some (.cells #[v, v'] 32 (0, 0)) := by
    rw [hW0]
    have := alloc_new (w.alloc (.cells #[.int .i64 d.root, .int .i64 d.next, s] 38)) (.cells #[v, v'] 32)
    simpa using this
  have HOld : Hid (∀ wx, Below W0.heap.size W0 wx → Below w.heap.size w wx ∧ w.heap.size + 1 + 1 ≤ wx.heap.size) := fun wx hb => ⟨hw0.trans (hb.mono (by omega)), by have := hb.size; omega⟩
  have HB : Hid (∀ wx, Below W0.heap.size W0 wx → (wx.cell? ⟨w.heap.size, 0, none⟩ = some (.int .i64 d.root) ∧ wx.cell? ⟨w.heap.size, 1, none⟩ = some (.int .i64 d.next) ∧ wx.cell? ⟨w.heap.size, 2, none⟩ = some s) ∧ (wx.cell? ⟨w.heap.size + 1, 0, none⟩ = some v ∧ wx.cell? ⟨w.heap.size + 1, 1, none⟩ = some v')) := fun wx hb => by
    have j0 := (hb.block w.heap.size (by omega)).trans hh0
    have j1 := (hb.block (w.heap.size + 1) (by omega)).trans hh1
    exact ⟨⟨cell_of_heap j0 0, cell_of_heap j0 1, cell_of_heap j0 2⟩, cell_of_heap j1 0, cell_of_heap j1 1⟩
  obtain ⟨a', cap', rfl, hk'⟩ := hV'
  have HWc : Hid (∀ j, j < W.length → ∃ b o, a' = some ⟨b, o, none⟩ ∧ b < w.heap.size ∧ ∀ wx, Below w.heap.size w wx → HoldAt wx b (o + j * 3) (W[j]?.getD holdNil)) := fun j hj => by
    obtain ⟨b, o, rfl, hb, hc⟩ := hk'.resolve_left (by intro e; simp [e] at hj)
    exact ⟨b, o, rfl, by omega, fun wx hbx => (hc j hj).below hb (hbx.mono hn)⟩
  have hw6 := hW.len
  obtain ⟨x, hx⟩ : ∃ x, x = W[k]?.getD holdNil := ⟨_, rfl⟩
  have HX := hide hx
  have hxp : HoldP d x := by rw [hx]; exact (hW.ok k hk).1
  have HCon : Hid (∀ wx, Below W0.heap.size W0 wx → Calls Tryz.prog 69 #[.agg #[.int .i64 d.root, .int .i64 d.next, s], v, holdVal x] wx fun e w' => ∃ a c, e = .returned (.slice a (confL d L x (sessP L)).length c) ∧ Hid (w'.ownsRow w.heap.size 3 1 (.slice a (confL d L x (sessP L)).length c) (confL d L x (sessP L)).length ((confL d L x (sessP L)).map (Value.int .i64))) ∧ Below wx.heap.size wx w') := fun wx hb =>
    (specConflicts_any n₀ d s v L x wx (hN.below (Nat.le_refl _) ((HOld.out wx hb).1.mono hn)) (hV.below (Nat.le_refl _) ((HOld.out wx hb).1.mono hn)) (by have := (HOld.out wx hb).2; omega) hl hkl G hL hxp).mono fun e w' ⟨u, he, hrow, hb'⟩ => by
      have hrow' := ownsRow_base hrow (by have := (HOld.out wx hb).2; omega : w.heap.size ≤ wx.heap.size)
      obtain ⟨a, c, rfl⟩ := row_shape hrow
      exact ⟨a, c, he, hrow', hb'⟩
  have HRiv : Hid (∀ wx j q, j < W.length → (q = true ↔ RivalP d L x (W[j]?.getD holdNil)) → Below W0.heap.size W0 wx → Calls Tryz.prog 70 #[.agg #[.int .i64 d.root, .int .i64 d.next, s], .agg #[v, .slice a' W.length cap'], holdVal x, holdVal (W[j]?.getD holdNil)] wx fun e w' => e = .returned (.bool q) ∧ Below wx.heap.size wx w') := fun wx j q hj hq hb =>
    specRival_any n₀ d s v _ L x _ wx (hN.below (Nat.le_refl _) ((HOld.out wx hb).1.mono hn)) (hV.below (Nat.le_refl _) ((HOld.out wx hb).1.mono hn)) (by have := (HOld.out wx hb).2; omega) hl hkl G hL hxp (hW.ok j hj).1 q hq
  have hlen : ∀ j, j ≤ k → (blockL d L W x j).length ≤ 36 := fun j hj => by
    have := blockL_len d L W x j
    have := hL.len
    omega
  have HLen := hide hlen
  obtain ⟨sa, sc, rfl, -⟩ := hN
  obtain ⟨⟨x0, x1, x2⟩, y0, y1⟩ := HB.out W0 (Below.refl _ _)
  obtain ⟨bw, ow, hua, hbw, hcw⟩ := HWc.out k hk
  have hAk := hcw W0 hw0
  rw [← hx] at hAk
  have g0 := hAk.c0
  have g1 := hAk.c1
  have g2 := hAk.c2
  have hbw0 : bw < W0.heap.size := by omega
  have hz0 : w.heap.size < W0.heap.size := by omega
  have hz1 : w.heap.size + 1 < W0.heap.size := by omega
  have hkW : (k : Int) < (W.length : Int) := by omega
  subst hua
  have HS0 := hide hs0
  have HKw := hide hk
  clear hkl hV G hw0 hs0 hh0 hh1 hL hW hlen hk' hx hAk hcw hk
  generalize W.length = nw at *
  rw [hW0] at g0 g1 g2
  go_enter Tryz.func46, Tryz.ntmps46
  go_wp2_with fail
  rw [← hW0]
  clear hW0
  go_wp2_with fail
  obtain ⟨W1, hW1⟩ : ∃ W1, W1 = W0.alloc (.cells #[.int .i64 x.session, .int .i64 x.node, .int .i64 x.mode] 86) := ⟨_, rfl⟩
  have hh1 : W1.heap[W0.heap.size]? = some (.cells #[.int .i64 x.session, .int .i64 x.node, .int .i64 x.mode] 86 (0, 0)) := by rw [hW1]; exact alloc_new W0 _
  have hb01 : Below W0.heap.size W0 W1 := by rw [hW1]; exact (Below.refl _ _).alloc (Nat.le_refl _) _
  have hs01 : W1.heap.size = W0.heap.size + 1 := by rw [hW1]; simp
  rw [← hW1]
  clear hW1
  have HOl1 : Hid (∀ wx, Below W1.heap.size W1 wx → Below W0.heap.size W0 wx) := fun wx hb => hb01.trans (hb.mono (by omega))
  have HB1 : Hid (∀ wx, Below W1.heap.size W1 wx → wx.cell? ⟨w.heap.size + 1 + 1, 0, none⟩ = some (.int .i64 x.session) ∧ wx.cell? ⟨w.heap.size + 1 + 1, 1, none⟩ = some (.int .i64 x.node) ∧ wx.cell? ⟨w.heap.size + 1 + 1, 2, none⟩ = some (.int .i64 x.mode)) := fun wx hb => by
    have j0 := (hb.block W0.heap.size (by omega)).trans hh1
    rw [HS0.out] at j0
    exact ⟨cell_of_heap j0 0, cell_of_heap j0 1, cell_of_heap j0 2⟩
  clear x0 x1 x2 y0 y1 g0 g1 g2 hh1
  refine (HCon.out W1 hb01).mono ?_
  rintro e w1 ⟨a1, c1, rfl, hrow1, hb1⟩
  have hnum : Hid (blockL d L W x 0 = confL d L x (sessP L)) := by rw [Hid, blockL]
  have hl0 := HLen.out 0 (Nat.zero_le _)
  rw [hnum.out] at hl0
  go_wp2_with fail
  go_loopw [8, 9] (fun ov i wr => ∃ (j : Nat) (out : List Int) (a : Option Addr) (c : Nat), j ≤ k ∧ i = .int .i64 j ∧ Hid (blockL d L W x j = out) ∧ out.length ≤ 36 ∧ ov = .slice a out.length c ∧ Hid (wr.ownsRow w.heap.size 3 1 (.slice a out.length c) out.length (out.map (Value.int .i64))) ∧ Below W1.heap.size W1 wr) (fun _ i _ => k - (intOf i).toNat)
  case atStart => exact ⟨0, _, a1, c1, Nat.zero_le _, rfl, hnum, hl0, rfl, hrow1, hb1⟩
  case round =>
    obtain ⟨j, out, a, c, hjk, rfl, hout, hol, rfl, hrow, hbr⟩ := hrel
    have hbr0 := HOl1.out _ hbr
    obtain ⟨hbw', hszw⟩ := HOld.out _ hbr0
    have hsr := hbr.size
    by_cases hlt : j < k
    · have hlt1 : (j : Int) < (k : Int) := by omega
      have hltn : j < nw := by have := HKw.out; omega
      have hltn1 : (j : Int) < (nw : Int) := by omega
      obtain ⟨b2, o2, h2, -, hcw⟩ := HWc.out j hltn
      simp only [Option.some.injEq, Addr.mk.injEq, and_true] at h2
      obtain ⟨rfl, rfl⟩ := h2
      have HCw := hide hcw
      have hA := hcw wr hbw'
      have t0 := hA.c0
      have t1 := hA.c1
      have t2 := hA.c2
      obtain ⟨⟨x0, x1, x2⟩, y0, y1⟩ := HB.out wr hbr0
      obtain ⟨z0, z1, z2⟩ := HB1.out wr hbr
      have hq0 : w.heap.size < wr.heap.size := by omega
      have hq1 : w.heap.size + 1 < wr.heap.size := by omega
      have hq2 : w.heap.size + 1 + 1 < wr.heap.size := by have := HS0.out; omega
      have hq3 : bw < wr.heap.size := by omega
      obtain ⟨q, hq⟩ : ∃ q : Bool, q = true ↔ RivalP d L x (W[j]?.getD holdNil) := ⟨dec _, dec_iff _⟩
      have HRv := hide (fun wx hb => HRiv.out wx j q hltn hq hb)
      have HYes : Hid ((q && !hasB out (W[j]?.getD holdNil).session) = true → blockL d L W x (j + 1) = riseL out (W[j]?.getD holdNil).session) := fun h => by
        simp only [Bool.and_eq_true, Bool.not_eq_true'] at h
        rw [blockL_yes (hq.1 h.1) (by rw [hout.out]; intro hm; rw [hasB_iff.2 hm] at h; cases h.2), hout.out]
      have HNo : Hid ((q && !hasB out (W[j]?.getD holdNil).session) = false → blockL d L W x (j + 1) = out) := fun h => by
        rw [blockL_no (by
          rw [hout.out]
          rintro ⟨h1, h2⟩
          rw [hq.2 h1, Bool.true_and] at h
          have : hasB out (W[j]?.getD holdNil).session = true := by simpa using h
          exact h2 (hasB_iff.1 this)), hout.out]
      have HL1 := hide (HLen.out (j + 1) (by omega))
      clear hq hcw hA
      generalize W[j]?.getD holdNil = y at *
      have HIn := hide (ints_of_row hrow.out)
      have hHas : Hid (∀ wx, Below wr.heap.size wr wx → Calls Tryz.prog 71 #[.slice a out.length c, .int .i64 y.session] wx fun e w' => e = .returned (.bool (hasB out y.session)) ∧ w' = wx) := fun wx hb =>
        specHas_any wr.heap.size _ out y.session wx (HIn.out.below (Nat.le_refl _) hb) (by omega)
      generalize hasB out y.session = hs at *
      obtain ⟨ag, hag⟩ : ∃ ag, ag = (q && !hs) := ⟨_, rfl⟩
      rw [← hag] at HYes HNo
      have HAg := hide hag
      clear hag
      go_wp2_with fail
      go_cut [44] (fun v44 wc => v44 = .bool ag ∧ Below wr.heap.size wr wc)
      case first =>
        have hcal := calm_cell wr
        have HR1 : Hid (∀ t : Calm wr, Calls Tryz.prog 70 #[.agg #[.int .i64 d.root, .int .i64 d.next, .slice sa d.nodes.length sc], .agg #[v, .slice (some ⟨bw, ow, none⟩) nw cap'], holdVal x, holdVal y] t.out fun e w' => e = .returned (.bool q) ∧ Below t.out.heap.size t.out w') := fun t =>
          HRv.out t.out (hbr0.trans (t.below.mono hbr0.size))
        have HH1 : Hid (∀ t : Calm wr, Calls Tryz.prog 71 #[.slice a out.length c, .int .i64 y.session] t.out fun e w' => e = .returned (.bool hs) ∧ w' = t.out) := fun t => hHas.out t.out t.below
        cases q
        · have h1 : Hid (ag = false) := HAg.out
          refine wp_region_calm (by kernel_rfl) (by kernel_rfl) ?_
          repeat (go_big_quiet_step ((go_at_call 70; exact calm_of (HR1.out _))))
          refine wpQuiet_nil ?_
          rintro _ ⟨t, rfl⟩
          have ht := t.below
          go_wp2_with fail
          go_meet
          exact ⟨by rw [h1.out], ht⟩
        · have h1 : Hid (ag = !hs) := by rw [Hid, HAg.out, Bool.true_and]
          refine wp_region_calm (by kernel_rfl) (by kernel_rfl) ?_
          repeat (go_big_quiet_step (first | (go_at_call 70; exact calm_of (HR1.out _)) | (go_at_call 71; exact calm_of_same (HH1.out _))))
          refine wpQuiet_nil ?_
          rintro _ ⟨t, rfl⟩
          have ht := t.below
          go_wp2_with fail
          go_meet
          exact ⟨by rw [h1.out], ht⟩
      case rest =>
        obtain ⟨rfl, hbc⟩ := hcut
        have hbc1 := hbr.trans (hbc.mono hsr)
        have hbc0 := HOl1.out _ hbc1
        have hsc := hbc.size
        have hrowc := hide (ownsRow_below hrow.out hbc)
        clear t0 t1 t2 x0 x1 x2 y0 y1 z0 z1 z2
        cases ag
        · have HE := hide (HNo.out rfl)
          go_wp2_with fail
          exact ⟨⟨j + 1, out, a, c, by omega, by go_num, HE.out, hol, rfl, hrowc, hbc1⟩, by simp [intOf]; omega⟩
        · have HE := hide (HYes.out rfl)
          have HLr : (riseL out y.session).length ≤ 36 := by rw [← HE.out]; exact HL1.out
          have hA := HCw.out wc (HOld.out _ hbc0).1
          have t0 := hA.c0
          have t1 := hA.c1
          have t2 := hA.c2
          obtain ⟨⟨x0, x1, x2⟩, y0, y1⟩ := HB.out wc hbc0
          have hr1 : w.heap.size + 1 < wc.heap.size := by omega
          have hr3 : bw < wc.heap.size := by omega
          have HRs : Hid (Calls Tryz.prog 72 #[.slice a out.length c, .int .i64 y.session] wc fun e w' => ∃ a2 c2, e = .returned (.slice a2 (riseL out y.session).length c2) ∧ Hid (w'.ownsRow w.heap.size 3 1 (.slice a2 (riseL out y.session).length c2) (riseL out y.session).length ((riseL out y.session).map (Value.int .i64))) ∧ Below wc.heap.size wc w') :=
            (specRise_any wr.heap.size _ out y.session wc (HIn.out.below (Nat.le_refl _) hbc) hsc (by omega)).mono fun e w' ⟨u, he, hrw, hb'⟩ => by
              have hrow' := ownsRow_base hrw (by omega : w.heap.size ≤ wc.heap.size)
              obtain ⟨a, c, rfl⟩ := row_shape hrw
              exact ⟨a, c, he, hrow', hb'⟩
          clear hA
          go_wp2_with (go_at_call 72; refine HRs.out.mono ?_; rintro e w4 ⟨a4, c4, rfl, hrow4, hb4⟩)
          exact ⟨⟨j + 1, _, a4, c4, by omega, by go_num, HE.out, HLr, rfl, hrow4, hbc1.trans (hb4.mono (by omega))⟩, by simp [intOf]; omega⟩
    · have hlt1 : ¬ (j : Int) < (k : Int) := by omega
      obtain rfl : j = k := by omega
      go_wp2_with fail
      go_ret
      rw [← HX.out, hout.out]
      exact ⟨_, rfl, hrow.out, hbw'⟩
end Go.Proofs.YtfjhpfgffbghdaaGreatDoor
