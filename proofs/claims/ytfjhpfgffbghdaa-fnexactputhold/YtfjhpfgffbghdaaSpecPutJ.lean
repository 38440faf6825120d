/-
  A list of holds with one laid into it, as the specification makes it.
-/
import Derived.Test.YtfjhpfgffbghdaaJoinK
import Derived.Test.YtfjhpfgffbghdaaHoldRowsJ
import Derived.Test.YtfjhpfgffbghdaaHoldToJ
import Derived.Test.YtfjhpfgffbghdaaSpecOwnJ
import Derived.Test.YtfjhpfgffbghdaaJoinC
import Derived.Test.YtfjhpfgffbghdaaCalmJ
import Derived.Deep.Onto
namespace Go.Proofs.Ytfjhpfgffbghdaa
open Go.RowKit

theorem dn_no {dn lb : Bool} (h : false = (!dn && !lb)) : ¬ (dn = false ∧ lb = false) ∧ (dn || !lb) = dn := by revert h; cases dn <;> cases lb <;> decide
theorem dn_yes {dn lb : Bool} (h : true = (!dn && !lb)) : dn = false ∧ lb = false := by revert h; cases dn <;> cases lb <;> decide

set_option maxHeartbeats 4000000 in
set_option maxRecDepth 100000 in
theorem specPut_any (n₀ : Nat) (v : Value) (L : List PHold) (x : PHold) (w : World) (hV : HoldsAt n₀ w v L) (hn : n₀ ≤ w.heap.size) (hL : L.length ≤ 1048576) :
    Calls Try.prog 40 #[v, holdVal x] w fun e w' => ∃ u, e = .returned u ∧ w'.ownsRow w.heap.size 42 3 u (putL L x).length (holdVals (putL L x)) ∧ Below w.heap.size w w' := by
  obtain ⟨i0, hinf, hq0, hq1, hq2⟩ := info_parts holdInfo
  obtain ⟨W0, hW0⟩ : ∃ W0, W0 = w.alloc (.cells #[.int .i64 x.session, .int .i64 x.node, .int .i64 x.mode] 42) := ⟨_, rfl⟩
  have hb0 : Below w.heap.size w W0 := by rw [hW0]; exact (Below.refl w.heap.size w).alloc (Nat.le_refl _) _
  have hh0 : W0.heap[w.heap.size]? = some (.cells #[.int .i64 x.session, .int .i64 x.node, .int .i64 x.mode] 42 (0, 0)) := by rw [hW0]; exact alloc_new w _
  have hz0 : w.heap.size < W0.heap.size := (Array.getElem?_eq_some_iff.1 hh0).1
  have HOw : Hid (∀ wx, Below w.heap.size w wx → Calls Try.prog 46 #[v, .int .i64 x.session, .int .i64 x.node] wx fun e w' => e = .returned (.int .i64 (ownI L x.session x.node)) ∧ w' = wx) := fun wx hb =>
    specOwn_any n₀ v L x.session x.node wx (hV.below (Nat.le_refl _) (hb.mono hn)) (by have := hb.size; omega) hL
  have HJo : Hid (∀ wx, Calls Try.prog 67 #[.int .i64 x.mode, .int .i64 (ownI L x.session x.node)] wx fun e w' => e = .returned (.int .i64 (joinI x.mode (ownI L x.session x.node))) ∧ w' = wx) := fun wx => specJoin_any _ _ wx
  have k0 := cell_of_heap hh0 0
  have k1 := cell_of_heap hh0 1
  have k2 := cell_of_heap hh0 2
  have kf := fun o => frozen_of_heap hh0 o
  simp only [List.getElem?_toArray, List.getElem?_cons_succ, List.getElem?_cons_zero] at k0 k1 k2
  have HOw0 := hide (HOw.out W0.drew hb0.drew)
  obtain ⟨k, hk⟩ : ∃ k, k = putKey L x := ⟨_, rfl⟩
  have HKey := hide hk
  have hks : x.session = k.session := by rw [hk]; rfl
  have hkn : x.node = k.node := by rw [hk]; rfl
  have hkm : joinI x.mode (ownI L x.session x.node) = k.mode := by rw [hk]; rfl
  rw [hkm] at HJo
  obtain ⟨W1, hW1⟩ : ∃ W1, W1 = (W0.setCell ⟨w.heap.size, 2, none⟩ (.int .i64 k.mode)).drew := ⟨_, rfl⟩
  have hh1 : W1.heap[w.heap.size]? = some (.cells #[.int .i64 k.session, .int .i64 k.node, .int .i64 k.mode] 42 (0, 0)) := by
    rw [hW1]; exact (heap_setCell_same W0 _ _ _ _ _ hh0).trans (by rw [← hks, ← hkn]; rfl)
  have hb1 : Below w.heap.size w W1 := by rw [hW1]; exact (hb0.setCell (p := ⟨w.heap.size, 2, none⟩) (Nat.le_refl _) _).drew
  have hz1 : w.heap.size < W1.heap.size := (Array.getElem?_eq_some_iff.1 hh1).1
  clear hkm hk hks hkn
  go_enter Try.func40, Try.ntmps40
  go_wp2_with fail
  rw [← hW0]
  clear hW0
  go_cut [3] (fun v3 wc => v3 = .pointer (some ⟨w.heap.size, 0, none⟩) ∧ wc = W1)
  case first =>
    go_region_law (first | (go_simp; refine HOw0.out.mono ?_; rintro e w' ⟨rfl, rfl⟩) | (go_simp; refine (HJo.out _).mono ?_; rintro e w' ⟨rfl, rfl⟩))
    all_goals
      go_wp2_with fail
      go_meet
      exact ⟨rfl, hW1.symm⟩
  case rest =>
  obtain ⟨rfl, hwc⟩ := hcut
  have hwc' := hwc.symm
  subst hwc'
  have hE : Below (w.heap.size + 1) W1 (W1.alloc (.cells #[] 42)) := (Below.refl _ _).alloc (by omega) _
  have HNone := hide (hrow_none W1 (w.heap.size + 1) (by omega))
  have HB : Hid (∀ wx, Below (w.heap.size + 1) W1 wx → wx.cell? ⟨w.heap.size, 0, none⟩ = some (.int .i64 k.session) ∧ wx.cell? ⟨w.heap.size, 1, none⟩ = some (.int .i64 k.node) ∧ wx.cell? ⟨w.heap.size, 2, none⟩ = some (.int .i64 k.mode) ∧ w.heap.size < wx.heap.size) := fun wx hb => by
    have j := (hb.block w.heap.size (by omega)).trans hh1
    exact ⟨cell_of_heap j 0, cell_of_heap j 1, cell_of_heap j 2, (Array.getElem?_eq_some_iff.1 j).1⟩
  have HOld : Hid (∀ wx, Below (w.heap.size + 1) W1 wx → Below w.heap.size w wx) := fun wx hb => hb1.trans (hb.mono (by omega))
  have HLe := hide (fun y wx => specLess_any y k wx)
  have HSnoc := hide (fun i h => @putRun_snoc k L i h)
  have HLen := hide (fun i h => putRun_len k L i h)
  have HFin : Hid (putFin k (putRun k L) = putL L x) := by rw [Hid, HKey.out]; rfl
  obtain ⟨a, cap, rfl, hrowv⟩ := hV
  clear hW1 HOw HOw0 HJo k0 k1 k2 kf hh0 hb0 hh1 hb1 hz0
  go_wp2_with fail
  go_loopw [5, 6, 7] (fun ov dv iv wr => ∃ (i : Nat) (u : Value) (dn : Bool) (out : List PHold), u = ov ∧ dv = .bool dn ∧ iv = .int .i64 i ∧ i ≤ L.length ∧ Hid ((dn, out) = putRun k (L.take i)) ∧ Hid (wr.ownsRow (w.heap.size + 1) 42 3 u out.length (holdVals out)) ∧ Below (w.heap.size + 1) W1 wr) (fun _ _ iv _ => L.length - (intOf iv).toNat)
  case atStart => exact ⟨0, _, false, [], rfl, rfl, rfl, Nat.zero_le _, by simp [Hid, putRun], HNone, hE⟩
  case round =>
    obtain ⟨i, u, dn, out, hu, rfl, rfl, hil, hst, hrow, hbr⟩ := hrel
    subst hu
    have hsz := hbr.size
    have hol : out.length ≤ i * 2 := by have := HLen.out i hil; rw [← hst.out] at this; exact this
    by_cases hlt : i < L.length
    · have hlt1 : (i : Int) < (L.length : Int) := by omega
      obtain ⟨b, off, rfl, hbn, hcc⟩ := hrowv.resolve_left (by intro e; simp [e] at hlt)
      have hc : ∀ wx, Below (w.heap.size + 1) W1 wx → b < wx.heap.size ∧ HoldAt wx b (off + i * 3) (L[i]?.getD holdNil) := fun wx hb => ⟨by have := (HOld.out wx hb).size; omega, (hcc i hlt).below hbn ((HOld.out wx hb).mono hn)⟩
      have HSt1 : Hid (putRun k (L.take (i + 1)) = putStep k (dn, out) (L[i]?.getD holdNil)) := by rw [Hid, HSnoc.out i hlt, ← hst.out]
      obtain ⟨hbz, hA⟩ := hc wr hbr
      have g0 := hA.c0
      have g1 := hA.c1
      have g2 := hA.c2
      obtain ⟨x0, x1, x2, hzx⟩ := HB.out wr hbr
      have hcal := calm_cell wr
      clear hcc hA hst
      generalize L[i]?.getD holdNil = y at *
      have HLy : Hid (∀ t : Calm wr, Calls Try.prog 60 #[holdVal y, holdVal k] t.out fun e w' => e = .returned (.bool (lessB y k)) ∧ Below t.out.heap.size t.out w') := fun t => HLe.out y t.out
      obtain ⟨lb, hlb⟩ : ∃ lb, lb = lessB y k := ⟨_, rfl⟩
      have HLb := hide hlb
      rw [← hlb] at HLy
      clear hlb
      obtain ⟨q, hq⟩ : ∃ q : Bool, q = (!dn && !lb) := ⟨_, rfl⟩
      have HQ := hide hq
      clear hq
      go_wp2_with fail
      go_cut [35] (fun v35 wc => v35 = .bool q ∧ Below wr.heap.size wr wc)
      case first =>
        cases dn
        · refine wp_region_calm (by kernel_rfl) (by kernel_rfl) ?_
          repeat (go_big_quiet_step ((go_at_call 60; exact calm_of (HLy.out _))))
          refine wpQuiet_nil ?_
          rintro _ ⟨t, rfl⟩
          have ht := t.below
          go_wp2_with fail
          go_meet
          exact ⟨by rw [HQ.out]; rfl, ht⟩
        · refine wp_region_calm (by kernel_rfl) (by kernel_rfl) ?_
          repeat (go_big_quiet_step (fail))
          refine wpQuiet_nil ?_
          rintro _ ⟨t, rfl⟩
          have ht := t.below
          go_wp2_with fail
          go_meet
          exact ⟨by rw [HQ.out]; rfl, ht⟩
      case rest =>
        obtain ⟨rfl, hbc⟩ := hcut
        obtain ⟨w5, hw5⟩ : ∃ w5, w5 = wc := ⟨_, rfl⟩
        rw [← hw5] at hbc ⊢
        clear hw5 g0 g1 g2 x0 x1 x2 hcal
        have HRowc := hide (ownsRow_below hrow.out hbc)
        have hbrc : Below (w.heap.size + 1) W1 w5 := hbr.trans (hbc.mono (by have := hbr.size; omega))
        have hszc := hbrc.size
        obtain ⟨x0, x1, x2, hzx2⟩ := HB.out w5 hbrc
        cases q
        · have hcond := (dn_no HQ.out).1
          have HDn : Hid ((dn || !lessB y k) = dn) := by rw [Hid, ← HLb.out]; exact (dn_no HQ.out).2
          have hs0 : putStep k (dn, out) y = (dn, out ++ if isAt k.session k.node y = true then [] else [y]) := by
            unfold putStep
            simp only
            rw [if_neg (by rw [← HLb.out]; exact hcond), HDn.out]
          have HAtY : Hid (isAt k.session k.node y = true → putStep k (dn, out) y = (dn, out)) := fun h => by rw [hs0, if_pos h, List.append_nil]
          have HAtN : Hid (isAt k.session k.node y = false → putStep k (dn, out) y = (dn, out ++ [y])) := fun h => by rw [hs0, if_neg (by rw [h]; decide)]
          clear hs0 hcond HDn
          go_wp2_with fail
          obtain ⟨hbz2, hA2⟩ := hc w5 (hbrc)
          have e0 := hA2.c0
          have e1 := hA2.c1
          have e2 := hA2.c2
          obtain ⟨m0, m1, m2, hzm⟩ := HB.out w5 hbrc
          have hcal2 := calm_cell w5
          clear hA2
          by_cases hat : isAt k.session k.node y = true
          · have HE := hide (HAtY.out hat)
            obtain ⟨a1, a2⟩ := isAt_iff.1 hat
            have q1 : (y.session != k.session) = false := by simp [a1]
            have q2 : (y.node != k.node) = false := by simp [a2]
            clear hat a1 a2
            go_wp2_with fail
            refine wp_region_calm (by kernel_rfl) (by kernel_rfl) ?_
            repeat (go_big_quiet_step (fail))
            refine wpQuiet_nil ?_
            rintro _ ⟨t2, rfl⟩
            have HRow2 := hide (ownsRow_below HRowc.out t2.below)
            have hb2 := hbrc.trans (t2.below.mono (by omega))
            go_wp2_with fail
            exact ⟨⟨i + 1, _, _, out, rfl, rfl, by go_num, by omega, by rw [Hid, HSt1.out, HE.out], HRow2, hb2⟩, by simp [intOf]; omega⟩
          · have HE := hide (HAtN.out (by simpa using hat))
            have hns : (y.session != k.session) = true ∨ ((y.session != k.session) = false ∧ (y.node != k.node) = true) := by
              rw [isAt_iff] at hat
              by_cases e1 : y.session = k.session
              · exact .inr ⟨by simp [e1], by simp; exact fun e2 => hat ⟨e1, e2⟩⟩
              · exact .inl (by simp [e1])
            clear hat
            rcases hns with q1 | ⟨q1, q2⟩
            all_goals
              go_wp2_with fail
              refine wp_region_calm (by kernel_rfl) (by kernel_rfl) ?_
              repeat (go_big_quiet_step (fail))
              refine wpQuiet_nil ?_
              rintro _ ⟨t2, rfl⟩
              have HRow2 := hide (ownsRow_below HRowc.out t2.below)
              have hb2 := hbrc.trans (t2.below.mono (by omega))
              obtain ⟨hbz3, hA3⟩ := hc t2.out hb2
              have d0 := hA3.c0
              have d1 := hA3.c1
              have d2 := hA3.c2
              have hsz2 := hb2.size
              clear hA3 e0 e1 e2 m0 m1 m2 q1 hcal2
              go_wp2_with (at_builtin; refine wpList_append_own _ rfl _ _ 33 rfl (w.heap.size + 1) 42 i0 (.agg #[.int .i64 0, .int .i64 0, .int .i64 0]) 3 24 Try.underlying33 hinf hq0 hq1 hq2 rfl (by decide) _ _ _ rfl (HRow2.out.alloc _) ⟨t2.out.heap.size, 0, none⟩ 1 1 (holdCells y) rfl rfl (World.news_of_block (alloc_new t2.out _)) (holdCells_one y) (by unfold maxLen; omega) (by omega) (by simp; omega) ?_)
              intro v4 w4 hown4 hgrow4 _
              have hb4 := (hb2.alloc (by omega) (.cells #[.int .i64 y.session, .int .i64 y.node, .int .i64 y.mode] 42)).grown hgrow4 (by simp; omega) (fun g' hg' => by have := (HRow2.out.lt g' hg').1; omega)
              have HRow4 : Hid (w4.ownsRow (w.heap.size + 1) 42 3 v4 (out ++ [y]).length (holdVals (out ++ [y]))) := by
                rw [Hid, holdVals_snoc, List.length_append]; first | exact hown4 | (rw [hl3]; exact hown4)
              clear hown4 hgrow4
              go_wp2_with fail
              exact ⟨⟨i + 1, _, _, out ++ [y], rfl, rfl, by go_num, by omega, by rw [Hid, HSt1.out, HE.out], HRow4, hb4⟩, by simp [intOf]; omega⟩
        · have hdl := dn_yes HQ.out
          have hs0 : putStep k (dn, out) y = (true, (out ++ [k]) ++ if isAt k.session k.node y = true then [] else [y]) := by
            unfold putStep
            simp only
            rw [if_pos (by rw [← HLb.out]; exact hdl), ← HLb.out, hdl.2, hdl.1]
            rfl
          have HAtY : Hid (isAt k.session k.node y = true → putStep k (dn, out) y = (true, out ++ [k])) := fun h => by rw [hs0, if_pos h, List.append_nil]
          have HAtN : Hid (isAt k.session k.node y = false → putStep k (dn, out) y = (true, out ++ [k] ++ [y])) := fun h => by rw [hs0, if_neg (by rw [h]; decide)]
          clear hs0 hdl
          go_wp2_with (at_builtin; refine wpList_append_own _ rfl _ _ 33 rfl (w.heap.size + 1) 42 i0 (.agg #[.int .i64 0, .int .i64 0, .int .i64 0]) 3 24 Try.underlying33 hinf hq0 hq1 hq2 rfl (by decide) _ _ _ rfl (HRowc.out.alloc _) ⟨w5.heap.size, 0, none⟩ 1 1 (holdCells k) rfl rfl (World.news_of_block (alloc_new w5 _)) (holdCells_one k) (by unfold maxLen; omega) (by omega) (by simp; omega) ?_)
          intro v3 w3 hown3 hgrow3 _
          have hb3 := (hbrc.alloc (by omega) (.cells #[.int .i64 k.session, .int .i64 k.node, .int .i64 k.mode] 42)).grown hgrow3 (by simp; omega) (fun g' hg' => by have := (HRowc.out.lt g' hg').1; omega)
          have HRow3 : Hid (w3.ownsRow (w.heap.size + 1) 42 3 v3 (out ++ [k]).length (holdVals (out ++ [k]))) := by
            rw [Hid, holdVals_snoc, List.length_append]; exact hown3
          have hl3 : (out ++ [k]).length = out.length + 1 := by simp
          have hsz3 := hb3.size
          clear hown3 hgrow3 x0 x1 x2
          go_wp2_with fail
          obtain ⟨hbz2, hA2⟩ := hc w3 (hb3)
          have e0 := hA2.c0
          have e1 := hA2.c1
          have e2 := hA2.c2
          obtain ⟨m0, m1, m2, hzm⟩ := HB.out w3 hb3
          have hcal2 := calm_cell w3
          clear hA2
          by_cases hat : isAt k.session k.node y = true
          · have HE := hide (HAtY.out hat)
            obtain ⟨a1, a2⟩ := isAt_iff.1 hat
            have q1 : (y.session != k.session) = false := by simp [a1]
            have q2 : (y.node != k.node) = false := by simp [a2]
            clear hat a1 a2
            go_wp2_with fail
            refine wp_region_calm (by kernel_rfl) (by kernel_rfl) ?_
            repeat (go_big_quiet_step (fail))
            refine wpQuiet_nil ?_
            rintro _ ⟨t2, rfl⟩
            have HRow2 := hide (ownsRow_below HRow3.out t2.below)
            have hb2 := hb3.trans (t2.below.mono (by omega))
            go_wp2_with fail
            exact ⟨⟨i + 1, _, _, (out ++ [k]), rfl, rfl, by go_num, by omega, by rw [Hid, HSt1.out, HE.out], HRow2, hb2⟩, by simp [intOf]; omega⟩
          · have HE := hide (HAtN.out (by simpa using hat))
            have hns : (y.session != k.session) = true ∨ ((y.session != k.session) = false ∧ (y.node != k.node) = true) := by
              rw [isAt_iff] at hat
              by_cases e1 : y.session = k.session
              · exact .inr ⟨by simp [e1], by simp; exact fun e2 => hat ⟨e1, e2⟩⟩
              · exact .inl (by simp [e1])
            clear hat
            rcases hns with q1 | ⟨q1, q2⟩
            all_goals
              go_wp2_with fail
              refine wp_region_calm (by kernel_rfl) (by kernel_rfl) ?_
              repeat (go_big_quiet_step (fail))
              refine wpQuiet_nil ?_
              rintro _ ⟨t2, rfl⟩
              have HRow2 := hide (ownsRow_below HRow3.out t2.below)
              have hb2 := hb3.trans (t2.below.mono (by omega))
              obtain ⟨hbz3, hA3⟩ := hc t2.out hb2
              have d0 := hA3.c0
              have d1 := hA3.c1
              have d2 := hA3.c2
              have hsz2 := hb2.size
              clear hA3 e0 e1 e2 m0 m1 m2 q1 hcal2
              go_wp2_with (at_builtin; refine wpList_append_own _ rfl _ _ 33 rfl (w.heap.size + 1) 42 i0 (.agg #[.int .i64 0, .int .i64 0, .int .i64 0]) 3 24 Try.underlying33 hinf hq0 hq1 hq2 rfl (by decide) _ _ _ rfl (HRow2.out.alloc _) ⟨t2.out.heap.size, 0, none⟩ 1 1 (holdCells y) rfl rfl (World.news_of_block (alloc_new t2.out _)) (holdCells_one y) (by unfold maxLen; omega) (by omega) (by simp; omega) ?_)
              intro v4 w4 hown4 hgrow4 _
              have hb4 := (hb2.alloc (by omega) (.cells #[.int .i64 y.session, .int .i64 y.node, .int .i64 y.mode] 42)).grown hgrow4 (by simp; omega) (fun g' hg' => by have := (HRow2.out.lt g' hg').1; omega)
              have HRow4 : Hid (w4.ownsRow (w.heap.size + 1) 42 3 v4 ((out ++ [k]) ++ [y]).length (holdVals ((out ++ [k]) ++ [y]))) := by
                rw [Hid, holdVals_snoc, List.length_append]; first | exact hown4 | (rw [hl3]; exact hown4)
              clear hown4 hgrow4
              go_wp2_with fail
              exact ⟨⟨i + 1, _, _, (out ++ [k]) ++ [y], rfl, rfl, by go_num, by omega, by rw [Hid, HSt1.out, HE.out], HRow4, hb4⟩, by simp [intOf]; omega⟩
    · have hlt1 : ¬ (i : Int) < (L.length : Int) := by omega
      have hie : i = L.length := by omega
      have HE : Hid (putFin k (dn, out) = putL L x) := by
        have h := hst.out
        rw [hie, List.take_length] at h
        rw [Hid, h, HFin.out]
      obtain ⟨x0, x1, x2, hzx⟩ := HB.out wr hbr
      have hbw := HOld.out wr hbr
      clear hie hst
      cases dn
      · go_wp2_with (at_builtin; refine wpList_append_own _ rfl _ _ 33 rfl (w.heap.size + 1) 42 i0 (.agg #[.int .i64 0, .int .i64 0, .int .i64 0]) 3 24 Try.underlying33 hinf hq0 hq1 hq2 rfl (by decide) _ _ _ rfl (hrow.out.alloc _) ⟨wr.heap.size, 0, none⟩ 1 1 (holdCells k) rfl rfl (World.news_of_block (alloc_new wr _)) (holdCells_one k) (by unfold maxLen; omega) (by omega) (by simp; omega) ?_)
        intro v3 w3 hown3 hgrow3 _
        have hb3 := (hbw.alloc (by omega) (.cells #[.int .i64 k.session, .int .i64 k.node, .int .i64 k.mode] 42)).grown hgrow3 (by simp; omega) (fun g' hg' => by have := (hrow.out.lt g' hg').1; omega)
        have HRow3 : Hid (w3.ownsRow w.heap.size 42 3 v3 (putL L x).length (holdVals (putL L x))) := by
          have e : out ++ [k] = putL L x := by rw [← HE.out]; rfl
          rw [Hid, ← e, holdVals_snoc, List.length_append]; exact hown3.mono (by omega)
        clear hown3 hgrow3
        go_wp2_with fail
        go_ret
        exact ⟨_, rfl, HRow3.out, hb3⟩
      · have HRow3 : Hid (wr.ownsRow w.heap.size 42 3 u (putL L x).length (holdVals (putL L x))) := by
          have e : out = putL L x := by rw [← HE.out]; rfl
          rw [Hid, ← e]; exact hrow.out.mono (by omega)
        go_wp2_with fail
        go_ret
        exact ⟨_, rfl, HRow3.out, hbw⟩
end Go.Proofs.Ytfjhpfgffbghdaa
