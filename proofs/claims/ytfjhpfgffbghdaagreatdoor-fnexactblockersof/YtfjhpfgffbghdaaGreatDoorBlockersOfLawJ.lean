/-
  The law on BlockersOf answers true at every document, table and session that a program can hold.
-/
import Derived.Test.YtfjhpfgffbghdaaGreatDoorBlockTopIJ
import Derived.Test.YtfjhpfgffbghdaaGreatDoorJoinM
import Derived.Test.YtfjhpfgffbghdaaGreatDoorJoinL
import Derived.Deep.RegionHeld3
namespace Go.Proofs.YtfjhpfgffbghdaaGreatDoor
open Go.RowKit

theorem HoldsOwn.move {lo hi : Nat} {w w' : World} {v : Value} {l : List PHold} (h : HoldsOwn lo hi w v l) (hb : ∀ b, lo ≤ b → b < hi → w'.heap[b]? = w.heap[b]?) : HoldsOwn lo hi w' v l := h.heap (Nat.le_refl _) (Nat.le_refl _) hb

theorem TabOwn.heap {lo hi : Nat} {w w' : World} {v : Value} {t : PTab} (h : TabOwn lo hi w v t) (hb : ∀ b, lo ≤ b → b < hi → w'.heap[b]? = w.heap[b]?) : TabOwn lo hi w' v t := by
  obtain ⟨a, b, rfl, h1, h2⟩ := h
  exact ⟨a, b, rfl, h1.move hb, h2.move hb⟩

set_option maxHeartbeats 8000000 in
set_option maxRecDepth 100000 in
theorem blockersOfLaw (n₀ : Nat) (dv v : Value) (d : PDoc) (t : PTab) (ss : Int) (w : World) (hd : DocAt n₀ w dv d) (h : TabAt n₀ w v t) (hn : n₀ ≤ w.heap.size) (hfd : Fits d) (hf : FitsT t) (hwf : WfDoc d) (hF : FitsAt w) (hI : IntentsAt w) :
    Calls Tryz.prog 5 #[dv, v, .int .i64 ss] w fun e w' => e = .returned (.bool true) ∧ Below w.heap.size w w' := by
  have HD := hide h
  have HDd := hide hd
  have HWf := hide hwf
  have HF := hide hF
  have HI := hide hI
  obtain ⟨d1, e1, d2, e2, rfl⟩ := h.form
  obtain ⟨sa, sc, rfl, -⟩ := hd.form
  obtain ⟨W0, hW0⟩ : ∃ W0, W0 = (w.alloc (.cells #[.int .i64 d.root, .int .i64 d.next, .slice sa d.nodes.length sc] 24)).alloc (.cells #[.slice d1 t.holds.length e1, .slice d2 t.waits.length e2] 27) := ⟨_, rfl⟩
  have hs0 : W0.heap.size = w.heap.size + 1 + 1 := by rw [hW0]; simp
  have hw0 : Below w.heap.size w W0 := by rw [hW0]; exact ((Below.refl w.heap.size w).alloc (Nat.le_refl _) _).alloc (by simp) _
  have hh0 : W0.heap[w.heap.size]? = some (.cells #[.int .i64 d.root, .int .i64 d.next, .slice sa d.nodes.length sc] 24 (0, 0)) := by
    rw [hW0, Below.heap_alloc _ _ _ (by simp)]; exact alloc_new w _
  have hh1 : W0.heap[w.heap.size + 1]? = some (.cells #[.slice d1 t.holds.length e1, .slice d2 t.waits.length e2] 27 (0, 0)) := by
    rw [hW0]
    have := alloc_new (w.alloc (.cells #[.int .i64 d.root, .int .i64 d.next, .slice sa d.nodes.length sc] 24)) (.cells #[.slice d1 t.holds.length e1, .slice d2 t.waits.length e2] 27)
    simpa using this
  have HOld : Hid (∀ wx, Below (w.heap.size + 1 + 1) W0 wx → Below w.heap.size w wx ∧ w.heap.size + 1 + 1 ≤ wx.heap.size) := fun wx hb => ⟨hw0.trans (hb.mono (by omega)), by have := hb.size; omega⟩
  have HB : Hid (∀ wx, Below (w.heap.size + 1 + 1) W0 wx → (wx.cell? ⟨w.heap.size, 0, none⟩ = some (.int .i64 d.root) ∧ wx.cell? ⟨w.heap.size, 1, none⟩ = some (.int .i64 d.next) ∧ wx.cell? ⟨w.heap.size, 2, none⟩ = some (.slice sa d.nodes.length sc)) ∧ (wx.cell? ⟨w.heap.size + 1, 0, none⟩ = some (.slice d1 t.holds.length e1) ∧ wx.cell? ⟨w.heap.size + 1, 1, none⟩ = some (.slice d2 t.waits.length e2))) := fun wx hb => by
    have j0 := (hb.block w.heap.size (by omega)).trans hh0
    have j1 := (hb.block (w.heap.size + 1) (by omega)).trans hh1
    exact ⟨⟨cell_of_heap j0 0, cell_of_heap j0 1, cell_of_heap j0 2⟩, cell_of_heap j1 0, cell_of_heap j1 1⟩
  have HSzD : Hid (∀ wx q, 0 ≤ q → q ≤ 1048576 → Below (w.heap.size + 1 + 1) W0 wx → Calls Tryz.prog 6 #[.agg #[.int .i64 d.root, .int .i64 d.next, .slice sa d.nodes.length sc], .int .i64 q] wx fun e w' => ∃ r, e = .returned (.int .i64 r) ∧ -1 ≤ r ∧ r ≤ q ∧ Hid (0 ≤ r → Small d) ∧ Below (w.heap.size + 1 + 1) W0 w') := fun wx q hq0 hq1 hb =>
    (szDoc_any n₀ _ d q wx (HDd.out.below (Nat.le_refl _) ((HOld.out wx hb).1.mono hn)) (by have := (HOld.out wx hb).2; omega) hq0 hq1 hfd).mono fun e w' ⟨r, he, h1, h2, h3, hb'⟩ => ⟨r, he, h1, h2, h3, hb.trans (hb'.mono (HOld.out wx hb).2)⟩
  have HSz : Hid (∀ wx q, 0 ≤ q → q ≤ 1048576 → Below (w.heap.size + 1 + 1) W0 wx → Calls Tryz.prog 7 #[.agg #[.slice d1 t.holds.length e1, .slice d2 t.waits.length e2], .int .i64 q] wx fun e w' => ∃ r, e = .returned (.int .i64 r) ∧ -1 ≤ r ∧ r ≤ q ∧ Hid (0 ≤ r → SmallT t) ∧ Below (w.heap.size + 1 + 1) W0 w') := fun wx q hq0 hq1 hb =>
    (szTable_any n₀ _ t q wx (HD.out.below (Nat.le_refl _) ((HOld.out wx hb).1.mono hn)) hq0 hq1 hf).mono fun e w' ⟨r, he, h1, h2, h3, hb'⟩ => ⟨r, he, h1, h2, h3, hb.trans (hb'.mono (HOld.out wx hb).2)⟩
  obtain ⟨c, hc⟩ : ∃ c, c = blockCode d t ss := ⟨_, rfl⟩
  obtain ⟨ks, hks⟩ : ∃ ks, ks = blockAns d t ss := ⟨_, rfl⟩
  have HC := hide hc
  have HKs := hide hks
  have hb00 : Below (w.heap.size + 1 + 1) W0 W0 := Below.refl _ _
  obtain ⟨⟨x0, x1, x2⟩, y0, y1⟩ := HB.out _ hb00
  have hz0 : w.heap.size < W0.heap.size := by omega
  clear hf hfd hwf hF hI hd h hc hks hh0 hh1 hs0 hw0
  go_enter Tryz.func5, Tryz.ntmps5
  go_wp2_with fail
  rw [← hW0]
  clear hW0
  refine (HSzD.out _ 1048576 (by omega) (by omega) hb00).mono ?_
  rintro e w1 ⟨q, rfl, hq1, hq2, hq3, hb1⟩
  clear x0 x1 x2 y0 y1
  obtain ⟨⟨x0, x1, x2⟩, y0, y1⟩ := HB.out _ hb1
  have hzz1 : w.heap.size + 1 < w1.heap.size := by have := (HOld.out _ hb1).2; omega
  by_cases hq : q < 0
  · go_wp2_with fail
    go_ret
    exact ⟨rfl, (HOld.out _ hb1).1⟩
  have HSd := hide (hq3.out (by omega))
  clear hq3 HSzD hb00
  go_wp2_with fail
  refine (HSz.out w1 q (by omega) hq2 hb1).mono ?_
  rintro e w2 ⟨q', rfl, hq1', hq2', hq3', hb2⟩
  by_cases hq' : q' < 0
  · go_wp2_with fail
    go_ret
    exact ⟨rfl, (HOld.out _ hb2).1⟩
  have HS := hide (hq3'.out (by omega))
  clear hq3' HSz x0 x1 x2 y0 y1
  have HTo : Hid (∀ wx, Below (w.heap.size + 1 + 1) W0 wx → Calls Tryz.prog 10 #[.agg #[.slice d1 t.holds.length e1, .slice d2 t.waits.length e2]] wx fun e w' => ∃ y1 z1 y2 z2, e = .returned (.agg #[.slice y1 t.holds.length z1, .slice y2 t.waits.length z2]) ∧ Hid (TabOwn wx.heap.size w'.heap.size w' (.agg #[.slice y1 t.holds.length z1, .slice y2 t.waits.length z2]) t) ∧ Below (w.heap.size + 1 + 1) W0 w' ∧ Below wx.heap.size wx w') := fun wx hb =>
    (toTable_any n₀ _ t wx (HD.out.below (Nat.le_refl _) ((HOld.out wx hb).1.mono hn)) (by have := (HOld.out wx hb).2; omega) HS.out).mono fun e w' ⟨u, he, ho, hb'⟩ => by
      obtain ⟨y1, z1, y2, z2, rfl⟩ := ho.at.form
      exact ⟨y1, z1, y2, z2, he, ho, hb.trans (hb'.mono (HOld.out wx hb).2), hb'⟩
  have HToD : Hid (∀ wx, Below (w.heap.size + 1 + 1) W0 wx → Calls Tryz.prog 9 #[.agg #[.int .i64 d.root, .int .i64 d.next, .slice sa d.nodes.length sc]] wx fun e w' => ∃ ua uc, e = .returned (.agg #[.int .i64 d.root, .int .i64 d.next, .slice ua d.nodes.length uc]) ∧ Hid (DocOwn wx.heap.size w'.heap.size w' (.agg #[.int .i64 d.root, .int .i64 d.next, .slice ua d.nodes.length uc]) d) ∧ Below (w.heap.size + 1 + 1) W0 w' ∧ Below wx.heap.size wx w') := fun wx hb =>
    (toDoc_any n₀ _ d wx (HDd.out.below (Nat.le_refl _) ((HOld.out wx hb).1.mono hn)) (by have := (HOld.out wx hb).2; omega) HSd.out).mono fun e w' ⟨u, he, ho, hb'⟩ => by
      obtain ⟨ua, uc, rfl, -⟩ := ho.at.form
      exact ⟨ua, uc, he, ho, hb.trans (hb'.mono (HOld.out wx hb).2), hb'⟩
  have HSp : Hid (∀ wx A ua uc lo hi lo' hi', Hid (TabOwn lo hi wx A t) → hi ≤ wx.heap.size → Hid (DocOwn lo' hi' wx (.agg #[.int .i64 d.root, .int .i64 d.next, .slice ua d.nodes.length uc]) d) → hi' ≤ wx.heap.size → Below (w.heap.size + 1 + 1) W0 wx → Calls Tryz.prog 22 #[.agg #[.int .i64 d.root, .int .i64 d.next, .slice ua d.nodes.length uc], A, .int .i64 ss] wx fun e w' => ∃ a q, e = .returned (.tuple #[.slice a ks.length q, .int .i64 c]) ∧ Hid (ListIn wx.heap.size w'.heap.size w' (.slice a ks.length q) ks) ∧ Below (w.heap.size + 1 + 1) W0 w' ∧ Below wx.heap.size wx w') := fun wx A ua uc lo hi lo' hi' ho hh ho' hh' hb => by
    obtain ⟨s, e1, hN⟩ := ho'.out.at
    simp only [Value.agg.injEq, Array.mk.injEq, List.cons.injEq, and_true, true_and] at e1
    subst e1
    exact (specBlockersOf_any wx.heap.size d _ _ t ss wx (hN.below hh' (Below.refl _ _)) (ho.out.at.wide hh) (Nat.le_refl _) HSd.out.len HSd.out.kids HS.out c ks HC.out HKs.out).mono fun e w' ⟨v', he, hrow, hb'⟩ => by
      have hL := ListIn.of_row hrow
      obtain ⟨a', q', rfl⟩ := row_shape hrow
      exact ⟨a', q', he, hL, hb.trans (hb'.mono (HOld.out wx hb).2), hb'⟩
  have HIm : Hid (∀ wx A ua uc lo hi lo' hi', Hid (TabOwn lo hi wx A t) → hi ≤ wx.heap.size → Hid (DocOwn lo' hi' wx (.agg #[.int .i64 d.root, .int .i64 d.next, .slice ua d.nodes.length uc]) d) → hi' ≤ wx.heap.size → Below (w.heap.size + 1 + 1) W0 wx → Calls Tryz.prog 23 #[.agg #[.int .i64 d.root, .int .i64 d.next, .slice ua d.nodes.length uc], A, .int .i64 ss] wx fun e w' => ∃ a q, e = .returned (.tuple #[.slice a ks.length q, .int .i64 c]) ∧ Hid (ListIn wx.heap.size w'.heap.size w' (.slice a ks.length q) ks) ∧ Below (w.heap.size + 1 + 1) W0 w' ∧ Below wx.heap.size wx w') := fun wx A ua uc lo hi lo' hi' ho hh ho' hh' hb => by
    obtain ⟨s, e1, hN⟩ := ho'.out.at
    simp only [Value.agg.injEq, Array.mk.injEq, List.cons.injEq, and_true, true_and] at e1
    subst e1
    exact (implBlockersOf_any wx.heap.size d _ _ t ss wx (hN.below hh' (Below.refl _ _)) (ho.out.at.wide hh) (Nat.le_refl _) HSd.out.len HWf.out HS.out (HF.out.below (HOld.out wx hb).1 HF.out.lt) (HI.out.below (HOld.out wx hb).1 HI.out.lt) c ks HC.out HKs.out).mono fun e w' ⟨v', he, hrow, hb'⟩ => by
      have hL := ListIn.of_row hrow
      obtain ⟨a', q', rfl⟩ := row_shape hrow
      exact ⟨a', q', he, hL, hb.trans (hb'.mono (HOld.out wx hb).2), hb'⟩
  have hkl : ks.length ≤ 1048576 := by rw [HKs.out]; exact blockAns_len d t ss
  have hb1d := hb2.drew
  go_wp2_with fail
  go_cut [8, 9] (fun v8 v9 wc => ∃ a3 c3 lo, v8 = .slice a3 ks.length c3 ∧ v9 = .int .i64 c ∧ Hid (ListIn lo wc.heap.size wc (.slice a3 ks.length c3) ks) ∧ Below (w.heap.size + 1 + 1) W0 wc)
  case first =>
    go_region_held3 (fun wx => (wx.cell? ⟨w.heap.size, 0, none⟩ = some (.int .i64 d.root) ∧ wx.cell? ⟨w.heap.size, 1, none⟩ = some (.int .i64 d.next) ∧ wx.cell? ⟨w.heap.size, 2, none⟩ = some (.slice sa d.nodes.length sc)) ∧ (wx.cell? ⟨w.heap.size + 1, 0, none⟩ = some (.slice d1 t.holds.length e1) ∧ wx.cell? ⟨w.heap.size + 1, 1, none⟩ = some (.slice d2 t.waits.length e2))) (first | exact HB.out _ (by assumption) | go_keep)
      (first
        | (go_at_call 9; refine (HToD.out _ (by assumption)).mono ?_; rintro e wa ⟨aa, ca, rfl, hoa, hba, hca⟩)
        | (go_at_call 10; refine (HTo.out _ (by assumption)).mono ?_; rintro e wb ⟨y1, z1, y2, z2, rfl, hob, hbb, hcb⟩; have hoa2 := hide (hoa.out.below hcb); have hsh2 := hcb.size; have hsh := Nat.le_refl wb.heap.size)
        | (go_at_call 22; refine (HSp.out _ _ _ _ _ _ _ _ hob hsh hoa2 hsh2 (by assumption)).mono ?_; rintro e wd ⟨a3, c3, rfl, hl3, hbd, hcd⟩))
    all_goals
      go_wp2_with fail
      go_meet
      exact ⟨_, _, _, rfl, rfl, hl3, hbd⟩
  case rest =>
    obtain ⟨ws, rfl⟩ : ∃ x, x = wc := ⟨_, rfl⟩
    obtain ⟨a3, c3, lo3, rfl, rfl, HL3, hbc⟩ := hcut
    clear hb1d hb1 hb2 hzz1 HSp
    obtain ⟨⟨x0, x1, x2⟩, y0, y1⟩ := HB.out _ hbc
    have hz3 : w.heap.size < ws.heap.size := by have := (HOld.out _ hbc).2; omega
    go_wp2_with fail
    refine (HToD.out _ hbc).mono ?_
    rintro e w4 ⟨a4, c4, rfl, ho4, hb4, hc4⟩
    have hz4 := hc4.size
    have hl4 := hb4.alloc (HOld.out _ hb4).2 (.cells #[.int .i64 d.root, .int .i64 d.next, .slice a4 d.nodes.length c4] 38)
    have hl4' := (Below.refl w4.heap.size w4).alloc (Nat.le_refl _) (.cells #[.int .i64 d.root, .int .i64 d.next, .slice a4 d.nodes.length c4] 38)
    obtain ⟨W4, hW4⟩ : ∃ W4, W4 = w4.alloc (.cells #[.int .i64 d.root, .int .i64 d.next, .slice a4 d.nodes.length c4] 38) := ⟨_, rfl⟩
    have hh4 : W4.heap[w4.heap.size]? = some (.cells #[.int .i64 d.root, .int .i64 d.next, .slice a4 d.nodes.length c4] 38 (0, 0)) := by rw [hW4]; exact alloc_new w4 _
    rw [← hW4] at hl4 hl4'
    have HO4 := hide (ho4.out.below hl4')
    have hz44 : w4.heap.size + 1 ≤ W4.heap.size := by have := (Array.getElem?_eq_some_iff.1 hh4).1; omega
    clear x0 x1 x2 y0 y1 ho4
    obtain ⟨⟨x0, x1, x2⟩, y0, y1⟩ := HB.out _ hb4
    have hzw4 : w.heap.size + 1 < w4.heap.size := by have := (HOld.out _ hb4).2; omega
    go_wp2_with fail
    rw [← hW4]
    clear hW4
    clear x0 x1 x2 y0 y1
    refine (HTo.out _ hl4).mono ?_
    rintro e w5 ⟨y1, z1, y2, z2, rfl, ho5, hb5, hc5⟩
    have hz5 := hc5.size
    have hbox4 := (hc5.block w4.heap.size (by omega)).trans hh4
    have kk0 := cell_of_heap hbox4 0
    have kk1 := cell_of_heap hbox4 1
    have kk2 := cell_of_heap hbox4 2
    simp only [List.getElem?_toArray, List.getElem?_cons_succ, List.getElem?_cons_zero] at kk0 kk1 kk2
    have hzz5 : w4.heap.size < w5.heap.size := by omega
    obtain ⟨W5, hW5⟩ : ∃ W5, W5 = w5.alloc (.cells #[.slice y1 t.holds.length z1, .slice y2 t.waits.length z2] 32) := ⟨_, rfl⟩
    have hh5 : W5.heap[w5.heap.size]? = some (.cells #[.slice y1 t.holds.length z1, .slice y2 t.waits.length z2] 32 (0, 0)) := by rw [hW5]; exact alloc_new w5 _
    have hl5 : Below (w.heap.size + 1 + 1) W0 W5 := by rw [hW5]; exact hb5.alloc (HOld.out _ hb5).2 _
    have hl55 : Below w5.heap.size w5 W5 := by rw [hW5]; exact (Below.refl _ _).alloc (Nat.le_refl _) _
    have hz55 : w5.heap.size < W5.heap.size := (Array.getElem?_eq_some_iff.1 hh5).1
    have hc45 := hc5.trans (hl55.mono hz5)
    have HO5 := hide (ho5.out.below hl55)
    have HO45 := hide (HO4.out.below (hc45.mono (by omega)))
    have hh45 := (hc45.block w4.heap.size (by omega)).trans hh4
    have hwb5 := (HOld.out _ hl5).2
    clear ho5
    go_wp2_with fail
    rw [← hW5]
    clear hW5
    refine (HIm.out W5 _ _ _ _ _ _ _ HO5 (by omega) HO45 (by omega) hl5).mono ?_
    rintro e w6 ⟨a6, c6, rfl, HL6, hb6, hc6⟩
    have hz6 := hc6.size
    have hlo6 := Nat.le_refl W5.heap.size
    have h36 : Below ws.heap.size ws w6 := hc4.trans ((hl4'.mono hz4).trans ((hc45.mono (by omega)).trans (hc6.mono (by omega))))
    have HL36 := hide (HL3.out.below h36)
    have HE6 := hide (eqInts_any w6.heap.size _ _ ks w6 HL6.out.at (HL36.out.at.below (by omega) (Below.refl _ _)) hkl)
    clear kk0 kk1 kk2
    go_wp2_with (go_at_call 13; refine HE6.out.mono ?_; rintro e w7 ⟨rfl, hc7⟩)
    have hz7 := hc7.size
    have hb7 := hb6.trans (hc7.mono (HOld.out _ hb6).2)
    have hwb7 := (HOld.out _ hb7).2
    have h57 : Below W5.heap.size W5 w7 := hc6.trans (hc7.mono hz6)
    have HO47 := hide (HO45.out.below (h57.mono (by omega)))
    have hbox7 := (h57.block w4.heap.size (by omega)).trans hh45
    have HS7 : Hid (∀ wx, Below w7.heap.size w7 wx → (wx.cell? ⟨w.heap.size, 0, none⟩ = some (.int .i64 d.root) ∧ wx.cell? ⟨w.heap.size, 1, none⟩ = some (.int .i64 d.next) ∧ wx.cell? ⟨w.heap.size, 2, none⟩ = some (.slice sa d.nodes.length sc)) ∧ (wx.cell? ⟨w4.heap.size, 0, none⟩ = some (.int .i64 d.root) ∧ wx.cell? ⟨w4.heap.size, 1, none⟩ = some (.int .i64 d.next) ∧ wx.cell? ⟨w4.heap.size, 2, none⟩ = some (.slice a4 d.nodes.length c4))) := fun wx hb => by
      have j := (hb.block w4.heap.size (by omega)).trans hbox7
      exact ⟨(HB.out _ (hb7.trans (hb.mono hwb7))).1, cell_of_heap j 0, cell_of_heap j 1, cell_of_heap j 2⟩
    have HT7 : Hid (∀ wx, Below w7.heap.size w7 wx → Calls Tryz.prog 9 #[.agg #[.int .i64 d.root, .int .i64 d.next, .slice sa d.nodes.length sc]] wx fun e w' => ∃ ua uc, e = .returned (.agg #[.int .i64 d.root, .int .i64 d.next, .slice ua d.nodes.length uc]) ∧ Hid (DocAt w'.heap.size w' (.agg #[.int .i64 d.root, .int .i64 d.next, .slice ua d.nodes.length uc]) d) ∧ Below w7.heap.size w7 w') := fun wx hb =>
      (HToD.out wx (hb7.trans (hb.mono hwb7))).mono fun e w' ⟨ua, uc, he, ho, _, hc⟩ => ⟨ua, uc, he, ho.out.at, hb.trans (hc.mono hb.size)⟩
    have HE7 : Hid (∀ wx ua uc, Below w7.heap.size w7 wx → Hid (DocAt wx.heap.size wx (.agg #[.int .i64 d.root, .int .i64 d.next, .slice ua d.nodes.length uc]) d) → Calls Tryz.prog 14 #[.agg #[.int .i64 d.root, .int .i64 d.next, .slice a4 d.nodes.length c4], .agg #[.int .i64 d.root, .int .i64 d.next, .slice ua d.nodes.length uc]] wx fun e w' => e = .returned (.bool true) ∧ Below w7.heap.size w7 w') := fun wx ua uc hb ho => by
      have hsx := hb.size
      exact (eqDoc_any wx.heap.size _ _ d wx ((HO47.out.below (hb.mono (by omega))).at.below (by omega) (Below.refl _ _)) ho.out (Nat.le_refl _) HSd.out.len HSd.out.kids).mono fun e w' ⟨he, hb'⟩ => ⟨he, hb.trans (hb'.mono hsx)⟩
    have hd7 : Below w7.heap.size w7 w7.drew := (Below.refl _ _).drew
    clear HE6
    go_cut [62] (fun v62 wd => v62 = .bool false ∧ Below w7.heap.size w7 wd)
    case first =>
      clear HB HTo HToD HOld HIm
      go_region_held3 (fun wx => (wx.cell? ⟨w.heap.size, 0, none⟩ = some (.int .i64 d.root) ∧ wx.cell? ⟨w.heap.size, 1, none⟩ = some (.int .i64 d.next) ∧ wx.cell? ⟨w.heap.size, 2, none⟩ = some (.slice sa d.nodes.length sc)) ∧ (wx.cell? ⟨w4.heap.size, 0, none⟩ = some (.int .i64 d.root) ∧ wx.cell? ⟨w4.heap.size, 1, none⟩ = some (.int .i64 d.next) ∧ wx.cell? ⟨w4.heap.size, 2, none⟩ = some (.slice a4 d.nodes.length c4))) (first | exact HS7.out _ (by assumption) | go_keep)
        (first
          | (go_at_call 9; refine (HT7.out _ (by assumption)).mono ?_; rintro e w8 ⟨a8, c8, rfl, ho8, hb8⟩)
          | (go_at_call 14; refine (HE7.out _ _ _ (by assumption) (by assumption)).mono ?_; rintro e w9 ⟨rfl, hb9⟩))
      all_goals
        go_wp2_with fail
        go_meet
        exact ⟨rfl, hb9⟩
    case rest =>
      obtain ⟨w10, rfl⟩ : ∃ y, y = wc := ⟨_, rfl⟩
      obtain ⟨rfl, hbd⟩ := hcut
      have hzd := hbd.size
      have hb10 : Below (w.heap.size + 1 + 1) W0 w10 := hb7.trans (hbd.mono hwb7)
      have h510 : Below W5.heap.size W5 w10 := h57.trans (hbd.mono (by omega))
      have HO5d := hide (HO5.out.below (h510.mono (by omega)))
      have hwb10 := (HOld.out _ hb10).2
      have hbox10 := (h510.block w5.heap.size (by omega)).trans hh5
      clear HS7 HT7 HE7 HO47 hd7
      have HS10 : Hid (∀ wx, Below w10.heap.size w10 wx → (wx.cell? ⟨w.heap.size + 1, 0, none⟩ = some (.slice d1 t.holds.length e1) ∧ wx.cell? ⟨w.heap.size + 1, 1, none⟩ = some (.slice d2 t.waits.length e2)) ∧ (wx.cell? ⟨w5.heap.size, 0, none⟩ = some (.slice y1 t.holds.length z1) ∧ wx.cell? ⟨w5.heap.size, 1, none⟩ = some (.slice y2 t.waits.length z2))) := fun wx hb => by
        have j := (hb.block w5.heap.size (by omega)).trans hbox10
        exact ⟨(HB.out _ (hb10.trans (hb.mono hwb10))).2, cell_of_heap j 0, cell_of_heap j 1⟩
      have HT10 : Hid (∀ wx, Below w10.heap.size w10 wx → Calls Tryz.prog 10 #[.agg #[.slice d1 t.holds.length e1, .slice d2 t.waits.length e2]] wx fun e w' => ∃ p1 q1 p2 q2, e = .returned (.agg #[.slice p1 t.holds.length q1, .slice p2 t.waits.length q2]) ∧ Hid (TabAt w'.heap.size w' (.agg #[.slice p1 t.holds.length q1, .slice p2 t.waits.length q2]) t) ∧ Below w10.heap.size w10 w') := fun wx hb =>
        (HTo.out wx (hb10.trans (hb.mono hwb10))).mono fun e w' ⟨p1, q1, p2, q2, he, ho, _, hc⟩ => ⟨p1, q1, p2, q2, he, ho.out.at, hb.trans (hc.mono hb.size)⟩
      have HE10 : Hid (∀ wx A, Below w10.heap.size w10 wx → Hid (TabAt wx.heap.size wx A t) → Calls Tryz.prog 12 #[.agg #[.slice y1 t.holds.length z1, .slice y2 t.waits.length z2], A] wx fun e w' => e = .returned (.bool true) ∧ Below w10.heap.size w10 w') := fun wx A hb ho => by
        have hsx := hb.size
        exact (eqTable_any wx.heap.size _ _ t wx ((HO5d.out.below (hb.mono (by omega))).at.wide (by omega)) ho.out (Nat.le_refl _) HS.out).mono fun e w' ⟨he, hb'⟩ => ⟨he, hb.trans (hb'.mono hsx)⟩
      have hd10 : Below w10.heap.size w10 w10.drew := (Below.refl _ _).drew
      have hz510 : w5.heap.size < w10.heap.size := by omega
      go_wp2_with fail
      go_cut [67] (fun v67 wd => v67 = .bool false ∧ Below w10.heap.size w10 wd)
      case first =>
        clear HB HTo HToD HOld HIm
        go_region_held3 (fun wx => (wx.cell? ⟨w.heap.size + 1, 0, none⟩ = some (.slice d1 t.holds.length e1) ∧ wx.cell? ⟨w.heap.size + 1, 1, none⟩ = some (.slice d2 t.waits.length e2)) ∧ (wx.cell? ⟨w5.heap.size, 0, none⟩ = some (.slice y1 t.holds.length z1) ∧ wx.cell? ⟨w5.heap.size, 1, none⟩ = some (.slice y2 t.waits.length z2))) (first | exact HS10.out _ (by assumption) | go_keep)
          (first
            | (go_at_call 10; refine (HT10.out _ (by assumption)).mono ?_; rintro e w11 ⟨_, _, _, _, rfl, ho11, hb11⟩)
            | (go_at_call 12; refine (HE10.out _ _ (by assumption) (by assumption)).mono ?_; rintro e w12 ⟨rfl, hb12⟩))
        all_goals
          go_wp2_with fail
          go_meet
          exact ⟨rfl, hb12⟩
      case rest =>
        obtain ⟨w12, rfl⟩ : ∃ y, y = wc := ⟨_, rfl⟩
        obtain ⟨rfl, hbe⟩ := hcut
        have hz12 := hbe.size
        have hb12 : Below (w.heap.size + 1 + 1) W0 w12 := hb10.trans (hbe.mono hwb10)
        have h512 : Below W5.heap.size W5 w12 := h510.trans (hbe.mono (by omega))
        have h612 : Below w6.heap.size w6 w12 := hc7.trans ((hbd.mono (by omega)).trans (hbe.mono (by omega)))
        have hbox12 := (h512.block w4.heap.size (by omega)).trans hh45
        have hbox12t := (h512.block w5.heap.size (by omega)).trans hh5
        have x0 := cell_of_heap hbox12 0
        have x1 := cell_of_heap hbox12 1
        have x2 := cell_of_heap hbox12 2
        simp only [List.getElem?_toArray, List.getElem?_cons_succ, List.getElem?_cons_zero] at x0 x1 x2
        have hz412 : w4.heap.size < w12.heap.size := by omega
        have HMd := hide (markDoc_upto 1 (by omega) (by omega) ws.heap.size w4.heap.size _ d w12 (HO45.out.below (h512.mono (by omega))) (by omega) HSd.out.len HSd.out.kids)
        clear HS10 HT10 HE10 hd10 hbox12
        go_wp2_with fail
        refine HMd.out.mono ?_
        rintro e w13 ⟨r1, rfl, hr10, hr11, hwi1⟩
        have hz13 := hwi1.below.size
        have hbox13t := (hwi1.above w5.heap.size (by omega) (by omega)).trans hbox12t
        have t0 := cell_of_heap hbox13t 0
        have t1 := cell_of_heap hbox13t 1
        simp only [List.getElem?_toArray, List.getElem?_cons_succ, List.getElem?_cons_zero] at t0 t1
        have hz513 : w5.heap.size < w13.heap.size := by omega
        have HMt := hide (markTable_any r1 hr10 (by omega) W4.heap.size w5.heap.size _ t w13 ((HO5.out.below (h512.mono (by omega))).heap (fun b h1 h2 => hwi1.above b (by omega) (by omega))) (by omega) HS.out)
        clear HMd x0 x1 x2 hbox12t hbox13t
        go_wp2_with fail
        refine HMt.out.mono ?_
        rintro e w14 ⟨r2, rfl, hr20, hwi2⟩
        clear t0 t1
        have hz14 := hwi2.below.size
        have h314 : Below ws.heap.size ws w14 := (h36.trans (h612.mono (by omega))).trans (hwi1.below.trans (hwi2.below.mono (by omega)))
        have HL314 : Hid (ListIn lo3 ws.heap.size w14 (.slice a3 ks.length c3) ks) := HL3.out.below h314
        have HL614 : Hid (ListIn W5.heap.size w6.heap.size w14 (.slice a6 ks.length c6) ks) := (HL6.out.below h612).heap fun g h1 h2 => (hwi2.above g (by omega) (by omega)).trans (hwi1.above g (by omega) (by omega))
        have hb14 : Below (w.heap.size + 1 + 1) W0 w14 := hb12.trans ((hwi1.below.mono (HOld.out _ hbc).2).trans (hwi2.below.mono (HOld.out _ hl4).2))
        have HE14 := hide (eqInts_any w14.heap.size _ _ ks w14 (HL614.out.at.below (by omega) (Below.refl _ _)) (HL314.out.at.below (by omega) (Below.refl _ _)) hkl)
        have hr2n : decide (r2 < 0) = false := by simp; omega
        clear HMt
        go_wp2_with (go_at_call 13; refine HE14.out.mono ?_; rintro e w15 ⟨rfl, hc15⟩)
        have hz15 := hc15.size
        have HL315 : Hid (ListIn lo3 ws.heap.size w15 (.slice a3 ks.length c3) ks) := HL314.out.below (hc15.mono (by omega))
        have HL615 : Hid (ListIn W5.heap.size w6.heap.size w15 (.slice a6 ks.length c6) ks) := HL614.out.below (hc15.mono (by omega))
        have hb15 : Below (w.heap.size + 1 + 1) W0 w15 := hb14.trans (hc15.mono (HOld.out _ hb14).2)
        obtain ⟨a6', c6', e6, hrow6, hloc⟩ := HL615.out.row
        obtain ⟨rfl, -, rfl⟩ : a6 = a6' ∧ ks.length = ks.length ∧ c6 = c6' := by simpa using e6
        have HMi := hide (markInts_any a6 ks.length c6 1 w15 hrow6 hkl (by omega) (by omega))
        clear HE14 e6 hrow6
        refine HMi.out.mono ?_
        rintro e w16 ⟨rfl, hor, hmk⟩
        have h1516 := hor.below W5.heap.size (fun b hb => by have := (hloc b hb).1; omega)
        have hz16 := hor.size
        have HL316 : Hid (ListIn lo3 ws.heap.size w16 (.slice a3 ks.length c3) ks) := HL315.out.below (h1516.mono (by omega))
        have hb16 : Below (w.heap.size + 1 + 1) W0 w16 := hb15.trans (h1516.mono hwb5)
        have hwb16 := (HOld.out _ hb16).2
        have HMkA := hide hmk
        have HHe := hide (heldInts_any a6 ks.length c6 1 w16 hmk hkl (by omega) (by omega))
        have hm0 : (0 : Int) ≤ 1 + (ks.length : Int) := by omega
        have hm1 : decide (1 + (ks.length : Int) < 0) = false := by simp; omega
        clear hor hmk HMi hloc
        go_wp2_with fail
        refine HHe.out.mono ?_
        rintro e w17 ⟨rfl, hw17⟩
        have hw17' := hw17.symm
        subst hw17'
        clear hw17 HHe
        have HIm16 : Hid (∀ wx A ua uc lo hi lo' hi', Hid (TabOwn lo hi wx A t) → hi ≤ wx.heap.size → Hid (DocOwn lo' hi' wx (.agg #[.int .i64 d.root, .int .i64 d.next, .slice ua d.nodes.length uc]) d) → hi' ≤ wx.heap.size → Below w16.heap.size w16 wx → Calls Tryz.prog 23 #[.agg #[.int .i64 d.root, .int .i64 d.next, .slice ua d.nodes.length uc], A, .int .i64 ss] wx fun e w' => ∃ a q, e = .returned (.tuple #[.slice a ks.length q, .int .i64 c]) ∧ Hid (ListIn wx.heap.size w'.heap.size w' (.slice a ks.length q) ks) ∧ Below w16.heap.size w16 w') := fun wx A ua uc lo hi lo' hi' h1 h2 h3 h4 hb =>
          (HIm.out wx A ua uc lo hi lo' hi' h1 h2 h3 h4 (hb16.trans (hb.mono hwb16))).mono fun e w' ⟨a, q, he, hL, _, hb'⟩ => ⟨a, q, he, hL, hb.trans (hb'.mono hb.size)⟩
        have HTo16 : Hid (∀ wx, Below w16.heap.size w16 wx → Calls Tryz.prog 10 #[.agg #[.slice d1 t.holds.length e1, .slice d2 t.waits.length e2]] wx fun e w' => ∃ y1 z1 y2 z2, e = .returned (.agg #[.slice y1 t.holds.length z1, .slice y2 t.waits.length z2]) ∧ Hid (TabOwn wx.heap.size w'.heap.size w' (.agg #[.slice y1 t.holds.length z1, .slice y2 t.waits.length z2]) t) ∧ Below w16.heap.size w16 w' ∧ Below wx.heap.size wx w') := fun wx hb =>
          (HTo.out wx (hb16.trans (hb.mono hwb16))).mono fun e w' ⟨y1, z1, y2, z2, he, ho, _, hb'⟩ => ⟨y1, z1, y2, z2, he, ho, hb.trans (hb'.mono hb.size), hb'⟩
        have HToD16 : Hid (∀ wx, Below w16.heap.size w16 wx → Calls Tryz.prog 9 #[.agg #[.int .i64 d.root, .int .i64 d.next, .slice sa d.nodes.length sc]] wx fun e w' => ∃ ua uc, e = .returned (.agg #[.int .i64 d.root, .int .i64 d.next, .slice ua d.nodes.length uc]) ∧ Hid (DocOwn wx.heap.size w'.heap.size w' (.agg #[.int .i64 d.root, .int .i64 d.next, .slice ua d.nodes.length uc]) d) ∧ Below w16.heap.size w16 w' ∧ Below wx.heap.size wx w') := fun wx hb =>
          (HToD.out wx (hb16.trans (hb.mono hwb16))).mono fun e w' ⟨ua, uc, he, ho, _, hb'⟩ => ⟨ua, uc, he, ho, hb.trans (hb'.mono hb.size), hb'⟩
        have HS16 : Hid (∀ wx, Below w16.heap.size w16 wx → (wx.cell? ⟨w.heap.size, 0, none⟩ = some (.int .i64 d.root) ∧ wx.cell? ⟨w.heap.size, 1, none⟩ = some (.int .i64 d.next) ∧ wx.cell? ⟨w.heap.size, 2, none⟩ = some (.slice sa d.nodes.length sc)) ∧ (wx.cell? ⟨w.heap.size + 1, 0, none⟩ = some (.slice d1 t.holds.length e1) ∧ wx.cell? ⟨w.heap.size + 1, 1, none⟩ = some (.slice d2 t.waits.length e2))) := fun wx hb => HB.out _ (hb16.trans (hb.mono hwb16))
        have hd16 : Below w16.heap.size w16 w16.drew := (Below.refl _ _).drew
        go_wp2_with fail
        go_cut [17, 18] (fun v17 v18 we => ∃ a14 c14 lo, v17 = .slice a14 ks.length c14 ∧ v18 = .int .i64 c ∧ Hid (ListIn lo we.heap.size we (.slice a14 ks.length c14) ks) ∧ Below w16.heap.size w16 we)
        case first =>
          clear HB HTo HToD HOld HIm
          go_region_held3 (fun wx => (wx.cell? ⟨w.heap.size, 0, none⟩ = some (.int .i64 d.root) ∧ wx.cell? ⟨w.heap.size, 1, none⟩ = some (.int .i64 d.next) ∧ wx.cell? ⟨w.heap.size, 2, none⟩ = some (.slice sa d.nodes.length sc)) ∧ (wx.cell? ⟨w.heap.size + 1, 0, none⟩ = some (.slice d1 t.holds.length e1) ∧ wx.cell? ⟨w.heap.size + 1, 1, none⟩ = some (.slice d2 t.waits.length e2))) (first | exact HS16.out _ (by assumption) | go_keep)
            (first
              | (go_at_call 9; refine (HToD16.out _ (by assumption)).mono ?_; rintro e wa ⟨aa, ca, rfl, hoa, hba, hca⟩)
              | (go_at_call 10; refine (HTo16.out _ (by assumption)).mono ?_; rintro e wb ⟨_, _, _, _, rfl, hob, hbb, hcb⟩; have hoa2 := hide (hoa.out.below hcb); have hsh2 := hcb.size; have hsh := Nat.le_refl wb.heap.size)
              | (go_at_call 23; refine (HIm16.out _ _ _ _ _ _ _ _ hob hsh hoa2 hsh2 (by assumption)).mono ?_; rintro e wd ⟨a14, c14, rfl, hl14, hb14'⟩))
          all_goals
            go_wp2_with fail
            go_meet
            exact ⟨_, _, _, rfl, rfl, hl14, hb14'⟩
        case rest =>
          obtain ⟨w18, rfl⟩ : ∃ y, y = wc := ⟨_, rfl⟩
          obtain ⟨a14, c14, lo14, rfl, rfl, HL14, hb18⟩ := hcut
          have hz18 := hb18.size
          have HE18 := hide (eqInts_any w18.heap.size _ _ ks w18 HL14.out.at ((HL316.out.below (hb18.mono (by omega))).at.below (by omega) (Below.refl _ _)) hkl)
          go_wp2_with (go_at_call 13; refine HE18.out.mono ?_; rintro e w19 ⟨rfl, hc19⟩)
          have h1619 : Below w16.heap.size w16 w19 := hb18.trans (hc19.mono (by omega))
          have HHe := hide (heldInts_any a6 ks.length c6 1 w19 (HMkA.out.below h1619) hkl (by omega) (by omega))
          clear HE18
          refine HHe.out.mono ?_
          rintro e w20 ⟨rfl, hw20⟩
          have hw20' := hw20.symm
          subst hw20'
          clear hw20 HHe
          go_wp2_with fail
          go_ret
          exact ⟨rfl, (HOld.out _ (hb16.trans (h1619.mono hwb16))).1⟩
end Go.Proofs.YtfjhpfgffbghdaaGreatDoor
