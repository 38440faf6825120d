/-
  The law answers true at every document and table that a program can hold.
-/
import Derived.Test.YtfjhpfgffbghdaaTableTopJ
import Derived.Test.YtfjhpfgffbghdaaJoinD
import Derived.Test.YtfjhpfgffbghdaaTabLawJ
import Derived.Deep.RegionHeld3
namespace Go.Proofs.Ytfjhpfgffbghdaa
open Go.RowKit

set_option maxHeartbeats 4000000 in
set_option maxRecDepth 100000 in
theorem tableOKLaw (n₀ : Nat) (v v' : Value) (t : PDoc) (t' : PTab) (w : World) (h : DocAt n₀ w v t) (h' : TabAt n₀ w v' t') (hn : n₀ ≤ w.heap.size) (hf : Fits t) (hf' : FitsT t') (hwf : WfDoc t) :
    Calls Try.prog 6 #[v, v'] w fun e w' => e = .returned (.bool true) ∧ Below w.heap.size w w' := by
  have HD := hide h
  have HD' := hide h'
  obtain ⟨sa, sc, rfl, -⟩ := h.form
  have HWf := hide hwf
  obtain ⟨d1, e1, d2, e2, rfl⟩ := h'.form
  obtain ⟨W0, hW0⟩ : ∃ W0, W0 = (w.alloc (.cells #[.int .i64 t.root, .int .i64 t.next, .slice sa t.nodes.length sc] 24)).alloc (.cells #[.slice d1 t'.holds.length e1, .slice d2 t'.waits.length e2] 50) := ⟨_, rfl⟩
  have hw0 : Below w.heap.size w W0 := by rw [hW0]; exact ((Below.refl w.heap.size w).alloc (Nat.le_refl _) _).alloc (by simp) _
  have hs0 : W0.heap.size = w.heap.size + 1 + 1 := by rw [hW0]; simp
  have hh0 : W0.heap[w.heap.size]? = some (.cells #[.int .i64 t.root, .int .i64 t.next, .slice sa t.nodes.length sc] 24 (0, 0)) := by
    rw [hW0, Below.heap_alloc _ _ _ (by simp)]; exact alloc_new w _
  have hh1 : W0.heap[w.heap.size + 1]? = some (.cells #[.slice d1 t'.holds.length e1, .slice d2 t'.waits.length e2] 50 (0, 0)) := by
    rw [hW0]
    have := alloc_new (w.alloc (.cells #[.int .i64 t.root, .int .i64 t.next, .slice sa t.nodes.length sc] 24)) (.cells #[.slice d1 t'.holds.length e1, .slice d2 t'.waits.length e2] 50)
    simpa using this
  have HOld : Hid (∀ wx, Below W0.heap.size W0 wx → Below w.heap.size w wx ∧ w.heap.size + 1 + 1 ≤ wx.heap.size ∧ W0.heap.size ≤ wx.heap.size) := fun wx hb => ⟨hw0.trans (hb.mono (by omega)), by have := hb.size; omega, hb.size⟩
  have HB : Hid (∀ wx, Below W0.heap.size W0 wx → wx.cell? ⟨w.heap.size, 0, none⟩ = some (.int .i64 t.root) ∧ wx.cell? ⟨w.heap.size, 1, none⟩ = some (.int .i64 t.next) ∧ wx.cell? ⟨w.heap.size, 2, none⟩ = some (.slice sa t.nodes.length sc) ∧ wx.cell? ⟨w.heap.size + 1, 0, none⟩ = some (.slice d1 t'.holds.length e1) ∧ wx.cell? ⟨w.heap.size + 1, 1, none⟩ = some (.slice d2 t'.waits.length e2)) := fun wx hb => by
    have j0 := (hb.block w.heap.size (by omega)).trans hh0
    have j1 := (hb.block (w.heap.size + 1) (by omega)).trans hh1
    exact ⟨cell_of_heap j0 0, cell_of_heap j0 1, cell_of_heap j0 2, cell_of_heap j1 0, cell_of_heap j1 1⟩
  have HSz : Hid (∀ wx q, Below W0.heap.size W0 wx → 0 ≤ q → q ≤ 1048576 → Calls Try.prog 8 #[.agg #[.int .i64 t.root, .int .i64 t.next, .slice sa t.nodes.length sc], .int .i64 q] wx fun e w' => ∃ r, e = .returned (.int .i64 r) ∧ -1 ≤ r ∧ r ≤ q ∧ Hid (0 ≤ r → Small t) ∧ Below W0.heap.size W0 w') := fun wx q hb q0 q1 =>
    (szDoc_any n₀ _ t q wx (HD.out.below (Nat.le_refl _) ((HOld.out wx hb).1.mono hn)) (by have := HOld.out wx hb; omega) q0 q1 hf).mono fun e w' ⟨r, he, k1, k2, k3, hb'⟩ => ⟨r, he, k1, k2, k3, hb.trans (hb'.mono hb.size)⟩
  have HSz' : Hid (∀ wx q, Below W0.heap.size W0 wx → 0 ≤ q → q ≤ 1048576 → Calls Try.prog 24 #[.agg #[.slice d1 t'.holds.length e1, .slice d2 t'.waits.length e2], .int .i64 q] wx fun e w' => ∃ r, e = .returned (.int .i64 r) ∧ -1 ≤ r ∧ r ≤ q ∧ Hid (0 ≤ r → SmallT t') ∧ Below W0.heap.size W0 w') := fun wx q hb q0 q1 =>
    (szTable_any n₀ _ t' q wx (HD'.out.below (Nat.le_refl _) ((HOld.out wx hb).1.mono hn)) q0 q1 hf').mono fun e w' ⟨r, he, k1, k2, k3, hb'⟩ => ⟨r, he, k1, k2, k3, hb.trans (hb'.mono hb.size)⟩
  obtain ⟨r, hr⟩ : ∃ r : Bool, r = true ↔ TabP t t' := ⟨dec _, dec_iff _⟩
  have HR := hide hr
  have hb0 : Below W0.heap.size W0 W0 := Below.refl _ _
  clear hf hf' h h' hr hwf hs0 hh0 hh1 hw0
  go_enter Try.func6, Try.ntmps6
  go_wp2_with fail
  rw [← hW0]
  clear hW0
  refine (HSz.out _ 1048576 hb0 (by omega) (by omega)).mono ?_
  rintro e w1 ⟨q, rfl, hq1, hq2, hq3, hb1⟩
  by_cases hq : q < 0
  · go_wp2_with fail
    go_ret
    exact ⟨rfl, (HOld.out _ hb1).1⟩
  have HS := hide (hq3.out (by omega))
  obtain ⟨x0, x1, x2, x3, x4⟩ := HB.out _ hb1
  have hz1 : w.heap.size < w1.heap.size := by have := HOld.out _ hb1; omega
  have hz2 : w.heap.size + 1 < w1.heap.size := by have := HOld.out _ hb1; omega
  clear hq3 HSz hb0
  go_wp2_with fail
  refine (HSz'.out w1 q hb1 (by omega) hq2).mono ?_
  rintro e w2 ⟨q', rfl, hq1', hq2', hq3', hb2⟩
  by_cases hq' : q' < 0
  · go_wp2_with fail
    go_ret
    exact ⟨rfl, (HOld.out _ hb2).1⟩
  have HS' := hide (hq3'.out (by omega))
  clear hq3' HSz' x0 x1 x2 x3 hz1 hz2
  have HTo : Hid (∀ wx, Below W0.heap.size W0 wx → Calls Try.prog 11 #[.agg #[.int .i64 t.root, .int .i64 t.next, .slice sa t.nodes.length sc]] wx fun e w' => ∃ y1 z1, e = .returned (.agg #[.int .i64 t.root, .int .i64 t.next, .slice y1 t.nodes.length z1]) ∧ Hid (DocAt w'.heap.size w' (.agg #[.int .i64 t.root, .int .i64 t.next, .slice y1 t.nodes.length z1]) t) ∧ Below W0.heap.size W0 w' ∧ Below wx.heap.size wx w') := fun wx hb =>
    (toDoc_any n₀ _ t wx (HD.out.below (Nat.le_refl _) ((HOld.out wx hb).1.mono hn)) (by have := HOld.out wx hb; omega) HS.out).mono fun e w' ⟨u, he, ho, hb'⟩ => by
      obtain ⟨y1, z1, rfl, -⟩ := ho.at.form
      exact ⟨y1, z1, he, ho.at, hb.trans (hb'.mono hb.size), hb'⟩
  have HTo' : Hid (∀ wx, Below W0.heap.size W0 wx → Calls Try.prog 26 #[.agg #[.slice d1 t'.holds.length e1, .slice d2 t'.waits.length e2]] wx fun e w' => ∃ y1 z1 y2 z2, e = .returned (.agg #[.slice y1 t'.holds.length z1, .slice y2 t'.waits.length z2]) ∧ Hid (TabAt w'.heap.size w' (.agg #[.slice y1 t'.holds.length z1, .slice y2 t'.waits.length z2]) t') ∧ Below W0.heap.size W0 w' ∧ Below wx.heap.size wx w') := fun wx hb =>
    (toTable_any n₀ _ t' wx (HD'.out.below (Nat.le_refl _) ((HOld.out wx hb).1.mono hn)) (by have := HOld.out wx hb; omega) HS'.out).mono fun e w' ⟨u, he, ho, hb'⟩ => by
      obtain ⟨y1, z1, y2, z2, rfl⟩ := ho.at.form
      exact ⟨y1, z1, y2, z2, he, ho.at, hb.trans (hb'.mono hb.size), hb'⟩
  have HSp : Hid (∀ wx A B, Below W0.heap.size W0 wx → DocAt wx.heap.size wx A t → TabAt wx.heap.size wx B t' → Calls Try.prog 25 #[A, B] wx fun e w' => e = .returned (.bool r) ∧ Below W0.heap.size W0 w') := fun wx A B hb hA hB => by
    obtain ⟨sx, rfl, hNx⟩ := hA
    exact (specTableOK_any wx.heap.size t sx B t' wx hNx hB (Nat.le_refl _) HS.out.len HS.out.kids HS'.out r HR.out).mono fun e w' ⟨he, hb'⟩ => ⟨he, hb.trans (hb'.mono hb.size)⟩
  have HIm : Hid (∀ wx A B, Below W0.heap.size W0 wx → DocAt wx.heap.size wx A t → TabAt wx.heap.size wx B t' → Calls Try.prog 27 #[A, B] wx fun e w' => e = .returned (.bool r) ∧ Below W0.heap.size W0 w' ∧ Below wx.heap.size wx w') := fun wx A B hb hA hB => by
    obtain ⟨sx, rfl, hNx⟩ := hA
    exact (implTableOK_any wx.heap.size t sx B t' wx hNx hB (Nat.le_refl _) HS.out.len HWf.out HS'.out r HR.out).mono fun e w' ⟨he, hb'⟩ => ⟨he, hb.trans (hb'.mono hb.size), hb'⟩
  have hd2 := hb2.drew
  obtain ⟨x0, x1, x2, x3, x4⟩ := HB.out _ hb2
  have hz1 : w.heap.size < w2.heap.size := by have := HOld.out _ hb2; omega
  have hz2 : w.heap.size + 1 < w2.heap.size := by have := HOld.out _ hb2; omega
  go_wp2_with fail
  go_cut [6] (fun v6 wc => v6 = .bool r ∧ Below W0.heap.size W0 wc)
  case first =>
    go_region_with (first
      | (go_at_call 11; with_reducible refine (HTo.out _ hd2).mono ?_; rintro e wa ⟨y1, z1, rfl, hoa, hba, hca⟩; obtain ⟨p0, p1, p2, p3, p4⟩ := HB.out _ hba; have hza : w.heap.size + 1 < wa.heap.size := by have := HOld.out _ hba; omega)
      | (go_at_call 26; with_reducible refine (HTo'.out _ hd2).mono ?_; rintro e wb ⟨y3, z3, y4, z4, rfl, hob, hbb, hcb⟩; obtain ⟨p0, p1, p2, p3, p4⟩ := HB.out _ hbb; have hzb : w.heap.size + 1 < wb.heap.size := by have := HOld.out _ hbb; omega)
      | (go_at_call 26; with_reducible refine (HTo'.out _ hba).mono ?_; rintro e wd ⟨y3, z3, y4, z4, rfl, hod, hbd, hcd⟩; have HX := hide (hoa.out.below hcd.size hcd))
      | (go_at_call 11; with_reducible refine (HTo.out _ hbb).mono ?_; rintro e wd ⟨y1, z1, rfl, hod, hbd, hcd⟩; have HX := hide (hob.out.below hcd.size hcd))
      | (go_at_call 25; with_reducible refine (HSp.out _ _ _ hbd HX.out hod.out).mono ?_; rintro e we ⟨rfl, hbe⟩)
      | (go_at_call 25; with_reducible refine (HSp.out _ _ _ hbd hod.out HX.out).mono ?_; rintro e we ⟨rfl, hbe⟩))
    all_goals
      go_wp2_with fail
      go_meet
      exact ⟨rfl, hbe⟩
  case rest =>
    obtain ⟨rfl, hb3⟩ := hcut
    clear x0 x1 x2 x3 x4 hz1 hz2 hd2
    obtain ⟨x0, x1, x2, x3, x4⟩ := HB.out _ hb3
    have hz1 : w.heap.size < wc.heap.size := by have := HOld.out _ hb3; omega
    have hz2 : w.heap.size + 1 < wc.heap.size := by have := HOld.out _ hb3; omega
    go_wp2_with fail
    refine (HTo.out _ hb3).mono ?_
    rintro e w4 ⟨y1, z1, rfl, ho4, hb4, hc4⟩
    clear x0 x1 x2 x3 x4 hz1 hz2
    obtain ⟨W4, hW4⟩ : ∃ W4, W4 = w4.alloc (.cells #[.int .i64 t.root, .int .i64 t.next, .slice y1 t.nodes.length z1] 31) := ⟨_, rfl⟩
    have hh4 : W4.heap[w4.heap.size]? = some (.cells #[.int .i64 t.root, .int .i64 t.next, .slice y1 t.nodes.length z1] 31 (0, 0)) := by rw [hW4]; exact alloc_new w4 _
    have hl4 : Below W0.heap.size W0 W4 := by rw [hW4]; exact hb4.alloc hb4.size _
    have hl44 : Below w4.heap.size w4 W4 := by rw [hW4]; exact (Below.refl _ _).alloc (Nat.le_refl _) _
    have hz4 : w4.heap.size < W4.heap.size := (Array.getElem?_eq_some_iff.1 hh4).1
    have HO4 := hide (ho4.out.below (n₁ := W4.heap.size) (by omega) hl44)
    obtain ⟨x0, x1, x2, x3, x4⟩ := HB.out _ hb4
    have hz1 : w.heap.size < w4.heap.size := by have := HOld.out _ hb4; omega
    have hz2 : w.heap.size + 1 < w4.heap.size := by have := HOld.out _ hb4; omega
    clear ho4
    go_wp2_with fail
    rw [← hW4]
    clear hW4
    refine (HTo'.out _ hl4).mono ?_
    rintro e w5 ⟨y3, z3, y4, z4, rfl, ho5, hb5, hc5⟩
    clear x0 x1 x2 x3 x4 hz1 hz2
    have kk0 := cell_of_heap ((hc5.block w4.heap.size hz4).trans hh4) 0
    have kk1 := cell_of_heap ((hc5.block w4.heap.size hz4).trans hh4) 1
    have kk2 := cell_of_heap ((hc5.block w4.heap.size hz4).trans hh4) 2
    simp only [List.getElem?_toArray, List.getElem?_cons_succ, List.getElem?_cons_zero] at kk0 kk1 kk2
    have hzz5 : w4.heap.size < w5.heap.size := by have := hc5.size; omega
    obtain ⟨W5, hW5⟩ : ∃ W5, W5 = w5.alloc (.cells #[.slice y3 t'.holds.length z3, .slice y4 t'.waits.length z4] 54) := ⟨_, rfl⟩
    have hh5 : W5.heap[w5.heap.size]? = some (.cells #[.slice y3 t'.holds.length z3, .slice y4 t'.waits.length z4] 54 (0, 0)) := by rw [hW5]; exact alloc_new w5 _
    have hl5 : Below W0.heap.size W0 W5 := by rw [hW5]; exact hb5.alloc hb5.size _
    have hl55 : Below w5.heap.size w5 W5 := by rw [hW5]; exact (Below.refl _ _).alloc (Nat.le_refl _) _
    have hz5 : w5.heap.size < W5.heap.size := (Array.getElem?_eq_some_iff.1 hh5).1
    have hsz5 := hc5.size
    have hc45 := hc5.trans (hl55.mono hsz5)
    have HO5 := hide (ho5.out.below (n₁ := W5.heap.size) (by omega) hl55)
    have HO45 := hide (HO4.out.below (n₁ := W5.heap.size) (by omega) hc45)
    have hh45 := (hc45.block w4.heap.size hz4).trans hh4
    have hz45 : w4.heap.size < W5.heap.size := by omega
    clear ho5
    go_wp2_with fail
    rw [← hW5]
    clear hW5
    refine (HIm.out _ _ _ hl5 HO45.out HO5.out).mono ?_
    rintro e w6 ⟨rfl, hb6, hc6⟩
    have hsz6 := hc6.size
    have hh46 := (hc6.block w4.heap.size hz45).trans hh45
    have hh56 := (hc6.block w5.heap.size hz5).trans hh5
    have HO46 := hide (HO45.out.below (n₁ := w6.heap.size) hsz6 hc6)
    have HO56 := hide (HO5.out.below (n₁ := w6.heap.size) hsz6 hc6)
    have HS6 : Hid (∀ wx, Below w6.heap.size w6 wx → (wx.cell? ⟨w.heap.size, 0, none⟩ = some (.int .i64 t.root) ∧ wx.cell? ⟨w.heap.size, 1, none⟩ = some (.int .i64 t.next) ∧ wx.cell? ⟨w.heap.size, 2, none⟩ = some (.slice sa t.nodes.length sc)) ∧ (wx.cell? ⟨w4.heap.size, 0, none⟩ = some (.int .i64 t.root) ∧ wx.cell? ⟨w4.heap.size, 1, none⟩ = some (.int .i64 t.next) ∧ wx.cell? ⟨w4.heap.size, 2, none⟩ = some (.slice y1 t.nodes.length z1))) := fun wx hb => by
      have j := (hb.block w4.heap.size (by omega)).trans hh46
      have k := HB.out _ (hb6.trans (hb.mono hb6.size))
      exact ⟨⟨k.1, k.2.1, k.2.2.1⟩, cell_of_heap j 0, cell_of_heap j 1, cell_of_heap j 2⟩
    have HT6 : Hid (∀ wx, Below w6.heap.size w6 wx → Calls Try.prog 11 #[.agg #[.int .i64 t.root, .int .i64 t.next, .slice sa t.nodes.length sc]] wx fun e w' => ∃ y1 z1, e = .returned (.agg #[.int .i64 t.root, .int .i64 t.next, .slice y1 t.nodes.length z1]) ∧ Hid (DocAt w'.heap.size w' (.agg #[.int .i64 t.root, .int .i64 t.next, .slice y1 t.nodes.length z1]) t) ∧ Below w6.heap.size w6 w') := fun wx hb =>
      (HTo.out wx (hb6.trans (hb.mono hb6.size))).mono fun e w' ⟨y1, z1, he, ho, _, hc⟩ => ⟨y1, z1, he, ho, hb.trans (hc.mono hb.size)⟩
    have HE6 : Hid (∀ wx A, Below w6.heap.size w6 wx → Hid (DocAt wx.heap.size wx A t) → Calls Try.prog 14 #[.agg #[.int .i64 t.root, .int .i64 t.next, .slice y1 t.nodes.length z1], A] wx fun e w' => e = .returned (.bool true) ∧ Below w6.heap.size w6 w') := fun wx A hb ho =>
      (eqDoc_any wx.heap.size _ _ t wx (HO46.out.below hb.size hb) ho.out (Nat.le_refl _) HS.out.len HS.out.kids).mono fun e w' ⟨he, hb'⟩ => ⟨he, hb.trans (hb'.mono hb.size)⟩
    have hd6 : Below w6.heap.size w6 w6.drew := (Below.refl _ _).drew
    have hz46 : w4.heap.size < w6.heap.size := by omega
    have HI6 := hide (HB.out _ hb6)
    clear kk0 kk1 kk2 HO4 HO5 HO45
    go_wp2_with fail
    go_cut [39] (fun v39 wd => v39 = .bool false ∧ Below w6.heap.size w6 wd)
    case first =>
      clear HB HTo HTo' HOld HSp HIm
      go_region_held3 (fun wx => (wx.cell? ⟨w.heap.size, 0, none⟩ = some (.int .i64 t.root) ∧ wx.cell? ⟨w.heap.size, 1, none⟩ = some (.int .i64 t.next) ∧ wx.cell? ⟨w.heap.size, 2, none⟩ = some (.slice sa t.nodes.length sc)) ∧ (wx.cell? ⟨w4.heap.size, 0, none⟩ = some (.int .i64 t.root) ∧ wx.cell? ⟨w4.heap.size, 1, none⟩ = some (.int .i64 t.next) ∧ wx.cell? ⟨w4.heap.size, 2, none⟩ = some (.slice y1 t.nodes.length z1))) (first | exact HS6.out _ (by assumption) | go_keep)
        (first
          | (go_at_call 11; refine (HT6.out _ (by assumption)).mono ?_; rintro e w9 ⟨_, _, rfl, ho9, hb9⟩)
          | (go_at_call 14; refine (HE6.out _ _ (by assumption) (by assumption)).mono ?_; rintro e w10 ⟨rfl, hb10⟩))
      all_goals
        go_wp2_with fail
        go_meet
        exact ⟨rfl, hb10⟩
    case rest =>
      obtain ⟨rfl, hb7⟩ := hcut
      clear HS6 HT6 HE6 hd6 HI6
      obtain ⟨w7, hw7⟩ : ∃ w7, w7 = wc := ⟨_, rfl⟩
      rw [← hw7] at hb7 ⊢
      clear hw7
      have hb7' : Below W0.heap.size W0 w7 := hb6.trans (hb7.mono hb6.size)
      have hsz7 := hb7.size
      have hh57 := (hb7.block w5.heap.size (by omega)).trans hh56
      have HO57 := hide (HO56.out.below (n₁ := w7.heap.size) hsz7 hb7)
      have HS7 : Hid (∀ wx, Below w7.heap.size w7 wx → (wx.cell? ⟨w.heap.size + 1, 0, none⟩ = some (.slice d1 t'.holds.length e1) ∧ wx.cell? ⟨w.heap.size + 1, 1, none⟩ = some (.slice d2 t'.waits.length e2)) ∧ (wx.cell? ⟨w5.heap.size, 0, none⟩ = some (.slice y3 t'.holds.length z3) ∧ wx.cell? ⟨w5.heap.size, 1, none⟩ = some (.slice y4 t'.waits.length z4))) := fun wx hb => by
        have j := (hb.block w5.heap.size (by omega)).trans hh57
        have k := HB.out _ (hb7'.trans (hb.mono hb7'.size))
        exact ⟨⟨k.2.2.2.1, k.2.2.2.2⟩, cell_of_heap j 0, cell_of_heap j 1⟩
      have HT7 : Hid (∀ wx, Below w7.heap.size w7 wx → Calls Try.prog 26 #[.agg #[.slice d1 t'.holds.length e1, .slice d2 t'.waits.length e2]] wx fun e w' => ∃ y1 z1 y2 z2, e = .returned (.agg #[.slice y1 t'.holds.length z1, .slice y2 t'.waits.length z2]) ∧ Hid (TabAt w'.heap.size w' (.agg #[.slice y1 t'.holds.length z1, .slice y2 t'.waits.length z2]) t') ∧ Below w7.heap.size w7 w') := fun wx hb =>
        (HTo'.out wx (hb7'.trans (hb.mono hb7'.size))).mono fun e w' ⟨y1, z1, y2, z2, he, ho, _, hc⟩ => ⟨y1, z1, y2, z2, he, ho, hb.trans (hc.mono hb.size)⟩
      have HE7 : Hid (∀ wx A, Below w7.heap.size w7 wx → Hid (TabAt wx.heap.size wx A t') → Calls Try.prog 28 #[.agg #[.slice y3 t'.holds.length z3, .slice y4 t'.waits.length z4], A] wx fun e w' => e = .returned (.bool true) ∧ Below w7.heap.size w7 w') := fun wx A hb ho =>
        (eqTable_any wx.heap.size _ _ t' wx (HO57.out.below hb.size hb) ho.out (Nat.le_refl _) HS'.out).mono fun e w' ⟨he, hb'⟩ => ⟨he, hb.trans (hb'.mono hb.size)⟩
      have hd7 : Below w7.heap.size w7 w7.drew := (Below.refl _ _).drew
      have hz57 : w5.heap.size < w7.heap.size := by omega
      have HOl7 : Hid (∀ wx, Below w7.heap.size w7 wx → Below w.heap.size w wx) := fun wx hb => (HOld.out _ (hb7'.trans (hb.mono hb7'.size))).1
      go_wp2_with fail
      go_cut [44] (fun v44 wd => v44 = .bool false ∧ Below w7.heap.size w7 wd)
      case first =>
        clear HB HTo HTo' HOld HSp HIm
        go_region_held3 (fun wx => (wx.cell? ⟨w.heap.size + 1, 0, none⟩ = some (.slice d1 t'.holds.length e1) ∧ wx.cell? ⟨w.heap.size + 1, 1, none⟩ = some (.slice d2 t'.waits.length e2)) ∧ (wx.cell? ⟨w5.heap.size, 0, none⟩ = some (.slice y3 t'.holds.length z3) ∧ wx.cell? ⟨w5.heap.size, 1, none⟩ = some (.slice y4 t'.waits.length z4))) (first | exact HS7.out _ (by assumption) | go_keep)
          (first
            | (go_at_call 26; refine (HT7.out _ (by assumption)).mono ?_; rintro e w9 ⟨_, _, _, _, rfl, ho9, hb9⟩)
            | (go_at_call 28; refine (HE7.out _ _ (by assumption) (by assumption)).mono ?_; rintro e w10 ⟨rfl, hb10⟩))
        all_goals
          go_wp2_with fail
          go_meet
          exact ⟨rfl, hb10⟩
      case rest =>
        obtain ⟨rfl, hb8⟩ := hcut
        have hE := HOl7.out _ hb8
        go_wp2_with fail
        go_ret
        exact ⟨rfl, hE⟩
end Go.Proofs.Ytfjhpfgffbghdaa
