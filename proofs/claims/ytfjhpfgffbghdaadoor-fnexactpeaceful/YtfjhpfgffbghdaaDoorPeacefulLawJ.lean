/-
  The law on Peaceful answers true at every document and list of holds that a program can hold.
-/
import Derived.Test.YtfjhpfgffbghdaaDoorPeaceTopJ
import Derived.Test.YtfjhpfgffbghdaaDoorHoldToJ
import Derived.Test.YtfjhpfgffbghdaaDoorJoinD
import Derived.Deep.RegionHeld3
namespace Go.Proofs.YtfjhpfgffbghdaaDoor
open Go.RowKit

set_option maxHeartbeats 8000000 in
set_option maxRecDepth 100000 in
theorem peacefulLaw (n₀ : Nat) (dv v : Value) (d : PDoc) (L : List PHold) (w : World) (hd : DocAt n₀ w dv d) (h : HoldsAt n₀ w v L) (hn : n₀ ≤ w.heap.size) (hfd : Fits d) (hf : L.length ≤ 9223372036854775807) (hwf : WfDoc d) (hF : FitsAt w) (hI : IntentsAt w) :
    Calls Tryd.prog 5 #[dv, v] w fun e w' => e = .returned (.bool true) ∧ Below w.heap.size w w' := by
  have HD := hide h
  have HDd := hide hd
  have HWf := hide hwf
  obtain ⟨a, cap, rfl⟩ := h.form
  obtain ⟨sa, sc, rfl, -⟩ := hd.form
  obtain ⟨W0, hW0⟩ : ∃ W0, W0 = w.alloc (.cells #[.int .i64 d.root, .int .i64 d.next, .slice sa d.nodes.length sc] 24) := ⟨_, rfl⟩
  have hs0 : W0.heap.size = w.heap.size + 1 := by rw [hW0]; simp
  have hw0 : Below w.heap.size w W0 := by rw [hW0]; exact (Below.refl w.heap.size w).alloc (Nat.le_refl _) _
  have hh0 : W0.heap[w.heap.size]? = some (.cells #[.int .i64 d.root, .int .i64 d.next, .slice sa d.nodes.length sc] 24 (0, 0)) := by rw [hW0]; exact alloc_new w _
  have HOld : Hid (∀ wx, Below (w.heap.size + 1) W0 wx → Below w.heap.size w wx ∧ w.heap.size + 1 ≤ wx.heap.size) := fun wx hb => ⟨hw0.trans (hb.mono (by omega)), by have := hb.size; omega⟩
  have HB : Hid (∀ wx, Below (w.heap.size + 1) W0 wx → wx.cell? ⟨w.heap.size, 0, none⟩ = some (.int .i64 d.root) ∧ wx.cell? ⟨w.heap.size, 1, none⟩ = some (.int .i64 d.next) ∧ wx.cell? ⟨w.heap.size, 2, none⟩ = some (.slice sa d.nodes.length sc)) := fun wx hb => by
    have j1 := (hb.block w.heap.size (by omega)).trans hh0
    exact ⟨cell_of_heap j1 0, cell_of_heap j1 1, cell_of_heap j1 2⟩
  have HSzD : Hid (∀ wx q, 0 ≤ q → q ≤ 1048576 → Below (w.heap.size + 1) W0 wx → Calls Tryd.prog 7 #[.agg #[.int .i64 d.root, .int .i64 d.next, .slice sa d.nodes.length sc], .int .i64 q] wx fun e w' => ∃ r, e = .returned (.int .i64 r) ∧ -1 ≤ r ∧ r ≤ q ∧ Hid (0 ≤ r → Small d) ∧ Below (w.heap.size + 1) W0 w') := fun wx q hq0 hq1 hb =>
    (szDoc_any n₀ _ d q wx (HDd.out.below (Nat.le_refl _) ((HOld.out wx hb).1.mono hn)) (by have := (HOld.out wx hb).2; omega) hq0 hq1 hfd).mono fun e w' ⟨r, he, h1, h2, h3, hb'⟩ => ⟨r, he, h1, h2, h3, hb.trans (hb'.mono (HOld.out wx hb).2)⟩
  have HSz : Hid (∀ wx q, 0 ≤ q → q ≤ 1048576 → Calls Tryd.prog 8 #[.slice a L.length cap, .int .i64 q] wx fun e w' => ∃ r, e = .returned (.int .i64 r) ∧ -1 ≤ r ∧ r ≤ q ∧ Hid (0 ≤ r → L.length ≤ 1048576) ∧ w' = wx) := fun wx q hq0 hq1 =>
    szHolds_any a L.length cap q wx hq0 hq1 hf
  obtain ⟨r, hr⟩ : ∃ r, r = peaceAns d L := ⟨_, rfl⟩
  obtain ⟨c, hc⟩ : ∃ c, c = heldAsk d L := ⟨_, rfl⟩
  have HR := hide hr
  have HC := hide hc
  have HF := hide hF
  have HI := hide hI
  clear hr hc hF hI
  have hb00 : Below (w.heap.size + 1) W0 W0 := Below.refl _ _
  clear hf hfd hwf hd h hh0 hs0 hw0
  go_enter Tryd.func5, Tryd.ntmps5
  go_wp2_with fail
  rw [← hW0]
  clear hW0
  refine (HSzD.out _ 1048576 (by omega) (by omega) hb00).mono ?_
  rintro e w1 ⟨q, rfl, hq1, hq2, hq3, hb1⟩
  by_cases hq : q < 0
  · go_wp2_with fail
    go_ret
    exact ⟨rfl, (HOld.out _ hb1).1⟩
  have HSd := hide (hq3.out (by omega))
  clear hq3 HSzD hb00
  go_wp2_with fail
  refine (HSz.out w1 q (by omega) hq2).mono ?_
  rintro e w2 ⟨q', rfl, hq1', hq2', hq3', rfl⟩
  by_cases hq' : q' < 0
  · go_wp2_with fail
    go_ret
    exact ⟨rfl, (HOld.out _ hb1).1⟩
  have hS := hq3'.out (by omega)
  clear hq3' HSz
  have HTo : Hid (∀ wx, Below (w.heap.size + 1) W0 wx → Calls Tryd.prog 11 #[.slice a L.length cap] wx fun e w' => ∃ ua uc, e = .returned (.slice ua L.length uc) ∧ Hid (HoldsOwn wx.heap.size w'.heap.size w' (.slice ua L.length uc) L) ∧ Below (w.heap.size + 1) W0 w' ∧ Below wx.heap.size wx w') := fun wx hb =>
    (toHolds_any n₀ _ L wx (HD.out.below (Nat.le_refl _) ((HOld.out wx hb).1.mono hn)) (by have := (HOld.out wx hb).2; omega) hS).mono fun e w' ⟨u, he, ho, hb'⟩ => by
      obtain ⟨ua, uc, rfl⟩ := ho.form
      exact ⟨ua, uc, he, ho, hb.trans (hb'.mono (HOld.out wx hb).2), hb'⟩
  have HToD : Hid (∀ wx, Below (w.heap.size + 1) W0 wx → Calls Tryd.prog 10 #[.agg #[.int .i64 d.root, .int .i64 d.next, .slice sa d.nodes.length sc]] wx fun e w' => ∃ ua uc, e = .returned (.agg #[.int .i64 d.root, .int .i64 d.next, .slice ua d.nodes.length uc]) ∧ Hid (DocOwn wx.heap.size w'.heap.size w' (.agg #[.int .i64 d.root, .int .i64 d.next, .slice ua d.nodes.length uc]) d) ∧ Below (w.heap.size + 1) W0 w' ∧ Below wx.heap.size wx w') := fun wx hb =>
    (toDoc_any n₀ _ d wx (HDd.out.below (Nat.le_refl _) ((HOld.out wx hb).1.mono hn)) (by have := (HOld.out wx hb).2; omega) HSd.out).mono fun e w' ⟨u, he, ho, hb'⟩ => by
      obtain ⟨ua, uc, rfl, -⟩ := ho.at.form
      exact ⟨ua, uc, he, ho, hb.trans (hb'.mono (HOld.out wx hb).2), hb'⟩
  have HSp : Hid (∀ wx va vc ua uc lo hi lo' hi', Hid (HoldsOwn lo hi wx (.slice va L.length vc) L) → hi ≤ wx.heap.size → Hid (DocOwn lo' hi' wx (.agg #[.int .i64 d.root, .int .i64 d.next, .slice ua d.nodes.length uc]) d) → hi' ≤ wx.heap.size → Below (w.heap.size + 1) W0 wx → Calls Tryd.prog 17 #[.agg #[.int .i64 d.root, .int .i64 d.next, .slice ua d.nodes.length uc], .slice va L.length vc] wx fun e w' => e = .returned (.tuple #[.bool r, .int .i64 c]) ∧ Below (w.heap.size + 1) W0 w' ∧ Below wx.heap.size wx w') := fun wx va vc ua uc lo hi lo' hi' ho hh ho' hh' hb => by
    obtain ⟨s, e1, hN⟩ := ho'.out.at
    simp only [Value.agg.injEq, Array.mk.injEq, List.cons.injEq, and_true, true_and] at e1
    subst e1
    exact (specPeaceful_any wx.heap.size d _ _ L wx (hN.below hh' (Below.refl _ _)) (ho.out.at.wide hh) (Nat.le_refl _) HSd.out.len HSd.out.kids hS r c HR.out HC.out).mono fun e w' ⟨he, hb'⟩ => ⟨he, hb.trans (hb'.mono (HOld.out wx hb).2), hb'⟩
  have HIm : Hid (∀ wx va vc ua uc lo hi lo' hi', Hid (HoldsOwn lo hi wx (.slice va L.length vc) L) → hi ≤ wx.heap.size → Hid (DocOwn lo' hi' wx (.agg #[.int .i64 d.root, .int .i64 d.next, .slice ua d.nodes.length uc]) d) → hi' ≤ wx.heap.size → Below (w.heap.size + 1) W0 wx → Calls Tryd.prog 18 #[.agg #[.int .i64 d.root, .int .i64 d.next, .slice ua d.nodes.length uc], .slice va L.length vc] wx fun e w' => e = .returned (.tuple #[.bool r, .int .i64 c]) ∧ Below (w.heap.size + 1) W0 w' ∧ Below wx.heap.size wx w') := fun wx va vc ua uc lo hi lo' hi' ho hh ho' hh' hb => by
    obtain ⟨s, e1, hN⟩ := ho'.out.at
    simp only [Value.agg.injEq, Array.mk.injEq, List.cons.injEq, and_true, true_and] at e1
    subst e1
    exact (implPeaceful_any wx.heap.size d _ _ L wx (hN.below hh' (Below.refl _ _)) (ho.out.at.wide hh) (Nat.le_refl _) HSd.out.len HWf.out hS (HF.out.below (HOld.out wx hb).1 HF.out.lt) (HI.out.below (HOld.out wx hb).1 HI.out.lt) r c HR.out HC.out).mono fun e w' ⟨he, hb'⟩ => ⟨he, hb.trans (hb'.mono (HOld.out wx hb).2), hb'⟩
  obtain ⟨x0, x1, x2⟩ := HB.out _ hb1
  have hz1 : w.heap.size < w2.heap.size := (HOld.out _ hb1).2
  go_wp2_with fail
  refine (HToD.out _ hb1).mono ?_
  rintro e wa ⟨ua, uc, rfl, hoa, hba, hca⟩
  have hza := hca.size
  go_wp2_with fail
  refine (HTo.out _ hba).mono ?_
  rintro e wb ⟨va, vc, rfl, hob, hbb, hcb⟩
  have hzb := hcb.size
  have HSp1 := hide (HSp.out _ _ _ _ _ _ _ _ _ hob (Nat.le_refl _) (hide (hoa.out.below hcb)) hzb hbb)
  clear x0 x1 x2 hoa hob
  go_wp2_with fail
  refine HSp1.out.mono ?_
  rintro e w3 ⟨rfl, hb3, hc3⟩
  obtain ⟨x0, x1, x2⟩ := HB.out _ hb3
  have hz3 : w.heap.size < w3.heap.size := (HOld.out _ hb3).2
  clear HSp1 HSp
  go_wp2_with fail
  refine (HToD.out _ hb3).mono ?_
  rintro e w4 ⟨a4, c4, rfl, ho4, hb4, hc4⟩
  have hz4 := hc4.size
  have hl4 := hb4.alloc (HOld.out _ hb4).2 (.cells #[.int .i64 d.root, .int .i64 d.next, .slice a4 d.nodes.length c4] 32)
  have hl4' := (Below.refl w4.heap.size w4).alloc (Nat.le_refl _) (.cells #[.int .i64 d.root, .int .i64 d.next, .slice a4 d.nodes.length c4] 32)
  obtain ⟨W4, hW4⟩ : ∃ W4, W4 = w4.alloc (.cells #[.int .i64 d.root, .int .i64 d.next, .slice a4 d.nodes.length c4] 32) := ⟨_, rfl⟩
  have hh4 : W4.heap[w4.heap.size]? = some (.cells #[.int .i64 d.root, .int .i64 d.next, .slice a4 d.nodes.length c4] 32 (0, 0)) := by rw [hW4]; exact alloc_new w4 _
  rw [← hW4] at hl4 hl4'
  have HO4 := hide (ho4.out.below hl4')
  have hz44 : w4.heap.size + 1 ≤ W4.heap.size := by have := (Array.getElem?_eq_some_iff.1 hh4).1; omega
  clear x0 x1 x2 ho4
  go_wp2_with fail
  rw [← hW4]
  clear hW4
  refine (HTo.out _ hl4).mono ?_
  rintro e w5 ⟨a5, c5, rfl, ho5, hb5, hc5⟩
  have hz5 := hc5.size
  have HO45 := hide (HO4.out.below (hc5.mono (by omega)))
  have hbox5 := (hc5.block w4.heap.size (by omega)).trans hh4
  have y0 := cell_of_heap hbox5 0
  have y1 := cell_of_heap hbox5 1
  have y2 := cell_of_heap hbox5 2
  simp only [List.getElem?_toArray, List.getElem?_cons_succ, List.getElem?_cons_zero] at y0 y1 y2
  have HIm5 := hide (HIm.out _ _ _ _ _ _ _ _ _ ho5 (Nat.le_refl _) HO45 (by omega) hb5)
  have hzw : w4.heap.size < w5.heap.size := by omega
  go_wp2_with fail
  refine HIm5.out.mono ?_
  rintro e w6 ⟨rfl, hb6, hc6⟩
  have hz6 := hc6.size
  have HO46 := hide (HO45.out.below (hc6.mono (by omega)))
  have HO56 := hide (ho5.out.below hc6)
  have hbox6 := (hc6.block w4.heap.size (by omega)).trans hbox5
  have HS6 : Hid (∀ wx, Below w6.heap.size w6 wx → (wx.cell? ⟨w.heap.size, 0, none⟩ = some (.int .i64 d.root) ∧ wx.cell? ⟨w.heap.size, 1, none⟩ = some (.int .i64 d.next) ∧ wx.cell? ⟨w.heap.size, 2, none⟩ = some (.slice sa d.nodes.length sc)) ∧ (wx.cell? ⟨w4.heap.size, 0, none⟩ = some (.int .i64 d.root) ∧ wx.cell? ⟨w4.heap.size, 1, none⟩ = some (.int .i64 d.next) ∧ wx.cell? ⟨w4.heap.size, 2, none⟩ = some (.slice a4 d.nodes.length c4))) := fun wx hb => by
    have j := (hb.block w4.heap.size (by omega)).trans hbox6
    exact ⟨HB.out _ (hb6.trans (hb.mono (HOld.out _ hb6).2)), cell_of_heap j 0, cell_of_heap j 1, cell_of_heap j 2⟩
  have HT6 : Hid (∀ wx, Below w6.heap.size w6 wx → Calls Tryd.prog 10 #[.agg #[.int .i64 d.root, .int .i64 d.next, .slice sa d.nodes.length sc]] wx fun e w' => ∃ ua uc, e = .returned (.agg #[.int .i64 d.root, .int .i64 d.next, .slice ua d.nodes.length uc]) ∧ Hid (DocAt w'.heap.size w' (.agg #[.int .i64 d.root, .int .i64 d.next, .slice ua d.nodes.length uc]) d) ∧ Below w6.heap.size w6 w') := fun wx hb =>
    (HToD.out wx (hb6.trans (hb.mono (HOld.out _ hb6).2))).mono fun e w' ⟨ua, uc, he, ho, _, hc⟩ => ⟨ua, uc, he, ho.out.at, hb.trans (hc.mono hb.size)⟩
  have HE6 : Hid (∀ wx ua uc, Below w6.heap.size w6 wx → Hid (DocAt wx.heap.size wx (.agg #[.int .i64 d.root, .int .i64 d.next, .slice ua d.nodes.length uc]) d) → Calls Tryd.prog 13 #[.agg #[.int .i64 d.root, .int .i64 d.next, .slice a4 d.nodes.length c4], .agg #[.int .i64 d.root, .int .i64 d.next, .slice ua d.nodes.length uc]] wx fun e w' => e = .returned (.bool true) ∧ Below w6.heap.size w6 w') := fun wx ua uc hb ho => by
    have hsx := hb.size
    exact (eqDoc_any wx.heap.size _ _ d wx ((HO46.out.below (hb.mono (by omega))).at.below (by omega) (Below.refl _ _)) ho.out (Nat.le_refl _) HSd.out.len HSd.out.kids).mono fun e w' ⟨he, hb'⟩ => ⟨he, hb.trans (hb'.mono hsx)⟩
  have hd6 : Below w6.heap.size w6 w6.drew := (Below.refl _ _).drew
  have hzw6 : w4.heap.size < w6.heap.size := by omega
  clear HIm5 HIm HO4 HO45 ho5 y0 y1 y2 hbox5 hbox6 hh4
  go_wp2_with fail
  go_cut [52] (fun v39 wd => v39 = .bool false ∧ Below w6.heap.size w6 wd)
  case first =>
    clear HB HTo HToD HOld
    go_region_held3 (fun wx => (wx.cell? ⟨w.heap.size, 0, none⟩ = some (.int .i64 d.root) ∧ wx.cell? ⟨w.heap.size, 1, none⟩ = some (.int .i64 d.next) ∧ wx.cell? ⟨w.heap.size, 2, none⟩ = some (.slice sa d.nodes.length sc)) ∧ (wx.cell? ⟨w4.heap.size, 0, none⟩ = some (.int .i64 d.root) ∧ wx.cell? ⟨w4.heap.size, 1, none⟩ = some (.int .i64 d.next) ∧ wx.cell? ⟨w4.heap.size, 2, none⟩ = some (.slice a4 d.nodes.length c4))) (first | exact HS6.out _ (by assumption) | go_keep)
      (first
        | (go_at_call 10; refine (HT6.out _ (by assumption)).mono ?_; rintro e w9 ⟨a9, c9, rfl, ho9, hb9⟩)
        | (go_at_call 13; refine (HE6.out _ _ _ (by assumption) (by assumption)).mono ?_; rintro e w10 ⟨rfl, hb10⟩))
    all_goals
      go_wp2_with fail
      go_meet
      exact ⟨rfl, hb10⟩
  case rest =>
    obtain ⟨rfl, hbd⟩ := hcut
    have hzd := hbd.size
    have hbd' : Below (w.heap.size + 1) W0 wc := hb6.trans (hbd.mono (HOld.out _ hb6).2)
    have HO5d := hide (HO56.out.below (hbd.mono (by omega)))
    clear HS6 HT6 HE6
    go_wp2_with fail
    refine (HTo.out _ hbd').mono ?_
    rintro e w11 ⟨a11, c11, rfl, ho11, hb11, hc11⟩
    have hz11 := hc11.size
    have HE11 := hide (eqHolds_any w11.heap.size _ _ L w11 ((HO5d.out.below (hc11.mono (by omega))).at.wide (by omega)) ho11.out.at (Nat.le_refl _) hS)
    clear ho11
    go_wp2_with fail
    refine HE11.out.mono ?_
    rintro e w12 ⟨rfl, hb12⟩
    go_wp2_with fail
    go_ret
    exact ⟨rfl, (HOld.out _ (hb11.trans (hb12.mono (HOld.out _ hb11).2))).1⟩
end Go.Proofs.YtfjhpfgffbghdaaDoor
