/-
  The law on PutHold answers true at every document, list of holds and hold that a program can hold.
-/
import Derived.Test.YtfjhpfgffbghdaaJoinM
import Derived.Test.YtfjhpfgffbghdaaMarkHXJ
import Derived.Test.YtfjhpfgffbghdaaJoinJ
import Derived.Test.YtfjhpfgffbghdaaJoinD
import Derived.Deep.RegionHeld3
namespace Go.Proofs.Ytfjhpfgffbghdaa
open Go.RowKit

theorem DocOwn.stayP {lo hi : Nat} {w w' : World} {v : Value} {d : PDoc} (h : DocOwn lo hi w v d) (hb : ∀ b, lo ≤ b → b < hi → w'.heap[b]? = w.heap[b]?) : DocOwn lo hi w' v d := by
  obtain ⟨s, rfl, h⟩ := h
  exact ⟨s, rfl, h.heap (Nat.le_refl _) (Nat.le_refl _) hb⟩

set_option maxHeartbeats 8000000 in
set_option maxRecDepth 100000 in
theorem putHoldLaw (n₀ : Nat) (dv v : Value) (d : PDoc) (L : List PHold) (x : PHold) (w : World) (hd : DocAt n₀ w dv d) (h : HoldsAt n₀ w v L) (hn : n₀ ≤ w.heap.size) (hfd : Fits d) (hf : L.length ≤ 9223372036854775807) (hwf : WfDoc d) :
    Calls Try.prog 4 #[dv, v, holdVal x] w fun e w' => e = .returned (.bool true) ∧ Below w.heap.size w w' := by
  have HD := hide h
  have HDd := hide hd
  have HWf := hide hwf
  obtain ⟨a, cap, rfl⟩ := h.form
  obtain ⟨sa, sc, rfl, -⟩ := hd.form
  obtain ⟨W0, hW0⟩ : ∃ W0, W0 = (w.alloc (.cells #[.int .i64 d.root, .int .i64 d.next, .slice sa d.nodes.length sc] 24)).alloc (.cells #[.int .i64 x.session, .int .i64 x.node, .int .i64 x.mode] 39) := ⟨_, rfl⟩
  have hs0 : W0.heap.size = w.heap.size + 1 + 1 := by rw [hW0]; simp
  have hw0 : Below w.heap.size w W0 := by rw [hW0]; exact ((Below.refl w.heap.size w).alloc (Nat.le_refl _) _).alloc (by simp) _
  have hh0 : W0.heap[w.heap.size]? = some (.cells #[.int .i64 d.root, .int .i64 d.next, .slice sa d.nodes.length sc] 24 (0, 0)) := by
    rw [hW0, Below.heap_alloc _ _ _ (by simp)]; exact alloc_new w _
  have hh1 : W0.heap[w.heap.size + 1]? = some (.cells #[.int .i64 x.session, .int .i64 x.node, .int .i64 x.mode] 39 (0, 0)) := by
    rw [hW0]
    have := alloc_new (w.alloc (.cells #[.int .i64 d.root, .int .i64 d.next, .slice sa d.nodes.length sc] 24)) (.cells #[.int .i64 x.session, .int .i64 x.node, .int .i64 x.mode] 39)
    simpa using this
  have HOld : Hid (∀ wx, Below (w.heap.size + 1 + 1) W0 wx → Below w.heap.size w wx ∧ w.heap.size + 1 + 1 ≤ wx.heap.size) := fun wx hb => ⟨hw0.trans (hb.mono (by omega)), by have := hb.size; omega⟩
  have HB : Hid (∀ wx, Below (w.heap.size + 1 + 1) W0 wx → (wx.cell? ⟨w.heap.size, 0, none⟩ = some (.int .i64 d.root) ∧ wx.cell? ⟨w.heap.size, 1, none⟩ = some (.int .i64 d.next) ∧ wx.cell? ⟨w.heap.size, 2, none⟩ = some (.slice sa d.nodes.length sc)) ∧ (wx.cell? ⟨w.heap.size + 1, 0, none⟩ = some (.int .i64 x.session) ∧ wx.cell? ⟨w.heap.size + 1, 1, none⟩ = some (.int .i64 x.node) ∧ wx.cell? ⟨w.heap.size + 1, 2, none⟩ = some (.int .i64 x.mode))) := fun wx hb => by
    have j0 := (hb.block w.heap.size (by omega)).trans hh0
    have j1 := (hb.block (w.heap.size + 1) (by omega)).trans hh1
    exact ⟨⟨cell_of_heap j0 0, cell_of_heap j0 1, cell_of_heap j0 2⟩, cell_of_heap j1 0, cell_of_heap j1 1, cell_of_heap j1 2⟩
  have HSzD : Hid (∀ wx q, 0 ≤ q → q ≤ 1048576 → Below (w.heap.size + 1 + 1) W0 wx → Calls Try.prog 8 #[.agg #[.int .i64 d.root, .int .i64 d.next, .slice sa d.nodes.length sc], .int .i64 q] wx fun e w' => ∃ r, e = .returned (.int .i64 r) ∧ -1 ≤ r ∧ r ≤ q ∧ Hid (0 ≤ r → Small d) ∧ Below (w.heap.size + 1 + 1) W0 w') := fun wx q hq0 hq1 hb =>
    (szDoc_any n₀ _ d q wx (HDd.out.below (Nat.le_refl _) ((HOld.out wx hb).1.mono hn)) (by have := (HOld.out wx hb).2; omega) hq0 hq1 hfd).mono fun e w' ⟨r, he, h1, h2, h3, hb'⟩ => ⟨r, he, h1, h2, h3, hb.trans (hb'.mono (HOld.out wx hb).2)⟩
  have HSz : Hid (∀ wx q, 0 ≤ q → q ≤ 1048576 → Calls Try.prog 9 #[.slice a L.length cap, .int .i64 q] wx fun e w' => ∃ r, e = .returned (.int .i64 r) ∧ -1 ≤ r ∧ r ≤ q ∧ Hid (0 ≤ r → L.length ≤ 1048576) ∧ w' = wx) := fun wx q hq0 hq1 =>
    szHolds_any a L.length cap q wx hq0 hq1 hf
  have HTh : Hid (∀ wx, Below (w.heap.size + 1 + 1) W0 wx → Calls Try.prog 17 #[holdVal x] wx fun e w' => e = .returned (holdVal x) ∧ Below (w.heap.size + 1 + 1) W0 w' ∧ Below wx.heap.size wx w') := fun wx hb =>
    (toHold_any x wx).mono fun e w' ⟨he, hb'⟩ => ⟨he, hb.trans (hb'.mono (HOld.out wx hb).2), hb'⟩
  obtain ⟨c, hc⟩ : ∃ c, c = putCode d L x := ⟨_, rfl⟩
  obtain ⟨ks, hks⟩ : ∃ ks, ks = putAns d L x := ⟨_, rfl⟩
  have HC := hide hc
  have HKs := hide hks
  have hb00 : Below (w.heap.size + 1 + 1) W0 W0 := Below.refl _ _
  obtain ⟨⟨x0, x1, x2⟩, y0, y1, y2⟩ := HB.out _ hb00
  have hz0 : w.heap.size < W0.heap.size := by omega
  clear hf hfd hwf hd h hc hks hh0 hh1 hs0 hw0
  go_enter Try.func4, Try.ntmps4
  go_wp2_with fail
  rw [← hW0]
  clear hW0
  refine (HSzD.out _ 1048576 (by omega) (by omega) hb00).mono ?_
  rintro e w1 ⟨q, rfl, hq1, hq2, hq3, hb1⟩
  clear x0 x1 x2 y0 y1 y2
  by_cases hq : q < 0
  · go_wp2_with fail
    go_ret
    exact ⟨rfl, (HOld.out _ hb1).1⟩
  have HSd := hide (hq3.out (by omega))
  clear hq3 HSzD hb00
  go_wp2_with fail
  refine (HSz.out w1 q (by omega) hq2).mono ?_
  rintro e w2 ⟨q', rfl, hq1', hq2', hq3', rfl⟩
  by_cases hq' : q' < 0
  · go_wp2_with fail
    go_ret
    exact ⟨rfl, (HOld.out _ hb1).1⟩
  have hS := hq3'.out (by omega)
  clear hq3' HSz
  have HTo : Hid (∀ wx, Below (w.heap.size + 1 + 1) W0 wx → Calls Try.prog 12 #[.slice a L.length cap] wx fun e w' => ∃ ua uc, e = .returned (.slice ua L.length uc) ∧ Hid (HoldsOwn wx.heap.size w'.heap.size w' (.slice ua L.length uc) L) ∧ Below (w.heap.size + 1 + 1) W0 w' ∧ Below wx.heap.size wx w') := fun wx hb =>
    (toHolds_any n₀ _ L wx (HD.out.below (Nat.le_refl _) ((HOld.out wx hb).1.mono hn)) (by have := (HOld.out wx hb).2; omega) hS).mono fun e w' ⟨u, he, ho, hb'⟩ => by
      obtain ⟨ua, uc, rfl⟩ := ho.form
      exact ⟨ua, uc, he, ho, hb.trans (hb'.mono (HOld.out wx hb).2), hb'⟩
  have HToD : Hid (∀ wx, Below (w.heap.size + 1 + 1) W0 wx → Calls Try.prog 11 #[.agg #[.int .i64 d.root, .int .i64 d.next, .slice sa d.nodes.length sc]] wx fun e w' => ∃ ua uc, e = .returned (.agg #[.int .i64 d.root, .int .i64 d.next, .slice ua d.nodes.length uc]) ∧ Hid (DocOwn wx.heap.size w'.heap.size w' (.agg #[.int .i64 d.root, .int .i64 d.next, .slice ua d.nodes.length uc]) d) ∧ Below (w.heap.size + 1 + 1) W0 w' ∧ Below wx.heap.size wx w') := fun wx hb =>
    (toDoc_any n₀ _ d wx (HDd.out.below (Nat.le_refl _) ((HOld.out wx hb).1.mono hn)) (by have := (HOld.out wx hb).2; omega) HSd.out).mono fun e w' ⟨u, he, ho, hb'⟩ => by
      obtain ⟨ua, uc, rfl, -⟩ := ho.at.form
      exact ⟨ua, uc, he, ho, hb.trans (hb'.mono (HOld.out wx hb).2), hb'⟩
  have HSp : Hid (∀ wx va vc ua uc lo hi lo' hi', Hid (HoldsOwn lo hi wx (.slice va L.length vc) L) → hi ≤ wx.heap.size → Hid (DocOwn lo' hi' wx (.agg #[.int .i64 d.root, .int .i64 d.next, .slice ua d.nodes.length uc]) d) → hi' ≤ wx.heap.size → Below (w.heap.size + 1 + 1) W0 wx → Calls Try.prog 16 #[.agg #[.int .i64 d.root, .int .i64 d.next, .slice ua d.nodes.length uc], .slice va L.length vc, holdVal x] wx fun e w' => ∃ a q, e = .returned (.tuple #[.slice a ks.length q, .int .i64 c]) ∧ Hid (HoldsIn wx.heap.size w'.heap.size w' (.slice a ks.length q) ks) ∧ Below (w.heap.size + 1 + 1) W0 w' ∧ Below wx.heap.size wx w') := fun wx va vc ua uc lo hi lo' hi' ho hh ho' hh' hb => by
    obtain ⟨s, e1, hN⟩ := ho'.out.at
    simp only [Value.agg.injEq, Array.mk.injEq, List.cons.injEq, and_true, true_and] at e1
    subst e1
    exact (specPutHold_any wx.heap.size d _ _ L x wx (hN.below hh' (Below.refl _ _)) (ho.out.at.wide hh) (Nat.le_refl _) HSd.out.len HSd.out.kids hS c ks HC.out HKs.out).mono fun e w' ⟨v', he, hrow, hb'⟩ => by
      have hL := HoldsIn.of_row hrow
      obtain ⟨a', q', rfl⟩ := slice_form hrow
      exact ⟨a', q', he, hL, hb.trans (hb'.mono (HOld.out wx hb).2), hb'⟩
  have HIm : Hid (∀ wx va vc ua uc lo hi lo' hi', Hid (HoldsOwn lo hi wx (.slice va L.length vc) L) → hi ≤ wx.heap.size → Hid (DocOwn lo' hi' wx (.agg #[.int .i64 d.root, .int .i64 d.next, .slice ua d.nodes.length uc]) d) → hi' ≤ wx.heap.size → Below (w.heap.size + 1 + 1) W0 wx → Calls Try.prog 18 #[.agg #[.int .i64 d.root, .int .i64 d.next, .slice ua d.nodes.length uc], .slice va L.length vc, holdVal x] wx fun e w' => ∃ a q, e = .returned (.tuple #[.slice a ks.length q, .int .i64 c]) ∧ Hid (HoldsIn wx.heap.size w'.heap.size w' (.slice a ks.length q) ks) ∧ Below (w.heap.size + 1 + 1) W0 w' ∧ Below wx.heap.size wx w') := fun wx va vc ua uc lo hi lo' hi' ho hh ho' hh' hb => by
    obtain ⟨s, e1, hN⟩ := ho'.out.at
    simp only [Value.agg.injEq, Array.mk.injEq, List.cons.injEq, and_true, true_and] at e1
    subst e1
    exact (implPutHold_any wx.heap.size d _ _ L x wx (hN.below hh' (Below.refl _ _)) (ho.out.at.wide hh) (Nat.le_refl _) HSd.out.len HWf.out hS c ks HC.out HKs.out).mono fun e w' ⟨v', he, hrow, hb'⟩ => by
      have hL := HoldsIn.of_row hrow
      obtain ⟨a', q', rfl⟩ := slice_form hrow
      exact ⟨a', q', he, hL, hb.trans (hb'.mono (HOld.out wx hb).2), hb'⟩
  have hkl : ks.length ≤ 1048576 := by rw [HKs.out]; have := @putAns_len d L x; omega
  have hb1d := hb1.drew
  go_wp2_with fail
  go_cut [8, 9] (fun v8 v9 wc => ∃ a3 c3 lo, v8 = .slice a3 ks.length c3 ∧ v9 = .int .i64 c ∧ Hid (HoldsIn lo wc.heap.size wc (.slice a3 ks.length c3) ks) ∧ Below (w.heap.size + 1 + 1) W0 wc)
  case first =>
    go_region_held3 (fun wx => (wx.cell? ⟨w.heap.size, 0, none⟩ = some (.int .i64 d.root) ∧ wx.cell? ⟨w.heap.size, 1, none⟩ = some (.int .i64 d.next) ∧ wx.cell? ⟨w.heap.size, 2, none⟩ = some (.slice sa d.nodes.length sc)) ∧ (wx.cell? ⟨w.heap.size + 1, 0, none⟩ = some (.int .i64 x.session) ∧ wx.cell? ⟨w.heap.size + 1, 1, none⟩ = some (.int .i64 x.node) ∧ wx.cell? ⟨w.heap.size + 1, 2, none⟩ = some (.int .i64 x.mode))) (first | exact HB.out _ (by assumption) | go_keep)
      (first
        | (go_at_call 11; refine (HToD.out _ (by assumption)).mono ?_; rintro e wa ⟨aa, ca, rfl, hoa, hba, hca⟩)
        | (go_at_call 12; refine (HTo.out _ (by assumption)).mono ?_; rintro e wb ⟨ab, cb, rfl, hob, hbb, hcb⟩; have hoa' := hide (hoa.out.below hcb); have hsb := hcb.size)
        | (go_at_call 17; refine (HTh.out _ (by assumption)).mono ?_; rintro e wh ⟨rfl, hbh, hch⟩; have hoa2 := hide (hoa'.out.below (hch.mono hsb)); have hob2 := hide (hob.out.below hch); have hsh := hch.size; have hsh2 := Nat.le_trans hsb hsh)
        | (go_at_call 16; refine (HSp.out _ _ _ _ _ _ _ _ _ hob2 hsh hoa2 hsh2 (by assumption)).mono ?_; rintro e wd ⟨a3, c3, rfl, hl3, hbd, hcd⟩))
    all_goals
      go_wp2_with fail
      go_meet
      exact ⟨_, _, _, rfl, rfl, hl3, hbd⟩
  case rest =>
    obtain ⟨ws, rfl⟩ : ∃ x, x = wc := ⟨_, rfl⟩
    obtain ⟨a3, c3, lo3, rfl, rfl, HL3, hbc⟩ := hcut
    clear hb1d hb1 HSp
    obtain ⟨⟨x0, x1, x2⟩, -, -, -⟩ := HB.out _ hbc
    have hz3 : w.heap.size < ws.heap.size := by have := (HOld.out _ hbc).2; omega
    go_wp2_with fail
    refine (HToD.out _ hbc).mono ?_
    rintro e w4 ⟨a4, c4, rfl, ho4, hb4, hc4⟩
    have hz4 := hc4.size
    have hl4 := hb4.alloc (HOld.out _ hb4).2 (.cells #[.int .i64 d.root, .int .i64 d.next, .slice a4 d.nodes.length c4] 31)
    have hl4' := (Below.refl w4.heap.size w4).alloc (Nat.le_refl _) (.cells #[.int .i64 d.root, .int .i64 d.next, .slice a4 d.nodes.length c4] 31)
    obtain ⟨W4, hW4⟩ : ∃ W4, W4 = w4.alloc (.cells #[.int .i64 d.root, .int .i64 d.next, .slice a4 d.nodes.length c4] 31) := ⟨_, rfl⟩
    have hh4 : W4.heap[w4.heap.size]? = some (.cells #[.int .i64 d.root, .int .i64 d.next, .slice a4 d.nodes.length c4] 31 (0, 0)) := by rw [hW4]; exact alloc_new w4 _
    rw [← hW4] at hl4 hl4'
    have HO4 := hide (ho4.out.below hl4')
    have hz44 : w4.heap.size + 1 ≤ W4.heap.size := by have := (Array.getElem?_eq_some_iff.1 hh4).1; omega
    clear x0 x1 x2 ho4
    go_wp2_with fail
    rw [← hW4]
    clear hW4
    refine (HTo.out _ hl4).mono ?_
    rintro e w5 ⟨a5, c5, rfl, ho5, hb5, hc5⟩
    have hz5 := hc5.size
    have HO45 := hide (HO4.out.below (hc5.mono (by omega)))
    have hbox5 := (hc5.block w4.heap.size (by omega)).trans hh4
    have hwb5 := (HOld.out _ hb5).2
    have HS5 : Hid (∀ wx, Below w5.heap.size w5 wx → (wx.cell? ⟨w4.heap.size, 0, none⟩ = some (.int .i64 d.root) ∧ wx.cell? ⟨w4.heap.size, 1, none⟩ = some (.int .i64 d.next) ∧ wx.cell? ⟨w4.heap.size, 2, none⟩ = some (.slice a4 d.nodes.length c4)) ∧ (wx.cell? ⟨w.heap.size + 1, 0, none⟩ = some (.int .i64 x.session) ∧ wx.cell? ⟨w.heap.size + 1, 1, none⟩ = some (.int .i64 x.node) ∧ wx.cell? ⟨w.heap.size + 1, 2, none⟩ = some (.int .i64 x.mode))) := fun wx hb => by
      have j := (hb.block w4.heap.size (by omega)).trans hbox5
      exact ⟨⟨cell_of_heap j 0, cell_of_heap j 1, cell_of_heap j 2⟩, (HB.out _ (hb5.trans (hb.mono hwb5))).2⟩
    have HTh5 : Hid (∀ wx, Below w5.heap.size w5 wx → Calls Try.prog 17 #[holdVal x] wx fun e w' => e = .returned (holdVal x) ∧ Below w5.heap.size w5 w' ∧ Below wx.heap.size wx w') := fun wx hb =>
      (toHold_any x wx).mono fun e w' ⟨he, hb'⟩ => ⟨he, hb.trans (hb'.mono hb.size), hb'⟩
    have HIm5 : Hid (∀ wx, Below w5.heap.size w5 wx → Calls Try.prog 18 #[.agg #[.int .i64 d.root, .int .i64 d.next, .slice a4 d.nodes.length c4], .slice a5 L.length c5, holdVal x] wx fun e w' => ∃ a q, e = .returned (.tuple #[.slice a ks.length q, .int .i64 c]) ∧ Hid (HoldsIn wx.heap.size w'.heap.size w' (.slice a ks.length q) ks) ∧ Below w5.heap.size w5 w') := fun wx hb => by
      have hsx := hb.size
      exact (HIm.out wx _ _ _ _ _ _ _ _ (hide (ho5.out.below hb)) hsx (hide (HO45.out.below (hb.mono (by omega)))) (by omega) (hb5.trans (hb.mono hwb5))).mono fun e w' ⟨a, q, he, hL, _, hb'⟩ => ⟨a, q, he, hL, hb.trans (hb'.mono hsx)⟩
    have hd5 : Below w5.heap.size w5 w5.drew := (Below.refl _ _).drew
    have hzw5 : w4.heap.size < w5.heap.size := by omega
    go_wp2_with fail
    go_cut [12, 13] (fun v12 v13 wt => ∃ a6 c6 lo, v12 = .slice a6 ks.length c6 ∧ v13 = .int .i64 c ∧ Hid (HoldsIn lo wt.heap.size wt (.slice a6 ks.length c6) ks) ∧ w5.heap.size ≤ lo ∧ Below w5.heap.size w5 wt)
    case first =>
      clear HB HTo HToD HTh HOld HIm
      go_region_held3 (fun wx => (wx.cell? ⟨w4.heap.size, 0, none⟩ = some (.int .i64 d.root) ∧ wx.cell? ⟨w4.heap.size, 1, none⟩ = some (.int .i64 d.next) ∧ wx.cell? ⟨w4.heap.size, 2, none⟩ = some (.slice a4 d.nodes.length c4)) ∧ (wx.cell? ⟨w.heap.size + 1, 0, none⟩ = some (.int .i64 x.session) ∧ wx.cell? ⟨w.heap.size + 1, 1, none⟩ = some (.int .i64 x.node) ∧ wx.cell? ⟨w.heap.size + 1, 2, none⟩ = some (.int .i64 x.mode))) (first | exact HS5.out _ (by assumption) | go_keep)
        (first
          | (go_at_call 17; refine (HTh5.out _ (by assumption)).mono ?_; rintro e wh ⟨rfl, hbh, hch⟩)
          | (go_at_call 18; refine (HIm5.out _ (by assumption)).mono ?_; rintro e w6 ⟨a6, c6, rfl, hl6, hb6⟩))
      all_goals
        go_wp2_with fail
        go_meet
        exact ⟨_, _, _, rfl, rfl, hl6, hbh.size, hb6⟩
    case rest =>
      obtain ⟨w6, rfl⟩ : ∃ y, y = wc := ⟨_, rfl⟩
      obtain ⟨a6, c6, lo6, rfl, rfl, HL6, hlo6, hc6⟩ := hcut
      have hz6 := hc6.size
      have hb6 : Below (w.heap.size + 1 + 1) W0 w6 := hb5.trans (hc6.mono hwb5)
      have h36 : Below ws.heap.size ws w6 := hc4.trans ((hl4'.mono hz4).trans ((hc5.mono (by omega)).trans (hc6.mono (by omega))))
      have HL36 := hide (HL3.out.below h36)
      have HE6 := hide (eqHolds_any w6.heap.size _ _ ks w6 HL6.out.at (HL36.out.at.wide (by omega)) (Nat.le_refl _) hkl)
      clear HS5 HTh5 HIm5
      go_wp2_with (go_at_call 15; refine HE6.out.mono ?_; rintro e w7 ⟨rfl, hc7⟩)
      have hz7 := hc7.size
      have hb7 := hb6.trans (hc7.mono (HOld.out _ hb6).2)
      have hwb7 := (HOld.out _ hb7).2
      have h57 : Below w5.heap.size w5 w7 := hc6.trans (hc7.mono hz6)
      have HO47 := hide (HO45.out.below (h57.mono (by omega)))
      have hbox7 := (h57.block w4.heap.size (by omega)).trans hbox5
      have HS7 : Hid (∀ wx, Below w7.heap.size w7 wx → (wx.cell? ⟨w.heap.size, 0, none⟩ = some (.int .i64 d.root) ∧ wx.cell? ⟨w.heap.size, 1, none⟩ = some (.int .i64 d.next) ∧ wx.cell? ⟨w.heap.size, 2, none⟩ = some (.slice sa d.nodes.length sc)) ∧ (wx.cell? ⟨w4.heap.size, 0, none⟩ = some (.int .i64 d.root) ∧ wx.cell? ⟨w4.heap.size, 1, none⟩ = some (.int .i64 d.next) ∧ wx.cell? ⟨w4.heap.size, 2, none⟩ = some (.slice a4 d.nodes.length c4))) := fun wx hb => by
        have j := (hb.block w4.heap.size (by omega)).trans hbox7
        exact ⟨(HB.out _ (hb7.trans (hb.mono hwb7))).1, cell_of_heap j 0, cell_of_heap j 1, cell_of_heap j 2⟩
      have HT7 : Hid (∀ wx, Below w7.heap.size w7 wx → Calls Try.prog 11 #[.agg #[.int .i64 d.root, .int .i64 d.next, .slice sa d.nodes.length sc]] wx fun e w' => ∃ ua uc, e = .returned (.agg #[.int .i64 d.root, .int .i64 d.next, .slice ua d.nodes.length uc]) ∧ Hid (DocAt w'.heap.size w' (.agg #[.int .i64 d.root, .int .i64 d.next, .slice ua d.nodes.length uc]) d) ∧ Below w7.heap.size w7 w') := fun wx hb =>
        (HToD.out wx (hb7.trans (hb.mono hwb7))).mono fun e w' ⟨ua, uc, he, ho, _, hc⟩ => ⟨ua, uc, he, ho.out.at, hb.trans (hc.mono hb.size)⟩
      have HE7 : Hid (∀ wx ua uc, Below w7.heap.size w7 wx → Hid (DocAt wx.heap.size wx (.agg #[.int .i64 d.root, .int .i64 d.next, .slice ua d.nodes.length uc]) d) → Calls Try.prog 14 #[.agg #[.int .i64 d.root, .int .i64 d.next, .slice a4 d.nodes.length c4], .agg #[.int .i64 d.root, .int .i64 d.next, .slice ua d.nodes.length uc]] wx fun e w' => e = .returned (.bool true) ∧ Below w7.heap.size w7 w') := fun wx ua uc hb ho => by
        have hsx := hb.size
        exact (eqDoc_any wx.heap.size _ _ d wx ((HO47.out.below (hb.mono (by omega))).at.below (by omega) (Below.refl _ _)) ho.out (Nat.le_refl _) HSd.out.len HSd.out.kids).mono fun e w' ⟨he, hb'⟩ => ⟨he, hb.trans (hb'.mono hsx)⟩
      have hd7 : Below w7.heap.size w7 w7.drew := (Below.refl _ _).drew
      clear HE6
      go_cut [64] (fun v64 wd => v64 = .bool false ∧ Below w7.heap.size w7 wd)
      case first =>
        clear HB HTo HToD HTh HOld HIm
        go_region_held3 (fun wx => (wx.cell? ⟨w.heap.size, 0, none⟩ = some (.int .i64 d.root) ∧ wx.cell? ⟨w.heap.size, 1, none⟩ = some (.int .i64 d.next) ∧ wx.cell? ⟨w.heap.size, 2, none⟩ = some (.slice sa d.nodes.length sc)) ∧ (wx.cell? ⟨w4.heap.size, 0, none⟩ = some (.int .i64 d.root) ∧ wx.cell? ⟨w4.heap.size, 1, none⟩ = some (.int .i64 d.next) ∧ wx.cell? ⟨w4.heap.size, 2, none⟩ = some (.slice a4 d.nodes.length c4))) (first | exact HS7.out _ (by assumption) | go_keep)
          (first
            | (go_at_call 11; refine (HT7.out _ (by assumption)).mono ?_; rintro e w8 ⟨a8, c8, rfl, ho8, hb8⟩)
            | (go_at_call 14; refine (HE7.out _ _ _ (by assumption) (by assumption)).mono ?_; rintro e w9 ⟨rfl, hb9⟩))
        all_goals
          go_wp2_with fail
          go_meet
          exact ⟨rfl, hb9⟩
      case rest =>
        obtain ⟨w10, rfl⟩ : ∃ y, y = wc := ⟨_, rfl⟩
        obtain ⟨rfl, hbd⟩ := hcut
        have hzd := hbd.size
        have hb10 : Below (w.heap.size + 1 + 1) W0 w10 := hb7.trans (hbd.mono hwb7)
        have h510 : Below w5.heap.size w5 w10 := h57.trans (hbd.mono (by omega))
        have HO5d := hide (ho5.out.below h510)
        clear HS7 HT7 HE7 HO47
        go_wp2_with fail
        refine (HTo.out _ hb10).mono ?_
        rintro e w11 ⟨a11, c11, rfl, ho11, hb11, hc11⟩
        have hz11 := hc11.size
        have HE11 := hide (eqHolds_any w11.heap.size _ _ L w11 ((HO5d.out.below (hc11.mono (by omega))).at.wide (by omega)) ho11.out.at (Nat.le_refl _) hS)
        clear ho11
        go_wp2_with fail
        refine HE11.out.mono ?_
        rintro e w12 ⟨rfl, hc12⟩
        have hz12 := hc12.size
        have hb12 := hb11.trans (hc12.mono (HOld.out _ hb11).2)
        have h512 : Below w5.heap.size w5 w12 := h510.trans ((hc11.mono (by omega)).trans (hc12.mono (by omega)))
        have h612 : Below w6.heap.size w6 w12 := hc7.trans ((hbd.mono (by omega)).trans ((hc11.mono (by omega)).trans (hc12.mono (by omega))))
        have hbox12 := (h512.block w4.heap.size (by omega)).trans hbox5
        have x0 := cell_of_heap hbox12 0
        have x1 := cell_of_heap hbox12 1
        have x2 := cell_of_heap hbox12 2
        simp only [List.getElem?_toArray, List.getElem?_cons_succ, List.getElem?_cons_zero] at x0 x1 x2
        have hz412 : w4.heap.size < w12.heap.size := by omega
        have HMd := hide (markDoc_upto 1 (by omega) (by omega) ws.heap.size w4.heap.size _ d w12 (HO45.out.below (h512.mono (by omega))) (by omega) HSd.out.len HSd.out.kids)
        clear HE11 hbox12
        go_wp2_with fail
        refine HMd.out.mono ?_
        rintro e w13 ⟨r1, rfl, hr10, hr11, hwi1⟩
        have hz13 := hwi1.below.size
        have HMh := hide (markHolds_any r1 hr10 (by omega) W4.heap.size w5.heap.size _ L w13 ((ho5.out.below h512).heap (Nat.le_refl _) (Nat.le_refl _) fun b h1 h2 => hwi1.above b (by omega) (by omega)) (by omega) hS)
        clear HMd x0 x1 x2
        go_wp2_with fail
        refine HMh.out.mono ?_
        rintro e w14 ⟨r2, rfl, hr20, hwi2⟩
        have hz14 := hwi2.below.size
        have h314 : Below ws.heap.size ws w14 := (h36.trans (h612.mono (by omega))).trans (hwi1.below.trans (hwi2.below.mono (by omega)))
        have HL314 : Hid (HoldsIn lo3 ws.heap.size w14 (.slice a3 ks.length c3) ks) := HL3.out.below h314
        have HL614 : Hid (HoldsIn lo6 w6.heap.size w14 (.slice a6 ks.length c6) ks) := (HL6.out.below h612).heap fun g h1 h2 => (hwi2.above g (by omega) (by omega)).trans (hwi1.above g (by omega) (by omega))
        have hb14 : Below (w.heap.size + 1 + 1) W0 w14 := hb12.trans ((hwi1.below.mono (HOld.out _ hbc).2).trans (hwi2.below.mono (HOld.out _ hl4).2))
        have HE14 := hide (eqHolds_any w14.heap.size _ _ ks w14 (HL614.out.at.wide (by omega)) (HL314.out.at.wide (by omega)) (Nat.le_refl _) hkl)
        have hr2n : decide (r2 < 0) = false := by simp; omega
        clear HMh
        go_wp2_with (go_at_call 15; refine HE14.out.mono ?_; rintro e w15 ⟨rfl, hc15⟩)
        have hz15 := hc15.size
        have HL315 : Hid (HoldsIn lo3 ws.heap.size w15 (.slice a3 ks.length c3) ks) := HL314.out.below (hc15.mono (by omega))
        have HL615 : Hid (HoldsIn lo6 w6.heap.size w15 (.slice a6 ks.length c6) ks) := HL614.out.below (hc15.mono (by omega))
        have hb15 : Below (w.heap.size + 1 + 1) W0 w15 := hb14.trans (hc15.mono (HOld.out _ hb14).2)
        obtain ⟨a6', c6', e6, hrow6, hloc⟩ := HL615.out.row
        obtain ⟨rfl, -, rfl⟩ : a6 = a6' ∧ ks.length = ks.length ∧ c6 = c6' := by simpa using e6
        have HMi := hide (markHoldsX_any a6 ks.length c6 1 w15 hrow6 hkl (by omega) (by omega))
        clear HE14 e6 hrow6
        refine HMi.out.mono ?_
        rintro e w16 ⟨rfl, hor, hmk⟩
        have h1516 := hor.below w5.heap.size (fun b hb => by have := (hloc b hb).1; omega)
        have hz16 := hor.size
        have HL316 : Hid (HoldsIn lo3 ws.heap.size w16 (.slice a3 ks.length c3) ks) := HL315.out.below (h1516.mono (by omega))
        have hb16 : Below (w.heap.size + 1 + 1) W0 w16 := hb15.trans (h1516.mono hwb5)
        have hwb16 := (HOld.out _ hb16).2
        have HMkA := hide hmk
        have HHe := hide (heldHoldsX_any a6 ks.length c6 1 w16 hmk hkl (by omega) (by omega))
        have hm0 : (0 : Int) ≤ 1 + (ks.length : Int) * 3 := by omega
        have hm1 : decide (1 + (ks.length : Int) * 3 < 0) = false := by simp; omega
        clear hor hmk HMi hloc
        go_wp2_with fail
        refine HHe.out.mono ?_
        rintro e w17 ⟨rfl, hw17⟩
        have hw17' := hw17.symm
        subst hw17'
        clear hw17 HHe
        have HIm16 : Hid (∀ wx va vc ua uc lo hi lo' hi', Hid (HoldsOwn lo hi wx (.slice va L.length vc) L) → hi ≤ wx.heap.size → Hid (DocOwn lo' hi' wx (.agg #[.int .i64 d.root, .int .i64 d.next, .slice ua d.nodes.length uc]) d) → hi' ≤ wx.heap.size → Below w16.heap.size w16 wx → Calls Try.prog 18 #[.agg #[.int .i64 d.root, .int .i64 d.next, .slice ua d.nodes.length uc], .slice va L.length vc, holdVal x] wx fun e w' => ∃ a q, e = .returned (.tuple #[.slice a ks.length q, .int .i64 c]) ∧ Hid (HoldsIn wx.heap.size w'.heap.size w' (.slice a ks.length q) ks) ∧ Below w16.heap.size w16 w') := fun wx va vc ua uc lo hi lo' hi' h1 h2 h3 h4 hb =>
          (HIm.out wx va vc ua uc lo hi lo' hi' h1 h2 h3 h4 (hb16.trans (hb.mono hwb16))).mono fun e w' ⟨a, q, he, hL, _, hb'⟩ => ⟨a, q, he, hL, hb.trans (hb'.mono hb.size)⟩
        have HTo16 : Hid (∀ wx, Below w16.heap.size w16 wx → Calls Try.prog 12 #[.slice a L.length cap] wx fun e w' => ∃ ua uc, e = .returned (.slice ua L.length uc) ∧ Hid (HoldsOwn wx.heap.size w'.heap.size w' (.slice ua L.length uc) L) ∧ Below w16.heap.size w16 w' ∧ Below wx.heap.size wx w') := fun wx hb =>
          (HTo.out wx (hb16.trans (hb.mono hwb16))).mono fun e w' ⟨ua, uc, he, ho, _, hb'⟩ => ⟨ua, uc, he, ho, hb.trans (hb'.mono hb.size), hb'⟩
        have HToD16 : Hid (∀ wx, Below w16.heap.size w16 wx → Calls Try.prog 11 #[.agg #[.int .i64 d.root, .int .i64 d.next, .slice sa d.nodes.length sc]] wx fun e w' => ∃ ua uc, e = .returned (.agg #[.int .i64 d.root, .int .i64 d.next, .slice ua d.nodes.length uc]) ∧ Hid (DocOwn wx.heap.size w'.heap.size w' (.agg #[.int .i64 d.root, .int .i64 d.next, .slice ua d.nodes.length uc]) d) ∧ Below w16.heap.size w16 w' ∧ Below wx.heap.size wx w') := fun wx hb =>
          (HToD.out wx (hb16.trans (hb.mono hwb16))).mono fun e w' ⟨ua, uc, he, ho, _, hb'⟩ => ⟨ua, uc, he, ho, hb.trans (hb'.mono hb.size), hb'⟩
        have HTh16 : Hid (∀ wx, Below w16.heap.size w16 wx → Calls Try.prog 17 #[holdVal x] wx fun e w' => e = .returned (holdVal x) ∧ Below w16.heap.size w16 w' ∧ Below wx.heap.size wx w') := fun wx hb =>
          (toHold_any x wx).mono fun e w' ⟨he, hb'⟩ => ⟨he, hb.trans (hb'.mono hb.size), hb'⟩
        have HS16 : Hid (∀ wx, Below w16.heap.size w16 wx → (wx.cell? ⟨w.heap.size, 0, none⟩ = some (.int .i64 d.root) ∧ wx.cell? ⟨w.heap.size, 1, none⟩ = some (.int .i64 d.next) ∧ wx.cell? ⟨w.heap.size, 2, none⟩ = some (.slice sa d.nodes.length sc)) ∧ (wx.cell? ⟨w.heap.size + 1, 0, none⟩ = some (.int .i64 x.session) ∧ wx.cell? ⟨w.heap.size + 1, 1, none⟩ = some (.int .i64 x.node) ∧ wx.cell? ⟨w.heap.size + 1, 2, none⟩ = some (.int .i64 x.mode))) := fun wx hb => HB.out _ (hb16.trans (hb.mono hwb16))
        have hd16 : Below w16.heap.size w16 w16.drew := (Below.refl _ _).drew
        go_wp2_with fail
        go_cut [17, 18] (fun v17 v18 we => ∃ a14 c14 lo, v17 = .slice a14 ks.length c14 ∧ v18 = .int .i64 c ∧ Hid (HoldsIn lo we.heap.size we (.slice a14 ks.length c14) ks) ∧ Below w16.heap.size w16 we)
        case first =>
          clear HB HTo HToD HTh HOld HIm
          go_region_held3 (fun wx => (wx.cell? ⟨w.heap.size, 0, none⟩ = some (.int .i64 d.root) ∧ wx.cell? ⟨w.heap.size, 1, none⟩ = some (.int .i64 d.next) ∧ wx.cell? ⟨w.heap.size, 2, none⟩ = some (.slice sa d.nodes.length sc)) ∧ (wx.cell? ⟨w.heap.size + 1, 0, none⟩ = some (.int .i64 x.session) ∧ wx.cell? ⟨w.heap.size + 1, 1, none⟩ = some (.int .i64 x.node) ∧ wx.cell? ⟨w.heap.size + 1, 2, none⟩ = some (.int .i64 x.mode))) (first | exact HS16.out _ (by assumption) | go_keep)
            (first
              | (go_at_call 11; refine (HToD16.out _ (by assumption)).mono ?_; rintro e wa ⟨aa, ca, rfl, hoa, hba, hca⟩)
              | (go_at_call 12; refine (HTo16.out _ (by assumption)).mono ?_; rintro e wb ⟨ab, cb, rfl, hob, hbb, hcb⟩; have hoa' := hide (hoa.out.below hcb); have hsb := hcb.size)
              | (go_at_call 17; refine (HTh16.out _ (by assumption)).mono ?_; rintro e wh ⟨rfl, hbh, hch⟩; have hoa2 := hide (hoa'.out.below (hch.mono hsb)); have hob2 := hide (hob.out.below hch); have hsh := hch.size; have hsh2 := Nat.le_trans hsb hsh)
              | (go_at_call 18; refine (HIm16.out _ _ _ _ _ _ _ _ _ hob2 hsh hoa2 hsh2 (by assumption)).mono ?_; rintro e wd ⟨a14, c14, rfl, hl14, hb14'⟩))
          all_goals
            go_wp2_with fail
            go_meet
            exact ⟨_, _, _, rfl, rfl, hl14, hb14'⟩
        case rest =>
          obtain ⟨w18, rfl⟩ : ∃ y, y = wc := ⟨_, rfl⟩
          obtain ⟨a14, c14, lo14, rfl, rfl, HL14, hb18⟩ := hcut
          have hz18 := hb18.size
          have HE18 := hide (eqHolds_any w18.heap.size _ _ ks w18 HL14.out.at ((HL316.out.below (hb18.mono (by omega))).at.wide (by omega)) (Nat.le_refl _) hkl)
          go_wp2_with (go_at_call 15; refine HE18.out.mono ?_; rintro e w19 ⟨rfl, hc19⟩)
          have h1619 : Below w16.heap.size w16 w19 := hb18.trans (hc19.mono (by omega))
          have HHe := hide (heldHoldsX_any a6 ks.length c6 1 w19 (HMkA.out.below h1619) hkl (by omega) (by omega))
          clear HE18
          refine HHe.out.mono ?_
          rintro e w20 ⟨rfl, hw20⟩
          have hw20' := hw20.symm
          subst hw20'
          clear hw20 HHe
          go_wp2_with fail
          go_ret
          exact ⟨rfl, (HOld.out _ (hb16.trans (h1619.mono hwb16))).1⟩
end Go.Proofs.Ytfjhpfgffbghdaa
