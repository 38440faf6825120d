/-
  Which tables are right, asked by the specification and by the program.
  TableOK: what the specification answers.
  BlockersOf: what the specification answers.
  A set of the numbers of a list.
  The pointer to a node's branch on the way up, and where it leads.
  Whether a node hangs below another one: what the program's climb answers.
-/
import Derived.Test.YtfjhpfgffbghdaaGreatDoorLockSpecsJ
import Derived.Test.YtfjhpfgffbghdaaGreatDoorTableOfJ
import Derived.Test.YtfjhpfgffbghdaaGreatDoorJoinI
import Derived.Test.YtfjhpfgffbghdaaGreatDoorSpecBlockJ
import Derived.Test.YtfjhpfgffbghdaaGreatDoorJoinH
import Derived.Test.YtfjhpfgffbghdaaGreatDoorJoinA
import Derived.Test.YtfjhpfgffbghdaaGreatDoorJoinE
import Derived.Test.YtfjhpfgffbghdaaGreatDoorJoinD
import Derived.Test.YtfjhpfgffbghdaaGreatDoorJoinF
import Derived.LaidEqlPtr
namespace Go.Proofs.YtfjhpfgffbghdaaGreatDoor
open Go.RowKit

set_option maxHeartbeats 4000000 in
set_option maxRecDepth 100000 in
theorem specWaits_any (n₀ : Nat) (d : PDoc) (s v : Value) (L : List PHold) (w : World) (hN : NodesAt n₀ w s d.nodes) (hV : HoldsAt n₀ w v L) (hn : n₀ ≤ w.heap.size) (hl : d.nodes.length ≤ 1048576) (hL : L.length ≤ 1048576) (r : Bool) (hr : r = true ↔ WaitsP d L) :
    Calls Tryz.prog 83 #[.agg #[.int .i64 d.root, .int .i64 d.next, s], v] w fun e w' => e = .returned (.bool r) ∧ Below w.heap.size w w' := by
  have HN := hide hN
  have HR := hide hr
  obtain ⟨W0, hW0⟩ : ∃ W0, W0 = w.alloc (.cells #[.int .i64 d.root, .int .i64 d.next, s] 38) := ⟨_, rfl⟩
  have hw0 : Below w.heap.size w W0 := by rw [hW0]; exact (Below.refl w.heap.size w).alloc (Nat.le_refl _) _
  have hs0 : W0.heap.size = w.heap.size + 1 := by rw [hW0]; simp
  have HOld : Hid (∀ wx, Below (w.heap.size + 1) W0 wx → Below w.heap.size w wx ∧ w.heap.size + 1 ≤ wx.heap.size) := fun wx hb => ⟨hw0.trans (hb.mono (by omega)), by have := hb.size; omega⟩
  have HB : Hid (∀ wx, Below (w.heap.size + 1) W0 wx → wx.cell? ⟨w.heap.size, 0, none⟩ = some (.int .i64 d.root) ∧ wx.cell? ⟨w.heap.size, 1, none⟩ = some (.int .i64 d.next) ∧ wx.cell? ⟨w.heap.size, 2, none⟩ = some s) := fun wx hb => box_doc1 hW0 hb
  obtain ⟨a, cap, rfl, hk⟩ := hV
  obtain ⟨sa, sc, rfl, -⟩ := hN
  clear hr hw0 hs0
  by_cases h6 : 6 < L.length
  · have HF : Hid (r = false) := no_of HR.out fun h => by have := h.len; omega
    have hb := HOld.out W0 (Below.refl _ _)
    rw [hW0] at hb
    have h6' : (6 : Int) < (L.length : Int) := by omega
    clear hW0 HB HOld
    go_enter Tryz.func83, Tryz.ntmps83
    go_wp2_with fail
    go_ret
    exact ⟨ret_bool HF.out.symm, hb.1⟩
  · have h6' : ¬ (6 : Int) < (L.length : Int) := by omega
    go_enter Tryz.func83, Tryz.ntmps83
    go_wp2_with fail
    rw [← hW0]
    clear hW0
    go_loopw [5] (fun i wr => ∃ k : Nat, k ≤ L.length ∧ i = .int .i64 k ∧ Hid (∀ j, j < k → WaitAt d L j) ∧ Below (w.heap.size + 1) W0 wr) (fun i _ => L.length - (intOf i).toNat)
    case atStart => exact ⟨0, Nat.zero_le _, rfl, fun j hj => absurd hj (by omega), Below.refl _ _⟩
    case round =>
      obtain ⟨k, hkl, rfl, hall, hbr⟩ := hrel
      obtain ⟨hbw, hsz⟩ := HOld.out _ hbr
      obtain ⟨x0, x1, x2⟩ := HB.out _ hbr
      by_cases hlt : k < L.length
      · obtain ⟨b, off, rfl, hb, hc⟩ := hk.resolve_left (by intro e; simp [e] at hlt)
        have hA := (hc k hlt).below hb (hbw.mono hn)
        have g0 := hA.c0
        have g1 := hA.c1
        have g2 := hA.c2
        have hlt1 : (k : Int) < (L.length : Int) := by omega
        have hbl : b < wr.heap.size := by have := hbw.size; omega
        have hwz : w.heap.size < wr.heap.size := by omega
        have hcal := calm_cell wr
        obtain ⟨q, hq⟩ : ∃ q : Bool, q = true ↔ HoldP d (L[k]?.getD holdNil) := ⟨dec _, dec_iff _⟩
        have HH : Hid (∀ t : Calm wr, Calls Tryz.prog 110 #[.agg #[.int .i64 d.root, .int .i64 d.next, .slice sa d.nodes.length sc], holdVal (L[k]?.getD holdNil)] t.out fun e w' => e = .returned (.bool q) ∧ Below t.out.heap.size t.out w') := fun t =>
          specHold_any n₀ d _ _ t.out (HN.out.below (Nat.le_refl _) ((hbw.mono hn).trans (t.below.mono (by omega)))) (by have := t.below.size; omega) hl q hq
        have HQ := hide hq
        have HMem := hide (fun s => @mem_sess L k s (by omega))
        have HCell : Hid (∀ j wx, j < L.length → Below (w.heap.size + 1) W0 wx → HoldAt wx b (off + j * 3) (L[j]?.getD holdNil) ∧ b < wx.heap.size) := fun j wx hj hbx => ⟨(hc j hj).below hb ((HOld.out wx hbx).1.mono hn), by have := (HOld.out wx hbx).1.size; omega⟩
        have HWa : Hid (WaitAt d L k ↔ HoldP d (L[k]?.getD holdNil) ∧ (L[k]?.getD holdNil).session ∉ sessOf (L.take k)) := Iff.rfl
        clear hq hA
        cases q
        · have HF : Hid (r = false) := no_of HR.out fun h => by have := HQ.out.2 (h.ok k hlt).1; cases this
          clear hc hk hall
          generalize L[k]?.getD holdNil = x at *
          go_wp2_with fail
          refine wp_region_calm (by kernel_rfl) (by kernel_rfl) ?_
          repeat (go_big_quiet_step ((go_at_call 110; exact calm_of (HH.out _))))
          refine wpQuiet_nil ?_
          rintro _ ⟨t, rfl⟩
          have ht := t.below
          go_wp2_with fail
          go_ret
          exact ⟨ret_bool HF.out.symm, hbw.trans (ht.mono (by omega))⟩
        · have HP : Hid (HoldP d (L[k]?.getD holdNil)) := HQ.out.1 rfl
          have HFd : Hid (∀ j, j < k → (L[j]?.getD holdNil).session = (L[k]?.getD holdNil).session → r = false) := fun j hj he => no_of HR.out fun h => (h.ok k hlt).2 ((HMem.out _).2 ⟨j, hj, he⟩)
          have HKk := hide (fun wx hbx => HCell.out k wx hlt hbx)
          clear hc hk
          obtain ⟨x, hx⟩ : ∃ x, x = L[k]?.getD holdNil := ⟨_, rfl⟩
          rw [← hx] at g0 g1 g2 HH HP HFd HKk HWa
          clear hx
          go_wp2_with fail
          refine wp_region_calm (by kernel_rfl) (by kernel_rfl) ?_
          repeat (go_big_quiet_step ((go_at_call 110; exact calm_of (HH.out _))))
          refine wpQuiet_nil ?_
          rintro _ ⟨t, rfl⟩
          have ht := t.below
          have hbt : Below (w.heap.size + 1) W0 t.out := hbr.trans (ht.mono (by omega))
          clear g0 g1 g2 x0 x1 x2 hcal HH ht
          obtain ⟨wo, hwo⟩ : ∃ wo, wo = t.out := ⟨_, rfl⟩
          rw [← hwo] at hbt ⊢
          clear hwo
          go_wp2_with fail
          go_loopw [6] (fun i2 w2 => ∃ m : Nat, m ≤ k ∧ i2 = .int .i64 m ∧ Hid (∀ j, j < m → (L[j]?.getD holdNil).session ≠ x.session) ∧ Below (w.heap.size + 1) W0 w2) (fun i2 _ => k - (intOf i2).toNat)
          case atStart => exact ⟨0, Nat.zero_le _, rfl, fun j hj => absurd hj (by omega), hbt⟩
          case round =>
            obtain ⟨m, hmk, rfl, hno, hb2⟩ := hrel
            obtain ⟨w2, hw2⟩ : ∃ w2, w2 = wr := ⟨_, rfl⟩
            by_cases hmlt : m < k
            · have hm1 : (m : Int) < (k : Int) := by omega
              have hm2 : (m : Int) < (L.length : Int) := by omega
              obtain ⟨hAm, hbz2⟩ := HCell.out m _ (by omega) hb2
              obtain ⟨hAk, -⟩ := HKk.out _ hb2
              have e0 := hAm.c0
              have f0 := hAk.c0
              have HFm := hide (HFd.out m hmlt)
              have HNo2 : Hid ((L[m]?.getD holdNil).session ≠ x.session → ∀ j, j < m + 1 → (L[j]?.getD holdNil).session ≠ x.session) := fun h j hj => by
                by_cases e : j = m
                · subst e; exact h
                · exact hno.out j (by omega)
              have hcal2 := calm_cell
              clear hAm hAk hcal2
              generalize L[m]?.getD holdNil = y at *
              by_cases hxy : y.session = x.session
              · have hq1 : (y.session == x.session) = true := by simp [hxy]
                have HF := hide (HFm.out hxy)
                obtain ⟨hbw2, hsz2⟩ := HOld.out _ hb2
                clear hxy
                go_wp2_with fail
                go_quiet (fail)
                go_wp2_with fail
                go_ret
                exact ⟨ret_bool HF.out.symm, below_drewN hbw2 _⟩
              · have hq1 : (y.session == x.session) = false := by simp [hxy]
                have HN2 := hide (HNo2.out hxy)
                clear hxy
                go_wp2_with fail
                go_quiet (fail)
                go_wp2_with fail
                exact ⟨⟨m + 1, by omega, by go_num, HN2.out, below_drewN hb2 _⟩, by simp [intOf]; omega⟩
            · have hm1 : ¬ (m : Int) < (k : Int) := by omega
              have hmk2 : m = k := by omega
              have HA2 : Hid (∀ j, j < k + 1 → WaitAt d L j) := fun j hj => by
                by_cases e : j = k
                · subst e
                  refine HWa.out.2 ⟨HP.out, fun h => ?_⟩
                  obtain ⟨i, hi, he⟩ := (HMem.out _).1 h
                  exact hno.out i (by omega) he
                · exact hall.out j (by omega)
              clear hmk2
              go_wp2_with fail
              exact ⟨⟨k + 1, by omega, by go_num, HA2, hb2⟩, by simp [intOf]; omega⟩
      · have HT : Hid (r = true) := HR.out.2 ⟨by omega, fun i hi => hall.out i (by omega)⟩
        clear hk hall
        go_wp2_with fail
        go_ret
        exact ⟨ret_bool HT.out.symm, hbw⟩
end Go.Proofs.YtfjhpfgffbghdaaGreatDoor

namespace Go.Proofs.YtfjhpfgffbghdaaGreatDoor
open Go.RowKit

set_option maxHeartbeats 2000000 in
set_option maxRecDepth 100000 in
theorem specTableOK_any (n₀ : Nat) (d : PDoc) (s v : Value) (t : PTab) (w : World) (hN : NodesAt n₀ w s d.nodes) (hV : TabAt n₀ w v t) (hn : n₀ ≤ w.heap.size) (hl : d.nodes.length ≤ 1048576) (hkl : ∀ x ∈ d.nodes, x.kids.length ≤ 1048576) (S : SmallT t) (r : Bool) (hr : r = true ↔ TabP d t) :
    Calls Tryz.prog 51 #[.agg #[.int .i64 d.root, .int .i64 d.next, s], v] w fun e w' => e = .returned (.bool r) ∧ Below w.heap.size w w' := by
  obtain ⟨vh, vw, rfl, hVh, hVw⟩ := hV
  obtain ⟨W0, hW0⟩ : ∃ W0, W0 = (w.alloc (.cells #[.int .i64 d.root, .int .i64 d.next, s] 38)).alloc (.cells #[vh, vw] 32) := ⟨_, rfl⟩
  have hw0 : Below w.heap.size w W0 := by rw [hW0]; exact ((Below.refl w.heap.size w).alloc (Nat.le_refl _) _).alloc (by simp) _
  have hs0 : W0.heap.size = w.heap.size + 1 + 1 := by rw [hW0]; simp
  have hh0 : W0.heap[w.heap.size]? = some (.cells #[.int .i64 d.root, .int .i64 d.next, s] 38 (0, 0)) := by
    rw [hW0, Below.heap_alloc _ _ _ (by simp)]; exact alloc_new w _
  have hh1 : W0.heap[w.heap.size + 1]? = some (.cells #[vh, vw] 32 (0, 0)) := by
    rw [hW0]
    have := alloc_new (w.alloc (.cells #[.int .i64 d.root, .int .i64 d.next, s] 38)) (.cells #[vh, vw] 32)
    simpa using this
  have HB : Hid (∀ wx, Below W0.heap.size W0 wx → (wx.cell? ⟨w.heap.size, 0, none⟩ = some (.int .i64 d.root) ∧ wx.cell? ⟨w.heap.size, 1, none⟩ = some (.int .i64 d.next) ∧ wx.cell? ⟨w.heap.size, 2, none⟩ = some s) ∧ (wx.cell? ⟨w.heap.size + 1, 0, none⟩ = some vh ∧ wx.cell? ⟨w.heap.size + 1, 1, none⟩ = some vw) ∧ Below w.heap.size w wx ∧ w.heap.size + 1 + 1 ≤ wx.heap.size) := fun wx hb => by
    have j0 := (hb.block w.heap.size (by omega)).trans hh0
    have j1 := (hb.block (w.heap.size + 1) (by omega)).trans hh1
    exact ⟨⟨cell_of_heap j0 0, cell_of_heap j0 1, cell_of_heap j0 2⟩, ⟨cell_of_heap j1 0, cell_of_heap j1 1⟩, hw0.trans (hb.mono (by omega)), by have := hb.size; omega⟩
  obtain ⟨g, hg⟩ : ∃ g : Bool, g = true ↔ LocksP d t.holds := ⟨dec _, dec_iff _⟩
  obtain ⟨q, hq⟩ : ∃ q : Bool, q = true ↔ WaitsP d t.waits := ⟨dec _, dec_iff _⟩
  have HO := hide (specHoldsOK_any n₀ d s vh t.holds W0 (hN.below (Nat.le_refl _) (hw0.mono hn)) (hVh.below (Nat.le_refl _) (hw0.mono hn)) (by omega) hl hkl S.1 g hg)
  have HS : Hid (∀ wx, Below w.heap.size w wx → Calls Tryz.prog 83 #[.agg #[.int .i64 d.root, .int .i64 d.next, s], vw] wx fun e w' => e = .returned (.bool q) ∧ Below wx.heap.size wx w') := fun wx hb =>
    specWaits_any n₀ d s vw t.waits wx (hN.below (Nat.le_refl _) (hb.mono hn)) (hVw.below (Nat.le_refl _) (hb.mono hn)) (by have := hb.size; omega) hl S.2 q hq
  have HG := hide hg
  have HQ := hide hq
  have HR := hide hr
  obtain ⟨ha, hcap, rfl⟩ := hVh.form
  obtain ⟨wa, wcap, rfl⟩ := hVw.form
  obtain ⟨sa, sc, rfl, -⟩ := hN
  clear hr hg hq hkl hVh hVw hs0 hh0 hh1 hw0 S
  go_enter Tryz.func51, Tryz.ntmps51
  go_wp2_with fail
  rw [← hW0]
  clear hW0
  refine HO.out.mono ?_
  rintro e w1 ⟨rfl, hb1⟩
  obtain ⟨⟨x0, x1, x2⟩, ⟨y0, y1⟩, hbw, hbs⟩ := HB.out _ hb1
  have hz1 : w.heap.size < w1.heap.size := by omega
  have hz2 : w.heap.size + 1 < w1.heap.size := by omega
  cases g
  · have HF : Hid (r = false) := no_of HR.out fun h => by have := HG.out.2 h.locks; cases this
    go_wp2_with fail
    go_ret
    exact ⟨ret_bool HF.out.symm, hbw⟩
  · have HRQ : Hid (r = q) := by
      rw [Hid, Bool.eq_iff_iff, HR.out, HQ.out]
      exact ⟨fun h => h.waits, fun h => ⟨HG.out.1 rfl, h⟩⟩
    have HS1 := hide (HS.out w1 hbw)
    go_wp2_with (go_at_call 83; refine HS1.out.mono ?_; rintro e w2 ⟨rfl, hb2⟩)
    go_ret
    exact ⟨ret_bool HRQ.out.symm, hbw.trans (hb2.mono (by omega))⟩
end Go.Proofs.YtfjhpfgffbghdaaGreatDoor

namespace Go.Proofs.YtfjhpfgffbghdaaGreatDoor
open Go.RowKit

theorem tab_boxes {w : World} {d : PDoc} {s vh vw : Value} {W0 : World} (h : W0 = (w.alloc (.cells #[.int .i64 d.root, .int .i64 d.next, s] 38)).alloc (.cells #[vh, vw] 32)) :
    Below w.heap.size w W0 ∧ W0.heap.size = w.heap.size + 1 + 1 ∧ ∀ wx, Below W0.heap.size W0 wx → (wx.cell? ⟨w.heap.size, 0, none⟩ = some (.int .i64 d.root) ∧ wx.cell? ⟨w.heap.size, 1, none⟩ = some (.int .i64 d.next) ∧ wx.cell? ⟨w.heap.size, 2, none⟩ = some s) ∧ (wx.cell? ⟨w.heap.size + 1, 0, none⟩ = some vh ∧ wx.cell? ⟨w.heap.size + 1, 1, none⟩ = some vw) := by
  have hw0 : Below w.heap.size w W0 := by rw [h]; exact ((Below.refl w.heap.size w).alloc (Nat.le_refl _) _).alloc (by simp) _
  have hs0 : W0.heap.size = w.heap.size + 1 + 1 := by rw [h]; simp
  have hh0 : W0.heap[w.heap.size]? = some (.cells #[.int .i64 d.root, .int .i64 d.next, s] 38 (0, 0)) := by
    rw [h, Below.heap_alloc _ _ _ (by simp)]; exact alloc_new w _
  have hh1 : W0.heap[w.heap.size + 1]? = some (.cells #[vh, vw] 32 (0, 0)) := by
    rw [h]
    have := alloc_new (w.alloc (.cells #[.int .i64 d.root, .int .i64 d.next, s] 38)) (.cells #[vh, vw] 32)
    simpa using this
  refine ⟨hw0, hs0, fun wx hb => ?_⟩
  have j0 := (hb.block w.heap.size (by omega)).trans hh0
  have j1 := (hb.block (w.heap.size + 1) (by omega)).trans hh1
  exact ⟨⟨cell_of_heap j0 0, cell_of_heap j0 1, cell_of_heap j0 2⟩, cell_of_heap j1 0, cell_of_heap j1 1⟩

set_option maxHeartbeats 2000000 in
set_option maxRecDepth 100000 in
theorem specTabAsk_any (n₀ : Nat) (d : PDoc) (s v : Value) (t : PTab) (ss : Int) (w : World) (hN : NodesAt n₀ w s d.nodes) (hV : TabAt n₀ w v t) (hn : n₀ ≤ w.heap.size) (hl : d.nodes.length ≤ 1048576) (hkl : ∀ x ∈ d.nodes, x.kids.length ≤ 1048576) (S : SmallT t) (c : Int) (hc : c = tabAsk d t ss) :
    Calls Tryz.prog 26 #[.agg #[.int .i64 d.root, .int .i64 d.next, s], v, .int .i64 ss] w fun e w' => e = .returned (.int .i64 c) ∧ Below w.heap.size w w' := by
  have HC := hide hc
  have hV' := hV
  obtain ⟨vh, vw, rfl, -, -⟩ := hV'
  obtain ⟨W0, hW0⟩ : ∃ W0, W0 = (w.alloc (.cells #[.int .i64 d.root, .int .i64 d.next, s] 38)).alloc (.cells #[vh, vw] 32) := ⟨_, rfl⟩
  obtain ⟨hw0, hs0, hB⟩ := tab_boxes hW0
  obtain ⟨g, hg⟩ : ∃ g : Bool, g = true ↔ TabP d t := ⟨dec _, dec_iff _⟩
  have HO := hide (specTableOK_any n₀ d s _ t W0 (hN.below (Nat.le_refl _) (hw0.mono hn)) (hV.below (Nat.le_refl _) (hw0.mono hn)) (by omega) hl hkl S g hg)
  have HG := hide hg
  have HW0 := hide hw0
  have hsz : w.heap.size ≤ W0.heap.size := by omega
  obtain ⟨ha, hcap, wa, wcap, e⟩ := hV.form
  simp only [Value.agg.injEq, Array.mk.injEq, List.cons.injEq, and_true] at e
  obtain ⟨rfl, rfl⟩ := e
  obtain ⟨sa, sc, rfl, -⟩ := hN
  clear hc hg hkl hV S hB hw0 hs0
  cases g
  · have HE : Hid (c = 1) := HC.out.trans (tabAsk_bad fun h => by have := HG.out.2 h; cases this)
    go_enter Tryz.func26, Tryz.ntmps26
    go_wp2_with fail
    rw [← hW0]
    clear hW0
    refine HO.out.mono ?_
    rintro e w1 ⟨rfl, hb1⟩
    go_wp2_with fail
    go_ret
    exact ⟨ret_int HE.out.symm, HW0.out.trans (hb1.mono hsz)⟩
  · by_cases hs : 1 ≤ ss ∧ ss ≤ 999
    · have HE : Hid (c = 0) := HC.out.trans (tabAsk_ok (HG.out.1 rfl) hs)
      have hi := inB_iff.2 hs
      clear hs
      go_enter Tryz.func26, Tryz.ntmps26
      go_wp2_with fail
      rw [← hW0]
      clear hW0
      refine HO.out.mono ?_
      rintro e w1 ⟨rfl, hb1⟩
      go_wp2_with (go_at_call 52; refine (specIn_any _ _ _ _).mono ?_; rintro e w' ⟨rfl, rfl⟩)
      go_ret
      exact ⟨ret_int HE.out.symm, HW0.out.trans (hb1.mono hsz)⟩
    · have HE : Hid (c = 4) := HC.out.trans (tabAsk_range (HG.out.1 rfl) hs)
      have hi := between_no hs
      clear hs
      go_enter Tryz.func26, Tryz.ntmps26
      go_wp2_with fail
      rw [← hW0]
      clear hW0
      refine HO.out.mono ?_
      rintro e w1 ⟨rfl, hb1⟩
      go_wp2_with (go_at_call 52; refine (specIn_any _ _ _ _).mono ?_; rintro e w' ⟨rfl, rfl⟩)
      go_ret
      exact ⟨ret_int HE.out.symm, HW0.out.trans (hb1.mono hsz)⟩

set_option maxHeartbeats 2000000 in
set_option maxRecDepth 100000 in
theorem specBlockersOf_any (n₀ : Nat) (d : PDoc) (s v : Value) (t : PTab) (ss : Int) (w : World) (hN : NodesAt n₀ w s d.nodes) (hV : TabAt n₀ w v t) (hn : n₀ ≤ w.heap.size) (hl : d.nodes.length ≤ 1048576) (hkl : ∀ x ∈ d.nodes, x.kids.length ≤ 1048576) (S : SmallT t) (c : Int) (ks : List Int) (hc : c = blockCode d t ss) (hks : ks = blockAns d t ss) :
    Calls Tryz.prog 22 #[.agg #[.int .i64 d.root, .int .i64 d.next, s], v, .int .i64 ss] w (ListPost w ks c) := by
  have hV' := hV
  obtain ⟨vh, vw, rfl, hVh, hVw⟩ := hV'
  obtain ⟨W0, hW0⟩ : ∃ W0, W0 = (w.alloc (.cells #[.int .i64 d.root, .int .i64 d.next, s] 38)).alloc (.cells #[vh, vw] 32) := ⟨_, rfl⟩
  obtain ⟨hw0, hs0, hB⟩ := tab_boxes hW0
  have HB := hide hB
  have HOld : Hid (∀ wx, Below W0.heap.size W0 wx → Below w.heap.size w wx ∧ w.heap.size + 1 + 1 ≤ wx.heap.size) := fun wx hb => ⟨hw0.trans (hb.mono (by omega)), by have := hb.size; omega⟩
  obtain ⟨c1, hc1⟩ : ∃ c1, c1 = tabAsk d t ss := ⟨_, rfl⟩
  obtain ⟨pn, hpn⟩ : ∃ pn, pn = placeN t.waits ss := ⟨_, rfl⟩
  have HAs := hide (specTabAsk_any n₀ d s _ t ss W0 (hN.below (Nat.le_refl _) (hw0.mono hn)) (hV.below (Nat.le_refl _) (hw0.mono hn)) (by omega) hl hkl S c1 hc1)
  have HAt : Hid (∀ wx, Below W0.heap.size W0 wx → Calls Tryz.prog 45 #[.agg #[vh, vw], .int .i64 ss] wx fun e w' => e = .returned (.int .i64 ((pn : Int) - 1)) ∧ Below wx.heap.size wx w') := fun wx hb => by
    rw [hpn]
    exact specAtW_any n₀ vh vw t.waits ss wx (hVw.below (Nat.le_refl _) ((HOld.out wx hb).1.mono hn)) (by have := (HOld.out wx hb).2; omega) S.2
  have HBl : Hid (c1 = 0 → pn ≠ 0 → ∀ wx, Below W0.heap.size W0 wx → Calls Tryz.prog 46 #[.agg #[.int .i64 d.root, .int .i64 d.next, s], .agg #[vh, vw], .int .i64 ((pn : Int) - 1)] wx (IdsPost wx ks)) := fun h0 h1 wx hb => by
    have hT := (tabAsk_zero (hc1.symm.trans h0)).1
    have hp := placeN_le t.waits ss
    rw [hks, blockAns_ok (blockCode_ok (hc1.symm.trans h0) (by rw [← hpn]; exact h1)), ← hpn]
    have hk : (pn : Int) - 1 = ((pn - 1 : Nat) : Int) := by omega
    rw [hk]
    exact specBlockers_any n₀ d s vh vw t.holds t.waits (pn - 1) wx (hN.below (Nat.le_refl _) ((HOld.out wx hb).1.mono hn)) (hVh.below (Nat.le_refl _) ((HOld.out wx hb).1.mono hn)) (hVw.below (Nat.le_refl _) ((HOld.out wx hb).1.mono hn)) (by have := (HOld.out wx hb).2; omega) hl hkl hT.locks.good hT.locks.holds hT.waits (by omega)
  have HBad : Hid (c1 ≠ 0 → c1 = c ∧ ks = []) := fun h => by
    have h2 := blockCode_bad (d := d) (t := t) (s := ss) (by rw [← hc1]; exact h)
    exact ⟨by rw [hc, h2]; exact hc1, by rw [hks]; exact blockAns_no (by rw [h2, ← hc1]; exact h)⟩
  have HNone : Hid (c1 = 0 → pn = 0 → c = 5 ∧ ks = []) := fun h h' => by
    have h2 := blockCode_none (d := d) (t := t) (s := ss) (hc1.symm.trans h) (by rw [← hpn]; exact h')
    exact ⟨by rw [hc, h2], by rw [hks]; exact blockAns_no (by rw [h2]; decide)⟩
  have HOk : Hid (c1 = 0 → pn ≠ 0 → c = 0) := fun h h' => by
    rw [hc]; exact blockCode_ok (hc1.symm.trans h) (by rw [← hpn]; exact h')
  have hpl : pn ≤ 1048576 := by have := placeN_le t.waits ss; have := S.2; omega
  obtain ⟨ha, hcap, wa, wcap, e⟩ := hV.form
  simp only [Value.agg.injEq, Array.mk.injEq, List.cons.injEq, and_true] at e
  obtain ⟨rfl, rfl⟩ := e
  obtain ⟨sa, sc, rfl, -⟩ := hN
  have hsz0 : w.heap.size + 1 + 1 ≤ W0.heap.size := by omega
  clear hc hks hc1 hpn hkl hV hVh hVw S hB hw0 hs0
  go_enter Tryz.func22, Tryz.ntmps22
  go_wp2_with fail
  rw [← hW0]
  clear hW0
  refine HAs.out.mono ?_
  rintro e w1 ⟨rfl, hb1⟩
  obtain ⟨⟨x0, x1, x2⟩, y0, y1⟩ := HB.out _ hb1
  obtain ⟨hbw, hbs⟩ := HOld.out _ hb1
  have hz1 : w.heap.size < w1.heap.size := by omega
  have hz2 : w.heap.size + 1 < w1.heap.size := by omega
  by_cases h0 : c1 = 0
  · subst h0
    have HA1 := hide (HAt.out w1 hb1)
    by_cases hp : pn = 0
    · have HE := hide (HNone.out rfl hp)
      subst hp
      have hm : ((0 : Nat) : Int) - 1 = -1 := by omega
      rw [hm] at HA1
      go_wp2_with fail
      refine HA1.out.mono ?_
      rintro e w2 ⟨rfl, hb2⟩
      have hbw2 := hbw.trans (hb2.mono (by omega))
      have hs2 := hb2.size
      have HR := hide (row_none w2 w.heap.size (by omega))
      clear x0 x1 x2 y0 y1
      go_wp2_with fail
      go_ret2
      exact ⟨_, ret_vc HE.out.1.symm, by rw [HE.out.2]; exact HR.out, hbw2.alloc (by omega) _⟩
    · have HE := hide (HOk.out rfl hp)
      have HB2 := hide (HBl.out rfl hp)
      have hp1 : ¬ ((pn : Int) - 1 < 0) := by omega
      generalize (pn : Int) - 1 = pz at *
      go_wp2_with fail
      refine HA1.out.mono ?_
      rintro e w2 ⟨rfl, hb2⟩
      have hb02 := hb1.trans (hb2.mono (by have := hb1.size; omega))
      have hbw2 := HOld.out _ hb02
      have HB3 := hide (HB2.out _ hb02)
      clear x0 x1 x2 y0 y1
      obtain ⟨⟨x0, x1, x2⟩, y0, y1⟩ := HB.out _ hb02
      have hz3 : w.heap.size < w2.heap.size := by omega
      have hz4 : w.heap.size + 1 < w2.heap.size := by omega
      go_wp2_with (go_at_call 46; refine HB3.out.mono ?_; rintro e w3 ⟨vv, rfl, hrow, hb3⟩)
      have HRow := hide hrow
      clear hrow
      go_wp2_with fail
      go_ret2
      exact ⟨_, ret_vc HE.out.symm, ownsRow_base HRow.out (by omega), hbw2.1.trans (hb3.mono (by omega))⟩
  · have HE := hide (HBad.out h0)
    have h00 : (c1 != 0) = true := by simp [h0]
    have HR := hide (row_none w1 w.heap.size (by omega))
    clear h0 x0 x1 x2 y0 y1
    go_wp2_with fail
    go_ret2
    exact ⟨_, ret_vc HE.out.1, by rw [HE.out.2]; exact HR.out, hbw.alloc (by omega) _⟩
end Go.Proofs.YtfjhpfgffbghdaaGreatDoor

namespace Go.Proofs.YtfjhpfgffbghdaaGreatDoor
open Go.RowKit

set_option maxHeartbeats 1000000 in
theorem setOf_any (n₀ : Nat) (v : Value) (ks : List Int) (w : World) (hk : IntsAt n₀ w v ks) (hn : n₀ ≤ w.heap.size) (hl : ks.length ≤ 1048576) (hwf : ∀ i ∈ ks, Wf64 i) :
    Calls Tryz.prog 75 #[v] w fun e w' => e = .returned (.map (some w.heap.size)) ∧ Hid (∃ S, IntSet w' w.heap.size ks.length S ∧ ∀ i, i ∈ S ↔ i ∈ ks) ∧ Below w.heap.size w w' := by
  have hmm := @run_makeMap Tryz.prog
  obtain ⟨W0, hW0⟩ : ∃ W0, W0 = w.alloc (.map #[] 0) := ⟨_, rfl⟩
  have hset : IntSet W0 w.heap.size 0 [] := by rw [hW0]; exact ⟨.map [], World.ownsMap_made w _ _ _, ⟨[], rfl⟩, fun i => by simp [Maps.has]⟩
  have hw0 : Below w.heap.size w W0 := by rw [hW0]; exact (Below.refl w.heap.size w).alloc (Nat.le_refl _) _
  have hs0 : w.heap.size < W0.heap.size := hset.lt
  obtain ⟨a, cap, rfl, hk⟩ := hk
  have HC : Hid (∀ k, k < ks.length → ∃ b o, a = some ⟨b, o, none⟩ ∧ b < w.heap.size ∧ ∀ wx, Below w.heap.size w wx → wx.cell? ⟨b, o + k, none⟩ = some (.int .i64 (ks[k]?.getD 0))) := fun k hlt => by
    obtain ⟨b, o, rfl, hb, hc⟩ := hk.resolve_left (by intro e; simp [e] at hlt)
    exact ⟨b, o, rfl, by omega, fun wx hbx => (hbx.cell (p := ⟨b, o + k, none⟩) (show b < w.heap.size by omega)).trans (hc k hlt)⟩
  have HTk : Hid (∀ k i, k < ks.length → (i ∈ ks.take (k + 1) ↔ i = ks[k]?.getD 0 ∨ i ∈ ks.take k)) := fun k i h => by
    rw [List.take_succ_eq_append_getElem h, List.getElem?_eq_getElem h, Option.getD_some, List.mem_append, List.mem_singleton, or_comm]
  have HWf : Hid (∀ k, k < ks.length → Wf64 (ks[k]?.getD 0)) := fun k h => by
    rw [List.getElem?_eq_getElem h, Option.getD_some]
    exact hwf _ (List.getElem_mem h)
  have HSet := hide hset
  have HAll : Hid (ks.take ks.length = ks) := List.take_length
  clear hk hset hwf
  obtain ⟨nk, hnk⟩ : ∃ nk, nk = ks.length := ⟨_, rfl⟩
  rw [← hnk] at HC HTk HWf HAll hl ⊢
  clear hnk
  go_enter Tryz.func75, Tryz.ntmps75
  go_wp2_with fail
  rw [← hW0]
  clear hW0
  go_loopw [9] (fun i wr => ∃ k : Nat, k ≤ nk ∧ i = .int .i64 k ∧ Hid (∃ S, IntSet wr w.heap.size k S ∧ ∀ i, i ∈ S ↔ i ∈ ks.take k) ∧ Below w.heap.size w wr) (fun i _ => nk - (intOf i).toNat)
  case atStart => exact ⟨0, Nat.zero_le _, rfl, ⟨[], HSet.out, fun i => by simp⟩, hw0⟩
  case round =>
    obtain ⟨k, hkl, rfl, hset, hbr⟩ := hrel
    have hsz := hbr.size
    by_cases hlt : k < nk
    · have hlt1 : (k : Int) < (nk : Int) := by omega
      obtain ⟨b, o, rfl, hb, hc⟩ := HC.out k hlt
      have g0 := hc wr hbr
      have hbw : b < wr.heap.size := by omega
      have HT1 := hide (fun i => HTk.out k i hlt)
      have HW1 := hide (HWf.out k hlt)
      clear hc
      generalize ks[k]?.getD 0 = x at *
      have HAdd : Hid (Calls Tryz.prog 78 #[.map (some w.heap.size), .int .i64 x] wr fun e w' => e = .returned (.tuple #[]) ∧ Hid (∃ S, IntSet w' w.heap.size (k + 1) S ∧ ∀ i, i ∈ S ↔ i ∈ ks.take (k + 1)) ∧ Below w.heap.size w w') := by
        obtain ⟨S, h1, h2⟩ := hset.out
        refine (add_any _ k S x wr h1 (by omega) HW1.out).mono fun e w' ⟨he, hs, hg⟩ => ⟨he, ⟨_, hs, fun i => ?_⟩, hbr.grown hg (by omega) fun g' hg' => by have := Option.some.inj hg'; omega⟩
        rw [HT1.out, List.mem_cons, h2]
      go_wp2_with (go_at_call 78; refine HAdd.out.mono ?_; rintro e w3 ⟨rfl, hset3, hb3⟩)
      exact ⟨⟨k + 1, by omega, by go_num, hset3, hb3⟩, by simp [intOf]; omega⟩
    · have hlt1 : ¬ (k : Int) < (nk : Int) := by omega
      obtain rfl : k = nk := by omega
      go_wp2_with fail
      go_ret
      rw [HAll.out] at hset
      exact ⟨rfl, hset, hbr⟩
end Go.Proofs.YtfjhpfgffbghdaaGreatDoor

namespace Go.Proofs.YtfjhpfgffbghdaaGreatDoor
open Go.RowKit

def curPtr (ad : Int → Nat) (cur : Int) : Value := .pointer (if cur = 0 then none else some ⟨ad cur, 0, none⟩)
theorem curPtr_none (ad : Int → Nat) : curPtr ad 0 = .pointer none := by simp [curPtr]
theorem curPtr_some {ad : Int → Nat} {cur : Int} (h : cur ≠ 0) : curPtr ad cur = .pointer (some ⟨ad cur, 0, none⟩) := by simp [curPtr, h]

theorem up_ptr {n₀ : Nat} {W : World} {d : PDoc} {tb : Nat} {ad : Int → Nat} {up : Int → Option Int} {kv : Int → Value} (hgr : Grown n₀ W d tb ad up kv) (G : Good d) (i : Int) : ptrTo ((up i).map ad) = curPtr ad (parentOf d.nodes i) := by
  cases hup : up i with
  | none =>
    rw [parentOf_none ((hgr.upNone _).1 hup), curPtr_none]
    rfl
  | some p =>
    have hk := hgr.upKid _ _ hup
    have e : parentOf d.nodes i = p := one_parent G.once (parentOf_up G.rise (kidsAt_all hk)) hk
    obtain ⟨y, hy, hyp, -⟩ := mem_kidsAt hk
    have h1 : 1 ≤ p := (G.toFlat.ids_pos (by rw [← hyp]; exact List.mem_map.2 ⟨y, hy, rfl⟩)).1
    rw [e, curPtr_some (by omega)]
    rfl
end Go.Proofs.YtfjhpfgffbghdaaGreatDoor

namespace Go.Proofs.YtfjhpfgffbghdaaGreatDoor
open Go.RowKit

/-- Those above a node. -/
noncomputable def aboveB (d : PDoc) (k i : Int) : Bool := hasB (upsOf d k).tail i

theorem aboveB_iff {d : PDoc} (G : Good d) {k i : Int} (hk : k ∈ idsOf d.nodes) (hne : k ≠ i) : aboveB d k i = true ↔ i ∈ upsOf d k := by
  obtain ⟨q, hq⟩ := G.dep hk
  unfold aboveB
  rw [hasB_iff, upsOf_eq G hq]
  cases q with
  | zero => simp [ups]; omega
  | succ q => simp [ups]; omega

theorem branchInfo : (Tryz.prog.info? 143).map (fun i => (i.zero, i.size, i.bytes)) = some (some (.agg #[.int .i64 0, .int .i64 0, .int .i64 0, .string ByteArray.empty, .pointer none, .slice none 0 0]), 6, 72) := by kernel_rfl

theorem branch_same (b : Nat) (w : World) : (binOp .eql 93 (.pointer (some ⟨b, 0, none⟩)) (.pointer (some ⟨b, 0, none⟩))).run Tryz.prog w = .ok (.bool true) w := by
  obtain ⟨j, hj, _, _, _⟩ := info_parts branchInfo
  exact run_eql_ptr_same w _ Tryz.underlying93 hj

theorem branch_other {n₀ : Nat} {w : World} {l : List PNode} {ad : Int → Nat} {up : Int → Option Int} {kd : Int → List Int} {kv : Int → Value} (h : Hung n₀ w l ad up kd kv) {a b : Int} (ha : a ∈ idsOf l) (hb : b ∈ idsOf l) (hne : ad a ≠ ad b) : (binOp .eql 93 (.pointer (some ⟨ad a, 0, none⟩)) (.pointer (some ⟨ad b, 0, none⟩))).run Tryz.prog w = .ok (.bool false) w := by
  obtain ⟨j, hj, _, h1, _⟩ := info_parts branchInfo
  obtain ⟨x, hx, rfl⟩ := node_of ha
  obtain ⟨y, hy, rfl⟩ := node_of hb
  exact run_eql_ptr_other w Tryz.underlying93 hj (by rw [h1]; decide) (by intro e; injection e with e1; exact hne e1) (h.node x hx) (h.node y hy)

/-- How many nodes are left on the way up from where a pointer stands. -/
noncomputable def leftLen (d : PDoc) (ad : Int → Nat) (pv : Value) : Nat := by
  classical exact if h : ∃ n, ∃ cur rest, pv = curPtr ad cur ∧ Left d cur rest ∧ n = rest.length then Classical.choose h else 0

theorem Left.same {d : PDoc} (G : Good d) {cur : Int} {r r' : List Int} (h : Left d cur r) (h' : Left d cur r') : r = r' := by
  by_cases h0 : cur = 0
  · subst h0; rw [h.done G, h'.done G]
  · rcases h with ⟨a, ha, rfl⟩ | ⟨h, -⟩
    · rcases h' with ⟨b, hb, rfl⟩ | ⟨h, -⟩
      · rw [dep_one G.once G.rootNo ha hb]
      · exact absurd h h0
    · exact absurd h h0

theorem leftLen_eq {d : PDoc} (G : Good d) {ad : Int → Nat} (hinj : ∀ a ∈ idsOf d.nodes, ∀ b ∈ idsOf d.nodes, ad a = ad b → a = b) {cur : Int} {rest : List Int} (h : Left d cur rest) : leftLen d ad (curPtr ad cur) = rest.length := by
  have hex : ∃ n, ∃ cur' rest', curPtr ad cur = curPtr ad cur' ∧ Left d cur' rest' ∧ n = rest'.length := ⟨_, cur, rest, rfl, h, rfl⟩
  unfold leftLen
  rw [dif_pos hex]
  obtain ⟨cur', rest', e1, e2, e3⟩ := Classical.choose_spec hex
  rw [e3]
  by_cases h0 : cur = 0
  · subst h0
    have : cur' = 0 := by
      by_cases h1 : cur' = 0
      · exact h1
      · rw [curPtr_none, curPtr_some h1] at e1; cases e1
    subst this
    rw [h.done G, e2.done G]
  · by_cases h1 : cur' = 0
    · rw [curPtr_some h0, h1, curPtr_none] at e1; cases e1
    · rw [curPtr_some h0, curPtr_some h1] at e1
      simp only [Value.pointer.injEq, Option.some.injEq, Addr.mk.injEq, and_true] at e1
      obtain ⟨_, _, _, hi⟩ := h.next G h0
      obtain ⟨_, _, _, hi'⟩ := e2.next G h1
      have := hinj _ hi _ hi' e1
      subst this
      rw [h.same G e2]

set_option maxHeartbeats 2000000 in
set_option maxRecDepth 100000 in
theorem isBelow_any (d : PDoc) (G : Good d) (n₀ tb : Nat) (ad : Int → Nat) (up : Int → Option Int) (kv : Int → Value) (k i : Int) (hk : k ∈ idsOf d.nodes) (hi : i ∈ idsOf d.nodes) (w : World) (hgr : Grown n₀ w d tb ad up kv) :
    Calls Tryz.prog 103 #[.pointer (some ⟨ad k, 0, none⟩), .pointer (some ⟨ad i, 0, none⟩)] w fun e w' => e = .returned (.bool (aboveB d k i)) ∧ w' = w := by
  obtain ⟨q, hq⟩ := G.dep hk
  have HG := hide G
  have HGr := hide hgr
  have HT := hide (hgr.tree G)
  have HInj : Hid (∀ a ∈ idsOf d.nodes, ad a = ad i → a = i) := fun a ha e => by
    obtain ⟨x, hx, rfl⟩ := node_of ha
    obtain ⟨y, hy, rfl⟩ := node_of hi
    exact hgr.hung.inj x hx y hy e
  have HIn2 : Hid (∀ a ∈ idsOf d.nodes, ∀ b ∈ idsOf d.nodes, ad a = ad b → a = b) := fun a ha b hb e => by
    obtain ⟨x, hx, rfl⟩ := node_of ha
    obtain ⟨y, hy, rfl⟩ := node_of hb
    exact hgr.hung.inj x hx y hy e
  obtain ⟨r, hr⟩ : ∃ r, r = aboveB d k i := ⟨_, rfl⟩
  have HOth : Hid (∀ a ∈ idsOf d.nodes, ad a ≠ ad i → (binOp .eql 93 (.pointer (some ⟨ad a, 0, none⟩)) (.pointer (some ⟨ad i, 0, none⟩))).run Tryz.prog w = .ok (.bool false) w) := fun a ha hne => branch_other hgr.hung ha hi hne
  obtain ⟨ch, hch⟩ : ∃ ch, ch = (upsOf d k).tail := ⟨_, rfl⟩
  have hlen : ch.length ≤ q := by rw [hch, upsOf_eq G hq, List.length_tail, ups_len]; omega
  have HR : Hid (r = hasB ch i) := by rw [Hid, hr, hch]; rfl
  have HLf : Hid (Left d (parentOf d.nodes k) ch) := by
    rw [Hid, hch, upsOf_eq G hq]
    cases q with
    | zero =>
      obtain rfl : k = d.root := hq
      exact .inr ⟨G.up_root, rfl⟩
    | succ q => exact .inl ⟨q, G.up_dep hq, rfl⟩
  obtain ⟨x, hx, hxk⟩ := node_of hk
  have hB := HT.out x hx
  have hxl := hB.lt
  have c4 := hB.c4
  rw [up_ptr hgr G, hxk] at c4
  rw [hxk] at hxl
  rw [← hr]
  clear hgr G hq hr hch hx hxk hB hk hi
  have hpos := HLf.out.pos HG.out
  generalize parentOf d.nodes k = cur0 at *
  go_enter Tryz.func103, Tryz.ntmps103
  go_wp2_with fail
  go_loop [5] (fun pv => ∃ (cur : Int) (rest : List Int), pv = curPtr ad cur ∧ 0 ≤ cur ∧ Hid (Left d cur rest ∧ r = hasB rest i)) (fun pv => leftLen d ad pv)
  case atStart => exact ⟨cur0, ch, rfl, hpos, HLf.out, HR.out⟩
  case round =>
    obtain ⟨cur, rest, rfl, hc0, hinv⟩ := hrel
    by_cases h0 : cur = 0
    · subst h0
      have HF : Hid (r = false) := by rw [Hid, hinv.out.2, hinv.out.1.done HG.out]; rfl
      rw [curPtr_none]
      go_wp2_with fail
      go_ret
      exact ⟨ret_bool HF.out.symm, rfl⟩
    · obtain ⟨rest', hr1, hr2, hr3⟩ := hinv.out.1.next HG.out h0
      have HM : Hid (leftLen d ad (curPtr ad cur) = rest'.length + 1) := by rw [Hid, leftLen_eq HG.out HIn2.out hinv.out.1, hr1]; rfl
      have HM2 : Hid (leftLen d ad (curPtr ad (parentOf d.nodes cur)) = rest'.length) := leftLen_eq HG.out HIn2.out hr2
      have HNx : Hid (Left d (parentOf d.nodes cur) rest' ∧ r = (cur == i || hasB rest' i)) := ⟨hr2, by rw [hinv.out.2, hr1]; simp [hasB]⟩
      have hpos2 := hr2.pos HG.out
      obtain ⟨y, hy, hyc⟩ := node_of hr3
      have hB2 := HT.out y hy
      have hyl := hB2.lt
      have e4 := hB2.c4
      rw [up_ptr HGr.out HG.out] at e4
      rw [hyc] at hyl e4
      have hcp : ∃ pp, curPtr ad (parentOf d.nodes cur) = .pointer pp := ⟨_, rfl⟩
      obtain ⟨pp, hpp⟩ := hcp
      have HPP := hide hpp
      rw [hpp] at e4
      rw [curPtr_some h0] at HM ⊢
      have HI := hide (HInj.out cur hr3)
      have HO2 := hide (HOth.out cur hr3)
      clear hr1 hr2 hr3 hy hyc hB2 hpp
      by_cases hci : cur = i
      · have HF : Hid (r = true) := by rw [Hid, HNx.out.2]; simp [hci]
        subst hci
        have hcmp := branch_same (ad cur) w
        go_wp2_with fail
        go_ret
        exact ⟨ret_bool HF.out.symm, rfl⟩
      · have hne : ad cur ≠ ad i := fun e => hci (HI.out e)
        have HN2 : Hid (Left d (parentOf d.nodes cur) rest' ∧ r = hasB rest' i) := ⟨HNx.out.1, by rw [HNx.out.2]; simp [hci]⟩
        have hcmp := HO2.out hne
        clear hci
        go_wp2_with fail
        go_round
        case rel => exact ⟨_, rest', HPP.out.symm, hpos2, HN2⟩
        case measure =>
          rw [← HPP.out, HM.out, HM2.out]; omega
end Go.Proofs.YtfjhpfgffbghdaaGreatDoor
