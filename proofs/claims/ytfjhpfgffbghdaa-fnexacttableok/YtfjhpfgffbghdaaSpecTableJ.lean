/-
  Which tables are right, asked by the specification and by the program.
-/
import Derived.Test.YtfjhpfgffbghdaaJoinC
import Derived.Test.YtfjhpfgffbghdaaTableOfJ
namespace Go.Proofs.Ytfjhpfgffbghdaa
open Go.RowKit

set_option maxHeartbeats 4000000 in
set_option maxRecDepth 100000 in
theorem specWaits_any (n₀ : Nat) (d : PDoc) (s v : Value) (L : List PHold) (w : World) (hN : NodesAt n₀ w s d.nodes) (hV : HoldsAt n₀ w v L) (hn : n₀ ≤ w.heap.size) (hl : d.nodes.length ≤ 1048576) (hL : L.length ≤ 1048576) (r : Bool) (hr : r = true ↔ WaitsP d L) :
    Calls Try.prog 50 #[.agg #[.int .i64 d.root, .int .i64 d.next, s], v] w fun e w' => e = .returned (.bool r) ∧ Below w.heap.size w w' := by
  have HN := hide hN
  have HR := hide hr
  obtain ⟨W0, hW0⟩ : ∃ W0, W0 = w.alloc (.cells #[.int .i64 d.root, .int .i64 d.next, s] 31) := ⟨_, rfl⟩
  have hw0 : Below w.heap.size w W0 := by rw [hW0]; exact (Below.refl w.heap.size w).alloc (Nat.le_refl _) _
  have hs0 : W0.heap.size = w.heap.size + 1 := by rw [hW0]; simp
  have HOld : Hid (∀ wx, Below (w.heap.size + 1) W0 wx → Below w.heap.size w wx ∧ w.heap.size + 1 ≤ wx.heap.size) := fun wx hb => ⟨hw0.trans (hb.mono (by omega)), by have := hb.size; omega⟩
  have HB : Hid (∀ wx, Below (w.heap.size + 1) W0 wx → wx.cell? ⟨w.heap.size, 0, none⟩ = some (.int .i64 d.root) ∧ wx.cell? ⟨w.heap.size, 1, none⟩ = some (.int .i64 d.next) ∧ wx.cell? ⟨w.heap.size, 2, none⟩ = some s) := fun wx hb => box_doc1 hW0 hb
  obtain ⟨a, cap, rfl, hk⟩ := hV
  obtain ⟨sa, sc, rfl, -⟩ := hN
  clear hr hw0 hs0
  by_cases h6 : 6 < L.length
  · have HF : Hid (r = false) := no_of HR.out fun h => by have := h.len; omega
    have hb := HOld.out W0 (Below.refl _ _)
    rw [hW0] at hb
    have h6' : (6 : Int) < (L.length : Int) := by omega
    clear hW0 HB HOld
    go_enter Try.func50, Try.ntmps50
    go_wp2_with fail
    go_ret
    exact ⟨ret_bool HF.out.symm, hb.1⟩
  · have h6' : ¬ (6 : Int) < (L.length : Int) := by omega
    go_enter Try.func50, Try.ntmps50
    go_wp2_with fail
    rw [← hW0]
    clear hW0
    go_loopw [5] (fun i wr => ∃ k : Nat, k ≤ L.length ∧ i = .int .i64 k ∧ Hid (∀ j, j < k → WaitAt d L j) ∧ Below (w.heap.size + 1) W0 wr) (fun i _ => L.length - (intOf i).toNat)
    case atStart => exact ⟨0, Nat.zero_le _, rfl, fun j hj => absurd hj (by omega), Below.refl _ _⟩
    case round =>
      obtain ⟨k, hkl, rfl, hall, hbr⟩ := hrel
      obtain ⟨hbw, hsz⟩ := HOld.out _ hbr
      obtain ⟨x0, x1, x2⟩ := HB.out _ hbr
      by_cases hlt : k < L.length
      · obtain ⟨b, off, rfl, hb, hc⟩ := hk.resolve_left (by intro e; simp [e] at hlt)
        have hA := (hc k hlt).below hb (hbw.mono hn)
        have g0 := hA.c0
        have g1 := hA.c1
        have g2 := hA.c2
        have hlt1 : (k : Int) < (L.length : Int) := by omega
        have hbl : b < wr.heap.size := by have := hbw.size; omega
        have hwz : w.heap.size < wr.heap.size := by omega
        have hcal := calm_cell wr
        obtain ⟨q, hq⟩ : ∃ q : Bool, q = true ↔ HoldP d (L[k]?.getD holdNil) := ⟨dec _, dec_iff _⟩
        have HH : Hid (∀ t : Calm wr, Calls Try.prog 59 #[.agg #[.int .i64 d.root, .int .i64 d.next, .slice sa d.nodes.length sc], holdVal (L[k]?.getD holdNil)] t.out fun e w' => e = .returned (.bool q) ∧ Below t.out.heap.size t.out w') := fun t =>
          specHold_any n₀ d _ _ t.out (HN.out.below (Nat.le_refl _) ((hbw.mono hn).trans (t.below.mono (by omega)))) (by have := t.below.size; omega) hl q hq
        have HQ := hide hq
        have HMem := hide (fun s => @mem_sess L k s (by omega))
        have HCell : Hid (∀ j wx, j < L.length → Below (w.heap.size + 1) W0 wx → HoldAt wx b (off + j * 3) (L[j]?.getD holdNil) ∧ b < wx.heap.size) := fun j wx hj hbx => ⟨(hc j hj).below hb ((HOld.out wx hbx).1.mono hn), by have := (HOld.out wx hbx).1.size; omega⟩
        have HWa : Hid (WaitAt d L k ↔ HoldP d (L[k]?.getD holdNil) ∧ (L[k]?.getD holdNil).session ∉ sessOf (L.take k)) := Iff.rfl
        clear hq hA
        cases q
        · have HF : Hid (r = false) := no_of HR.out fun h => by have := HQ.out.2 (h.ok k hlt).1; cases this
          clear hc hk hall
          generalize L[k]?.getD holdNil = x at *
          go_wp2_with fail
          refine wp_region_calm (by kernel_rfl) (by kernel_rfl) ?_
          repeat (go_big_quiet_step ((go_at_call 59; exact calm_of (HH.out _))))
          refine wpQuiet_nil ?_
          rintro _ ⟨t, rfl⟩
          have ht := t.below
          go_wp2_with fail
          go_ret
          exact ⟨ret_bool HF.out.symm, hbw.trans (ht.mono (by omega))⟩
        · have HP : Hid (HoldP d (L[k]?.getD holdNil)) := HQ.out.1 rfl
          have HFd : Hid (∀ j, j < k → (L[j]?.getD holdNil).session = (L[k]?.getD holdNil).session → r = false) := fun j hj he => no_of HR.out fun h => (h.ok k hlt).2 ((HMem.out _).2 ⟨j, hj, he⟩)
          have HKk := hide (fun wx hbx => HCell.out k wx hlt hbx)
          clear hc hk
          obtain ⟨x, hx⟩ : ∃ x, x = L[k]?.getD holdNil := ⟨_, rfl⟩
          rw [← hx] at g0 g1 g2 HH HP HFd HKk HWa
          clear hx
          go_wp2_with fail
          refine wp_region_calm (by kernel_rfl) (by kernel_rfl) ?_
          repeat (go_big_quiet_step ((go_at_call 59; exact calm_of (HH.out _))))
          refine wpQuiet_nil ?_
          rintro _ ⟨t, rfl⟩
          have ht := t.below
          have hbt : Below (w.heap.size + 1) W0 t.out := hbr.trans (ht.mono (by omega))
          clear g0 g1 g2 x0 x1 x2 hcal HH ht
          obtain ⟨wo, hwo⟩ : ∃ wo, wo = t.out := ⟨_, rfl⟩
          rw [← hwo] at hbt ⊢
          clear hwo
          go_wp2_with fail
          go_loopw [6] (fun i2 w2 => ∃ m : Nat, m ≤ k ∧ i2 = .int .i64 m ∧ Hid (∀ j, j < m → (L[j]?.getD holdNil).session ≠ x.session) ∧ Below (w.heap.size + 1) W0 w2) (fun i2 _ => k - (intOf i2).toNat)
          case atStart => exact ⟨0, Nat.zero_le _, rfl, fun j hj => absurd hj (by omega), hbt⟩
          case round =>
            obtain ⟨m, hmk, rfl, hno, hb2⟩ := hrel
            obtain ⟨w2, hw2⟩ : ∃ w2, w2 = wr := ⟨_, rfl⟩
            by_cases hmlt : m < k
            · have hm1 : (m : Int) < (k : Int) := by omega
              have hm2 : (m : Int) < (L.length : Int) := by omega
              obtain ⟨hAm, hbz2⟩ := HCell.out m _ (by omega) hb2
              obtain ⟨hAk, -⟩ := HKk.out _ hb2
              have e0 := hAm.c0
              have f0 := hAk.c0
              have HFm := hide (HFd.out m hmlt)
              have HNo2 : Hid ((L[m]?.getD holdNil).session ≠ x.session → ∀ j, j < m + 1 → (L[j]?.getD holdNil).session ≠ x.session) := fun h j hj => by
                by_cases e : j = m
                · subst e; exact h
                · exact hno.out j (by omega)
              have hcal2 := calm_cell
              clear hAm hAk hcal2
              generalize L[m]?.getD holdNil = y at *
              by_cases hxy : y.session = x.session
              · have hq1 : (y.session == x.session) = true := by simp [hxy]
                have HF := hide (HFm.out hxy)
                obtain ⟨hbw2, hsz2⟩ := HOld.out _ hb2
                clear hxy
                go_wp2_with fail
                go_quiet (fail)
                go_wp2_with fail
                go_ret
                exact ⟨ret_bool HF.out.symm, below_drewN hbw2 _⟩
              · have hq1 : (y.session == x.session) = false := by simp [hxy]
                have HN2 := hide (HNo2.out hxy)
                clear hxy
                go_wp2_with fail
                go_quiet (fail)
                go_wp2_with fail
                exact ⟨⟨m + 1, by omega, by go_num, HN2.out, below_drewN hb2 _⟩, by simp [intOf]; omega⟩
            · have hm1 : ¬ (m : Int) < (k : Int) := by omega
              have hmk2 : m = k := by omega
              have HA2 : Hid (∀ j, j < k + 1 → WaitAt d L j) := fun j hj => by
                by_cases e : j = k
                · subst e
                  refine HWa.out.2 ⟨HP.out, fun h => ?_⟩
                  obtain ⟨i, hi, he⟩ := (HMem.out _).1 h
                  exact hno.out i (by omega) he
                · exact hall.out j (by omega)
              clear hmk2
              go_wp2_with fail
              exact ⟨⟨k + 1, by omega, by go_num, HA2, hb2⟩, by simp [intOf]; omega⟩
      · have HT : Hid (r = true) := HR.out.2 ⟨by omega, fun i hi => hall.out i (by omega)⟩
        clear hk hall
        go_wp2_with fail
        go_ret
        exact ⟨ret_bool HT.out.symm, hbw⟩
end Go.Proofs.Ytfjhpfgffbghdaa
