/-
  Which lists of holds are right, asked by the specification.
-/
import Derived.Test.YtfjhpfgffbghdaaGreatDoorLockSpecJ
import Derived.Test.YtfjhpfgffbghdaaGreatDoorJoinC
namespace Go.Proofs.YtfjhpfgffbghdaaGreatDoor
open Go.RowKit

theorem box_doc1 {w W0 wc : World} {a0 a1 a2 : Value} {t : TypeId} (h0 : W0 = w.alloc (.cells #[a0, a1, a2] t)) (hb : Below (w.heap.size + 1) W0 wc) :
    wc.cell? ⟨w.heap.size, 0, none⟩ = some a0 ∧ wc.cell? ⟨w.heap.size, 1, none⟩ = some a1 ∧ wc.cell? ⟨w.heap.size, 2, none⟩ = some a2 := by
  subst h0; exact box_doc' hb

set_option maxHeartbeats 2000000 in
set_option maxRecDepth 100000 in
theorem specHolds_any (n₀ : Nat) (d : PDoc) (s v : Value) (L : List PHold) (w : World) (hN : NodesAt n₀ w s d.nodes) (hV : HoldsAt n₀ w v L) (hn : n₀ ≤ w.heap.size) (hl : d.nodes.length ≤ 1048576) (hL : L.length ≤ 1048576) (r : Bool) (hr : r = true ↔ HoldsP d L) :
    Calls Tryz.prog 109 #[.agg #[.int .i64 d.root, .int .i64 d.next, s], v] w fun e w' => e = .returned (.bool r) ∧ Below w.heap.size w w' := by
  have HN := hide hN
  have HR := hide hr
  obtain ⟨W0, hW0⟩ : ∃ W0, W0 = w.alloc (.cells #[.int .i64 d.root, .int .i64 d.next, s] 38) := ⟨_, rfl⟩
  have hw0 : Below w.heap.size w W0 := by rw [hW0]; exact (Below.refl w.heap.size w).alloc (Nat.le_refl _) _
  have hs0 : W0.heap.size = w.heap.size + 1 := by rw [hW0]; simp
  have HOld : Hid (∀ wx, Below (w.heap.size + 1) W0 wx → Below w.heap.size w wx ∧ w.heap.size + 1 ≤ wx.heap.size) := fun wx hb => ⟨hw0.trans (hb.mono (by omega)), by have := hb.size; omega⟩
  have HB : Hid (∀ wx, Below (w.heap.size + 1) W0 wx → wx.cell? ⟨w.heap.size, 0, none⟩ = some (.int .i64 d.root) ∧ wx.cell? ⟨w.heap.size, 1, none⟩ = some (.int .i64 d.next) ∧ wx.cell? ⟨w.heap.size, 2, none⟩ = some s) := fun wx hb => box_doc1 hW0 hb
  obtain ⟨a, cap, rfl, hk⟩ := hV
  obtain ⟨sa, sc, rfl, -⟩ := hN
  clear hr hw0 hs0
  by_cases h30 : 30 < L.length
  · have HF : Hid (r = false) := no_of HR.out fun h => by have := h.len; omega
    have hb := HOld.out W0 (Below.refl _ _)
    rw [hW0] at hb
    have h30' : (30 : Int) < (L.length : Int) := by omega
    clear hW0 HB HOld
    go_enter Tryz.func109, Tryz.ntmps109
    go_wp2_with fail
    go_ret
    exact ⟨ret_bool HF.out.symm, hb.1⟩
  · have h30' : ¬ (30 : Int) < (L.length : Int) := by omega
    go_enter Tryz.func109, Tryz.ntmps109
    go_wp2_with fail
    rw [← hW0]
    clear hW0
    go_loopw [5] (fun i wr => ∃ k : Nat, k ≤ L.length ∧ i = .int .i64 k ∧ Hid (∀ j, j < k → OkAt d L j) ∧ Below (w.heap.size + 1) W0 wr) (fun i _ => L.length - (intOf i).toNat)
    case atStart => exact ⟨0, Nat.zero_le _, rfl, fun j hj => absurd hj (by omega), Below.refl _ _⟩
    case round =>
      obtain ⟨k, hkl, rfl, hall, hbr⟩ := hrel
      obtain ⟨hbw, hsz⟩ := HOld.out _ hbr
      obtain ⟨x0, x1, x2⟩ := HB.out _ hbr
      by_cases hlt : k < L.length
      · obtain ⟨b, off, rfl, hb, hc⟩ := hk.resolve_left (by intro e; simp [e] at hlt)
        have hA := (hc k hlt).below hb (hbw.mono hn)
        have g0 := hA.c0
        have g1 := hA.c1
        have g2 := hA.c2
        have hlt1 : (k : Int) < (L.length : Int) := by omega
        have hbl : b < wr.heap.size := by have := hbw.size; omega
        have hwz : w.heap.size < wr.heap.size := by omega
        have hcal := calm_cell wr
        obtain ⟨q, hq⟩ : ∃ q : Bool, q = true ↔ HoldP d (L[k]?.getD holdNil) := by classical exact ⟨decide (HoldP d (L[k]?.getD holdNil)), by simp⟩
        have HH : Hid (∀ t : Calm wr, Calls Tryz.prog 110 #[.agg #[.int .i64 d.root, .int .i64 d.next, .slice sa d.nodes.length sc], holdVal (L[k]?.getD holdNil)] t.out fun e w' => e = .returned (.bool q) ∧ Below t.out.heap.size t.out w') := fun t =>
          specHold_any n₀ d _ _ t.out (HN.out.below (Nat.le_refl _) ((hbw.mono hn).trans (t.below.mono (by omega)))) (by have := t.below.size; omega) hl q hq
        have HQ := hide hq
        clear hq hA
        cases q
        · have HF : Hid (r = false) := no_of HR.out fun h => by have := HQ.out.2 (h.ok k hlt).1; cases this
          clear hc hk hall
          generalize L[k]?.getD holdNil = x at *
          go_wp2_with fail
          refine wp_region_calm (by kernel_rfl) (by kernel_rfl) ?_
          repeat (go_big_quiet_step ((go_at_call 110; exact calm_of (HH.out _))))
          refine wpQuiet_nil ?_
          rintro _ ⟨t, rfl⟩
          have ht := t.below
          go_wp2_with fail
          go_ret
          exact ⟨ret_bool HF.out.symm, hbw.trans (ht.mono (by omega))⟩
        · have HP := HQ.out.1 rfl
          by_cases h0 : k = 0
          · subst h0
            rw [Nat.zero_mul, Nat.add_zero] at g0 g1 g2
            have HA2 : Hid (∀ j, j < 0 + 1 → OkAt d L j) := fun j hj => by
              obtain rfl : j = 0 := by omega
              exact ⟨HP, fun h => absurd h (by omega)⟩
            have HHP := hide HP
            clear HP hc hk hall
            generalize L[0]?.getD holdNil = x at *
            go_wp2_with fail
            refine wp_region_calm (by kernel_rfl) (by kernel_rfl) ?_
            repeat (go_big_quiet_step ((go_at_call 110; exact calm_of (HH.out _))))
            refine wpQuiet_nil ?_
            rintro _ ⟨t, rfl⟩
            have ht := t.below
            go_wp2_with fail
            exact ⟨⟨0 + 1, by omega, by go_num, HA2, hbr.trans (ht.mono (by omega))⟩, by simp [intOf]; omega⟩
          · have hA' := (hc (k - 1) (by omega)).below hb (hbw.mono hn)
            have f0 := hA'.c0
            have f1 := hA'.c1
            have f2 := hA'.c2
            have hk0 : (0 : Int) < (k : Int) := by omega
            obtain ⟨p, rfl⟩ : ∃ p, k = p + 1 := ⟨k - 1, by omega⟩
            rw [Nat.add_sub_cancel] at f0 f1 f2
            have HL : Hid (∀ t : Calm wr, Calls Tryz.prog 85 #[holdVal (L[p]?.getD holdNil), holdVal (L[p + 1]?.getD holdNil)] t.out fun e w' => e = .returned (.bool (lessB (L[p]?.getD holdNil) (L[p + 1]?.getD holdNil))) ∧ Below t.out.heap.size t.out w') := fun t => specLess_any _ _ t.out
            have HA2 : Hid (lessB (L[p]?.getD holdNil) (L[p + 1]?.getD holdNil) = true → ∀ j, j < p + 1 + 1 → OkAt d L j) := fun hless j hj => by
              by_cases e : j = p + 1
              · subst e; exact ⟨HP, fun _ => by rw [Nat.add_sub_cancel]; exact hless⟩
              · exact hall.out j (by omega)
            have HF : Hid (lessB (L[p]?.getD holdNil) (L[p + 1]?.getD holdNil) = false → r = false) := fun hno => no_of HR.out fun h => by
              have := (h.ok (p + 1) hlt).2 (by omega)
              rw [Nat.add_sub_cancel, hno] at this
              cases this
            have HHP := hide HP
            clear HP hc hk hall hA'
            generalize L[p]?.getD holdNil = y at *
            generalize L[p + 1]?.getD holdNil = x at *
            generalize hlb : lessB y x = lb at *
            have HLB := hide hlb
            clear hlb
            cases lb
            · have HF2 := hide (HF.out rfl)
              go_wp2_with fail
              refine wp_region_calm (by kernel_rfl) (by kernel_rfl) ?_
              repeat (go_big_quiet_step (first | (go_at_call 110; exact calm_of (HH.out _)) | (go_at_call 85; exact calm_of (HL.out _))))
              refine wpQuiet_nil ?_
              rintro _ ⟨t, rfl⟩
              have ht := t.below
              go_wp2_with fail
              go_ret
              exact ⟨ret_bool HF2.out.symm, hbw.trans (ht.mono (by omega))⟩
            · have HA3 := hide (HA2.out rfl)
              go_wp2_with fail
              refine wp_region_calm (by kernel_rfl) (by kernel_rfl) ?_
              repeat (go_big_quiet_step (first | (go_at_call 110; exact calm_of (HH.out _)) | (go_at_call 85; exact calm_of (HL.out _))))
              refine wpQuiet_nil ?_
              rintro _ ⟨t, rfl⟩
              have ht := t.below
              go_wp2_with fail
              exact ⟨⟨p + 1 + 1, by omega, by go_num, HA3.out, hbr.trans (ht.mono (by omega))⟩, by simp [intOf]; omega⟩
      · have HT : Hid (r = true) := HR.out.2 ⟨by omega, fun i hi => hall.out i (by omega)⟩
        clear hk hall
        go_wp2_with fail
        go_ret
        exact ⟨ret_bool HT.out.symm, hbw⟩

set_option maxHeartbeats 1000000 in
theorem specHoldsOK_any (n₀ : Nat) (d : PDoc) (s v : Value) (L : List PHold) (w : World) (hN : NodesAt n₀ w s d.nodes) (hV : HoldsAt n₀ w v L) (hn : n₀ ≤ w.heap.size) (hl : d.nodes.length ≤ 1048576) (hkl : ∀ x ∈ d.nodes, x.kids.length ≤ 1048576) (hL : L.length ≤ 1048576) (r : Bool) (hr : r = true ↔ LocksP d L) :
    Calls Tryz.prog 82 #[.agg #[.int .i64 d.root, .int .i64 d.next, s], v] w fun e w' => e = .returned (.bool r) ∧ Below w.heap.size w w' := by
  have HR := hide hr
  have hW := (Below.refl w.heap.size w).alloc (Nat.le_refl _) (.cells #[.int .i64 d.root, .int .i64 d.next, s] 38)
  obtain ⟨g, hg⟩ : ∃ g : Bool, g = true ↔ Good d := by classical exact ⟨decide (Good d), by simp⟩
  obtain ⟨q, hq⟩ : ∃ q : Bool, q = true ↔ HoldsP d L := by classical exact ⟨decide (HoldsP d L), by simp⟩
  have HO := hide (specOK_any n₀ d s (w.alloc (.cells #[.int .i64 d.root, .int .i64 d.next, s] 38)) (hN.below (Nat.le_refl _) (hW.mono hn)) (by simp; omega) hl hkl g hg)
  have HS : Hid (∀ wx, Below w.heap.size w wx → Calls Tryz.prog 109 #[.agg #[.int .i64 d.root, .int .i64 d.next, s], v] wx fun e w' => e = .returned (.bool q) ∧ Below wx.heap.size wx w') := fun wx hb =>
    specHolds_any n₀ d s v L wx (hN.below (Nat.le_refl _) (hb.mono hn)) (hV.below (Nat.le_refl _) (hb.mono hn)) (by have := hb.size; omega) hl hL q hq
  have HG := hide hg
  have HQ := hide hq
  obtain ⟨a, cap, rfl⟩ := hV.form
  obtain ⟨sa, sc, rfl, -⟩ := hN
  clear hr hg hq hkl hV
  by_cases hlong : (4096 : Int) < (L.length : Int)
  · have HF : Hid (r = false) := no_of HR.out fun h => by have := h.holds.len; omega
    go_enter Tryz.func82, Tryz.ntmps82
    go_wp2_with fail
    go_ret
    exact ⟨ret_bool HF.out.symm, hW⟩
  · cases g
    · have HF : Hid (r = false) := no_of HR.out fun h => by have := HG.out.2 h.good; cases this
      go_enter Tryz.func82, Tryz.ntmps82
      go_wp2_with fail
      refine HO.out.mono ?_
      rintro e w1 ⟨rfl, hb1⟩
      simp only [World.size_alloc] at hb1
      go_wp2_with fail
      go_ret
      exact ⟨ret_bool HF.out.symm, hW.trans (hb1.mono (by omega))⟩
    · have HRQ : Hid (r = q) := by
        rw [Hid, Bool.eq_iff_iff, HR.out, HQ.out]
        exact ⟨fun h => h.holds, fun h => ⟨HG.out.1 rfl, h⟩⟩
      go_enter Tryz.func82, Tryz.ntmps82
      go_wp2_with fail
      refine HO.out.mono ?_
      rintro e w1 ⟨rfl, hb1⟩
      simp only [World.size_alloc] at hb1
      have hs1 := hb1.size
      simp only [World.size_alloc] at hs1
      obtain ⟨x0, x1, x2⟩ := box_doc' hb1
      have hw1 := hW.trans (hb1.mono (by omega))
      have hz : w.heap.size < w1.heap.size := by omega
      have HS1 := hide (HS.out w1 hw1)
      go_wp2_with (go_at_call 109; refine HS1.out.mono ?_; rintro e w2 ⟨rfl, hb2⟩)
      go_ret
      exact ⟨ret_bool HRQ.out.symm, hw1.trans (hb2.mono (by omega))⟩
end Go.Proofs.YtfjhpfgffbghdaaGreatDoor
