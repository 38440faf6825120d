/-
  Whether two tables are the same: what the specification and the program answer.
-/
import Derived.Test.YtfjhpfgffbghdaaTabRep
import Derived.Test.YtfjhpfgffbghdaaListExt
namespace Go.Proofs.Ytfjhpfgffbghdaa
open Go.RowKit

theorem hold_eq {x y : PHold} (h : x.session = y.session ∧ x.node = y.node ∧ x.mode = y.mode) : x = y := by
  cases x; cases y; simp only at h; obtain ⟨rfl, rfl, rfl⟩ := h; rfl

theorem hold_neq (x y : PHold) (w : World) : (binOp .neq 42 (holdVal x) (holdVal y)).run Try.prog w = .ok (.bool (!(x.session == y.session && (x.node == y.node && x.mode == y.mode)))) w := by
  rw [run_neq_struct, run_equalIn_agg _ _ _ _ _ (by kernel_rfl) (by kernel_rfl)]
  simp [go_sem, Try.underlying42]
  by_cases h1 : x.session = y.session <;> by_cases h2 : x.node = y.node <;> by_cases h3 : x.mode = y.mode <;> simp [h1, h2, h3]

theorem hold_ne_run {x y : PHold} (h : x ≠ y) (w : World) : (binOp .neq 42 (holdVal x) (holdVal y)).run Try.prog w = .ok (.bool true) w := by
  rw [hold_neq]
  have : (x.session == y.session && (x.node == y.node && x.mode == y.mode)) = false := by
    rw [← Bool.not_eq_true]
    simp only [Bool.and_eq_true, beq_iff_eq]
    exact fun e => h (hold_eq e)
  rw [this]; rfl

theorem hold_same_run (x : PHold) (w : World) : (binOp .neq 42 (holdVal x) (holdVal x)).run Try.prog w = .ok (.bool false) w := by
  rw [hold_neq]; simp

set_option maxHeartbeats 1000000 in
theorem specSameHolds_any (n₀ : Nat) (v v' : Value) (L L' : List PHold) (w : World) (h : HoldsAt n₀ w v L) (h' : HoldsAt n₀ w v' L') (hn : n₀ ≤ w.heap.size) (hl : L.length ≤ 1048576) (_hl' : L'.length ≤ 1048576) (r : Bool) (hr : r = true ↔ L = L') :
    Calls Try.prog 52 #[v, v'] w fun e w' => e = .returned (.bool r) ∧ Below w.heap.size w w' := by
  obtain ⟨a, cap, rfl, hk⟩ := h
  obtain ⟨a', cap', rfl, hk'⟩ := h'
  have HR := hide hr
  clear hr
  by_cases hle : L.length = L'.length
  · have hle1 : ((L.length : Int) != (L'.length : Int)) = false := by simp [hle]
    have HL := hide hle
    clear hle
    go_enter Try.func52, Try.ntmps52
    go_wp2_with fail
    go_loopw [5] (fun i wr => ∃ k : Nat, k ≤ L.length ∧ i = .int .i64 k ∧ Hid (∀ j, j < k → L[j]?.getD holdNil = L'[j]?.getD holdNil) ∧ ∃ q, wr = w.drewN q) (fun i _ => L.length - (intOf i).toNat)
    case atStart => exact ⟨0, Nat.zero_le _, rfl, fun j hj => absurd hj (by omega), 0, rfl⟩
    case round =>
      obtain ⟨k, hkl, rfl, hsame, q, rfl⟩ := hrel
      by_cases hlt : k < L.length
      · have hlt' : k < L'.length := by rw [← HL.out]; exact hlt
        obtain ⟨b, off, rfl, hb, hc⟩ := hk.resolve_left (by intro e; simp [e] at hlt)
        obtain ⟨b', off', rfl, hb', hc'⟩ := hk'.resolve_left (by intro e; simp [e] at hlt')
        have hA := hc k hlt
        have hA' := hc' k hlt'
        have g0 := hA.c0
        have g1 := hA.c1
        have g2 := hA.c2
        have f0 := hA'.c0
        have f1 := hA'.c1
        have f2 := hA'.c2
        have hlt1 : (k : Int) < (L.length : Int) := by omega
        have hlt1' : (k : Int) < (L'.length : Int) := by omega
        have hbz : b < w.heap.size := by omega
        have hbz' : b' < w.heap.size := by omega
        clear hc hc' hk hk' hA hA'
        obtain ⟨x, hx⟩ : ∃ x, x = L[k]?.getD holdNil := ⟨_, rfl⟩
        obtain ⟨y, hy⟩ : ∃ y, y = L'[k]?.getD holdNil := ⟨_, rfl⟩
        rw [← hx] at g0 g1 g2
        rw [← hy] at f0 f1 f2
        have HX := hide hx
        have HY := hide hy
        clear hx hy
        by_cases hxy : x = y
        · subst hxy
          have hrun := hold_same_run x
          go_wp2_with fail
          go_quiet (fail)
          go_wp2_with fail
          refine ⟨⟨k + 1, by omega, by go_num, fun j hj => ?_, _, rfl⟩, by simp [intOf]; omega⟩
          rcases Nat.lt_succ_iff_lt_or_eq.1 hj with h | rfl
          · exact hsame.out j h
          · exact HX.out.symm.trans HY.out
        · have hf : Hid (r = false) := no_true HR.out (fun e => hxy (by rw [HX.out, HY.out, e]))
          have hrun := hold_ne_run hxy
          clear hxy
          go_wp2_with fail
          go_quiet (fail)
          go_wp2_with fail
          go_ret
          exact ⟨ret_bool hf.out.symm, below_drewN (below_drewN (Below.refl _ _) _) _⟩
      · have ht : Hid (r = true) := HR.out.2 (list_getD_ext holdNil HL.out fun j hj => hsame.out j (by omega))
        clear hk hk'
        go_wp2_with fail
        go_ret
        exact ⟨ret_bool ht.out.symm, below_drewN (Below.refl _ _) _⟩
  · have hf : Hid (r = false) := no_true HR.out (fun e => hle (by rw [e]))
    have hle1 : ((L.length : Int) != (L'.length : Int)) = true := by simp; omega
    clear hle hk hk'
    go_enter Try.func52, Try.ntmps52
    go_wp2_with fail
    go_ret
    exact ⟨ret_bool hf.out.symm, Below.refl _ _⟩
set_option maxHeartbeats 1000000 in
theorem equalHolds_any (n₀ : Nat) (v v' : Value) (L L' : List PHold) (w : World) (h : HoldsAt n₀ w v L) (h' : HoldsAt n₀ w v' L') (hn : n₀ ≤ w.heap.size) (hl : L.length ≤ 1048576) (_hl' : L'.length ≤ 1048576) (r : Bool) (hr : r = true ↔ L = L') :
    Calls Try.prog 53 #[v, v'] w fun e w' => e = .returned (.bool r) ∧ Below w.heap.size w w' := by
  obtain ⟨a, cap, rfl, hk⟩ := h
  obtain ⟨a', cap', rfl, hk'⟩ := h'
  have HR := hide hr
  clear hr
  by_cases hle : L.length = L'.length
  · have hle1 : ((L.length : Int) != (L'.length : Int)) = false := by simp [hle]
    have HL := hide hle
    clear hle
    go_enter Try.func53, Try.ntmps53
    go_wp2_with fail
    go_loopw [13] (fun i wr => ∃ k : Nat, k ≤ L.length ∧ i = .int .i64 k ∧ Hid (∀ j, j < k → L[j]?.getD holdNil = L'[j]?.getD holdNil) ∧ ∃ q, wr = w.drewN q) (fun i _ => L.length - (intOf i).toNat)
    case atStart => exact ⟨0, Nat.zero_le _, rfl, fun j hj => absurd hj (by omega), 0, rfl⟩
    case round =>
      obtain ⟨k, hkl, rfl, hsame, q, rfl⟩ := hrel
      by_cases hlt : k < L.length
      · have hlt' : k < L'.length := by rw [← HL.out]; exact hlt
        obtain ⟨b, off, rfl, hb, hc⟩ := hk.resolve_left (by intro e; simp [e] at hlt)
        obtain ⟨b', off', rfl, hb', hc'⟩ := hk'.resolve_left (by intro e; simp [e] at hlt')
        have hA := hc k hlt
        have hA' := hc' k hlt'
        have g0 := hA.c0
        have g1 := hA.c1
        have g2 := hA.c2
        have f0 := hA'.c0
        have f1 := hA'.c1
        have f2 := hA'.c2
        have hlt1 : (k : Int) < (L.length : Int) := by omega
        have hlt1' : (k : Int) < (L'.length : Int) := by omega
        have hbz : b < w.heap.size := by omega
        have hbz' : b' < w.heap.size := by omega
        clear hc hc' hk hk' hA hA'
        obtain ⟨x, hx⟩ : ∃ x, x = L[k]?.getD holdNil := ⟨_, rfl⟩
        obtain ⟨y, hy⟩ : ∃ y, y = L'[k]?.getD holdNil := ⟨_, rfl⟩
        rw [← hx] at g0 g1 g2
        rw [← hy] at f0 f1 f2
        have HX := hide hx
        have HY := hide hy
        clear hx hy
        by_cases hxy : x = y
        · subst hxy
          have hrun := hold_same_run x
          go_wp2_with fail
          go_quiet (fail)
          go_wp2_with fail
          refine ⟨⟨k + 1, by omega, by go_num, fun j hj => ?_, _, rfl⟩, by simp [intOf]; omega⟩
          rcases Nat.lt_succ_iff_lt_or_eq.1 hj with h | rfl
          · exact hsame.out j h
          · exact HX.out.symm.trans HY.out
        · have hf : Hid (r = false) := no_true HR.out (fun e => hxy (by rw [HX.out, HY.out, e]))
          have hrun := hold_ne_run hxy
          clear hxy
          go_wp2_with fail
          go_quiet (fail)
          go_wp2_with fail
          go_ret
          exact ⟨ret_bool hf.out.symm, below_drewN (below_drewN (Below.refl _ _) _) _⟩
      · have ht : Hid (r = true) := HR.out.2 (list_getD_ext holdNil HL.out fun j hj => hsame.out j (by omega))
        clear hk hk'
        go_wp2_with fail
        go_ret
        exact ⟨ret_bool ht.out.symm, below_drewN (Below.refl _ _) _⟩
  · have hf : Hid (r = false) := no_true HR.out (fun e => hle (by rw [e]))
    have hle1 : ((L.length : Int) != (L'.length : Int)) = true := by simp; omega
    clear hle hk hk'
    go_enter Try.func53, Try.ntmps53
    go_wp2_with fail
    go_ret
    exact ⟨ret_bool hf.out.symm, Below.refl _ _⟩
def SameT (t t' : PTab) : Prop := t.holds.length ≤ 30 ∧ t.waits.length ≤ 6 ∧ t.holds = t'.holds ∧ t.waits = t'.waits

set_option maxHeartbeats 2000000 in
set_option maxRecDepth 100000 in
theorem specSameTable_any (n₀ : Nat) (v v' : Value) (t t' : PTab) (w : World) (h : TabAt n₀ w v t) (h' : TabAt n₀ w v' t') (hn : n₀ ≤ w.heap.size) (S : SmallT t) (S' : SmallT t') (r : Bool) (hr : r = true ↔ SameT t t') :
    Calls Try.prog 29 #[v, v'] w fun e w' => e = .returned (.bool r) ∧ Below w.heap.size w w' := by
  obtain ⟨v1, v2, rfl, h1, h2⟩ := h
  obtain ⟨u1, u2, rfl, k1, k2⟩ := h'
  obtain ⟨W0, hW0⟩ : ∃ W0, W0 = (w.alloc (.cells #[v1, v2] 54)).alloc (.cells #[u1, u2] 54) := ⟨_, rfl⟩
  have hw0 : Below w.heap.size w W0 := by rw [hW0]; exact ((Below.refl w.heap.size w).alloc (Nat.le_refl _) _).alloc (by simp) _
  have hs0 : W0.heap.size = w.heap.size + 1 + 1 := by rw [hW0]; simp
  have hh0 : W0.heap[w.heap.size]? = some (.cells #[v1, v2] 54 (0, 0)) := by
    rw [hW0, Below.heap_alloc _ _ _ (by simp)]; exact alloc_new w _
  have hh1 : W0.heap[w.heap.size + 1]? = some (.cells #[u1, u2] 54 (0, 0)) := by
    rw [hW0]
    have := alloc_new (w.alloc (.cells #[v1, v2] 54)) (.cells #[u1, u2] 54)
    simpa using this
  obtain ⟨r1, hr1⟩ : ∃ r1 : Bool, r1 = true ↔ t.holds = t'.holds := ⟨dec _, dec_iff _⟩
  obtain ⟨r2, hr2⟩ : ∃ r2 : Bool, r2 = true ↔ t.waits = t'.waits := ⟨dec _, dec_iff _⟩
  have HE1 : Hid (∀ wx, Below w.heap.size w wx → Calls Try.prog 52 #[v1, u1] wx fun e w' => e = .returned (.bool r1) ∧ Below wx.heap.size wx w') := fun wx hb =>
    specSameHolds_any n₀ v1 u1 t.holds t'.holds wx (h1.below (Nat.le_refl _) (hb.mono hn)) (k1.below (Nat.le_refl _) (hb.mono hn)) (by have := hb.size; omega) S.1 S'.1 r1 hr1
  have HE2 : Hid (∀ wx, Below w.heap.size w wx → Calls Try.prog 52 #[v2, u2] wx fun e w' => e = .returned (.bool r2) ∧ Below wx.heap.size wx w') := fun wx hb =>
    specSameHolds_any n₀ v2 u2 t.waits t'.waits wx (h2.below (Nat.le_refl _) (hb.mono hn)) (k2.below (Nat.le_refl _) (hb.mono hn)) (by have := hb.size; omega) S.2 S'.2 r2 hr2
  have HB : Hid (∀ wx, Below W0.heap.size W0 wx → (wx.cell? ⟨w.heap.size, 0, none⟩ = some v1 ∧ wx.cell? ⟨w.heap.size, 1, none⟩ = some v2 ∧ wx.cell? ⟨w.heap.size + 1, 0, none⟩ = some u1 ∧ wx.cell? ⟨w.heap.size + 1, 1, none⟩ = some u2) ∧ Below w.heap.size w wx ∧ w.heap.size + 1 + 1 ≤ wx.heap.size) := fun wx hb => by
    have j0 := (hb.block w.heap.size (by omega)).trans hh0
    have j1 := (hb.block (w.heap.size + 1) (by omega)).trans hh1
    exact ⟨⟨cell_of_heap j0 0, cell_of_heap j0 1, cell_of_heap j1 0, cell_of_heap j1 1⟩, hw0.trans (hb.mono (by omega)), by have := hb.size; omega⟩
  obtain ⟨a1, c1, rfl⟩ := h1.form
  obtain ⟨a2, c2, rfl⟩ := h2.form
  obtain ⟨d1, e1, rfl⟩ := k1.form
  obtain ⟨d2, e2, rfl⟩ := k2.form
  have hb0 : Below W0.heap.size W0 W0 := Below.refl _ _
  have HR := hide hr
  have HR1 := hide hr1
  have HR2 := hide hr2
  have HW0 := hide hW0
  clear S S' h1 h2 k1 k2 hs0 hh0 hh1 hr hr1 hr2
  by_cases h30 : (t.holds.length : Int) ≤ 30
  · by_cases h6 : (t.waits.length : Int) ≤ 6
    · go_enter Try.func29, Try.ntmps29
      go_wp2_with fail
      rw [← hW0]
      clear hW0 HW0
      refine (HE1.out W0 (HB.out _ hb0).2.1).mono ?_
      rintro e w1 ⟨rfl, hb1⟩
      obtain ⟨⟨x0, x1, x2, x3⟩, hbw1, hsz1⟩ := HB.out _ hb1
      have hz1 : w.heap.size < w1.heap.size := by omega
      have hz2 : w.heap.size + 1 < w1.heap.size := by omega
      cases r1
      · have HF : Hid (r = false) := no_true HR.out fun h => by have := HR1.out.2 h.2.2.1; cases this
        go_wp2_with fail
        go_ret
        exact ⟨ret_bool HF.out.symm, hbw1⟩
      · have HF : Hid (r2 = r) := by
          rw [Hid, Bool.eq_iff_iff, HR.out, HR2.out]
          exact ⟨fun h => ⟨by omega, by omega, HR1.out.1 rfl, h⟩, fun h => h.2.2.2⟩
        go_wp2_with fail
        refine (HE2.out w1 hbw1).mono ?_
        rintro e w2 ⟨rfl, hb2⟩
        have hb3 := hbw1.trans (hb2.mono (by omega))
        go_wp2_with fail
        go_ret
        exact ⟨ret_bool HF.out, hb3⟩
    · have HF : Hid (r = false) := no_true HR.out fun h => h6 (by have := h.2.1; omega)
      go_enter Try.func29, Try.ntmps29
      go_wp2_with fail
      go_ret
      exact ⟨ret_bool HF.out.symm, by rw [← HW0.out]; exact hw0⟩
  · have HF : Hid (r = false) := no_true HR.out fun h => h30 (by have := h.1; omega)
    go_enter Try.func29, Try.ntmps29
    go_wp2_with fail
    go_ret
    exact ⟨ret_bool HF.out.symm, by rw [← HW0.out]; exact hw0⟩

set_option maxHeartbeats 2000000 in
set_option maxRecDepth 100000 in
theorem implSameTable_any (n₀ : Nat) (v v' : Value) (t t' : PTab) (w : World) (h : TabAt n₀ w v t) (h' : TabAt n₀ w v' t') (hn : n₀ ≤ w.heap.size) (S : SmallT t) (S' : SmallT t') (r : Bool) (hr : r = true ↔ SameT t t') :
    Calls Try.prog 30 #[v, v'] w fun e w' => e = .returned (.bool r) ∧ Below w.heap.size w w' := by
  obtain ⟨v1, v2, rfl, h1, h2⟩ := h
  obtain ⟨u1, u2, rfl, k1, k2⟩ := h'
  obtain ⟨W0, hW0⟩ : ∃ W0, W0 = (w.alloc (.cells #[v1, v2] 54)).alloc (.cells #[u1, u2] 54) := ⟨_, rfl⟩
  have hw0 : Below w.heap.size w W0 := by rw [hW0]; exact ((Below.refl w.heap.size w).alloc (Nat.le_refl _) _).alloc (by simp) _
  have hs0 : W0.heap.size = w.heap.size + 1 + 1 := by rw [hW0]; simp
  have hh0 : W0.heap[w.heap.size]? = some (.cells #[v1, v2] 54 (0, 0)) := by
    rw [hW0, Below.heap_alloc _ _ _ (by simp)]; exact alloc_new w _
  have hh1 : W0.heap[w.heap.size + 1]? = some (.cells #[u1, u2] 54 (0, 0)) := by
    rw [hW0]
    have := alloc_new (w.alloc (.cells #[v1, v2] 54)) (.cells #[u1, u2] 54)
    simpa using this
  obtain ⟨r1, hr1⟩ : ∃ r1 : Bool, r1 = true ↔ t.holds = t'.holds := ⟨dec _, dec_iff _⟩
  obtain ⟨r2, hr2⟩ : ∃ r2 : Bool, r2 = true ↔ t.waits = t'.waits := ⟨dec _, dec_iff _⟩
  have HE1 : Hid (∀ wx, Below w.heap.size w wx → Calls Try.prog 53 #[v1, u1] wx fun e w' => e = .returned (.bool r1) ∧ Below wx.heap.size wx w') := fun wx hb =>
    equalHolds_any n₀ v1 u1 t.holds t'.holds wx (h1.below (Nat.le_refl _) (hb.mono hn)) (k1.below (Nat.le_refl _) (hb.mono hn)) (by have := hb.size; omega) S.1 S'.1 r1 hr1
  have HE2 : Hid (∀ wx, Below w.heap.size w wx → Calls Try.prog 53 #[v2, u2] wx fun e w' => e = .returned (.bool r2) ∧ Below wx.heap.size wx w') := fun wx hb =>
    equalHolds_any n₀ v2 u2 t.waits t'.waits wx (h2.below (Nat.le_refl _) (hb.mono hn)) (k2.below (Nat.le_refl _) (hb.mono hn)) (by have := hb.size; omega) S.2 S'.2 r2 hr2
  have HB : Hid (∀ wx, Below W0.heap.size W0 wx → (wx.cell? ⟨w.heap.size, 0, none⟩ = some v1 ∧ wx.cell? ⟨w.heap.size, 1, none⟩ = some v2 ∧ wx.cell? ⟨w.heap.size + 1, 0, none⟩ = some u1 ∧ wx.cell? ⟨w.heap.size + 1, 1, none⟩ = some u2) ∧ Below w.heap.size w wx ∧ w.heap.size + 1 + 1 ≤ wx.heap.size) := fun wx hb => by
    have j0 := (hb.block w.heap.size (by omega)).trans hh0
    have j1 := (hb.block (w.heap.size + 1) (by omega)).trans hh1
    exact ⟨⟨cell_of_heap j0 0, cell_of_heap j0 1, cell_of_heap j1 0, cell_of_heap j1 1⟩, hw0.trans (hb.mono (by omega)), by have := hb.size; omega⟩
  obtain ⟨a1, c1, rfl⟩ := h1.form
  obtain ⟨a2, c2, rfl⟩ := h2.form
  obtain ⟨d1, e1, rfl⟩ := k1.form
  obtain ⟨d2, e2, rfl⟩ := k2.form
  have hb0 : Below W0.heap.size W0 W0 := Below.refl _ _
  have HR := hide hr
  have HR1 := hide hr1
  have HR2 := hide hr2
  have HW0 := hide hW0
  clear S S' h1 h2 k1 k2 hs0 hh0 hh1 hr hr1 hr2
  by_cases h30 : (t.holds.length : Int) ≤ 30
  · by_cases h6 : (t.waits.length : Int) ≤ 6
    · go_enter Try.func30, Try.ntmps30
      go_wp2_with fail
      rw [← hW0]
      clear hW0 HW0
      refine (HE1.out W0 (HB.out _ hb0).2.1).mono ?_
      rintro e w1 ⟨rfl, hb1⟩
      obtain ⟨⟨x0, x1, x2, x3⟩, hbw1, hsz1⟩ := HB.out _ hb1
      have hz1 : w.heap.size < w1.heap.size := by omega
      have hz2 : w.heap.size + 1 < w1.heap.size := by omega
      cases r1
      · have HF : Hid (r = false) := no_true HR.out fun h => by have := HR1.out.2 h.2.2.1; cases this
        go_wp2_with fail
        go_ret
        exact ⟨ret_bool HF.out.symm, hbw1⟩
      · have HF : Hid (r2 = r) := by
          rw [Hid, Bool.eq_iff_iff, HR.out, HR2.out]
          exact ⟨fun h => ⟨by omega, by omega, HR1.out.1 rfl, h⟩, fun h => h.2.2.2⟩
        go_wp2_with fail
        refine (HE2.out w1 hbw1).mono ?_
        rintro e w2 ⟨rfl, hb2⟩
        have hb3 := hbw1.trans (hb2.mono (by omega))
        go_wp2_with fail
        go_ret
        exact ⟨ret_bool HF.out, hb3⟩
    · have HF : Hid (r = false) := no_true HR.out fun h => h6 (by have := h.2.1; omega)
      go_enter Try.func30, Try.ntmps30
      go_wp2_with fail
      go_ret
      exact ⟨ret_bool HF.out.symm, by rw [← HW0.out]; exact hw0⟩
  · have HF : Hid (r = false) := no_true HR.out fun h => h30 (by have := h.1; omega)
    go_enter Try.func30, Try.ntmps30
    go_wp2_with fail
    go_ret
    exact ⟨ret_bool HF.out.symm, by rw [← HW0.out]; exact hw0⟩

end Go.Proofs.Ytfjhpfgffbghdaa
