/-
  The law package's copies of machines: new memory of their own, with the same content.
-/
import Derived.Test.YtlbfjmfjakhmdaaMachEq
namespace Go.Proofs.Ytlbfjmfjakhmdaa
open Go.RowKit

/-- A list of bools in a block of its own. -/
def BoolsOwn (lo hi : Nat) (w : World) (v : Value) (ks : List Bool) : Prop :=
  ∃ b cap cs, v = .slice (some ⟨b, 0, none⟩) ks.length cap ∧ ks.length ≤ cap ∧ lo ≤ b ∧ b < hi ∧ w.heap[b]? = some (.cells cs 4 (0, 0)) ∧ ∀ j, j < ks.length → cs[j]? = some (.bool (ks[j]?.getD false))

theorem BoolsOwn.at {lo hi : Nat} {w : World} {v : Value} {ks : List Bool} (h : BoolsOwn lo hi w v ks) : BoolsAt hi w v ks := by
  obtain ⟨b, cap, cs, rfl, _, h1, h2, h3, h4⟩ := h
  exact ⟨_, cap, rfl, .inr ⟨b, 0, rfl, h2, fun j hj => by rw [Nat.zero_add, cell_of_heap h3, h4 j hj]⟩⟩

theorem BoolsOwn.heap {lo hi lo' hi' : Nat} {w w' : World} {v : Value} {ks : List Bool} (h : BoolsOwn lo hi w v ks) (hl : lo' ≤ lo) (hh : hi ≤ hi') (hb : ∀ b, lo ≤ b → b < hi → w'.heap[b]? = w.heap[b]?) : BoolsOwn lo' hi' w' v ks := by
  obtain ⟨b, cap, cs, rfl, hcp, h1, h2, h3, h4⟩ := h
  exact ⟨b, cap, cs, rfl, hcp, by omega, by omega, (hb b h1 h2).trans h3, h4⟩

theorem BoolsOwn.below {lo hi : Nat} {w w' : World} {v : Value} {ks : List Bool} (h : BoolsOwn lo hi w v ks) (hb : Below hi w w') : BoolsOwn lo hi w' v ks := h.heap (Nat.le_refl _) (Nat.le_refl _) fun b _ h2 => hb.block b h2

theorem specInfoBool : (Try.prog.info? 4).map (fun i => (i.zero, i.size, i.bytes)) = some (some (.bool false), 1, 1) := by kernel_rfl

set_option maxHeartbeats 400000 in
theorem toBools_any (n₀ : Nat) (v : Value) (ks : List Bool) (w : World) (h : BoolsAt n₀ w v ks) (hn : n₀ ≤ w.heap.size) (hl : ks.length ≤ 1048576) :
    Calls Try.prog 27 #[v] w fun e w' => ∃ u, e = .returned u ∧ BoolsOwn w.heap.size w'.heap.size w' u ks ∧ Below w.heap.size w w' ∧ w.heap.size < w'.heap.size := by
  obtain ⟨i0, hi, hz0, hz1, hz2⟩ := info_parts specInfoBool
  have hmk : ∀ w, (Instr.makeSlice 23 (.int .i64 (ks.length : Int)) (.int .i64 (ks.length : Int))).run Try.prog w = .ok (.slice (some ⟨w.heap.size, 0, none⟩) ks.length ks.length) (w.alloc (.cells (madeCells #[.bool false] ks.length) 4)) := fun w => by
    have := run_make (P := Try.prog) w 23 4 i0 (.bool false) Try.underlying23 hi hz0 .i64 .i64 ks.length ks.length (by omega) (Int.le_refl _) (by rw [hz2]; omega) (by omega)
    simpa [hz1, Value.cells] using this
  obtain ⟨a, cap, rfl, hk⟩ := h
  clear hi hz0 hz1 hz2
  go_enter Try.func27, Try.ntmps27
  go_wp2_with fail
  go_loopw [4] (fun i wr => ∃ (k : Nat) (cs : Array Value), k ≤ ks.length ∧ i = .int .i64 k ∧ Hid (wr.heap[w.heap.size]? = some (.cells cs 4 (0, 0))) ∧ cs.size = ks.length ∧ Hid (∀ j, j < k → cs[j]? = some (.bool (ks[j]?.getD false))) ∧ Below w.heap.size w wr) (fun i _ => ks.length - (intOf i).toNat)
  case atStart => exact ⟨0, _, Nat.zero_le _, rfl, alloc_new w _, size_madeCells _ _, fun j hj => by omega, (Below.refl _ _).alloc (Nat.le_refl _) _⟩
  case round =>
    obtain ⟨k, cs, hkl, rfl, hh, hcs, hall, hbr⟩ := hrel
    have hlt2 : w.heap.size < wr.heap.size := (Array.getElem?_eq_some_iff.1 hh.out).1
    by_cases hlt : k < ks.length
    · obtain ⟨b, off, rfl, hb, hc⟩ := hk.resolve_left (by intro e; simp [e] at hlt)
      have hck := (hbr.cell (p := ⟨b, off + k, none⟩) (show b < w.heap.size by omega)).trans (hc k hlt)
      have hco : wr.cell? ⟨w.heap.size, k, none⟩ = some (cs[k]'(by omega)) := by rw [cell_of_heap hh.out]; simp [hcs, hlt]
      have hfo := frozen_of_heap hh.out k
      have HH2 : Hid ((wr.setCell ⟨w.heap.size, k, none⟩ (.bool (ks[k]?.getD false))).heap[w.heap.size]? = some (.cells (cs.setIfInBounds k (.bool (ks[k]?.getD false))) 4 (0, 0))) := heap_setCell_same _ _ _ _ _ _ hh.out
      have HAll2 : Hid (∀ j, j < k + 1 → (cs.setIfInBounds k (.bool (ks[k]?.getD false)))[j]? = some (.bool (ks[j]?.getD false))) := by
        intro j hj
        by_cases e : j = k
        · subst e; simp [hcs, hlt]
        · rw [Array.getElem?_setIfInBounds_ne (fun h => e h.symm)]; exact hall.out j (by omega)
      clear hc hk hall
      generalize cs[k]'(by omega) = old at *
      have hsz2 : ∀ u, (cs.setIfInBounds k u).size = ks.length := fun u => by simp [hcs]
      clear hcs
      generalize ks[k]?.getD false = y at *
      go_wp2_with fail
      go_roundw
      case rel => exact ⟨k + 1, _, by omega, by go_num, HH2, hsz2 _, HAll2, hbr.setCell (p := ⟨w.heap.size, k, none⟩) (Nat.le_refl _) _⟩
      case measure => simp [intOf]; omega
    · clear hk
      go_wp2_with fail
      go_ret
      exact ⟨_, rfl, ⟨w.heap.size, ks.length, cs, rfl, Nat.le_refl _, Nat.le_refl _, hlt2, hh.out, fun j hj => hall.out j (by omega)⟩, hbr, hlt2⟩

/-- A list of lists of numbers in a block of its own, and the lists each in one of its own behind it, no two in one. -/
def RowsOwn (lo hi : Nat) (w : World) (v : Value) (l : List (List Int)) : Prop :=
  ∃ b cap cs, v = .slice (some ⟨b, 0, none⟩) l.length cap ∧ l.length ≤ cap ∧ lo ≤ b ∧ b < hi ∧ w.heap[b]? = some (.cells cs 32 (0, 0)) ∧
    ∀ j, j < l.length → ∃ kv, cs[j]? = some kv ∧ IntsOwn (b + 1) hi w kv (l[j]?.getD [])

theorem RowsOwn.at {lo hi : Nat} {w : World} {v : Value} {l : List (List Int)} (h : RowsOwn lo hi w v l) : RowsAt hi w v l := by
  obtain ⟨b, cap, cs, rfl, hcp, h1, h2, h3, h4⟩ := h
  refine ⟨_, cap, rfl, .inr ⟨b, 0, rfl, h2, fun j hj => ?_⟩⟩
  obtain ⟨kv, g0, g5⟩ := h4 j hj
  rw [Nat.zero_add]
  exact ⟨kv, by rw [cell_of_heap h3, g0], g5.at⟩

theorem RowsOwn.heap {lo hi lo' hi' : Nat} {w w' : World} {v : Value} {l : List (List Int)} (h : RowsOwn lo hi w v l) (hl : lo' ≤ lo) (hh : hi ≤ hi') (hb : ∀ b, lo ≤ b → b < hi → w'.heap[b]? = w.heap[b]?) : RowsOwn lo' hi' w' v l := by
  obtain ⟨b, cap, cs, rfl, hcp, h1, h2, h3, h4⟩ := h
  refine ⟨b, cap, cs, rfl, hcp, by omega, by omega, (hb b h1 h2).trans h3, fun j hj => ?_⟩
  obtain ⟨kv, g0, g5⟩ := h4 j hj
  exact ⟨kv, g0, g5.heap (Nat.le_refl _) hh fun b h6 h7 => hb b (by omega) h7⟩

theorem RowsOwn.below {lo hi : Nat} {w w' : World} {v : Value} {l : List (List Int)} (h : RowsOwn lo hi w v l) (hb : Below hi w w') : RowsOwn lo hi w' v l := h.heap (Nat.le_refl _) (Nat.le_refl _) fun b _ h2 => hb.block b h2

theorem rowInfo : (Try.prog.info? 32).map (fun i => (i.zero, i.size, i.bytes)) = some (some (.slice none 0 0), 1, 24) := by kernel_rfl

set_option maxHeartbeats 1000000 in
set_option maxRecDepth 100000 in
theorem toRows_any (n₀ : Nat) (v : Value) (l : List (List Int)) (w : World) (h : RowsAt n₀ w v l) (hn : n₀ ≤ w.heap.size) (hl : l.length ≤ 1048576) (hkl : ∀ x ∈ l, x.length ≤ 1048576) :
    Calls Try.prog 26 #[v] w fun e w' => ∃ u, e = .returned u ∧ RowsOwn w.heap.size w'.heap.size w' u l ∧ Below w.heap.size w w' ∧ w.heap.size < w'.heap.size := by
  obtain ⟨i0, hi, hz0, hz1, hz2⟩ := info_parts rowInfo
  have hmk : ∀ w, (Instr.makeSlice 22 (.int .i64 (l.length : Int)) (.int .i64 (l.length : Int))).run Try.prog w = .ok (.slice (some ⟨w.heap.size, 0, none⟩) l.length l.length) (w.alloc (.cells (madeCells #[.slice none 0 0] l.length) 32)) := fun w => by
    have := run_make (P := Try.prog) w 22 32 i0 (.slice none 0 0) Try.underlying22 hi hz0 .i64 .i64 l.length l.length (by omega) (Int.le_refl _) (by rw [hz2]; omega) (by omega)
    simpa [hz1, Value.cells] using this
  obtain ⟨a, cap, rfl, hk⟩ := h
  have HKL := hide hkl
  clear hi hz0 hz1 hz2 hkl
  go_enter Try.func26, Try.ntmps26
  go_wp2_with fail
  go_loopw [4] (fun i wr => ∃ (k : Nat) (cs : Array Value), k ≤ l.length ∧ i = .int .i64 k ∧ Hid (wr.heap[w.heap.size]? = some (.cells cs 32 (0, 0))) ∧ cs.size = l.length ∧ Hid (∀ j, j < k → ∃ kv, cs[j]? = some kv ∧ IntsOwn (w.heap.size + 1) wr.heap.size wr kv (l[j]?.getD [])) ∧ Below w.heap.size w wr) (fun i _ => l.length - (intOf i).toNat)
  case atStart => exact ⟨0, _, Nat.zero_le _, rfl, alloc_new w _, size_madeCells _ _, fun j hj => by omega, (Below.refl _ _).alloc (Nat.le_refl _) _⟩
  case round =>
    obtain ⟨k, cs, hkl, rfl, hh, hcs, hall, hbr⟩ := hrel
    have hlt2 : w.heap.size < wr.heap.size := (Array.getElem?_eq_some_iff.1 hh.out).1
    by_cases hlt : k < l.length
    · obtain ⟨b, off, rfl, hb, hc⟩ := hk.resolve_left (by intro e; simp [e] at hlt)
      obtain ⟨kv, g0, hi⟩ := hc k hlt
      have g0 := (hbr.cell (p := ⟨b, off + k, none⟩) (show b < w.heap.size by omega)).trans g0
      have hi := hi.below (Nat.le_refl _) (hbr.mono hn)
      have hlx := HKL.out (l[k]?.getD []) (by simp [hlt])
      have HCall := hide (toInts_any n₀ kv (l[k]?.getD []) wr hi (by omega) hlx)
      obtain ⟨ak, ck, rfl, -⟩ := hi
      have hbw : b < wr.heap.size := by omega
      clear hc hk
      generalize hx : l[k]?.getD [] = x at *
      have HX := hide hx
      clear hx
      go_wp2_with fail
      refine HCall.out.mono ?_
      rintro e w1 ⟨ku, rfl, hown, hb1, hs1⟩
      have hh1 : w1.heap[w.heap.size]? = some (.cells cs 32 (0, 0)) := (hb1.block _ hlt2).trans hh.out
      have hf1 : ∀ j, w1.frozen? ⟨w.heap.size, j, none⟩ = false := fun j => frozen_of_heap hh1 j
      have hc1 : ∃ u, w1.cell? ⟨w.heap.size, k, none⟩ = some u := by rw [cell_of_heap hh1]; exact ⟨cs[k], by simp [hcs, hlt]⟩
      obtain ⟨o0, p0⟩ := hc1
      have HOwn := hide hown
      obtain ⟨bo, co, cs', rfl, hlo, hhi, hbo, -⟩ := hown
      clear HCall hbo
      have q1 := heap_setCell_same w1 w.heap.size k cs 32 (.slice (some ⟨bo, 0, none⟩) x.length co) hh1
      have q2 : ∀ m, m ≠ w.heap.size → (w1.setCell ⟨w.heap.size, k, none⟩ (.slice (some ⟨bo, 0, none⟩) x.length co)).heap[m]? = w1.heap[m]? := fun m hm => heap_setCell_other _ _ _ _ (by exact hm)
      have HQ1 := hide q1
      have HB5 : Hid (Below w.heap.size w (w1.setCell ⟨w.heap.size, k, none⟩ (.slice (some ⟨bo, 0, none⟩) x.length co))) :=
        (hbr.trans (hb1.mono (by omega))).setCell (p := ⟨w.heap.size, k, none⟩) (Nat.le_refl _) _
      have HAll2 : Hid (∀ j, j < k + 1 → ∃ kv, (cs.setIfInBounds k (.slice (some ⟨bo, 0, none⟩) x.length co))[j]? = some kv ∧ IntsOwn (w.heap.size + 1) (w1.setCell ⟨w.heap.size, k, none⟩ (.slice (some ⟨bo, 0, none⟩) x.length co)).heap.size (w1.setCell ⟨w.heap.size, k, none⟩ (.slice (some ⟨bo, 0, none⟩) x.length co)) kv (l[j]?.getD [])) := by
        intro j hj
        by_cases e : j = k
        · rw [e, HX.out] at *
          exact ⟨_, by simp [hcs, hlt], HOwn.out.heap (by omega) (by simp) fun b h3 _ => q2 b (by omega)⟩
        · obtain ⟨kv, b0, b5⟩ := hall.out j (by omega)
          refine ⟨kv, by rw [Array.getElem?_setIfInBounds_ne (fun h => e h.symm)]; exact b0, b5.heap (Nat.le_refl _) (by simp; omega) fun b h3 h4 => (q2 b (by omega)).trans (hb1.block b h4)⟩
      have hsz5 : (cs.setIfInBounds k (.slice (some ⟨bo, 0, none⟩) x.length co)).size = l.length := by simp [hcs]
      have HSz := hide hsz5
      clear q1 q2 hsz5 hall hh hh1
      go_wp2_with fail
      exact ⟨⟨k + 1, _, by omega, by go_num, HQ1, HSz.out, HAll2, HB5.out⟩, by simp [intOf]; omega⟩
    · clear hk
      go_wp2_with fail
      go_ret
      exact ⟨_, rfl, ⟨w.heap.size, l.length, cs, rfl, Nat.le_refl _, Nat.le_refl _, hlt2, hh.out, fun j hj => hall.out j (by omega)⟩, hbr, hlt2⟩

/-- The value is a machine in memory of its own: its rows first, its last list behind them. -/
def MachOwn (lo hi : Nat) (w : World) (v : Value) (m : PMach) : Prop :=
  ∃ nv fv mid, v = .agg #[nv, fv] ∧ lo ≤ mid ∧ mid ≤ hi ∧ RowsOwn lo mid w nv m.next ∧ BoolsOwn mid hi w fv m.final

theorem MachOwn.heap {lo hi lo' hi' : Nat} {w w' : World} {v : Value} {m : PMach} (h : MachOwn lo hi w v m) (hl : lo' ≤ lo) (hh : hi ≤ hi') (hb : ∀ b, lo ≤ b → b < hi → w'.heap[b]? = w.heap[b]?) : MachOwn lo' hi' w' v m := by
  obtain ⟨nv, fv, mid, rfl, h0, h1, h2, h3⟩ := h
  exact ⟨nv, fv, mid, rfl, by omega, by omega, h2.heap hl (Nat.le_refl _) fun b h4 h5 => hb b h4 (by omega), h3.heap (Nat.le_refl _) hh fun b h4 h5 => hb b (by omega) h5⟩

theorem MachOwn.below {lo hi : Nat} {w w' : World} {v : Value} {m : PMach} (h : MachOwn lo hi w v m) (hb : Below hi w w') : MachOwn lo hi w' v m := h.heap (Nat.le_refl _) (Nat.le_refl _) fun b _ h2 => hb.block b h2

theorem MachOwn.at {lo hi : Nat} {w : World} {v : Value} {m : PMach} (h : MachOwn lo hi w v m) : MachVal hi w v m := by
  obtain ⟨nv, fv, mid, rfl, h0, h1, h2, h3⟩ := h
  exact ⟨nv, fv, rfl, h2.at.below h1 (Below.refl _ _), h3.at⟩

set_option maxHeartbeats 1000000 in
set_option maxRecDepth 100000 in
theorem toMach_any (n₀ : Nat) (v : Value) (m : PMach) (w : World) (h : MachVal n₀ w v m) (hn : n₀ ≤ w.heap.size) (hl : SmallMach m) :
    Calls Try.prog 9 #[v] w fun e w' => ∃ u, e = .returned u ∧ MachOwn w.heap.size w'.heap.size w' u m ∧ Below w.heap.size w w' ∧ w.heap.size < w'.heap.size := by
  obtain ⟨a, cap, a', cap', rfl, -, hk, hf⟩ := h.form
  have HT : Hid (∀ w1, Below w.heap.size w w1 → Calls Try.prog 26 #[.slice a m.next.length cap] w1 fun e w' => ∃ u, e = .returned u ∧ RowsOwn w1.heap.size w'.heap.size w' u m.next ∧ Below w1.heap.size w1 w' ∧ w1.heap.size < w'.heap.size) := fun w1 hb =>
    toRows_any n₀ _ m.next w1 (hk.below (Nat.le_refl _) (hb.mono hn)) (by have := hb.size; omega) hl.next hl.rows
  have HF : Hid (∀ w1, Below w.heap.size w w1 → Calls Try.prog 27 #[.slice a' m.final.length cap'] w1 fun e w' => ∃ u, e = .returned u ∧ BoolsOwn w1.heap.size w'.heap.size w' u m.final ∧ Below w1.heap.size w1 w' ∧ w1.heap.size < w'.heap.size) := fun w1 hb =>
    toBools_any n₀ _ m.final w1 (hf.below (Nat.le_refl _) (hb.mono hn)) (by have := hb.size; omega) hl.final
  clear h hk hf hl
  have hW3 := (((Below.refl w.heap.size w).alloc (Nat.le_refl _) (.cells #[.slice a m.next.length cap, .slice a' m.final.length cap'] 25)).alloc (by simp) (.cells #[.slice none 0 0, .slice none 0 0] 28)).alloc (by simp; omega) (.cells #[.slice none 0 0, .slice none 0 0] 28)
  go_enter Try.func9, Try.ntmps9
  go_wp2_with fail
  refine (HT.out _ hW3).mono ?_
  rintro e w1 ⟨u, rfl, hown, hb1, hlt⟩
  simp only [World.size_alloc] at hown hb1 hlt
  have hb1' := hW3.trans (hb1.mono (by omega))
  have hcx : ∀ b o, b < w.heap.size + 1 + 1 + 1 → w1.cell? ⟨b, o, none⟩ = _ := fun b o h => hb1.cell (p := ⟨b, o, none⟩) h
  have hfx : ∀ b o, b < w.heap.size + 1 + 1 + 1 → w1.frozen? ⟨b, o, none⟩ = _ := fun b o h => hb1.frozen (p := ⟨b, o, none⟩) h
  have hz0 : w.heap.size < w1.heap.size := by omega
  have hz1 : w.heap.size + 1 < w1.heap.size := by omega
  have hz2 : w.heap.size + 1 + 1 < w1.heap.size := by omega
  have HOwn := hide hown
  obtain ⟨bo, co, cs, rfl, hco, hlo, hhi, hbo, -⟩ := hown
  clear hbo HT
  have HB2 := hb1'.setCell (p := ⟨w.heap.size + 1 + 1, 0, none⟩) (by simp; omega) (.slice (some ⟨bo, 0, none⟩) m.next.length co)
  have HO2 := hide (HOwn.out.heap (w' := w1.setCell ⟨w.heap.size + 1 + 1, 0, none⟩ (.slice (some ⟨bo, 0, none⟩) m.next.length co)) (Nat.le_refl _) (Nat.le_refl _) fun k h3 _ => heap_setCell_other _ _ _ _ (by show k ≠ _; simp; omega))
  go_wp2_with fail
  refine (HF.out _ HB2).mono ?_
  rintro e w3 ⟨u, rfl, hown, hb3, hlt3⟩
  have es : (w1.setCell ⟨w.heap.size + 1 + 1, 0, none⟩ (.slice (some ⟨bo, 0, none⟩) m.next.length co)).heap.size = w1.heap.size := by simp
  rw [es] at hown hb3 hlt3
  have c30 : w3.cell? ⟨w.heap.size + 1 + 1, 0, none⟩ = some (.slice (some ⟨bo, 0, none⟩) m.next.length co) := by rw [hb3.cell (p := ⟨w.heap.size + 1 + 1, 0, none⟩) hz2]; simp [go_sem, hcx]
  have c31 : w3.cell? ⟨w.heap.size + 1 + 1, 1, none⟩ = some (.slice none 0 0) := by rw [hb3.cell (p := ⟨w.heap.size + 1 + 1, 1, none⟩) hz2]; simp [go_sem, hcx]
  have c20 : w3.cell? ⟨w.heap.size + 1, 0, none⟩ = some (.slice none 0 0) := by rw [hb3.cell (p := ⟨w.heap.size + 1, 0, none⟩) hz1]; simp [go_sem, hcx]
  have c21 : w3.cell? ⟨w.heap.size + 1, 1, none⟩ = some (.slice none 0 0) := by rw [hb3.cell (p := ⟨w.heap.size + 1, 1, none⟩) hz1]; simp [go_sem, hcx]
  have f3 : ∀ o, w3.frozen? ⟨w.heap.size + 1 + 1, o, none⟩ = false := fun o => by rw [hb3.frozen (p := ⟨w.heap.size + 1 + 1, o, none⟩) hz2]; simp [go_sem, hfx]
  have f2 : ∀ o, w3.frozen? ⟨w.heap.size + 1, o, none⟩ = false := fun o => by rw [hb3.frozen (p := ⟨w.heap.size + 1, o, none⟩) hz1]; simp [go_sem, hfx]
  have hb3' := HB2.trans (hb3.mono (by omega))
  have HO3 := hide (HO2.out.below hb3)
  have HOwn3 := hide hown
  obtain ⟨bf, cf, csf, rfl, hcf, hlf, hhf, hbf, -⟩ := hown
  have y1 : w.heap.size + 1 < w3.heap.size := by omega
  have y2 : w.heap.size + 1 + 1 < w3.heap.size := by omega
  have HFin : Hid (∀ w4 : World, (∀ k, w.heap.size + 1 + 1 < k → w4.heap[k]? = w3.heap[k]?) → w4.heap.size = w3.heap.size → MachOwn w.heap.size w4.heap.size w4 (.agg #[.slice (some ⟨bo, 0, none⟩) m.next.length co, .slice (some ⟨bf, 0, none⟩) m.final.length cf]) m) := fun w4 h2 hs2 =>
    ⟨_, _, w1.heap.size, rfl, by omega, by omega, HO3.out.heap (by omega) (Nat.le_refl _) fun k h3 _ => h2 k (by omega), HOwn3.out.heap (Nat.le_refl _) (by omega) fun k h3 _ => h2 k (by omega)⟩
  clear hcx hfx hbf es HB2
  go_wp2_with fail
  refine bodyPost_ret (v := .agg #[.slice (some ⟨bo, 0, none⟩) m.next.length co, .slice (some ⟨bf, 0, none⟩) m.final.length cf]) (by simp [results, Try.results9, go_sem, c20, c21]) rfl ⟨_, rfl, HFin.out _ ?_ (by simp), ?_, by simp; omega⟩
  · intro k hk
    iterate 3 rw [heap_setCell_other _ _ _ _ (by show k ≠ _; simp; omega)]
  · exact ((hb3'.setCell (p := ⟨w.heap.size + 1 + 1, 1, none⟩) (by simp; omega) _).setCell (p := ⟨w.heap.size + 1, 0, none⟩) (by simp) _).setCell (p := ⟨w.heap.size + 1, 1, none⟩) (by simp) _
end Go.Proofs.Ytlbfjmfjakhmdaa
