/-
  The law package's copies of lists of numbers, how it compares them, and how long they may be.
  The law package's copies of holds, how it compares them and asks whether a list of them is small enough.
  Tables of locks and waits: how one lies as a value and in memory, to be read and as one's own; the law package's copies of them.
  Which tables are right, plainly.
  A lock laid into a right list of them, plainly: where it stands, and what the list is then.
  Who stands against a wait, plainly: the holders that clash with it, and the waits ahead of it that rival it.
-/
import Derived.Test.YtfjhpfgffbghdaaGreatDoorJoinC
import Derived.Deep.DeepCutAuto
import Derived.WalkSmall
import Derived.WalkLawsBesides
import Derived.Laws.MakeOwn
import Derived.Laws.Rows
import Derived.Test.YtfjhpfgffbghdaaGreatDoorJoinE
import Derived.Test.YtfjhpfgffbghdaaGreatDoorJoinF
namespace Go.Proofs.YtfjhpfgffbghdaaGreatDoor
open Go.RowKit

set_option maxHeartbeats 400000 in
theorem eqInts_any (n₀ : Nat) (v v' : Value) (ks : List Int) (w : World) (h : IntsAt n₀ w v ks) (h' : IntsAt n₀ w v' ks) (hl : ks.length ≤ 1048576) :
    Calls Tryz.prog 13 #[v, v'] w fun e w' => e = .returned (.bool true) ∧ Below w.heap.size w w' := by
  obtain ⟨a, cap, rfl, hk⟩ := h
  obtain ⟨a', cap', rfl, hk'⟩ := h'
  go_enter Tryz.func13, Tryz.ntmps13
  go_wp2_with fail
  go_loopw [5] (fun i wr => ∃ k : Nat, k ≤ ks.length ∧ i = .int .i64 k ∧ ∃ q, wr = w.drewN q) (fun i _ => ks.length - (intOf i).toNat)
  case atStart => exact ⟨0, Nat.zero_le _, rfl, 0, rfl⟩
  case round =>
    obtain ⟨k, hkl, rfl, q, rfl⟩ := hrel
    by_cases hlt : k < ks.length
    · obtain ⟨b, off, rfl, hb, hc⟩ := hk.resolve_left (by intro e; simp [e] at hlt)
      obtain ⟨b', off', rfl, hb', hc'⟩ := hk'.resolve_left (by intro e; simp [e] at hlt)
      have hck := hc k hlt
      have hck' := hc' k hlt
      have hlt1 : (k : Int) < (ks.length : Int) := by omega
      clear hc hc' hk hk'
      generalize ks[k]?.getD 0 = y at *
      go_wp2_with fail
      go_quiet (fail)
      go_wp2_with fail
      exact ⟨⟨k + 1, by omega, by go_num, _, rfl⟩, by simp [intOf]; omega⟩
    · clear hk hk'
      go_wp2_with fail
      go_ret
      exact ⟨rfl, below_drewN (Below.refl _ _) _⟩

/-- A list of numbers in a block of its own. -/
def IntsOwn (lo hi : Nat) (w : World) (v : Value) (ks : List Int) : Prop :=
  ∃ b cap cs, v = .slice (some ⟨b, 0, none⟩) ks.length cap ∧ lo ≤ b ∧ b < hi ∧ w.heap[b]? = some (.cells cs 3 (0, 0)) ∧ ∀ j, j < ks.length → cs[j]? = some (.int .i64 (ks[j]?.getD 0))

theorem IntsOwn.at {lo hi : Nat} {w : World} {v : Value} {ks : List Int} (h : IntsOwn lo hi w v ks) : IntsAt hi w v ks := by
  obtain ⟨b, cap, cs, rfl, h1, h2, h3, h4⟩ := h
  exact ⟨_, cap, rfl, .inr ⟨b, 0, rfl, h2, fun j hj => by rw [Nat.zero_add, cell_of_heap h3, h4 j hj]⟩⟩

theorem IntsOwn.heap {lo hi lo' hi' : Nat} {w w' : World} {v : Value} {ks : List Int} (h : IntsOwn lo hi w v ks) (hl : lo' ≤ lo) (hh : hi ≤ hi') (hb : ∀ b, lo ≤ b → b < hi → w'.heap[b]? = w.heap[b]?) : IntsOwn lo' hi' w' v ks := by
  obtain ⟨b, cap, cs, rfl, h1, h2, h3, h4⟩ := h
  exact ⟨b, cap, cs, rfl, by omega, by omega, (hb b h1 h2).trans h3, h4⟩

theorem IntsOwn.below {lo hi : Nat} {w w' : World} {v : Value} {ks : List Int} (h : IntsOwn lo hi w v ks) (hb : Below hi w w') : IntsOwn lo hi w' v ks := h.heap (Nat.le_refl _) (Nat.le_refl _) fun b _ h2 => hb.block b h2

theorem specInfoInt' : (Tryz.prog.info? 3).map (fun i => (i.zero, i.size, i.bytes)) = some (some (.int .i64 0), 1, 8) := by kernel_rfl

set_option maxHeartbeats 400000 in
theorem toInts_any (n₀ : Nat) (v : Value) (ks : List Int) (w : World) (h : IntsAt n₀ w v ks) (hn : n₀ ≤ w.heap.size) (hl : ks.length ≤ 1048576) :
    Calls Tryz.prog 86 #[v] w fun e w' => ∃ u, e = .returned u ∧ IntsOwn w.heap.size w'.heap.size w' u ks ∧ Below w.heap.size w w' ∧ w.heap.size < w'.heap.size := by
  obtain ⟨i0, hi, hz0, hz1, hz2⟩ := info_parts specInfoInt'
  have hmk : ∀ w, (Instr.makeSlice 33 (.int .i64 (ks.length : Int)) (.int .i64 (ks.length : Int))).run Tryz.prog w = .ok (.slice (some ⟨w.heap.size, 0, none⟩) ks.length ks.length) (w.alloc (.cells (madeCells #[.int .i64 0] ks.length) 3)) := fun w => by
    have := run_make (P := Tryz.prog) w 33 3 i0 (.int .i64 0) Tryz.underlying33 hi hz0 .i64 .i64 ks.length ks.length (by omega) (Int.le_refl _) (by rw [hz2]; omega) (by omega)
    simpa [hz1, Value.cells] using this
  obtain ⟨a, cap, rfl, hk⟩ := h
  clear hi hz0 hz1 hz2
  go_enter Tryz.func86, Tryz.ntmps86
  go_wp2_with fail
  go_loopw [4] (fun i wr => ∃ (k : Nat) (cs : Array Value), k ≤ ks.length ∧ i = .int .i64 k ∧ Hid (wr.heap[w.heap.size]? = some (.cells cs 3 (0, 0))) ∧ cs.size = ks.length ∧ Hid (∀ j, j < k → cs[j]? = some (.int .i64 (ks[j]?.getD 0))) ∧ Below w.heap.size w wr) (fun i _ => ks.length - (intOf i).toNat)
  case atStart => exact ⟨0, _, Nat.zero_le _, rfl, alloc_new w _, size_madeCells _ _, fun j hj => by omega, (Below.refl _ _).alloc (Nat.le_refl _) _⟩
  case round =>
    obtain ⟨k, cs, hkl, rfl, hh, hcs, hall, hbr⟩ := hrel
    have hlt2 : w.heap.size < wr.heap.size := (Array.getElem?_eq_some_iff.1 hh.out).1
    by_cases hlt : k < ks.length
    · obtain ⟨b, off, rfl, hb, hc⟩ := hk.resolve_left (by intro e; simp [e] at hlt)
      have hck := (hbr.cell (p := ⟨b, off + k, none⟩) (show b < w.heap.size by omega)).trans (hc k hlt)
      have hco : wr.cell? ⟨w.heap.size, k, none⟩ = some (cs[k]'(by omega)) := by rw [cell_of_heap hh.out]; simp [hcs, hlt]
      have hfo := frozen_of_heap hh.out k
      have HH2 : Hid ((wr.setCell ⟨w.heap.size, k, none⟩ (.int .i64 (ks[k]?.getD 0))).heap[w.heap.size]? = some (.cells (cs.setIfInBounds k (.int .i64 (ks[k]?.getD 0))) 3 (0, 0))) := heap_setCell_same _ _ _ _ _ _ hh.out
      have HAll2 : Hid (∀ j, j < k + 1 → (cs.setIfInBounds k (.int .i64 (ks[k]?.getD 0)))[j]? = some (.int .i64 (ks[j]?.getD 0))) := by
        intro j hj
        by_cases e : j = k
        · subst e; simp [hcs, hlt]
        · rw [Array.getElem?_setIfInBounds_ne (fun h => e h.symm)]; exact hall.out j (by omega)
      clear hc hk hall
      generalize cs[k]'(by omega) = old at *
      have hsz2 : ∀ u, (cs.setIfInBounds k u).size = ks.length := fun u => by simp [hcs]
      clear hcs
      generalize ks[k]?.getD 0 = y at *
      go_wp2_with fail
      go_roundw
      case rel => exact ⟨k + 1, _, by omega, by go_num, HH2, hsz2 _, HAll2, hbr.setCell (p := ⟨w.heap.size, k, none⟩) (Nat.le_refl _) _⟩
      case measure => simp [intOf]; omega
    · clear hk
      go_wp2_with fail
      go_ret
      exact ⟨_, rfl, ⟨w.heap.size, ks.length, cs, rfl, Nat.le_refl _, hlt2, hh.out, fun j hj => hall.out j (by omega)⟩, hbr, hlt2⟩

set_option maxHeartbeats 400000 in
theorem szInts_any (a : Option Addr) (n cap : Nat) (c : Int) (w : World) (h0 : 0 ≤ c) (h1 : c ≤ 1048576) (hl : n ≤ 9223372036854775807) :
    Calls Tryz.prog 81 #[.slice a n cap, .int .i64 c] w fun e w' => ∃ r, e = .returned (.int .i64 r) ∧ -1 ≤ r ∧ r ≤ c ∧ (0 ≤ r → n ≤ 1048576) ∧ w' = w := by
  by_cases h : c - n < 0
  · go_enter Tryz.func81, Tryz.ntmps81
    go_wp2
    go_ret
    exact ⟨_, rfl, by omega, by omega, by omega, rfl⟩
  · go_enter Tryz.func81, Tryz.ntmps81
    go_wp2
    go_ret
    exact ⟨_, rfl, by omega, by omega, by omega, rfl⟩
end Go.Proofs.YtfjhpfgffbghdaaGreatDoor

namespace Go.Proofs.YtfjhpfgffbghdaaGreatDoor
open Go.RowKit

set_option maxHeartbeats 800000 in
theorem toHold_any (x : PHold) (w : World) :
    Calls Tryz.prog 55 #[holdVal x] w fun e w' => e = .returned (holdVal x) ∧ Below w.heap.size w w' := by
  go_enter Tryz.func55, Tryz.ntmps55
  go_wp2_with fail
  refine bodyPost_ret (v := holdVal x) (by simp [results, Tryz.results55, go_sem]) rfl ⟨rfl, ?_⟩
  exact (((Below.refl _ _).alloc (Nat.le_refl _) _).alloc (by simp) _).alloc (by simp; omega) _

theorem holdInfo : (Tryz.prog.info? 86).map (fun i => (i.zero, i.size, i.bytes)) = some (some (.agg #[.int .i64 0, .int .i64 0, .int .i64 0]), 3, 24) := by kernel_rfl

theorem three_world (w : World) (b o : Nat) (c0 c1 c2 : Value) {cs : Array Value} {T : TypeId} (hh : w.heap[b]? = some (.cells cs T (0, 0))) :
    (((w.setCell ⟨b, o, none⟩ c0).setCell ⟨b, o + 1, none⟩ c1).setCell ⟨b, o + 2, none⟩ c2).heap[b]? = some (.cells (((cs.setIfInBounds o c0).setIfInBounds (o + 1) c1).setIfInBounds (o + 2) c2) T (0, 0)) ∧ ∀ m, m ≠ b → (((w.setCell ⟨b, o, none⟩ c0).setCell ⟨b, o + 1, none⟩ c1).setCell ⟨b, o + 2, none⟩ c2).heap[m]? = w.heap[m]? := by
  constructor
  · exact heap_setCell_same _ _ _ _ _ _ (heap_setCell_same _ _ _ _ _ _ (heap_setCell_same _ _ _ _ _ _ hh))
  · intro m hm
    iterate 3 rw [heap_setCell_other _ _ _ _ (by exact hm)]

theorem set_three {cs : Array Value} {k j : Nat} {c0 c1 c2 : Value} (h : k * 3 + 2 < cs.size) :
    (j = k → (((cs.setIfInBounds (k * 3) c0).setIfInBounds (k * 3 + 1) c1).setIfInBounds (k * 3 + 2) c2)[j * 3]? = some c0 ∧ (((cs.setIfInBounds (k * 3) c0).setIfInBounds (k * 3 + 1) c1).setIfInBounds (k * 3 + 2) c2)[j * 3 + 1]? = some c1 ∧ (((cs.setIfInBounds (k * 3) c0).setIfInBounds (k * 3 + 1) c1).setIfInBounds (k * 3 + 2) c2)[j * 3 + 2]? = some c2) ∧
    (j ≠ k → ∀ o, o < 3 → (((cs.setIfInBounds (k * 3) c0).setIfInBounds (k * 3 + 1) c1).setIfInBounds (k * 3 + 2) c2)[j * 3 + o]? = cs[j * 3 + o]?) := by
  constructor
  · rintro rfl
    simp only [Array.getElem?_setIfInBounds, Array.size_setIfInBounds]
    refine ⟨?_, ?_, ?_⟩
    · rw [if_neg (by omega), if_neg (by omega), if_pos trivial, if_pos (by omega)]
    · rw [if_neg (by omega), if_pos trivial, if_pos (by omega)]
    · rw [if_pos trivial, if_pos (by omega)]
  · intro hne o ho
    simp only [Array.getElem?_setIfInBounds, Array.size_setIfInBounds]
    rw [if_neg (by omega), if_neg (by omega), if_neg (by omega)]

set_option maxHeartbeats 1000000 in
set_option maxRecDepth 100000 in
theorem toHolds_any (n₀ : Nat) (v : Value) (l : List PHold) (w : World) (h : HoldsAt n₀ w v l) (hn : n₀ ≤ w.heap.size) (hl : l.length ≤ 1048576) :
    Calls Tryz.prog 33 #[v] w fun e w' => ∃ u, e = .returned u ∧ HoldsOwn w.heap.size w'.heap.size w' u l ∧ Below w.heap.size w w' := by
  obtain ⟨i0, hi, hz0, hz1, hz2⟩ := info_parts holdInfo
  have hmk : ∀ w, (Instr.makeSlice 30 (.int .i64 (l.length : Int)) (.int .i64 (l.length : Int))).run Tryz.prog w = .ok (.slice (some ⟨w.heap.size, 0, none⟩) l.length l.length) (w.alloc (.cells (madeCells #[.int .i64 0, .int .i64 0, .int .i64 0] (l.length * 3)) 86)) := fun w => by
    have := run_make (P := Tryz.prog) w 30 86 i0 (.agg #[.int .i64 0, .int .i64 0, .int .i64 0]) Tryz.underlying30 hi hz0 .i64 .i64 l.length l.length (by omega) (Int.le_refl _) (by rw [hz2]; omega) (by omega)
    simpa [hz1, Value.cells] using this
  obtain ⟨a, cap, rfl, hk⟩ := h
  clear hi hz0 hz1 hz2
  go_enter Tryz.func33, Tryz.ntmps33
  go_wp2_with fail
  go_loopw [4] (fun i wr => ∃ (k : Nat) (cs : Array Value), k ≤ l.length ∧ i = .int .i64 k ∧ Hid (wr.heap[w.heap.size]? = some (.cells cs 86 (0, 0))) ∧ cs.size = l.length * 3 ∧ Hid (∀ j, j < k → cs[j * 3]? = some (.int .i64 (l[j]?.getD holdNil).session) ∧ cs[j * 3 + 1]? = some (.int .i64 (l[j]?.getD holdNil).node) ∧ cs[j * 3 + 2]? = some (.int .i64 (l[j]?.getD holdNil).mode)) ∧ Below w.heap.size w wr) (fun i _ => l.length - (intOf i).toNat)
  case atStart => exact ⟨0, _, Nat.zero_le _, rfl, alloc_new w _, size_madeCells _ _, fun j hj => by omega, (Below.refl _ _).alloc (Nat.le_refl _) _⟩
  case round =>
    obtain ⟨k, cs, hkl, rfl, hh, hcs, hall, hbr⟩ := hrel
    have hlt2 : w.heap.size < wr.heap.size := (Array.getElem?_eq_some_iff.1 hh.out).1
    by_cases hlt : k < l.length
    · obtain ⟨b, off, rfl, hb, hc⟩ := hk.resolve_left (by intro e; simp [e] at hlt)
      have hA := (hc k hlt).below hb (hbr.mono hn)
      have g0 := hA.c0
      have g1 := hA.c1
      have g2 := hA.c2
      have HCall := hide (fun wx => toHold_any (l[k]?.getD holdNil) wx)
      have hbw : b < wr.heap.size := by omega
      clear hA hc hk
      generalize hx : l[k]?.getD holdNil = x at *
      have HX := hide hx
      clear hx
      go_wp2_with fail
      refine (HCall.out _).mono ?_
      rintro e w1 ⟨rfl, hb1⟩
      have hh1 : w1.heap[w.heap.size]? = some (.cells cs 86 (0, 0)) := (hb1.block _ hlt2).trans hh.out
      have hf1 : ∀ j, w1.frozen? ⟨w.heap.size, j, none⟩ = false := fun j => frozen_of_heap hh1 j
      have hc1 : ∀ j, j < cs.size → ∃ u, w1.cell? ⟨w.heap.size, j, none⟩ = some u := fun j hj => by rw [cell_of_heap hh1]; exact ⟨cs[j], by simp [hj]⟩
      obtain ⟨o0, p0⟩ := hc1 (k * 3) (by omega)
      obtain ⟨o1, p1⟩ := hc1 (k * 3 + 1) (by omega)
      obtain ⟨o2, p2⟩ := hc1 (k * 3 + 2) (by omega)
      clear hc1 HCall
      obtain ⟨q1, q2⟩ := three_world w1 w.heap.size (k * 3) (.int .i64 x.session) (.int .i64 x.node) (.int .i64 x.mode) hh1
      have HQ1 := hide q1
      have HB5 : Hid (Below w.heap.size w (((w1.setCell ⟨w.heap.size, k * 3, none⟩ (.int .i64 x.session)).setCell ⟨w.heap.size, k * 3 + 1, none⟩ (.int .i64 x.node)).setCell ⟨w.heap.size, k * 3 + 2, none⟩ (.int .i64 x.mode))) :=
        (((hbr.trans (hb1.mono (by omega))).setCell (p := ⟨w.heap.size, k * 3, none⟩) (Nat.le_refl _) _).setCell (p := ⟨w.heap.size, k * 3 + 1, none⟩) (Nat.le_refl _) _).setCell (p := ⟨w.heap.size, k * 3 + 2, none⟩) (Nat.le_refl _) _
      have HAll2 : Hid (∀ j, j < k + 1 → (((cs.setIfInBounds (k * 3) (.int .i64 x.session)).setIfInBounds (k * 3 + 1) (.int .i64 x.node)).setIfInBounds (k * 3 + 2) (.int .i64 x.mode))[j * 3]? = some (.int .i64 (l[j]?.getD holdNil).session) ∧ (((cs.setIfInBounds (k * 3) (.int .i64 x.session)).setIfInBounds (k * 3 + 1) (.int .i64 x.node)).setIfInBounds (k * 3 + 2) (.int .i64 x.mode))[j * 3 + 1]? = some (.int .i64 (l[j]?.getD holdNil).node) ∧ (((cs.setIfInBounds (k * 3) (.int .i64 x.session)).setIfInBounds (k * 3 + 1) (.int .i64 x.node)).setIfInBounds (k * 3 + 2) (.int .i64 x.mode))[j * 3 + 2]? = some (.int .i64 (l[j]?.getD holdNil).mode)) := by
        intro j hj
        obtain ⟨f1, f2⟩ := @set_three cs k j (.int .i64 x.session) (.int .i64 x.node) (.int .i64 x.mode) (by omega)
        by_cases e : j = k
        · have a := f1 e
          rw [e, HX.out] at *
          exact a
        · obtain ⟨b0, b1, b2⟩ := hall.out j (by omega)
          have g := f2 e
          have g00 := g 0 (by omega)
          rw [Nat.add_zero] at g00
          exact ⟨g00.trans b0, (g 1 (by omega)).trans b1, (g 2 (by omega)).trans b2⟩
      have hsz5 : (((cs.setIfInBounds (k * 3) (.int .i64 x.session)).setIfInBounds (k * 3 + 1) (.int .i64 x.node)).setIfInBounds (k * 3 + 2) (.int .i64 x.mode)).size = l.length * 3 := by simp [hcs]
      have HSz := hide hsz5
      clear q1 q2 hsz5 hall hh hh1
      go_wp2_with fail
      exact ⟨⟨k + 1, _, by omega, by go_num, HQ1, HSz.out, HAll2, HB5.out⟩, by simp [intOf]; omega⟩
    · clear hk
      go_wp2_with fail
      go_ret
      exact ⟨_, rfl, ⟨w.heap.size, l.length, cs, rfl, Nat.le_refl _, Nat.le_refl _, hlt2, hh.out, fun j hj => hall.out j (by omega)⟩, hbr⟩

set_option maxHeartbeats 400000 in
theorem eqHold_any (x : PHold) (w : World) :
    Calls Tryz.prog 61 #[holdVal x, holdVal x] w fun e w' => e = .returned (.bool true) ∧ Below w.heap.size w w' := by
  go_enter Tryz.func61, Tryz.ntmps61
  go_wp2_with fail
  go_ret
  exact ⟨rfl, ((Below.refl _ _).alloc (Nat.le_refl _) _).alloc (by simp) _⟩

set_option maxHeartbeats 1000000 in
set_option maxRecDepth 100000 in
theorem eqHolds_any (n₀ : Nat) (v v' : Value) (l : List PHold) (w : World) (h : HoldsAt n₀ w v l) (h' : HoldsAt n₀ w v' l) (hn : n₀ ≤ w.heap.size) (hl : l.length ≤ 1048576) :
    Calls Tryz.prog 37 #[v, v'] w fun e w' => e = .returned (.bool true) ∧ Below w.heap.size w w' := by
  obtain ⟨a, cap, rfl, hk⟩ := h
  obtain ⟨a', cap', rfl, hk'⟩ := h'
  go_enter Tryz.func37, Tryz.ntmps37
  go_wp2_with fail
  go_loopw [5] (fun i wr => ∃ k : Nat, k ≤ l.length ∧ i = .int .i64 k ∧ Below w.heap.size w wr) (fun i _ => l.length - (intOf i).toNat)
  case atStart => exact ⟨0, Nat.zero_le _, rfl, Below.refl _ _⟩
  case round =>
    obtain ⟨k, hkl, rfl, hbr⟩ := hrel
    have hsz := hbr.size
    by_cases hlt : k < l.length
    · obtain ⟨b, off, rfl, hb, hc⟩ := hk.resolve_left (by intro e; simp [e] at hlt)
      obtain ⟨b', off', rfl, hb', hc'⟩ := hk'.resolve_left (by intro e; simp [e] at hlt)
      have hA := (hc k hlt).below hb (hbr.mono hn)
      have hA' := (hc' k hlt).below hb' (hbr.mono hn)
      have g0 := hA.c0
      have g1 := hA.c1
      have g2 := hA.c2
      have f0 := hA'.c0
      have f1 := hA'.c1
      have f2 := hA'.c2
      have hlt1 : (k : Int) < (l.length : Int) := by omega
      have hbw : b < wr.heap.size := by omega
      have hbw' : b' < wr.heap.size := by omega
      have hcal := calm_cell wr
      have HE : Hid (∀ t : Calm wr, Calls Tryz.prog 61 #[holdVal (l[k]?.getD holdNil), holdVal (l[k]?.getD holdNil)] t.out fun e w' => e = .returned (.bool true) ∧ Below t.out.heap.size t.out w') := fun t => eqHold_any _ t.out
      clear hA hA' hc hc' hk hk'
      generalize l[k]?.getD holdNil = x at *
      go_wp2_with fail
      refine wp_region_calm (by kernel_rfl) (by kernel_rfl) ?_
      repeat (go_big_quiet_step ((go_at_call 61; exact calm_of (HE.out _))))
      refine wpQuiet_nil ?_
      rintro _ ⟨t, rfl⟩
      have ht := t.below
      go_wp2_with fail
      exact ⟨⟨k + 1, by omega, by go_num, hbr.trans (ht.mono hsz)⟩, by simp [intOf]; omega⟩
    · clear hk hk'
      go_wp2_with fail
      go_ret
      exact ⟨rfl, hbr⟩

set_option maxHeartbeats 400000 in
theorem szHolds_any (a : Option Addr) (n cap : Nat) (c : Int) (w : World) (h0 : 0 ≤ c) (h1 : c ≤ 1048576) (hl : n ≤ 9223372036854775807) :
    Calls Tryz.prog 25 #[.slice a n cap, .int .i64 c] w fun e w' => ∃ r, e = .returned (.int .i64 r) ∧ -1 ≤ r ∧ r ≤ c ∧ (0 ≤ r → n ≤ 1048576) ∧ w' = w := by
  by_cases h : c - n < 0
  · go_enter Tryz.func25, Tryz.ntmps25
    go_wp2
    go_ret
    exact ⟨_, rfl, by omega, by omega, by omega, rfl⟩
  · go_enter Tryz.func25, Tryz.ntmps25
    go_wp2
    go_ret
    exact ⟨_, rfl, by omega, by omega, by omega, rfl⟩
end Go.Proofs.YtfjhpfgffbghdaaGreatDoor

namespace Go.Proofs.YtfjhpfgffbghdaaGreatDoor
open Go.RowKit

structure PTab where
  holds : List PHold
  waits : List PHold

/-- The value is a table, its lists in blocks below n₀. -/
def TabAt (n₀ : Nat) (w : World) (v : Value) (t : PTab) : Prop :=
  ∃ a b, v = .agg #[a, b] ∧ HoldsAt n₀ w a t.holds ∧ HoldsAt n₀ w b t.waits

theorem TabAt.below {n₀ n₁ : Nat} {w w' : World} {v : Value} {t : PTab} (h : TabAt n₀ w v t) (hn : n₀ ≤ n₁) (hb : Below n₀ w w') : TabAt n₁ w' v t := by
  obtain ⟨a, b, rfl, h1, h2⟩ := h
  exact ⟨a, b, rfl, h1.below hn hb, h2.below hn hb⟩
theorem TabAt.wide {n₀ n₁ : Nat} {w : World} {v : Value} {t : PTab} (h : TabAt n₀ w v t) (hn : n₀ ≤ n₁) : TabAt n₁ w v t := h.below hn (Below.refl _ _)
theorem TabAt.form {n₀ : Nat} {w : World} {v : Value} {t : PTab} (h : TabAt n₀ w v t) : ∃ a c b e, v = .agg #[.slice a t.holds.length c, .slice b t.waits.length e] := by
  obtain ⟨a, b, rfl, h1, h2⟩ := h
  obtain ⟨a1, c1, rfl⟩ := h1.form
  obtain ⟨a2, c2, rfl⟩ := h2.form
  exact ⟨a1, c1, a2, c2, rfl⟩
theorem TabAt.parts {n₀ : Nat} {w : World} {a b : Value} {t : PTab} (h : TabAt n₀ w (.agg #[a, b]) t) : HoldsAt n₀ w a t.holds ∧ HoldsAt n₀ w b t.waits := by
  obtain ⟨a1, b1, e, h1, h2⟩ := h
  simp only [Value.agg.injEq, Array.mk.injEq, List.cons.injEq, and_true] at e
  obtain ⟨rfl, rfl⟩ := e
  exact ⟨h1, h2⟩

/-- The value is a table in memory of its own. -/
def TabOwn (lo hi : Nat) (w : World) (v : Value) (t : PTab) : Prop :=
  ∃ a b, v = .agg #[a, b] ∧ HoldsOwn lo hi w a t.holds ∧ HoldsOwn lo hi w b t.waits

theorem TabOwn.at {lo hi : Nat} {w : World} {v : Value} {t : PTab} (h : TabOwn lo hi w v t) : TabAt hi w v t := by
  obtain ⟨a, b, rfl, h1, h2⟩ := h
  exact ⟨a, b, rfl, h1.at, h2.at⟩
theorem TabOwn.below {lo hi : Nat} {w w' : World} {v : Value} {t : PTab} (h : TabOwn lo hi w v t) (hb : Below hi w w') : TabOwn lo hi w' v t := by
  obtain ⟨a, b, rfl, h1, h2⟩ := h
  exact ⟨a, b, rfl, h1.below hb, h2.below hb⟩

/-- Small enough for the laws. -/
def SmallT (t : PTab) : Prop := t.holds.length ≤ 1048576 ∧ t.waits.length ≤ 1048576
def FitsT (t : PTab) : Prop := t.holds.length ≤ 9223372036854775807 ∧ t.waits.length ≤ 9223372036854775807

set_option maxHeartbeats 1000000 in
set_option maxRecDepth 100000 in
theorem toTable_any (n₀ : Nat) (v : Value) (t : PTab) (w : World) (h : TabAt n₀ w v t) (hn : n₀ ≤ w.heap.size) (S : SmallT t) :
    Calls Tryz.prog 10 #[v] w fun e w' => ∃ u, e = .returned u ∧ TabOwn w.heap.size w'.heap.size w' u t ∧ Below w.heap.size w w' := by
  obtain ⟨v1, v2, rfl, h1, h2⟩ := h
  have HT1 : Hid (∀ wx, Below w.heap.size w wx → Calls Tryz.prog 33 #[v1] wx fun e w' => ∃ u, e = .returned u ∧ HoldsOwn wx.heap.size w'.heap.size w' u t.holds ∧ Below wx.heap.size wx w') := fun wx hb =>
    toHolds_any n₀ v1 t.holds wx (h1.below (Nat.le_refl _) (hb.mono hn)) (by have := hb.size; omega) S.1
  have HT2 : Hid (∀ wx, Below w.heap.size w wx → Calls Tryz.prog 33 #[v2] wx fun e w' => ∃ u, e = .returned u ∧ HoldsOwn wx.heap.size w'.heap.size w' u t.waits ∧ Below wx.heap.size wx w') := fun wx hb =>
    toHolds_any n₀ v2 t.waits wx (h2.below (Nat.le_refl _) (hb.mono hn)) (by have := hb.size; omega) S.2
  obtain ⟨a1, c1, rfl⟩ := h1.form
  obtain ⟨a2, c2, rfl⟩ := h2.form
  clear S h1 h2
  obtain ⟨W0, hW0⟩ : ∃ W0, W0 = ((w.alloc (.cells #[.slice a1 t.holds.length c1, .slice a2 t.waits.length c2] 27)).alloc (.cells #[.slice none 0 0, .slice none 0 0] 32)).alloc (.cells #[.slice none 0 0, .slice none 0 0] 32) := ⟨_, rfl⟩
  have hw0 : Below w.heap.size w W0 := by rw [hW0]; exact (((Below.refl w.heap.size w).alloc (Nat.le_refl _) _).alloc (by simp) _).alloc (by simp; omega) _
  have hs0 : W0.heap.size = w.heap.size + 1 + 1 + 1 := by rw [hW0]; simp
  have hh0 : W0.heap[w.heap.size]? = some (.cells #[.slice a1 t.holds.length c1, .slice a2 t.waits.length c2] 27 (0, 0)) := by
    rw [hW0, Below.heap_alloc _ _ _ (by simp; omega), Below.heap_alloc _ _ _ (by simp)]; exact alloc_new w _
  have hh1 : W0.heap[w.heap.size + 1]? = some (.cells #[.slice none 0 0, .slice none 0 0] 32 (0, 0)) := by
    rw [hW0, Below.heap_alloc _ _ _ (by simp)]
    have := alloc_new (w.alloc (.cells #[.slice a1 t.holds.length c1, .slice a2 t.waits.length c2] 27)) (.cells #[.slice none 0 0, .slice none 0 0] 32)
    simpa using this
  have hh2 : W0.heap[w.heap.size + 1 + 1]? = some (.cells #[.slice none 0 0, .slice none 0 0] 32 (0, 0)) := by
    rw [hW0]
    have := alloc_new ((w.alloc (.cells #[.slice a1 t.holds.length c1, .slice a2 t.waits.length c2] 27)).alloc (.cells #[.slice none 0 0, .slice none 0 0] 32)) (.cells #[.slice none 0 0, .slice none 0 0] 32)
    simpa using this
  have HW0 := hide hw0
  have hT1 := HT1.out W0 hw0
  have HT1' := hide hT1
  clear hw0 HT1 hT1
  go_enter Tryz.func10, Tryz.ntmps10
  go_wp2_with fail
  rw [← hW0]
  clear hW0
  refine HT1'.out.mono ?_
  rintro e w1 ⟨u1, rfl, ho1, hb1⟩
  have hs1 := hb1.size
  have j0 := (hb1.block w.heap.size (by omega)).trans hh0
  have j1 := (hb1.block (w.heap.size + 1) (by omega)).trans hh1
  have j2 := (hb1.block (w.heap.size + 1 + 1) (by omega)).trans hh2
  have x0 := cell_of_heap j0 0
  have x1 := cell_of_heap j0 1
  have z0 := cell_of_heap j2 0
  have z1 := cell_of_heap j2 1
  simp only [List.getElem?_toArray, List.getElem?_cons_succ, List.getElem?_cons_zero] at x0 x1 z0 z1
  have hf2 : ∀ j, w1.frozen? ⟨w.heap.size + 1 + 1, j, none⟩ = false := fun j => frozen_of_heap j2 j
  have hz : w.heap.size < w1.heap.size := by omega
  have hz2 : w.heap.size + 1 + 1 < w1.heap.size := by omega
  obtain ⟨W1, hW1⟩ : ∃ W1, W1 = w1.setCell ⟨w.heap.size + 1 + 1, 0, none⟩ u1 := ⟨_, rfl⟩
  have hb1w := (HW0.out.trans (hb1.mono (by omega))).setCell (p := ⟨w.heap.size + 1 + 1, 0, none⟩) (by simp; omega) u1
  rw [← hW1] at hb1w
  have HT2' := hide (HT2.out W1 hb1w)
  have HB1 := hide hb1w
  have k0 : W1.heap[w.heap.size]? = some (.cells #[.slice a1 t.holds.length c1, .slice a2 t.waits.length c2] 27 (0, 0)) := by rw [hW1, heap_setCell_other _ _ _ _ (by simp; omega)]; exact j0
  have k1 : W1.heap[w.heap.size + 1]? = some (.cells #[.slice none 0 0, .slice none 0 0] 32 (0, 0)) := by rw [hW1, heap_setCell_other _ _ _ _ (by simp)]; exact j1
  have k2 : W1.heap[w.heap.size + 1 + 1]? = some (.cells #[u1, .slice none 0 0] 32 (0, 0)) := by rw [hW1, heap_setCell_same _ _ _ _ _ _ j2]; rfl
  have hsW : W1.heap.size = w1.heap.size := by rw [hW1]; simp
  have HO1 : Hid (HoldsOwn W0.heap.size W1.heap.size W1 u1 t.holds) := ho1.heap (Nat.le_refl _) (by omega) (fun b h1 _ => by rw [hW1, heap_setCell_other _ _ _ _ (by simp; omega)])
  have y0 := cell_of_heap k0 1
  simp only [List.getElem?_toArray, List.getElem?_cons_succ, List.getElem?_cons_zero] at y0
  have hzW : w.heap.size < W1.heap.size := by omega
  have HU1 := hide ho1.form
  obtain ⟨ua1, uc1, rfl⟩ := ho1.form
  clear HT2 hb1w ho1 j0 j1 j2
  go_wp2_with fail
  rw [← hW1]
  clear hW1
  refine HT2'.out.mono ?_
  rintro e w2 ⟨u2, rfl, ho2, hb2⟩
  have hs2 := hb2.size
  have m1 := (hb2.block (w.heap.size + 1) (by omega)).trans k1
  have m2 := (hb2.block (w.heap.size + 1 + 1) (by omega)).trans k2
  have n0 := cell_of_heap m1 0
  have n1 := cell_of_heap m1 1
  have n2 := cell_of_heap m2 0
  have n3 := cell_of_heap m2 1
  simp only [List.getElem?_toArray, List.getElem?_cons_succ, List.getElem?_cons_zero] at n0 n1 n2 n3
  have hg1 : ∀ j, w2.frozen? ⟨w.heap.size + 1, j, none⟩ = false := fun j => frozen_of_heap m1 j
  have hg2 : ∀ j, w2.frozen? ⟨w.heap.size + 1 + 1, j, none⟩ = false := fun j => frozen_of_heap m2 j
  have hz3 : w.heap.size + 1 < w2.heap.size := by omega
  have hz4 : w.heap.size + 1 + 1 < w2.heap.size := by omega
  obtain ⟨ua2, uc2, rfl⟩ := ho2.form
  have HO2 := hide ho2
  have HO1' := hide (HO1.out.below hb2)
  have HEnd : Hid (∀ w3 : World, (∀ k, w.heap.size + 1 + 1 < k → w3.heap[k]? = w2.heap[k]?) → w3.heap.size = w2.heap.size → TabOwn w.heap.size w3.heap.size w3 (.agg #[.slice ua1 t.holds.length uc1, .slice ua2 t.waits.length uc2]) t) := fun w3 h3 hs3 =>
    ⟨_, _, rfl, HO1'.out.heap (by omega) (by omega) (fun b h4 _ => h3 b (by omega)), HO2.out.heap (by omega) (by omega) (fun b h4 _ => h3 b (by omega))⟩
  have hbw := HB1.out.trans (hb2.mono (by omega))
  clear ho2 m1 m2 k0 k1 k2 hh0 hh1 hh2 HU1 HO1 HO2 HT2'
  go_wp2_with fail
  refine bodyPost_ret (v := .agg #[.slice ua1 t.holds.length uc1, .slice ua2 t.waits.length uc2]) (by simp [results, Tryz.results10, go_sem, n0, n1]) rfl ⟨_, rfl, HEnd.out _ ?_ (by simp), ?_⟩
  · intro k hk
    iterate 3 rw [heap_setCell_other _ _ _ _ (by show k ≠ _; simp; omega)]
  · exact ((hbw.setCell (p := ⟨w.heap.size + 1 + 1, 1, none⟩) (by simp; omega) _).setCell (p := ⟨w.heap.size + 1, 0, none⟩) (by simp) _).setCell (p := ⟨w.heap.size + 1, 1, none⟩) (by simp) _
end Go.Proofs.YtfjhpfgffbghdaaGreatDoor

namespace Go.Proofs.YtfjhpfgffbghdaaGreatDoor

def sessOf (W : List PHold) : List Int := W.map fun x => x.session

/-- A wait is right where it stands: a hold, and of a session that has none ahead of it. -/
def WaitAt (d : PDoc) (W : List PHold) (i : Nat) : Prop := HoldP d (W[i]?.getD holdNil) ∧ (W[i]?.getD holdNil).session ∉ sessOf (W.take i)

structure WaitsP (d : PDoc) (W : List PHold) : Prop where
  len : W.length ≤ 6
  ok : ∀ i, i < W.length → WaitAt d W i

structure TabP (d : PDoc) (t : PTab) : Prop where
  locks : LocksP d t.holds
  waits : WaitsP d t.waits

theorem sessOf_take {W : List PHold} {k : Nat} (hk : k < W.length) : sessOf (W.take (k + 1)) = sessOf (W.take k) ++ [(W[k]?.getD holdNil).session] := by
  unfold sessOf
  rw [List.take_succ_eq_append_getElem hk, List.map_append, List.getElem?_eq_getElem hk, Option.getD_some]; rfl

theorem mem_sess {W : List PHold} {k : Nat} {s : Int} (hk : k ≤ W.length) : s ∈ sessOf (W.take k) ↔ ∃ i, i < k ∧ (W[i]?.getD holdNil).session = s := by
  unfold sessOf
  rw [List.mem_map]
  constructor
  · rintro ⟨x, hx, rfl⟩
    obtain ⟨i, hi, rfl⟩ := List.getElem_of_mem hx
    rw [List.length_take] at hi
    refine ⟨i, by omega, ?_⟩
    rw [List.getElem_take, List.getElem?_eq_getElem (by omega), Option.getD_some]
  · rintro ⟨i, hi, rfl⟩
    refine ⟨W[i]?.getD holdNil, ?_, rfl⟩
    rw [List.getElem?_eq_getElem (by omega), Option.getD_some]
    exact List.mem_take_iff_getElem.2 ⟨i, by omega, rfl⟩
end Go.Proofs.YtfjhpfgffbghdaaGreatDoor

namespace Go.Proofs.YtfjhpfgffbghdaaGreatDoor

/-- Those before the place are less, the others are not. -/
def PlaceP (L : List PHold) (t : PHold) (p : Nat) : Prop := p ≤ L.length ∧ (∀ j, j < p → lessB (L[j]?.getD holdNil) t = true) ∧ (∀ j, p ≤ j → j < L.length → lessB (L[j]?.getD holdNil) t = false)

def SortedH (L : List PHold) : Prop := ∀ i j, i < j → j < L.length → lessB (L[i]?.getD holdNil) (L[j]?.getD holdNil) = true

theorem SortedH.before {L : List PHold} (h : SortedH L) {t : PHold} {k : Nat} (hk : k < L.length) (hl : lessB (L[k]?.getD holdNil) t = true) : ∀ j, j < k + 1 → lessB (L[j]?.getD holdNil) t = true := fun j hj => by
  by_cases e : j = k
  · rw [e]; exact hl
  · exact lessB_trans (h j k (by omega) hk) hl

theorem SortedH.behind {L : List PHold} (h : SortedH L) {t : PHold} {k : Nat} (hl : lessB (L[k]?.getD holdNil) t = false) : ∀ j, k ≤ j → j < L.length → lessB (L[j]?.getD holdNil) t = false := fun j hj hlt => by
  by_cases e : j = k
  · rw [e]; exact hl
  · cases hb : lessB (L[j]?.getD holdNil) t with
    | false => rfl
    | true =>
      have := lessB_trans (h k j (by omega) hlt) hb
      rw [hl] at this; cases this

theorem lessB_no {x y : PHold} {s i : Int} (h : lessB x y = true) (hy : isAt s i y = true) : isAt s i x = false := by
  cases hx : isAt s i x with
  | false => rfl
  | true =>
    obtain ⟨a, b⟩ := isAt_iff.1 hx
    obtain ⟨c, d⟩ := isAt_iff.1 hy
    rw [lessB_iff] at h
    omega

theorem lessB_no' {x y : PHold} {s i : Int} (h : lessB x y = true) (hx : isAt s i x = true) : isAt s i y = false := by
  cases hy : isAt s i y with
  | false => rfl
  | true => rw [lessB_no h hy] at hx; cases hx

/-- One round of laying a lock into a list: whether it has been laid, and the list so far. -/
def putStep (h : PHold) (s : Bool × List PHold) (x : PHold) : Bool × List PHold :=
  (s.1 || !lessB x h, (if s.1 = false ∧ lessB x h = false then s.2 ++ [h] else s.2) ++ if isAt h.session h.node x = true then [] else [x])
def putRun (h : PHold) (L : List PHold) : Bool × List PHold := L.foldl (putStep h) (false, [])
/-- The lock that is laid: joined with what its session has there. -/
def putKey (L : List PHold) (h : PHold) : PHold := ⟨h.session, h.node, joinI h.mode (ownI L h.session h.node)⟩
def putFin (k : PHold) (s : Bool × List PHold) : List PHold := if s.1 = true then s.2 else s.2 ++ [k]
def putL (L : List PHold) (h : PHold) : List PHold := putFin (putKey L h) (putRun (putKey L h) L)

theorem putRun_snoc (h : PHold) {L : List PHold} {k : Nat} (hk : k < L.length) : putRun h (L.take (k + 1)) = putStep h (putRun h (L.take k)) (L[k]?.getD holdNil) := by
  rw [List.getElem?_eq_getElem hk, Option.getD_some, List.take_succ_eq_append_getElem hk, putRun, List.foldl_append]; rfl

theorem putStep_len (h : PHold) (s : Bool × List PHold) (x : PHold) : (putStep h s x).2.length ≤ s.2.length + 2 := by
  unfold putStep; simp only [List.length_append]; split <;> split <;> simp
theorem putRun_len (h : PHold) : ∀ (L : List PHold) (k : Nat), k ≤ L.length → (putRun h (L.take k)).2.length ≤ k * 2
  | _, 0, _ => by simp [putRun]
  | L, k + 1, hk => by
    rw [putRun_snoc h (by omega)]
    have h1 := putStep_len h (putRun h (L.take k)) (L[k]?.getD holdNil)
    have h2 := putRun_len h L k (by omega)
    omega

theorem fold_less (h : PHold) : ∀ (l o : List PHold), (∀ x ∈ l, lessB x h = true) → l.foldl (putStep h) (false, o) = (false, o ++ l)
  | [], _, _ => by simp
  | x :: l, o, hl => by
    have h1 := hl x List.mem_cons_self
    have h2 : isAt h.session h.node x = false := lessB_no h1 (isAt_iff.2 ⟨rfl, rfl⟩)
    rw [List.foldl_cons]
    have : putStep h (false, o) x = (false, o ++ [x]) := by simp [putStep, h1, h2]
    rw [this, fold_less h l _ (fun y hy => hl y (List.mem_cons_of_mem _ hy))]
    simp

theorem fold_rest (h : PHold) : ∀ (l o : List PHold), (∀ x ∈ l, isAt h.session h.node x = false) → l.foldl (putStep h) (true, o) = (true, o ++ l)
  | [], _, _ => by simp
  | x :: l, o, hl => by
    have h2 := hl x List.mem_cons_self
    rw [List.foldl_cons]
    have : putStep h (true, o) x = (true, o ++ [x]) := by simp [putStep, h2]
    rw [this, fold_rest h l _ (fun y hy => hl y (List.mem_cons_of_mem _ hy))]
    simp

theorem mem_at {L : List PHold} {x : PHold} (h : x ∈ L) : ∃ j, j < L.length ∧ L[j]?.getD holdNil = x := by
  obtain ⟨j, hj, rfl⟩ := List.getElem_of_mem h
  exact ⟨j, hj, by rw [List.getElem?_eq_getElem hj, Option.getD_some]⟩

theorem put_end {L : List PHold} {t : PHold} (hP : PlaceP L t L.length) : putFin t (putRun t L) = L ++ [t] := by
  unfold putRun
  rw [fold_less t L [] (fun x hx => by obtain ⟨j, hj, rfl⟩ := mem_at hx; exact hP.2.1 j hj)]
  simp [putFin]

theorem put_mid {L : List PHold} {t : PHold} {p : Nat} (hs : SortedH L) (hP : PlaceP L t p) (hp : p < L.length) :
    putFin t (putRun t L) = L.take p ++ t :: (if isAt t.session t.node (L[p]?.getD holdNil) = true then [] else [L[p]?.getD holdNil]) ++ L.drop (p + 1) := by
  have e : L = L.take p ++ (L[p]?.getD holdNil :: L.drop (p + 1)) := by
    rw [List.getElem?_eq_getElem hp, Option.getD_some, ← List.drop_eq_getElem_cons hp, List.take_append_drop]
  have hno := hP.2.2 p (Nat.le_refl _) hp
  have hrest : ∀ x ∈ L.drop (p + 1), isAt t.session t.node x = false := fun x hx => by
    obtain ⟨j, hj, rfl⟩ := List.getElem_of_mem hx
    rw [List.length_drop] at hj
    have h1 := hs p (p + 1 + j) (by omega) (by omega)
    rw [List.getElem_drop]
    rw [List.getElem?_eq_getElem (i := p + 1 + j) (by omega), Option.getD_some] at h1
    cases hat : isAt t.session t.node L[p + 1 + j] with
    | false => rfl
    | true =>
      obtain ⟨a, b⟩ := isAt_iff.1 hat
      rw [lessB_iff, a, b, ← lessB_iff] at h1
      rw [hno] at h1; cases h1
  have hless : ∀ x ∈ L.take p, lessB x t = true := fun x hx => by
    obtain ⟨j, hj, rfl⟩ := List.getElem_of_mem hx
    rw [List.length_take] at hj
    have := hP.2.1 j (by omega)
    rw [List.getElem?_eq_getElem (by omega), Option.getD_some] at this
    rw [List.getElem_take]; exact this
  have hrun : putRun t L = (L.take p ++ (L[p]?.getD holdNil :: L.drop (p + 1))).foldl (putStep t) (false, []) := by rw [← e]; rfl
  rw [hrun, List.foldl_append, fold_less t _ [] hless, List.foldl_cons]
  have hst : putStep t (false, [] ++ L.take p) (L[p]?.getD holdNil) = (true, (L.take p ++ [t]) ++ if isAt t.session t.node (L[p]?.getD holdNil) = true then [] else [L[p]?.getD holdNil]) := by simp [putStep, hno]
  rw [hst, fold_rest t _ _ hrest]
  simp [putFin]

/-- A session has a lock on a node. -/
def HasAt (L : List PHold) (s i : Int) : Prop := ∃ x ∈ L, isAt s i x = true

theorem at_memH {L : List PHold} {k : Nat} (h : k < L.length) : L[k]?.getD holdNil ∈ L := by
  rw [List.getElem?_eq_getElem h, Option.getD_some]; exact List.getElem_mem _

theorem place_has {L : List PHold} {s i : Int} {p : Nat} (hs : SortedH L) (hP : PlaceP L ⟨s, i, 0⟩ p) : (p < L.length ∧ isAt s i (L[p]?.getD holdNil) = true) ↔ HasAt L s i := by
  constructor
  · rintro ⟨h1, h2⟩; exact ⟨_, at_memH h1, h2⟩
  · rintro ⟨x, hx, hat⟩
    obtain ⟨h1, h2, h3⟩ := hP
    obtain ⟨j, hj, hjx⟩ := mem_at hx
    obtain ⟨ha, hb⟩ := isAt_iff.1 hat
    have hpj : p ≤ j := by
      rcases Nat.lt_or_ge j p with h | h
      · have := h2 j h
        rw [hjx, lessB_iff] at this
        simp only at this
        omega
      · exact h
    have hpl : p < L.length := by omega
    refine ⟨hpl, Decidable.byContradiction fun hno => ?_⟩
    have hne : p ≠ j := fun e => hno (by rw [e, hjx]; exact hat)
    have hl := hs p j (by omega) hj
    have h5 := h3 p (Nat.le_refl _) hpl
    rw [hjx, lessB_iff] at hl
    rw [← Bool.not_eq_true, lessB_iff] at h5
    rw [isAt_iff] at hno
    simp only at h5
    omega
end Go.Proofs.YtfjhpfgffbghdaaGreatDoor

namespace Go.Proofs.YtfjhpfgffbghdaaGreatDoor

def riseF (n : Int) (p : List Int × Bool) (x : Int) : List Int × Bool := if p.2 = false ∧ n < x then (p.1 ++ [n, x], true) else (p.1 ++ [x], p.2)
def riseP (l : List Int) (n : Int) : List Int × Bool := l.foldl (riseF n) ([], false)
def riseL (l : List Int) (n : Int) : List Int := if (riseP l n).2 then (riseP l n).1 else (riseP l n).1 ++ [n]

theorem riseP_snoc (l : List Int) (x n : Int) : riseP (l ++ [x]) n = riseF n (riseP l n) x := by simp [riseP]
theorem riseP_take {l : List Int} {k : Nat} (h : k < l.length) (n : Int) : riseP (l.take (k + 1)) n = riseF n (riseP (l.take k) n) (l[k]?.getD 0) := by
  rw [List.take_succ_eq_append_getElem h, riseP_snoc, List.getElem?_eq_getElem h, Option.getD_some]

structure RiseI (l : List Int) (n : Int) (p : List Int × Bool) : Prop where
  no : p.2 = false → p.1 = l ∧ ∀ x ∈ l, ¬ n < x
  yes : p.2 = true → p.1.length = l.length + 1 ∧ (∃ y ∈ l, n < y) ∧ (∀ i, i ∈ p.1 ↔ i = n ∨ i ∈ l) ∧ (l.Pairwise (· < ·) → n ∉ l → p.1.Pairwise (· < ·))

theorem rise_inv (n : Int) : ∀ m (l : List Int), l.length = m → RiseI l n (riseP l n) := by
  intro m
  induction m with
  | zero =>
    intro l h
    obtain rfl : l = [] := List.length_eq_zero_iff.1 h
    exact ⟨fun _ => ⟨rfl, by simp⟩, fun h => by simp [riseP] at h⟩
  | succ m ih =>
    intro l h
    rcases List.eq_nil_or_concat l with rfl | ⟨l, x, rfl⟩
    · simp at h
    rw [List.concat_eq_append] at h ⊢
    obtain ⟨h1, h2⟩ := ih l (by simpa using h)
    rw [riseP_snoc]
    unfold riseF
    by_cases hd : (riseP l n).2 = true
    · obtain ⟨e1, ⟨y, hy, hny⟩, e3, e4⟩ := h2 hd
      rw [if_neg (by rw [hd]; simp)]
      refine ⟨fun h => (by rw [hd] at h; cases h), fun _ => ⟨by simp [e1], ⟨y, by simp [hy], hny⟩, fun i => by simp [e3, or_assoc], fun hp hn => ?_⟩⟩
      rw [List.pairwise_append] at hp ⊢
      obtain ⟨p1, -, p3⟩ := hp
      refine ⟨e4 p1 (fun h => hn (by simp [h])), List.pairwise_singleton _ _, fun a ha b hb => ?_⟩
      rw [List.mem_singleton] at hb
      subst hb
      rcases (e3 a).1 ha with rfl | ha
      · exact Int.lt_trans hny (p3 y hy b (by simp))
      · exact p3 a ha b (by simp)
    · have hd' : (riseP l n).2 = false := by simpa using hd
      obtain ⟨e1, e2⟩ := h1 hd'
      by_cases hx : n < x
      · rw [if_pos ⟨hd', hx⟩]
        refine ⟨fun h => (by cases h), fun _ => ⟨by simp [e1], ⟨x, by simp, hx⟩, fun i => ?_, fun hp hn => ?_⟩⟩
        · rw [e1]
          simp only [List.mem_append, List.mem_cons, List.not_mem_nil, or_false]
          constructor
          · rintro (h | h | h)
            · exact .inr (.inl h)
            · exact .inl h
            · exact .inr (.inr h)
          · rintro (h | h | h)
            · exact .inr (.inl h)
            · exact .inl h
            · exact .inr (.inr h)
        · rw [e1]
          rw [List.pairwise_append] at hp ⊢
          obtain ⟨p1, -, p3⟩ := hp
          refine ⟨p1, by simp [hx], fun a ha b hb => ?_⟩
          have h0 := p3 a ha x (by simp)
          have ha' := e2 a ha
          have hne : a ≠ n := fun e => hn (by simp [← e, ha])
          simp only [List.mem_cons, List.not_mem_nil, or_false] at hb
          rcases hb with rfl | rfl <;> omega
      · rw [if_neg (fun h => hx h.2)]
        refine ⟨fun _ => ⟨by simp [e1], fun y hy => ?_⟩, fun h => absurd h hd⟩
        rcases List.mem_append.1 hy with h | h
        · exact e2 y h
        · rw [List.mem_singleton] at h; subst h; exact hx

theorem riseL_len (l : List Int) (n : Int) : (riseL l n).length = l.length + 1 := by
  obtain ⟨h1, h2⟩ := rise_inv n _ l rfl
  unfold riseL
  cases hd : (riseP l n).2
  · simp [(h1 hd).1]
  · simp [(h2 hd).1]
theorem mem_riseL (l : List Int) (n i : Int) : i ∈ riseL l n ↔ i = n ∨ i ∈ l := by
  obtain ⟨h1, h2⟩ := rise_inv n _ l rfl
  unfold riseL
  cases hd : (riseP l n).2
  · simp [(h1 hd).1, or_comm]
  · simpa using (h2 hd).2.2.1 i
theorem riseL_rises {l : List Int} {n : Int} (hl : l.Pairwise (· < ·)) (hn : n ∉ l) : (riseL l n).Pairwise (· < ·) := by
  obtain ⟨h1, h2⟩ := rise_inv n _ l rfl
  unfold riseL
  cases hd : (riseP l n).2
  · have h := h1 hd
    rw [if_neg (by simp), h.1, List.pairwise_append]
    refine ⟨hl, List.pairwise_singleton _ _, fun a ha b hb => ?_⟩
    rw [List.mem_singleton] at hb
    subst hb
    have := h.2 a ha
    have hne : a ≠ b := fun e => hn (e ▸ ha)
    omega
  · rw [if_pos rfl]
    exact (h2 hd).2.2.2 hl hn
theorem riseL_wf {l : List Int} {n : Int} (P : Int → Prop) (hl : ∀ x ∈ l, P x) (hn : P n) : ∀ x ∈ riseL l n, P x := fun x hx => by
  rcases (mem_riseL l n x).1 hx with rfl | h
  · exact hn
  · exact hl x h

/-- Two rising lists of the same numbers are one. -/
theorem rises_one : ∀ {l l' : List Int}, l.Pairwise (· < ·) → l'.Pairwise (· < ·) → (∀ i, i ∈ l ↔ i ∈ l') → l = l'
  | [], [], _, _, _ => rfl
  | [], a :: _, _, _, h => absurd ((h a).2 List.mem_cons_self) (by simp)
  | a :: _, [], _, _, h => absurd ((h a).1 List.mem_cons_self) (by simp)
  | a :: l, b :: l', h1, h2, h => by
    rw [List.pairwise_cons] at h1 h2
    have hab : a = b := by
      rcases List.mem_cons.1 ((h a).1 List.mem_cons_self) with e | e
      · exact e
      rcases List.mem_cons.1 ((h b).2 List.mem_cons_self) with e' | e'
      · exact e'.symm
      have := h1.1 b e'
      have := h2.1 a e
      omega
    subst hab
    rw [rises_one h1.2 h2.2 fun i => ?_]
    constructor
    · intro hi
      rcases List.mem_cons.1 ((h i).1 (List.mem_cons_of_mem _ hi)) with e | e
      · subst e; exact absurd (h1.1 i hi) (by omega)
      · exact e
    · intro hi
      rcases List.mem_cons.1 ((h i).2 (List.mem_cons_of_mem _ hi)) with e | e
      · subst e; exact absurd (h2.1 i hi) (by omega)
      · exact e

/-- Who stands against a wait: of the waits ahead of it, the first k are asked. -/
noncomputable def blockL (d : PDoc) (L W : List PHold) (h : PHold) : Nat → List Int
  | 0 => confL d L h (sessP L)
  | k + 1 => by classical exact if RivalP d L h (W[k]?.getD holdNil) ∧ (W[k]?.getD holdNil).session ∉ blockL d L W h k then riseL (blockL d L W h k) (W[k]?.getD holdNil).session else blockL d L W h k

theorem blockL_yes {d : PDoc} {L W : List PHold} {h : PHold} {k : Nat} (h1 : RivalP d L h (W[k]?.getD holdNil)) (h2 : (W[k]?.getD holdNil).session ∉ blockL d L W h k) : blockL d L W h (k + 1) = riseL (blockL d L W h k) (W[k]?.getD holdNil).session := by
  rw [blockL]; exact if_pos ⟨h1, h2⟩
theorem blockL_no {d : PDoc} {L W : List PHold} {h : PHold} {k : Nat} (h1 : ¬ (RivalP d L h (W[k]?.getD holdNil) ∧ (W[k]?.getD holdNil).session ∉ blockL d L W h k)) : blockL d L W h (k + 1) = blockL d L W h k := by
  rw [blockL]; exact if_neg h1
theorem blockL_len (d : PDoc) (L W : List PHold) (h : PHold) : ∀ k, (blockL d L W h k).length ≤ L.length + k
  | 0 => by
    have h1 := confL_len d L h (sessP L)
    have h2 := sessP_len L
    rw [blockL]; omega
  | k + 1 => by
    have ih := blockL_len d L W h k
    by_cases hc : RivalP d L h (W[k]?.getD holdNil) ∧ (W[k]?.getD holdNil).session ∉ blockL d L W h k
    · rw [blockL_yes hc.1 hc.2, riseL_len]; omega
    · rw [blockL_no hc]; omega
theorem mem_blockL {d : PDoc} {L W : List PHold} {h : PHold} {i : Int} : ∀ {k}, i ∈ blockL d L W h k ↔ i ∈ confL d L h (sessP L) ∨ ∃ j, j < k ∧ RivalP d L h (W[j]?.getD holdNil) ∧ (W[j]?.getD holdNil).session = i
  | 0 => by rw [blockL]; simp
  | k + 1 => by
    have ih := @mem_blockL d L W h i k
    have hs : (∃ j, j < k + 1 ∧ RivalP d L h (W[j]?.getD holdNil) ∧ (W[j]?.getD holdNil).session = i) ↔ (∃ j, j < k ∧ RivalP d L h (W[j]?.getD holdNil) ∧ (W[j]?.getD holdNil).session = i) ∨ (RivalP d L h (W[k]?.getD holdNil) ∧ (W[k]?.getD holdNil).session = i) := by
      constructor
      · rintro ⟨j, hj, h1⟩
        by_cases e : j = k
        · subst e; exact .inr h1
        · exact .inl ⟨j, by omega, h1⟩
      · rintro (⟨j, hj, h1⟩ | h1)
        · exact ⟨j, by omega, h1⟩
        · exact ⟨k, by omega, h1⟩
    by_cases hc : RivalP d L h (W[k]?.getD holdNil) ∧ (W[k]?.getD holdNil).session ∉ blockL d L W h k
    · rw [blockL_yes hc.1 hc.2, mem_riseL, ih, hs]
      constructor
      · rintro (h1 | h1 | h1)
        · exact .inr (.inr ⟨hc.1, h1.symm⟩)
        · exact .inl h1
        · exact .inr (.inl h1)
      · rintro (h1 | h1 | h1)
        · exact .inr (.inl h1)
        · exact .inr (.inr h1)
        · exact .inl h1.2.symm
    · rw [blockL_no hc, ih, hs]
      constructor
      · rintro (h1 | h1)
        · exact .inl h1
        · exact .inr (.inl h1)
      · rintro (h1 | h1 | h1)
        · exact .inl h1
        · exact .inr h1
        · have hin : (W[k]?.getD holdNil).session ∈ blockL d L W h k := Classical.byContradiction fun e => hc ⟨h1.1, e⟩
          rw [h1.2] at hin
          exact ih.1 hin
end Go.Proofs.YtfjhpfgffbghdaaGreatDoor
