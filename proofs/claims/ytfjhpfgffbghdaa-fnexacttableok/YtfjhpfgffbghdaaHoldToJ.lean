/-
  The law package's copies of holds, how it compares them and asks whether a list of them is small enough.
-/
import Derived.Test.YtfjhpfgffbghdaaJoinF
import Derived.Test.YtfjhpfgffbghdaaLawIntsJ
namespace Go.Proofs.Ytfjhpfgffbghdaa
open Go.RowKit

set_option maxHeartbeats 800000 in
theorem toHold_any (x : PHold) (w : World) :
    Calls Try.prog 17 #[holdVal x] w fun e w' => e = .returned (holdVal x) ∧ Below w.heap.size w w' := by
  go_enter Try.func17, Try.ntmps17
  go_wp2_with fail
  refine bodyPost_ret (v := holdVal x) (by simp [results, Try.results17, go_sem]) rfl ⟨rfl, ?_⟩
  exact (((Below.refl _ _).alloc (Nat.le_refl _) _).alloc (by simp) _).alloc (by simp; omega) _

theorem holdInfo : (Try.prog.info? 42).map (fun i => (i.zero, i.size, i.bytes)) = some (some (.agg #[.int .i64 0, .int .i64 0, .int .i64 0]), 3, 24) := by kernel_rfl

theorem three_world (w : World) (b o : Nat) (c0 c1 c2 : Value) {cs : Array Value} {T : TypeId} (hh : w.heap[b]? = some (.cells cs T (0, 0))) :
    (((w.setCell ⟨b, o, none⟩ c0).setCell ⟨b, o + 1, none⟩ c1).setCell ⟨b, o + 2, none⟩ c2).heap[b]? = some (.cells (((cs.setIfInBounds o c0).setIfInBounds (o + 1) c1).setIfInBounds (o + 2) c2) T (0, 0)) ∧ ∀ m, m ≠ b → (((w.setCell ⟨b, o, none⟩ c0).setCell ⟨b, o + 1, none⟩ c1).setCell ⟨b, o + 2, none⟩ c2).heap[m]? = w.heap[m]? := by
  constructor
  · exact heap_setCell_same _ _ _ _ _ _ (heap_setCell_same _ _ _ _ _ _ (heap_setCell_same _ _ _ _ _ _ hh))
  · intro m hm
    iterate 3 rw [heap_setCell_other _ _ _ _ (by exact hm)]

theorem set_three {cs : Array Value} {k j : Nat} {c0 c1 c2 : Value} (h : k * 3 + 2 < cs.size) :
    (j = k → (((cs.setIfInBounds (k * 3) c0).setIfInBounds (k * 3 + 1) c1).setIfInBounds (k * 3 + 2) c2)[j * 3]? = some c0 ∧ (((cs.setIfInBounds (k * 3) c0).setIfInBounds (k * 3 + 1) c1).setIfInBounds (k * 3 + 2) c2)[j * 3 + 1]? = some c1 ∧ (((cs.setIfInBounds (k * 3) c0).setIfInBounds (k * 3 + 1) c1).setIfInBounds (k * 3 + 2) c2)[j * 3 + 2]? = some c2) ∧
    (j ≠ k → ∀ o, o < 3 → (((cs.setIfInBounds (k * 3) c0).setIfInBounds (k * 3 + 1) c1).setIfInBounds (k * 3 + 2) c2)[j * 3 + o]? = cs[j * 3 + o]?) := by
  constructor
  · rintro rfl
    simp only [Array.getElem?_setIfInBounds, Array.size_setIfInBounds]
    refine ⟨?_, ?_, ?_⟩
    · rw [if_neg (by omega), if_neg (by omega), if_pos trivial, if_pos (by omega)]
    · rw [if_neg (by omega), if_pos trivial, if_pos (by omega)]
    · rw [if_pos trivial, if_pos (by omega)]
  · intro hne o ho
    simp only [Array.getElem?_setIfInBounds, Array.size_setIfInBounds]
    rw [if_neg (by omega), if_neg (by omega), if_neg (by omega)]

set_option maxHeartbeats 1000000 in
set_option maxRecDepth 100000 in
theorem toHolds_any (n₀ : Nat) (v : Value) (l : List PHold) (w : World) (h : HoldsAt n₀ w v l) (hn : n₀ ≤ w.heap.size) (hl : l.length ≤ 1048576) :
    Calls Try.prog 12 #[v] w fun e w' => ∃ u, e = .returned u ∧ HoldsOwn w.heap.size w'.heap.size w' u l ∧ Below w.heap.size w w' := by
  obtain ⟨i0, hi, hz0, hz1, hz2⟩ := info_parts holdInfo
  have hmk : ∀ w, (Instr.makeSlice 33 (.int .i64 (l.length : Int)) (.int .i64 (l.length : Int))).run Try.prog w = .ok (.slice (some ⟨w.heap.size, 0, none⟩) l.length l.length) (w.alloc (.cells (madeCells #[.int .i64 0, .int .i64 0, .int .i64 0] (l.length * 3)) 42)) := fun w => by
    have := run_make (P := Try.prog) w 33 42 i0 (.agg #[.int .i64 0, .int .i64 0, .int .i64 0]) Try.underlying33 hi hz0 .i64 .i64 l.length l.length (by omega) (Int.le_refl _) (by rw [hz2]; omega) (by omega)
    simpa [hz1, Value.cells] using this
  obtain ⟨a, cap, rfl, hk⟩ := h
  clear hi hz0 hz1 hz2
  go_enter Try.func12, Try.ntmps12
  go_wp2_with fail
  go_loopw [4] (fun i wr => ∃ (k : Nat) (cs : Array Value), k ≤ l.length ∧ i = .int .i64 k ∧ Hid (wr.heap[w.heap.size]? = some (.cells cs 42 (0, 0))) ∧ cs.size = l.length * 3 ∧ Hid (∀ j, j < k → cs[j * 3]? = some (.int .i64 (l[j]?.getD holdNil).session) ∧ cs[j * 3 + 1]? = some (.int .i64 (l[j]?.getD holdNil).node) ∧ cs[j * 3 + 2]? = some (.int .i64 (l[j]?.getD holdNil).mode)) ∧ Below w.heap.size w wr) (fun i _ => l.length - (intOf i).toNat)
  case atStart => exact ⟨0, _, Nat.zero_le _, rfl, alloc_new w _, size_madeCells _ _, fun j hj => by omega, (Below.refl _ _).alloc (Nat.le_refl _) _⟩
  case round =>
    obtain ⟨k, cs, hkl, rfl, hh, hcs, hall, hbr⟩ := hrel
    have hlt2 : w.heap.size < wr.heap.size := (Array.getElem?_eq_some_iff.1 hh.out).1
    by_cases hlt : k < l.length
    · obtain ⟨b, off, rfl, hb, hc⟩ := hk.resolve_left (by intro e; simp [e] at hlt)
      have hA := (hc k hlt).below hb (hbr.mono hn)
      have g0 := hA.c0
      have g1 := hA.c1
      have g2 := hA.c2
      have HCall := hide (fun wx => toHold_any (l[k]?.getD holdNil) wx)
      have hbw : b < wr.heap.size := by omega
      clear hA hc hk
      generalize hx : l[k]?.getD holdNil = x at *
      have HX := hide hx
      clear hx
      go_wp2_with fail
      refine (HCall.out _).mono ?_
      rintro e w1 ⟨rfl, hb1⟩
      have hh1 : w1.heap[w.heap.size]? = some (.cells cs 42 (0, 0)) := (hb1.block _ hlt2).trans hh.out
      have hf1 : ∀ j, w1.frozen? ⟨w.heap.size, j, none⟩ = false := fun j => frozen_of_heap hh1 j
      have hc1 : ∀ j, j < cs.size → ∃ u, w1.cell? ⟨w.heap.size, j, none⟩ = some u := fun j hj => by rw [cell_of_heap hh1]; exact ⟨cs[j], by simp [hj]⟩
      obtain ⟨o0, p0⟩ := hc1 (k * 3) (by omega)
      obtain ⟨o1, p1⟩ := hc1 (k * 3 + 1) (by omega)
      obtain ⟨o2, p2⟩ := hc1 (k * 3 + 2) (by omega)
      clear hc1 HCall
      obtain ⟨q1, q2⟩ := three_world w1 w.heap.size (k * 3) (.int .i64 x.session) (.int .i64 x.node) (.int .i64 x.mode) hh1
      have HQ1 := hide q1
      have HB5 : Hid (Below w.heap.size w (((w1.setCell ⟨w.heap.size, k * 3, none⟩ (.int .i64 x.session)).setCell ⟨w.heap.size, k * 3 + 1, none⟩ (.int .i64 x.node)).setCell ⟨w.heap.size, k * 3 + 2, none⟩ (.int .i64 x.mode))) :=
        (((hbr.trans (hb1.mono (by omega))).setCell (p := ⟨w.heap.size, k * 3, none⟩) (Nat.le_refl _) _).setCell (p := ⟨w.heap.size, k * 3 + 1, none⟩) (Nat.le_refl _) _).setCell (p := ⟨w.heap.size, k * 3 + 2, none⟩) (Nat.le_refl _) _
      have HAll2 : Hid (∀ j, j < k + 1 → (((cs.setIfInBounds (k * 3) (.int .i64 x.session)).setIfInBounds (k * 3 + 1) (.int .i64 x.node)).setIfInBounds (k * 3 + 2) (.int .i64 x.mode))[j * 3]? = some (.int .i64 (l[j]?.getD holdNil).session) ∧ (((cs.setIfInBounds (k * 3) (.int .i64 x.session)).setIfInBounds (k * 3 + 1) (.int .i64 x.node)).setIfInBounds (k * 3 + 2) (.int .i64 x.mode))[j * 3 + 1]? = some (.int .i64 (l[j]?.getD holdNil).node) ∧ (((cs.setIfInBounds (k * 3) (.int .i64 x.session)).setIfInBounds (k * 3 + 1) (.int .i64 x.node)).setIfInBounds (k * 3 + 2) (.int .i64 x.mode))[j * 3 + 2]? = some (.int .i64 (l[j]?.getD holdNil).mode)) := by
        intro j hj
        obtain ⟨f1, f2⟩ := @set_three cs k j (.int .i64 x.session) (.int .i64 x.node) (.int .i64 x.mode) (by omega)
        by_cases e : j = k
        · have a := f1 e
          rw [e, HX.out] at *
          exact a
        · obtain ⟨b0, b1, b2⟩ := hall.out j (by omega)
          have g := f2 e
          have g00 := g 0 (by omega)
          rw [Nat.add_zero] at g00
          exact ⟨g00.trans b0, (g 1 (by omega)).trans b1, (g 2 (by omega)).trans b2⟩
      have hsz5 : (((cs.setIfInBounds (k * 3) (.int .i64 x.session)).setIfInBounds (k * 3 + 1) (.int .i64 x.node)).setIfInBounds (k * 3 + 2) (.int .i64 x.mode)).size = l.length * 3 := by simp [hcs]
      have HSz := hide hsz5
      clear q1 q2 hsz5 hall hh hh1
      go_wp2_with fail
      exact ⟨⟨k + 1, _, by omega, by go_num, HQ1, HSz.out, HAll2, HB5.out⟩, by simp [intOf]; omega⟩
    · clear hk
      go_wp2_with fail
      go_ret
      exact ⟨_, rfl, ⟨w.heap.size, l.length, cs, rfl, Nat.le_refl _, Nat.le_refl _, hlt2, hh.out, fun j hj => hall.out j (by omega)⟩, hbr⟩

set_option maxHeartbeats 400000 in
theorem eqHold_any (x : PHold) (w : World) :
    Calls Try.prog 37 #[holdVal x, holdVal x] w fun e w' => e = .returned (.bool true) ∧ Below w.heap.size w w' := by
  go_enter Try.func37, Try.ntmps37
  go_wp2_with fail
  go_ret
  exact ⟨rfl, ((Below.refl _ _).alloc (Nat.le_refl _) _).alloc (by simp) _⟩

set_option maxHeartbeats 1000000 in
set_option maxRecDepth 100000 in
theorem eqHolds_any (n₀ : Nat) (v v' : Value) (l : List PHold) (w : World) (h : HoldsAt n₀ w v l) (h' : HoldsAt n₀ w v' l) (hn : n₀ ≤ w.heap.size) (hl : l.length ≤ 1048576) :
    Calls Try.prog 15 #[v, v'] w fun e w' => e = .returned (.bool true) ∧ Below w.heap.size w w' := by
  obtain ⟨a, cap, rfl, hk⟩ := h
  obtain ⟨a', cap', rfl, hk'⟩ := h'
  go_enter Try.func15, Try.ntmps15
  go_wp2_with fail
  go_loopw [5] (fun i wr => ∃ k : Nat, k ≤ l.length ∧ i = .int .i64 k ∧ Below w.heap.size w wr) (fun i _ => l.length - (intOf i).toNat)
  case atStart => exact ⟨0, Nat.zero_le _, rfl, Below.refl _ _⟩
  case round =>
    obtain ⟨k, hkl, rfl, hbr⟩ := hrel
    have hsz := hbr.size
    by_cases hlt : k < l.length
    · obtain ⟨b, off, rfl, hb, hc⟩ := hk.resolve_left (by intro e; simp [e] at hlt)
      obtain ⟨b', off', rfl, hb', hc'⟩ := hk'.resolve_left (by intro e; simp [e] at hlt)
      have hA := (hc k hlt).below hb (hbr.mono hn)
      have hA' := (hc' k hlt).below hb' (hbr.mono hn)
      have g0 := hA.c0
      have g1 := hA.c1
      have g2 := hA.c2
      have f0 := hA'.c0
      have f1 := hA'.c1
      have f2 := hA'.c2
      have hlt1 : (k : Int) < (l.length : Int) := by omega
      have hbw : b < wr.heap.size := by omega
      have hbw' : b' < wr.heap.size := by omega
      have hcal := calm_cell wr
      have HE : Hid (∀ t : Calm wr, Calls Try.prog 37 #[holdVal (l[k]?.getD holdNil), holdVal (l[k]?.getD holdNil)] t.out fun e w' => e = .returned (.bool true) ∧ Below t.out.heap.size t.out w') := fun t => eqHold_any _ t.out
      clear hA hA' hc hc' hk hk'
      generalize l[k]?.getD holdNil = x at *
      go_wp2_with fail
      refine wp_region_calm (by kernel_rfl) (by kernel_rfl) ?_
      repeat (go_big_quiet_step ((go_at_call 37; exact calm_of (HE.out _))))
      refine wpQuiet_nil ?_
      rintro _ ⟨t, rfl⟩
      have ht := t.below
      go_wp2_with fail
      exact ⟨⟨k + 1, by omega, by go_num, hbr.trans (ht.mono hsz)⟩, by simp [intOf]; omega⟩
    · clear hk hk'
      go_wp2_with fail
      go_ret
      exact ⟨rfl, hbr⟩

set_option maxHeartbeats 400000 in
theorem szHolds_any (a : Option Addr) (n cap : Nat) (c : Int) (w : World) (h0 : 0 ≤ c) (h1 : c ≤ 1048576) (hl : n ≤ 9223372036854775807) :
    Calls Try.prog 9 #[.slice a n cap, .int .i64 c] w fun e w' => ∃ r, e = .returned (.int .i64 r) ∧ -1 ≤ r ∧ r ≤ c ∧ (0 ≤ r → n ≤ 1048576) ∧ w' = w := by
  by_cases h : c - n < 0
  · go_enter Try.func9, Try.ntmps9
    go_wp2
    go_ret
    exact ⟨_, rfl, by omega, by omega, by omega, rfl⟩
  · go_enter Try.func9, Try.ntmps9
    go_wp2
    go_ret
    exact ⟨_, rfl, by omega, by omega, by omega, rfl⟩
end Go.Proofs.Ytfjhpfgffbghdaa
