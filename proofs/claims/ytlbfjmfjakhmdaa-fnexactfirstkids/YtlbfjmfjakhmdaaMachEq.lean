/-
  The law package's comparisons of machines answer yes to what is alike.
-/
import Derived.Test.YtlbfjmfjakhmdaaMachRep
import Derived.Test.YtlbfjmfjakhmdaaLawInts
namespace Go.Proofs.Ytlbfjmfjakhmdaa
open Go.RowKit

set_option maxHeartbeats 400000 in
theorem eqBools_any (n₀ : Nat) (v v' : Value) (ks : List Bool) (w : World) (h : BoolsAt n₀ w v ks) (h' : BoolsAt n₀ w v' ks) (hl : ks.length ≤ 1048576) :
    Calls Try.prog 31 #[v, v'] w fun e w' => e = .returned (.bool true) ∧ Below w.heap.size w w' := by
  obtain ⟨a, cap, rfl, hk⟩ := h
  obtain ⟨a', cap', rfl, hk'⟩ := h'
  go_enter Try.func31, Try.ntmps31
  go_wp2_with fail
  go_loopw [5] (fun i wr => ∃ k : Nat, k ≤ ks.length ∧ i = .int .i64 k ∧ ∃ q, wr = w.drewN q) (fun i _ => ks.length - (intOf i).toNat)
  case atStart => exact ⟨0, Nat.zero_le _, rfl, 0, rfl⟩
  case round =>
    obtain ⟨k, hkl, rfl, q, rfl⟩ := hrel
    by_cases hlt : k < ks.length
    · obtain ⟨b, off, rfl, hb, hc⟩ := hk.resolve_left (by intro e; simp [e] at hlt)
      obtain ⟨b', off', rfl, hb', hc'⟩ := hk'.resolve_left (by intro e; simp [e] at hlt)
      have hck := hc k hlt
      have hck' := hc' k hlt
      have hlt1 : (k : Int) < (ks.length : Int) := by omega
      clear hc hc' hk hk'
      generalize ks[k]?.getD false = y at *
      have hs2 : (y == y) = true := by simp
      go_wp2_with fail
      go_quiet (fail)
      go_wp2_with fail
      exact ⟨⟨k + 1, by omega, by go_num, _, rfl⟩, by simp [intOf]; omega⟩
    · clear hk hk'
      go_wp2_with fail
      go_ret
      exact ⟨rfl, below_drewN (Below.refl _ _) _⟩

set_option maxHeartbeats 1000000 in
set_option maxRecDepth 100000 in
theorem eqRows_any (n₀ : Nat) (v v' : Value) (l : List (List Int)) (w : World) (h : RowsAt n₀ w v l) (h' : RowsAt n₀ w v' l) (hn : n₀ ≤ w.heap.size) (hl : l.length ≤ 1048576) (hkl : ∀ x ∈ l, x.length ≤ 1048576) :
    Calls Try.prog 30 #[v, v'] w fun e w' => e = .returned (.bool true) ∧ Below w.heap.size w w' := by
  obtain ⟨a, cap, rfl, hk⟩ := h
  obtain ⟨a', cap', rfl, hk'⟩ := h'
  have HKL := hide hkl
  clear hkl
  go_enter Try.func30, Try.ntmps30
  go_wp2_with fail
  go_loopw [5] (fun i wr => ∃ k : Nat, k ≤ l.length ∧ i = .int .i64 k ∧ Below w.heap.size w wr) (fun i _ => l.length - (intOf i).toNat)
  case atStart => exact ⟨0, Nat.zero_le _, rfl, Below.refl _ _⟩
  case round =>
    obtain ⟨k, hkl, rfl, hbr⟩ := hrel
    have hsz := hbr.size
    by_cases hlt : k < l.length
    · obtain ⟨b, off, rfl, hb, hc⟩ := hk.resolve_left (by intro e; simp [e] at hlt)
      obtain ⟨b', off', rfl, hb', hc'⟩ := hk'.resolve_left (by intro e; simp [e] at hlt)
      have hlx := HKL.out (l[k]?.getD []) (by simp [hlt])
      obtain ⟨kv, g0, hi⟩ := hc k hlt
      obtain ⟨kv', f0, hi'⟩ := hc' k hlt
      have g0 := (hbr.cell (p := ⟨b, off + k, none⟩) (show b < w.heap.size by omega)).trans g0
      have f0 := (hbr.cell (p := ⟨b', off' + k, none⟩) (show b' < w.heap.size by omega)).trans f0
      have hi := hi.below (Nat.le_refl _) (hbr.mono hn)
      have hi' := hi'.below (Nat.le_refl _) (hbr.mono hn)
      have hlt1 : (k : Int) < (l.length : Int) := by omega
      have hbw : b < wr.heap.size := by omega
      have hbw' : b' < wr.heap.size := by omega
      have hcal := calm_cell wr
      have HE : Hid (∀ t : Calm wr, Calls Try.prog 15 #[kv, kv'] t.out fun e w' => e = .returned (.bool true) ∧ Below t.out.heap.size t.out w') := fun t =>
        eqInts_any n₀ _ _ (l[k]?.getD []) t.out (hi.below (Nat.le_refl _) (t.below.mono (by omega))) (hi'.below (Nat.le_refl _) (t.below.mono (by omega))) hlx
      obtain ⟨ak, ck, rfl, -⟩ := hi
      obtain ⟨ak', ck', rfl, -⟩ := hi'
      clear hc hc' hk hk'
      generalize l[k]?.getD [] = x at *
      go_wp2_with fail
      refine wp_region_calm (by kernel_rfl) (by kernel_rfl) ?_
      repeat (go_big_quiet_step ((go_at_call 15; exact calm_of (HE.out _))))
      refine wpQuiet_nil ?_
      rintro _ ⟨t, rfl⟩
      have ht := t.below
      go_wp2_with fail
      exact ⟨⟨k + 1, by omega, by go_num, hbr.trans (ht.mono hsz)⟩, by simp [intOf]; omega⟩
    · clear hk hk'
      go_wp2_with fail
      go_ret
      exact ⟨rfl, hbr⟩

set_option maxHeartbeats 400000 in
theorem eqMach_any (n₀ : Nat) (v v' : Value) (m : PMach) (w : World) (h : MachVal n₀ w v m) (h' : MachVal n₀ w v' m) (hn : n₀ ≤ w.heap.size) (hl : SmallMach m) :
    Calls Try.prog 11 #[v, v'] w fun e w' => e = .returned (.bool true) ∧ Below w.heap.size w w' := by
  obtain ⟨a, cap, a2, cap2, rfl, -, hk, hf⟩ := h.form
  obtain ⟨a', cap', a2', cap2', rfl, -, hk', hf'⟩ := h'.form
  clear h h'
  have HE : Hid (∀ w1, Below w.heap.size w w1 → Calls Try.prog 30 #[.slice a m.next.length cap, .slice a' m.next.length cap'] w1 fun e w' => e = .returned (.bool true) ∧ Below w1.heap.size w1 w') := fun w1 hb =>
    eqRows_any n₀ _ _ m.next w1 (hk.below (Nat.le_refl _) (hb.mono hn)) (hk'.below (Nat.le_refl _) (hb.mono hn)) (by have := hb.size; omega) hl.next hl.rows
  have HF : Hid (∀ w1, Below w.heap.size w w1 → Calls Try.prog 31 #[.slice a2 m.final.length cap2, .slice a2' m.final.length cap2'] w1 fun e w' => e = .returned (.bool true) ∧ Below w1.heap.size w1 w') := fun w1 hb =>
    eqBools_any n₀ _ _ m.final w1 (hf.below (Nat.le_refl _) (hb.mono hn)) (hf'.below (Nat.le_refl _) (hb.mono hn)) hl.final
  clear hk hk' hf hf' hl
  have hW2 := ((Below.refl w.heap.size w).alloc (Nat.le_refl _) (.cells #[.slice a m.next.length cap, .slice a2 m.final.length cap2] 28)).alloc (by simp) (.cells #[.slice a' m.next.length cap', .slice a2' m.final.length cap2'] 28)
  go_enter Try.func11, Try.ntmps11
  go_wp2_with fail
  refine (HE.out _ hW2).mono ?_
  rintro e w1 ⟨rfl, hb1⟩
  have hs1 := hb1.size
  simp only [World.size_alloc] at hs1
  have hb1' := hW2.trans (hb1.mono (by simp; omega))
  have q0 : w1.cell? ⟨w.heap.size, 1, none⟩ = some (.slice a2 m.final.length cap2) := by rw [hb1.cell (p := ⟨w.heap.size, 1, none⟩) (by simp; omega)]; simp
  have q1 : w1.cell? ⟨w.heap.size + 1, 1, none⟩ = some (.slice a2' m.final.length cap2') := by rw [hb1.cell (p := ⟨w.heap.size + 1, 1, none⟩) (by simp)]; simp
  clear HE
  go_wp2_with fail
  refine (HF.out _ hb1').mono ?_
  rintro e w2 ⟨rfl, hb2⟩
  go_wp2_with fail
  go_ret
  exact ⟨rfl, hb1'.trans (hb2.mono hb1'.size)⟩
end Go.Proofs.Ytlbfjmfjakhmdaa
