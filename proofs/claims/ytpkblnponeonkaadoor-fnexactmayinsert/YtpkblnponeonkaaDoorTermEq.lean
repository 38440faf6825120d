/-
  The law package's comparisons of terms answer yes to what is alike.
-/
import Derived.Test.YtpkblnponeonkaaDoorSchRep
import Derived.Test.YtpkblnponeonkaaDoorLawInts
namespace Go.Proofs.YtpkblnponeonkaaDoor
open Go.RowKit

set_option maxHeartbeats 400000 in
theorem eqTerm_any (n₀ : Nat) (v v' : Value) (x : PTerm) (w : World) (h : TermVal n₀ w v x) (h' : TermVal n₀ w v' x) (hn : n₀ ≤ w.heap.size) (hl : x.kinds.length ≤ 1048576) :
    Calls Tryd.prog 115 #[v, v'] w fun e w' => e = .returned (.bool true) ∧ Below w.heap.size w w' := by
  obtain ⟨kv, rfl, hk⟩ := h
  obtain ⟨kv', rfl, hk'⟩ := h'
  have HE : Hid (∀ w1, Below w.heap.size w w1 → Calls Tryd.prog 22 #[kv, kv'] w1 fun e w' => e = .returned (.bool true) ∧ Below w1.heap.size w1 w') := fun w1 hb =>
    eqInts_any n₀ kv kv' x.kinds w1 (hk.below (Nat.le_refl _) (hb.mono hn)) (hk'.below (Nat.le_refl _) (hb.mono hn)) hl
  obtain ⟨a, cap, rfl, -⟩ := hk
  obtain ⟨a', cap', rfl, -⟩ := hk'
  have hW2 := ((Below.refl w.heap.size w).alloc (Nat.le_refl _) (.cells #[.slice a x.kinds.length cap, .int .i64 x.many] 131)).alloc (by simp) (.cells #[.slice a' x.kinds.length cap', .int .i64 x.many] 131)
  go_enter Tryd.func115, Tryd.ntmps115
  go_wp2_with fail
  refine (HE.out _ hW2).mono ?_
  rintro e w1 ⟨rfl, hb1⟩
  have hs1 := hb1.size
  simp only [World.size_alloc] at hs1
  have q0 : w1.cell? ⟨w.heap.size, 1, none⟩ = some (.int .i64 x.many) := by rw [hb1.cell (p := ⟨w.heap.size, 1, none⟩) (by simp; omega)]; simp
  have q1 : w1.cell? ⟨w.heap.size + 1, 1, none⟩ = some (.int .i64 x.many) := by rw [hb1.cell (p := ⟨w.heap.size + 1, 1, none⟩) (by simp)]; simp
  go_wp2_with fail
  go_ret
  exact ⟨rfl, hW2.trans (hb1.mono (by simp; omega))⟩

set_option maxHeartbeats 1000000 in
set_option maxRecDepth 100000 in
theorem eqTerms_any (n₀ : Nat) (v v' : Value) (l : List PTerm) (w : World) (h : TermsAt n₀ w v l) (h' : TermsAt n₀ w v' l) (hn : n₀ ≤ w.heap.size) (hl : l.length ≤ 1048576) (hkl : ∀ x ∈ l, x.kinds.length ≤ 1048576) :
    Calls Tryd.prog 88 #[v, v'] w fun e w' => e = .returned (.bool true) ∧ Below w.heap.size w w' := by
  obtain ⟨a, cap, rfl, hk⟩ := h
  obtain ⟨a', cap', rfl, hk'⟩ := h'
  have HKL := hide hkl
  clear hkl
  go_enter Tryd.func88, Tryd.ntmps88
  go_wp2_with fail
  go_loopw [5] (fun i wr => ∃ k : Nat, k ≤ l.length ∧ i = .int .i64 k ∧ Below w.heap.size w wr) (fun i _ => l.length - (intOf i).toNat)
  case atStart => exact ⟨0, Nat.zero_le _, rfl, Below.refl _ _⟩
  case round =>
    obtain ⟨k, hkl, rfl, hbr⟩ := hrel
    have hsz := hbr.size
    by_cases hlt : k < l.length
    · obtain ⟨b, off, rfl, hb, hc⟩ := hk.resolve_left (by intro e; simp [e] at hlt)
      obtain ⟨b', off', rfl, hb', hc'⟩ := hk'.resolve_left (by intro e; simp [e] at hlt)
      have hA := (hc k hlt).below hb (Nat.le_refl _) (hbr.mono hn)
      have hA' := (hc' k hlt).below hb' (Nat.le_refl _) (hbr.mono hn)
      have hlx := HKL.out (l[k]?.getD termNil) (by simp [hlt])
      have g1 := hA.c1
      have f1 := hA'.c1
      obtain ⟨kv, g0, hi⟩ := hA.c0
      obtain ⟨kv', f0, hi'⟩ := hA'.c0
      have hv : TermVal n₀ wr (.agg #[kv, .int .i64 (l[k]?.getD termNil).many]) (l[k]?.getD termNil) := ⟨kv, rfl, hi⟩
      have hv' : TermVal n₀ wr (.agg #[kv', .int .i64 (l[k]?.getD termNil).many]) (l[k]?.getD termNil) := ⟨kv', rfl, hi'⟩
      have hlt1 : (k : Int) < (l.length : Int) := by omega
      have hbw : b < wr.heap.size := by omega
      have hbw' : b' < wr.heap.size := by omega
      have hcal := calm_cell wr
      have HE : Hid (∀ t : Calm wr, Calls Tryd.prog 115 #[.agg #[kv, .int .i64 (l[k]?.getD termNil).many], .agg #[kv', .int .i64 (l[k]?.getD termNil).many]] t.out fun e w' => e = .returned (.bool true) ∧ Below t.out.heap.size t.out w') := fun t =>
        eqTerm_any n₀ _ _ (l[k]?.getD termNil) t.out (hv.below (Nat.le_refl _) (t.below.mono (by omega))) (hv'.below (Nat.le_refl _) (t.below.mono (by omega))) (by have := t.below.size; omega) hlx
      clear hv hv'
      obtain ⟨ak, ck, rfl, -⟩ := hi
      obtain ⟨ak', ck', rfl, -⟩ := hi'
      clear hA hA' hc hc' hk hk'
      generalize l[k]?.getD termNil = x at *
      go_wp2_with fail
      refine wp_region_calm (by kernel_rfl) (by kernel_rfl) ?_
      repeat (go_big_quiet_step ((go_at_call 115; exact calm_of (HE.out _))))
      refine wpQuiet_nil ?_
      rintro _ ⟨t, rfl⟩
      have ht := t.below
      go_wp2_with fail
      exact ⟨⟨k + 1, by omega, by go_num, hbr.trans (ht.mono hsz)⟩, by simp [intOf]; omega⟩
    · clear hk hk'
      go_wp2_with fail
      go_ret
      exact ⟨rfl, hbr⟩

/-- Small enough for the laws. -/
structure SmallTerms (l : List PTerm) : Prop where
  len : l.length ≤ 1048576
  kinds : ∀ x ∈ l, x.kinds.length ≤ 1048576
end Go.Proofs.YtpkblnponeonkaaDoor
