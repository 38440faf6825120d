/-
  The law package's comparisons of rules answer yes to what is alike.
-/
import Derived.Test.YtpkblnponeonkaaDoorTermEq
namespace Go.Proofs.YtpkblnponeonkaaDoor
open Go.RowKit

structure SmallRule (x : PRule) : Prop where
  name : x.name.size ≤ 1048576
  terms : SmallTerms x.terms

structure SmallRules (l : List PRule) : Prop where
  len : l.length ≤ 1048576
  rules : ∀ x ∈ l, SmallRule x

set_option maxHeartbeats 400000 in
theorem eqRule_any (n₀ : Nat) (v v' : Value) (x : PRule) (w : World) (h : RuleVal n₀ w v x) (h' : RuleVal n₀ w v' x) (hn : n₀ ≤ w.heap.size) (hl : SmallRule x) :
    Calls Tryd.prog 54 #[v, v'] w fun e w' => e = .returned (.bool true) ∧ Below w.heap.size w w' := by
  obtain ⟨kv, rfl, hk⟩ := h
  obtain ⟨kv', rfl, hk'⟩ := h'
  have hs : (x.name.toList == x.name.toList) = true := by simp
  have hs2 : (x.leaf == x.leaf) = true := by simp
  have HE : Hid (∀ w1, Below w.heap.size w w1 → Calls Tryd.prog 88 #[kv, kv'] w1 fun e w' => e = .returned (.bool true) ∧ Below w1.heap.size w1 w') := fun w1 hb =>
    eqTerms_any n₀ kv kv' x.terms w1 (hk.below (Nat.le_refl _) (hb.mono hn)) (hk'.below (Nat.le_refl _) (hb.mono hn)) (by have := hb.size; omega) hl.terms.len hl.terms.kinds
  obtain ⟨a, cap, rfl, -⟩ := hk
  obtain ⟨a', cap', rfl, -⟩ := hk'
  clear hl
  have hW2 := ((Below.refl w.heap.size w).alloc (Nat.le_refl _) (.cells #[.string x.name, .bool x.leaf, .slice a x.terms.length cap] 87)).alloc (by simp) (.cells #[.string x.name, .bool x.leaf, .slice a' x.terms.length cap'] 87)
  go_enter Tryd.func54, Tryd.ntmps54
  go_wp2_with (go_at_call 88; refine (HE.out _ hW2).mono ?_; rintro e w1 ⟨rfl, hb1⟩)
  go_ret
  exact ⟨rfl, hW2.trans (hb1.mono (by simp; omega))⟩

set_option maxHeartbeats 1000000 in
set_option maxRecDepth 100000 in
theorem eqRules_any (n₀ : Nat) (v v' : Value) (l : List PRule) (w : World) (h : RulesAt n₀ w v l) (h' : RulesAt n₀ w v' l) (hn : n₀ ≤ w.heap.size) (hl : SmallRules l) :
    Calls Tryd.prog 23 #[v, v'] w fun e w' => e = .returned (.bool true) ∧ Below w.heap.size w w' := by
  obtain ⟨a, cap, rfl, hk⟩ := h
  obtain ⟨a', cap', rfl, hk'⟩ := h'
  have hl1 := hl.len
  have HKL := hide hl.rules
  clear hl
  go_enter Tryd.func23, Tryd.ntmps23
  go_wp2_with fail
  go_loopw [5] (fun i wr => ∃ k : Nat, k ≤ l.length ∧ i = .int .i64 k ∧ Below w.heap.size w wr) (fun i _ => l.length - (intOf i).toNat)
  case atStart => exact ⟨0, Nat.zero_le _, rfl, Below.refl _ _⟩
  case round =>
    obtain ⟨k, hkl, rfl, hbr⟩ := hrel
    have hsz := hbr.size
    by_cases hlt : k < l.length
    · obtain ⟨b, off, rfl, hb, hc⟩ := hk.resolve_left (by intro e; simp [e] at hlt)
      obtain ⟨b', off', rfl, hb', hc'⟩ := hk'.resolve_left (by intro e; simp [e] at hlt)
      have hA := (hc k hlt).below hb (Nat.le_refl _) (hbr.mono hn)
      have hA' := (hc' k hlt).below hb' (Nat.le_refl _) (hbr.mono hn)
      have HLX := hide (HKL.out (l[k]?.getD ruleNil) (by simp [hlt]))
      have g0 := hA.c0
      have f0 := hA'.c0
      have g1 := hA.c1
      have f1 := hA'.c1
      obtain ⟨kv, g2, hi⟩ := hA.c2
      obtain ⟨kv', f2, hi'⟩ := hA'.c2
      have hv : RuleVal n₀ wr (.agg #[.string (l[k]?.getD ruleNil).name, .bool (l[k]?.getD ruleNil).leaf, kv]) (l[k]?.getD ruleNil) := ⟨kv, rfl, hi⟩
      have hv' : RuleVal n₀ wr (.agg #[.string (l[k]?.getD ruleNil).name, .bool (l[k]?.getD ruleNil).leaf, kv']) (l[k]?.getD ruleNil) := ⟨kv', rfl, hi'⟩
      have hlt1 : (k : Int) < (l.length : Int) := by omega
      have hbw : b < wr.heap.size := by omega
      have hbw' : b' < wr.heap.size := by omega
      have hcal := calm_cell wr
      have HE : Hid (∀ t : Calm wr, Calls Tryd.prog 54 #[.agg #[.string (l[k]?.getD ruleNil).name, .bool (l[k]?.getD ruleNil).leaf, kv], .agg #[.string (l[k]?.getD ruleNil).name, .bool (l[k]?.getD ruleNil).leaf, kv']] t.out fun e w' => e = .returned (.bool true) ∧ Below t.out.heap.size t.out w') := fun t =>
        eqRule_any n₀ _ _ (l[k]?.getD ruleNil) t.out (hv.below (Nat.le_refl _) (t.below.mono (by omega))) (hv'.below (Nat.le_refl _) (t.below.mono (by omega))) (by have := t.below.size; omega) HLX.out
      clear hv hv'
      obtain ⟨ak, ck, rfl, -⟩ := hi
      obtain ⟨ak', ck', rfl, -⟩ := hi'
      clear hA hA' hc hc' hk hk'
      generalize l[k]?.getD ruleNil = x at *
      go_wp2_with fail
      refine wp_region_calm (by kernel_rfl) (by kernel_rfl) ?_
      repeat (go_big_quiet_step ((go_at_call 54; exact calm_of (HE.out _))))
      refine wpQuiet_nil ?_
      rintro _ ⟨t, rfl⟩
      have ht := t.below
      go_wp2_with fail
      exact ⟨⟨k + 1, by omega, by go_num, hbr.trans (ht.mono hsz)⟩, by simp [intOf]; omega⟩
    · clear hk hk'
      go_wp2_with fail
      go_ret
      exact ⟨rfl, hbr⟩
end Go.Proofs.YtpkblnponeonkaaDoor
