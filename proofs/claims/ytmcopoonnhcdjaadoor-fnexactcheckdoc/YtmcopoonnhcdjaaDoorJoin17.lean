/-
  Whether terms are those of a schema of so many rules: what the program answers.
  The law package's comparisons of rules answer yes to what is alike.
-/
import Derived.Test.YtmcopoonnhcdjaaDoorJoin16
namespace Go.Proofs.YtmcopoonnhcdjaaDoor
open Go.RowKit

def lastKind (ks : List Int) (k : Nat) : Int := if k = 0 then 0 else ks[k - 1]?.getD 0

theorem KindsUp.last {rules : Int} {ks : List Int} {n : Nat} (h : KindsUp rules ks n) (h1 : 1 ≤ rules) : 0 ≤ lastKind ks n ∧ lastKind ks n ≤ rules ∧ (0 < n → 0 < lastKind ks n) := by
  unfold lastKind
  split
  · omega
  · have := h (n - 1) (by omega); omega

set_option maxHeartbeats 1000000 in
set_option maxRecDepth 100000 in
theorem implTerm_any (n₀ : Nat) (v : Value) (x : PTerm) (rules : Int) (w : World) (h : TermVal n₀ w v x) (hn : n₀ ≤ w.heap.size) (hl : x.kinds.length ≤ 1048576) (h1 : 1 ≤ rules) (h8 : rules ≤ 8) (r : Bool) (hr : r = true ↔ TermP rules x) :
    Calls Tryd.prog 124 #[v, .int .i64 rules] w fun e w' => e = .returned (.bool r) ∧ Below w.heap.size w w' := by
  obtain ⟨kv, rfl, a, cap, rfl, hk⟩ := h
  have HR := hide hr
  clear hr
  go_enter Tryd.func124, Tryd.ntmps124
  go_wp2_with fail
  go_loopw [5, 11] (fun lv i wr => ∃ k : Nat, k ≤ x.kinds.length ∧ i = .int .i64 k ∧ lv = .int .i64 (lastKind x.kinds k) ∧ Hid (KindsUp rules x.kinds k) ∧ wr = w.alloc (.cells #[.slice a x.kinds.length cap, .int .i64 x.many] 126)) (fun _ i _ => x.kinds.length - (intOf i).toNat)
  case atStart => exact ⟨0, Nat.zero_le _, rfl, rfl, fun j hj => by omega, rfl⟩
  case round =>
    obtain ⟨k, hkl, rfl, rfl, hup, rfl⟩ := hrel
    obtain ⟨l0, l1, l2⟩ := hup.out.last h1
    by_cases hlt : k < x.kinds.length
    · obtain ⟨b, off, rfl, hb, hc⟩ := hk.resolve_left (by intro e; simp [e] at hlt)
      have hbw : b < w.heap.size := by omega
      have ck := hc k hlt
      have HN := hide (@KindsUp.next rules x.kinds k hup.out)
      have HB : Hid (r = true → 1 ≤ x.kinds[k]?.getD 0 ∧ x.kinds[k]?.getD 0 ≤ rules ∧ (0 < k → x.kinds[k - 1]?.getD 0 < x.kinds[k]?.getD 0)) := fun h => (HR.out.1 h).up k hlt
      have HL : Hid (lastKind x.kinds k = if k = 0 then 0 else x.kinds[k - 1]?.getD 0) := rfl
      have HL2 : Hid (x.kinds[k]?.getD 0 = lastKind x.kinds (k + 1)) := by simp [Hid, lastKind]
      clear hc hk l2
      generalize x.kinds[k]?.getD 0 = y at *
      generalize x.kinds[k - 1]?.getD 0 = pv at *
      generalize lastKind x.kinds k = ls at *
      cases hin : inB y (ls + 1) rules with
      | false =>
        have hf : Hid (r = false) := by
          cases hrr : r with
          | false => rfl
          | true =>
            have hb2 := HB.out hrr
            have h2 : inB y (ls + 1) rules = true := inB_iff.2 ⟨by have := HL.out; split at this <;> omega, hb2.2.1⟩
            rw [hin] at h2; cases h2
        have HI := hide hin
        clear hin
        go_wp2_with (go_at_call 59; refine (between_any _ _ _ _).mono ?_; rw [HI.out]; rintro e w' ⟨rfl, rfl⟩)
        go_ret
        exact ⟨ret_bool hf.out.symm, (Below.refl _ _).alloc (Nat.le_refl _) _⟩
      | true =>
        have HI := hide hin
        have HI2 := hide (inB_iff.1 hin)
        clear hin
        go_wp2_with (go_at_call 59; refine (between_any _ _ _ _).mono ?_; rw [HI.out]; rintro e w' ⟨rfl, rfl⟩)
        exact ⟨⟨k + 1, by omega, by go_num, congrArg (Value.int .i64) HL2.out, HN.out ⟨by have := HI2.out.1; omega, HI2.out.2, fun h => by have h3 := HL.out; have := HI2.out.1; rw [if_neg (by omega)] at h3; omega⟩, trivial⟩, by simp [intOf]; omega⟩
    · obtain rfl : k = x.kinds.length := by omega
      clear hk
      by_cases hks : x.kinds = []
      · have hf : Hid (r = false) := no_of HR.out fun T => T.some hks
        have e0 : lastKind x.kinds x.kinds.length = 0 := by simp [hks, lastKind]
        clear hks hup
        generalize lastKind x.kinds x.kinds.length = ls at *
        subst e0
        go_wp2_with fail
        go_ret
        exact ⟨ret_bool hf.out.symm, (Below.refl _ _).alloc (Nat.le_refl _) _⟩
      · have hp := l2 (List.length_pos_iff.2 hks)
        have hne : Hid (x.kinds ≠ []) := hks
        clear hks l2
        have HY : Hid (inB x.many 0 3 = r) := by
          rw [Hid, Bool.eq_iff_iff, inB_iff, HR.out]
          exact ⟨fun h => ⟨hne.out, hup.out, h.1, h.2⟩, fun T => ⟨T.many0, T.many3⟩⟩
        generalize lastKind x.kinds x.kinds.length = ls at *
        go_wp2_with (go_at_call 59; refine (between_any _ _ _ _).mono ?_; rw [HY.out]; rintro e w' ⟨rfl, rfl⟩)
        go_ret
        exact ⟨rfl, (Below.refl _ _).alloc (Nat.le_refl _) _⟩

/-- At most four terms, each right. -/
structure TermsP (rules : Int) (l : List PTerm) : Prop where
  len : l.length ≤ 4
  all : ∀ t ∈ l, TermP rules t

set_option maxHeartbeats 1000000 in
set_option maxRecDepth 100000 in
theorem implTerms_any (n₀ : Nat) (v : Value) (l : List PTerm) (rules : Int) (w : World) (h : TermsAt n₀ w v l) (hn : n₀ ≤ w.heap.size) (hl : SmallTerms l) (h1 : 1 ≤ rules) (h8 : rules ≤ 8) (r : Bool) (hr : r = true ↔ TermsP rules l) :
    Calls Tryd.prog 114 #[v, .int .i64 rules] w fun e w' => e = .returned (.bool r) ∧ Below w.heap.size w w' := by
  obtain ⟨a, cap, rfl, hk⟩ := h
  have HR := hide hr
  have hl1 := hl.len
  have HKL := hide hl.kinds
  clear hr hl
  by_cases h4 : 4 < l.length
  · have hf : Hid (r = false) := no_of HR.out fun T => by have := T.len; omega
    clear hk
    go_enter Tryd.func114, Tryd.ntmps114
    go_wp2_with fail
    go_ret
    exact ⟨ret_bool hf.out.symm, Below.refl _ _⟩
  · go_enter Tryd.func114, Tryd.ntmps114
    go_wp2_with fail
    go_loopw [12] (fun i wr => ∃ k : Nat, k ≤ l.length ∧ i = .int .i64 k ∧ Hid (∀ t ∈ l.take k, TermP rules t) ∧ Below w.heap.size w wr) (fun i _ => l.length - (intOf i).toNat)
    case atStart => exact ⟨0, Nat.zero_le _, rfl, by simp [Hid], Below.refl _ _⟩
    case round =>
      obtain ⟨k, hkl, rfl, hall, hbr⟩ := hrel
      have hsz := hbr.size
      by_cases hlt : k < l.length
      · obtain ⟨b, off, rfl, hb, hc⟩ := hk.resolve_left (by intro e; simp [e] at hlt)
        have hA := (hc k hlt).below hb (Nat.le_refl _) (hbr.mono hn)
        have g1 := hA.c1
        obtain ⟨kv, g0, hi⟩ := hA.c0
        have hbw : b < wr.heap.size := by omega
        have HMem : Hid (l[k]?.getD termNil ∈ l) := by simp [Hid, hlt]
        have HSn := hide (take_snoc_all (d := termNil) hlt hall.out)
        have HCall : Hid (∀ wx, Below wr.heap.size wr wx → Calls Tryd.prog 124 #[.agg #[kv, .int .i64 (l[k]?.getD termNil).many], .int .i64 rules] wx fun e w' => e = .returned (.bool (dec (TermP rules (l[k]?.getD termNil)))) ∧ Below wx.heap.size wx w') := fun wx hbx =>
          implTerm_any n₀ _ (l[k]?.getD termNil) rules wx ⟨kv, rfl, hi.below (Nat.le_refl _) (hbx.mono (by omega))⟩ (by have := hbx.size; omega) (HKL.out _ HMem.out) h1 h8 _ (dec_iff _)
        obtain ⟨ak, ck, rfl, -⟩ := hi
        clear hA hc hk hall
        generalize l[k]?.getD termNil = x at *
        have HD := hide (dec_iff (TermP rules x))
        generalize dec (TermP rules x) = q at *
        have hA1 := (Below.refl wr.heap.size wr).alloc (Nat.le_refl _) (.cells #[.slice ak x.kinds.length ck, .int .i64 x.many] 126)
        go_wp2_with fail
        refine (HCall.out _ ?_).mono ?_
        · simpa using hA1
        rintro e w1 ⟨rfl, hb1⟩
        have hb1' := hA1.trans (hb1.mono (by simp))
        cases q with
        | false =>
          have hf : Hid (r = false) := no_of HR.out fun T => by have := HD.out.2 (T.all _ HMem.out); cases this
          go_wp2_with fail
          go_ret
          exact ⟨ret_bool hf.out.symm, hbr.trans (hb1'.mono hsz)⟩
        | true =>
          have HA2 := hide (HSn.out (HD.out.1 rfl))
          go_wp2_with fail
          exact ⟨⟨k + 1, by omega, by go_num, HA2, hbr.trans (hb1'.mono hsz)⟩, by simp [intOf]; omega⟩
      · have hy : Hid (r = true) := HR.out.2 ⟨by omega, by have := hall.out; rwa [List.take_of_length_le (by omega)] at this⟩
        clear hk
        go_wp2_with fail
        go_ret
        exact ⟨ret_bool hy.out.symm, hbr⟩
end Go.Proofs.YtmcopoonnhcdjaaDoor

namespace Go.Proofs.YtmcopoonnhcdjaaDoor
open Go.RowKit

structure SmallRule (x : PRule) : Prop where
  name : x.name.size ≤ 1048576
  terms : SmallTerms x.terms

structure SmallRules (l : List PRule) : Prop where
  len : l.length ≤ 1048576
  rules : ∀ x ∈ l, SmallRule x

set_option maxHeartbeats 400000 in
theorem eqRule_any (n₀ : Nat) (v v' : Value) (x : PRule) (w : World) (h : RuleVal n₀ w v x) (h' : RuleVal n₀ w v' x) (hn : n₀ ≤ w.heap.size) (hl : SmallRule x) :
    Calls Tryd.prog 44 #[v, v'] w fun e w' => e = .returned (.bool true) ∧ Below w.heap.size w w' := by
  obtain ⟨kv, rfl, hk⟩ := h
  obtain ⟨kv', rfl, hk'⟩ := h'
  have hs : (x.name.toList == x.name.toList) = true := by simp
  have hs2 : (x.leaf == x.leaf) = true := by simp
  have HE : Hid (∀ w1, Below w.heap.size w w1 → Calls Tryd.prog 69 #[kv, kv'] w1 fun e w' => e = .returned (.bool true) ∧ Below w1.heap.size w1 w') := fun w1 hb =>
    eqTerms_any n₀ kv kv' x.terms w1 (hk.below (Nat.le_refl _) (hb.mono hn)) (hk'.below (Nat.le_refl _) (hb.mono hn)) (by have := hb.size; omega) hl.terms.len hl.terms.kinds
  obtain ⟨a, cap, rfl, -⟩ := hk
  obtain ⟨a', cap', rfl, -⟩ := hk'
  clear hl
  have hW2 := ((Below.refl w.heap.size w).alloc (Nat.le_refl _) (.cells #[.string x.name, .bool x.leaf, .slice a x.terms.length cap] 72)).alloc (by simp) (.cells #[.string x.name, .bool x.leaf, .slice a' x.terms.length cap'] 72)
  go_enter Tryd.func44, Tryd.ntmps44
  go_wp2_with (go_at_call 69; refine (HE.out _ hW2).mono ?_; rintro e w1 ⟨rfl, hb1⟩)
  go_ret
  exact ⟨rfl, hW2.trans (hb1.mono (by simp; omega))⟩

set_option maxHeartbeats 1000000 in
set_option maxRecDepth 100000 in
theorem eqRules_any (n₀ : Nat) (v v' : Value) (l : List PRule) (w : World) (h : RulesAt n₀ w v l) (h' : RulesAt n₀ w v' l) (hn : n₀ ≤ w.heap.size) (hl : SmallRules l) :
    Calls Tryd.prog 14 #[v, v'] w fun e w' => e = .returned (.bool true) ∧ Below w.heap.size w w' := by
  obtain ⟨a, cap, rfl, hk⟩ := h
  obtain ⟨a', cap', rfl, hk'⟩ := h'
  have hl1 := hl.len
  have HKL := hide hl.rules
  clear hl
  go_enter Tryd.func14, Tryd.ntmps14
  go_wp2_with fail
  go_loopw [5] (fun i wr => ∃ k : Nat, k ≤ l.length ∧ i = .int .i64 k ∧ Below w.heap.size w wr) (fun i _ => l.length - (intOf i).toNat)
  case atStart => exact ⟨0, Nat.zero_le _, rfl, Below.refl _ _⟩
  case round =>
    obtain ⟨k, hkl, rfl, hbr⟩ := hrel
    have hsz := hbr.size
    by_cases hlt : k < l.length
    · obtain ⟨b, off, rfl, hb, hc⟩ := hk.resolve_left (by intro e; simp [e] at hlt)
      obtain ⟨b', off', rfl, hb', hc'⟩ := hk'.resolve_left (by intro e; simp [e] at hlt)
      have hA := (hc k hlt).below hb (Nat.le_refl _) (hbr.mono hn)
      have hA' := (hc' k hlt).below hb' (Nat.le_refl _) (hbr.mono hn)
      have HLX := hide (HKL.out (l[k]?.getD ruleNil) (by simp [hlt]))
      have g0 := hA.c0
      have f0 := hA'.c0
      have g1 := hA.c1
      have f1 := hA'.c1
      obtain ⟨kv, g2, hi⟩ := hA.c2
      obtain ⟨kv', f2, hi'⟩ := hA'.c2
      have hv : RuleVal n₀ wr (.agg #[.string (l[k]?.getD ruleNil).name, .bool (l[k]?.getD ruleNil).leaf, kv]) (l[k]?.getD ruleNil) := ⟨kv, rfl, hi⟩
      have hv' : RuleVal n₀ wr (.agg #[.string (l[k]?.getD ruleNil).name, .bool (l[k]?.getD ruleNil).leaf, kv']) (l[k]?.getD ruleNil) := ⟨kv', rfl, hi'⟩
      have hlt1 : (k : Int) < (l.length : Int) := by omega
      have hbw : b < wr.heap.size := by omega
      have hbw' : b' < wr.heap.size := by omega
      have hcal := calm_cell wr
      have HE : Hid (∀ t : Calm wr, Calls Tryd.prog 44 #[.agg #[.string (l[k]?.getD ruleNil).name, .bool (l[k]?.getD ruleNil).leaf, kv], .agg #[.string (l[k]?.getD ruleNil).name, .bool (l[k]?.getD ruleNil).leaf, kv']] t.out fun e w' => e = .returned (.bool true) ∧ Below t.out.heap.size t.out w') := fun t =>
        eqRule_any n₀ _ _ (l[k]?.getD ruleNil) t.out (hv.below (Nat.le_refl _) (t.below.mono (by omega))) (hv'.below (Nat.le_refl _) (t.below.mono (by omega))) (by have := t.below.size; omega) HLX.out
      clear hv hv'
      obtain ⟨ak, ck, rfl, -⟩ := hi
      obtain ⟨ak', ck', rfl, -⟩ := hi'
      clear hA hA' hc hc' hk hk'
      generalize l[k]?.getD ruleNil = x at *
      go_wp2_with fail
      refine wp_region_calm (by kernel_rfl) (by kernel_rfl) ?_
      repeat (go_big_quiet_step ((go_at_call 44; exact calm_of (HE.out _))))
      refine wpQuiet_nil ?_
      rintro _ ⟨t, rfl⟩
      have ht := t.below
      go_wp2_with fail
      exact ⟨⟨k + 1, by omega, by go_num, hbr.trans (ht.mono hsz)⟩, by simp [intOf]; omega⟩
    · clear hk hk'
      go_wp2_with fail
      go_ret
      exact ⟨rfl, hbr⟩
end Go.Proofs.YtmcopoonnhcdjaaDoor
