/-
  Whether two terms, two rules, and two lists of them are the same, as the program answers.
-/
import Derived.Test.YtkfklaapoaocdaaEqInts
import Derived.Test.YtkfklaapoaocdaaSchEq
namespace Go.Proofs.Ytkfklaapoaocdaa
open Go.RowKit

theorem term_eq_iff {x y : PTerm} : x = y ↔ x.many = y.many ∧ x.kinds = y.kinds := by
  cases x; cases y; simp [and_comm]

theorem rule_eq_iff {x y : PRule} : x = y ↔ x.name = y.name ∧ x.leaf = y.leaf ∧ x.terms = y.terms := by
  cases x; cases y; simp

set_option maxHeartbeats 1000000 in
theorem sameTerm_any (n₀ : Nat) (v v' : Value) (x y : PTerm) (w : World) (h : TermVal n₀ w v x) (h' : TermVal n₀ w v' y) (hn : n₀ ≤ w.heap.size) (hl : x.kinds.length ≤ 1048576) (hl' : y.kinds.length ≤ 1048576) (r : Bool) (hr : r = true ↔ x = y) :
    Calls Try.prog 48 #[v, v'] w fun e w' => e = .returned (.bool r) ∧ Below w.heap.size w w' := by
  obtain ⟨kv, rfl, hk⟩ := h
  obtain ⟨kv', rfl, hk'⟩ := h'
  obtain ⟨r1, hr1⟩ : ∃ r1 : Bool, r1 = true ↔ x.kinds = y.kinds := ⟨decide (x.kinds = y.kinds), by simp⟩
  have HE : Hid (∀ w1, Below w.heap.size w w1 → Calls Try.prog 57 #[kv, kv'] w1 fun e w' => e = .returned (.bool r1) ∧ Below w1.heap.size w1 w') := fun w1 hb =>
    equalInts_any n₀ kv kv' x.kinds y.kinds w1 (hk.below (Nat.le_refl _) (hb.mono hn)) (hk'.below (Nat.le_refl _) (hb.mono hn)) hl hl' r1 hr1
  obtain ⟨a, cap, rfl, -⟩ := hk
  obtain ⟨a', cap', rfl, -⟩ := hk'
  have hW2 := ((Below.refl w.heap.size w).alloc (Nat.le_refl _) (.cells #[.slice a x.kinds.length cap, .int .i64 x.many] 60)).alloc (by simp) (.cells #[.slice a' y.kinds.length cap', .int .i64 y.many] 60)
  rw [term_eq_iff, ← hr1] at hr
  have HR := hide hr
  clear hr hr1
  obtain ⟨xs, xm⟩ := x
  obtain ⟨ys, ym⟩ := y
  dsimp only at *
  by_cases h0 : xm = ym
  · subst h0
    have he : Hid (r1 = r) := by
      have := HR.out
      simp only [true_and] at this
      exact Bool.eq_iff_iff.2 this.symm
    go_enter Try.func48, Try.ntmps48
    go_wp2_with (go_at_call 57; refine (HE.out _ hW2).mono ?_; rintro e w1 ⟨rfl, hb1⟩)
    go_ret
    exact ⟨ret_bool he.out, hW2.trans (hb1.mono (by simp; omega))⟩
  · have hf : Hid (r = false) := no_true HR.out (fun e => h0 e.1)
    have hne := (int_ne h0).1
    clear h0
    go_enter Try.func48, Try.ntmps48
    go_wp2_with fail
    go_ret
    exact ⟨ret_bool hf.out.symm, hW2⟩

set_option maxHeartbeats 1000000 in
set_option maxRecDepth 100000 in
theorem equalTerms_any (n₀ : Nat) (v v' : Value) (l l' : List PTerm) (w : World) (h : TermsAt n₀ w v l) (h' : TermsAt n₀ w v' l') (hn : n₀ ≤ w.heap.size) (hs : SmallTerms l) (hs' : SmallTerms l') (r : Bool) (hr : r = true ↔ l = l') :
    Calls Try.prog 47 #[v, v', .func (.func 48) #[] #[]] w fun e w' => e = .returned (.bool r) ∧ Below w.heap.size w w' := by
  obtain ⟨a, cap, rfl, hk⟩ := h
  obtain ⟨a', cap', rfl, hk'⟩ := h'
  have hl := hs.len
  have HKL := hide hs.kinds
  have HKL' := hide hs'.kinds
  have HR := hide hr
  clear hs hs' hr
  by_cases hle : l.length = l'.length
  · have hle1 : ((l.length : Int) != (l'.length : Int)) = false := by simp [hle]
    have HL := hide hle
    clear hle
    go_enter Try.func47, Try.ntmps47
    go_wp2_with fail
    go_loopw [17] (fun i wr => ∃ k : Nat, k ≤ l.length ∧ i = .int .i64 k ∧ Hid (∀ j, j < k → l[j]?.getD termNil = l'[j]?.getD termNil) ∧ Below w.heap.size w wr) (fun i _ => l.length - (intOf i).toNat)
    case atStart => exact ⟨0, Nat.zero_le _, rfl, fun j hj => absurd hj (by omega), Below.refl _ _⟩
    case round =>
      obtain ⟨k, hkl, rfl, hsame, hbr⟩ := hrel
      have hsz := hbr.size
      by_cases hlt : k < l.length
      · have hlt' : k < l'.length := by rw [← HL.out]; exact hlt
        obtain ⟨b, off, rfl, hb, hc⟩ := hk.resolve_left (by intro e; simp [e] at hlt)
        obtain ⟨b', off', rfl, hb', hc'⟩ := hk'.resolve_left (by intro e; simp [e] at hlt')
        have hA := (hc k hlt).below hb (Nat.le_refl _) (hbr.mono hn)
        have hA' := (hc' k hlt').below hb' (Nat.le_refl _) (hbr.mono hn)
        have hlx := HKL.out (l[k]?.getD termNil) (by simp [hlt])
        have hly := HKL'.out (l'[k]?.getD termNil) (by simp [hlt'])
        have hlt1 : (k : Int) < (l.length : Int) := by omega
        have hlt1' : (k : Int) < (l'.length : Int) := by omega
        have hbw : b < wr.heap.size := by omega
        have hbw' : b' < wr.heap.size := by omega
        obtain ⟨x, hx⟩ : ∃ x, x = l[k]?.getD termNil := ⟨_, rfl⟩
        obtain ⟨y, hy⟩ : ∃ y, y = l'[k]?.getD termNil := ⟨_, rfl⟩
        rw [← hx] at hA hlx
        rw [← hy] at hA' hly
        have HX := hide hx
        have HY := hide hy
        clear hx hy hc hc' hk hk'
        obtain ⟨kv, g0, hi⟩ := hA.c0
        obtain ⟨kv', f0, hi'⟩ := hA'.c0
        have g1 := hA.c1
        have f1 := hA'.c1
        obtain ⟨r1, hr1⟩ : ∃ r1 : Bool, r1 = true ↔ x = y := by classical exact ⟨decide (x = y), by simp⟩
        have HE : Hid (∀ w1, Below wr.heap.size wr w1 → Calls Try.prog 48 #[.agg #[kv, .int .i64 x.many], .agg #[kv', .int .i64 y.many]] w1 fun e w' => e = .returned (.bool r1) ∧ Below w1.heap.size w1 w') := fun w1 hb1 =>
          sameTerm_any n₀ _ _ x y w1 ⟨kv, rfl, hi.below (Nat.le_refl _) (hb1.mono (by omega))⟩ ⟨kv', rfl, hi'.below (Nat.le_refl _) (hb1.mono (by omega))⟩ (by have := hb1.size; omega) hlx hly r1 hr1
        have HR1 := hide hr1
        obtain ⟨ak, ck, rfl, -⟩ := hi
        obtain ⟨ak', ck', rfl, -⟩ := hi'
        clear hA hA' hr1 hlx hly
        have hW2 := ((Below.refl wr.heap.size wr).alloc (Nat.le_refl _) (.cells #[.slice ak x.kinds.length ck, .int .i64 x.many] 60)).alloc (by simp) (.cells #[.slice ak' y.kinds.length ck', .int .i64 y.many] 60)
        cases r1 with
        | true =>
          go_wp2_with (go_at_call 48; refine (HE.out _ hW2).mono ?_; rintro e w1 ⟨rfl, hb1⟩)
          refine ⟨⟨k + 1, by omega, by go_num, fun j hj => ?_, hbr.trans ((hW2.trans (hb1.mono (by simp; omega))).mono hsz)⟩, by simp [intOf]; omega⟩
          rcases Nat.lt_succ_iff_lt_or_eq.1 hj with h | rfl
          · exact hsame.out j h
          · exact HX.out.symm.trans ((HR1.out.1 (by trivial)).trans HY.out)
        | false =>
          have hf : Hid (r = false) := no_true HR.out (fun e => by have := HR1.out.2 (by rw [HX.out, HY.out, e]); cases this)
          go_wp2_with (go_at_call 48; refine (HE.out _ hW2).mono ?_; rintro e w1 ⟨rfl, hb1⟩)
          go_ret
          exact ⟨ret_bool hf.out.symm, hbr.trans ((hW2.trans (hb1.mono (by simp; omega))).mono hsz)⟩
      · have ht : Hid (r = true) := HR.out.2 (list_getD_ext termNil HL.out fun j hj => hsame.out j (by omega))
        clear hk hk'
        go_wp2_with fail
        go_ret
        exact ⟨ret_bool ht.out.symm, hbr⟩
  · have hf : Hid (r = false) := no_true HR.out (fun e => hle (by rw [e]))
    have hle1 : ((l.length : Int) != (l'.length : Int)) = true := by simp; omega
    clear hle hk hk'
    go_enter Try.func47, Try.ntmps47
    go_wp2_with fail
    go_ret
    exact ⟨ret_bool hf.out.symm, Below.refl _ _⟩

set_option maxHeartbeats 1000000 in
theorem sameRule_any (n₀ : Nat) (v v' : Value) (x y : PRule) (w : World) (h : RuleVal n₀ w v x) (h' : RuleVal n₀ w v' y) (hn : n₀ ≤ w.heap.size) (hl : SmallRule x) (hl' : SmallRule y) (r : Bool) (hr : r = true ↔ x = y) :
    Calls Try.prog 35 #[v, v'] w fun e w' => e = .returned (.bool r) ∧ Below w.heap.size w w' := by
  obtain ⟨kv, rfl, hk⟩ := h
  obtain ⟨kv', rfl, hk'⟩ := h'
  obtain ⟨r1, hr1⟩ : ∃ r1 : Bool, r1 = true ↔ x.terms = y.terms := by classical exact ⟨decide (x.terms = y.terms), by simp⟩
  have HE : Hid (∀ w1, Below w.heap.size w w1 → Calls Try.prog 47 #[kv, kv', .func (.func 48) #[] #[]] w1 fun e w' => e = .returned (.bool r1) ∧ Below w1.heap.size w1 w') := fun w1 hb =>
    equalTerms_any n₀ kv kv' x.terms y.terms w1 (hk.below (Nat.le_refl _) (hb.mono hn)) (hk'.below (Nat.le_refl _) (hb.mono hn)) (by have := hb.size; omega) hl.terms hl'.terms r1 hr1
  obtain ⟨a, cap, rfl, -⟩ := hk
  obtain ⟨a', cap', rfl, -⟩ := hk'
  have hW2 := ((Below.refl w.heap.size w).alloc (Nat.le_refl _) (.cells #[.string x.name, .bool x.leaf, .slice a x.terms.length cap] 29)).alloc (by simp) (.cells #[.string y.name, .bool y.leaf, .slice a' y.terms.length cap'] 29)
  rw [rule_eq_iff, ← hr1] at hr
  have HR := hide hr
  clear hr hr1 hl hl'
  obtain ⟨xn, xl, xs⟩ := x
  obtain ⟨yn, yl, ys⟩ := y
  dsimp only at *
  by_cases h0 : xn = yn
  · subst h0
    have hs : (xn.toList == xn.toList) = true := by simp
    by_cases h1 : xl = yl
    · subst h1
      have hb : (xl == xl) = true := by simp
      have he : Hid (r1 = r) := by
        have := HR.out
        simp only [true_and] at this
        exact Bool.eq_iff_iff.2 this.symm
      go_enter Try.func35, Try.ntmps35
      go_wp2_with (go_at_call 47; refine (HE.out _ hW2).mono ?_; rintro e w1 ⟨rfl, hb1⟩)
      go_ret
      exact ⟨ret_bool he.out, hW2.trans (hb1.mono (by simp; omega))⟩
    · have hf : Hid (r = false) := no_true HR.out (fun e => h1 e.2.1)
      have hne : (xl == yl) = false := by simpa using h1
      clear h1
      go_enter Try.func35, Try.ntmps35
      go_wp2_with fail
      go_ret
      exact ⟨ret_bool hf.out.symm, hW2⟩
  · have hf : Hid (r = false) := no_true HR.out (fun e => h0 e.1)
    have hs := text_ne h0
    clear h0
    go_enter Try.func35, Try.ntmps35
    go_wp2_with fail
    go_ret
    exact ⟨ret_bool hf.out.symm, hW2⟩

set_option maxHeartbeats 1000000 in
set_option maxRecDepth 100000 in
theorem equalRules_any (n₀ : Nat) (v v' : Value) (l l' : List PRule) (w : World) (h : RulesAt n₀ w v l) (h' : RulesAt n₀ w v' l') (hn : n₀ ≤ w.heap.size) (hs : SmallRules l) (hs' : SmallRules l') (r : Bool) (hr : r = true ↔ l = l') :
    Calls Try.prog 34 #[v, v', .func (.func 35) #[] #[]] w fun e w' => e = .returned (.bool r) ∧ Below w.heap.size w w' := by
  obtain ⟨a, cap, rfl, hk⟩ := h
  obtain ⟨a', cap', rfl, hk'⟩ := h'
  have hl := hs.len
  have HKL := hide hs.rules
  have HKL' := hide hs'.rules
  have HR := hide hr
  clear hs hs' hr
  by_cases hle : l.length = l'.length
  · have hle1 : ((l.length : Int) != (l'.length : Int)) = false := by simp [hle]
    have HL := hide hle
    clear hle
    go_enter Try.func34, Try.ntmps34
    go_wp2_with fail
    go_loopw [17] (fun i wr => ∃ k : Nat, k ≤ l.length ∧ i = .int .i64 k ∧ Hid (∀ j, j < k → l[j]?.getD ruleNil = l'[j]?.getD ruleNil) ∧ Below w.heap.size w wr) (fun i _ => l.length - (intOf i).toNat)
    case atStart => exact ⟨0, Nat.zero_le _, rfl, fun j hj => absurd hj (by omega), Below.refl _ _⟩
    case round =>
      obtain ⟨k, hkl, rfl, hsame, hbr⟩ := hrel
      have hsz := hbr.size
      by_cases hlt : k < l.length
      · have hlt' : k < l'.length := by rw [← HL.out]; exact hlt
        obtain ⟨b, off, rfl, hb, hc⟩ := hk.resolve_left (by intro e; simp [e] at hlt)
        obtain ⟨b', off', rfl, hb', hc'⟩ := hk'.resolve_left (by intro e; simp [e] at hlt')
        have hA := (hc k hlt).below hb (Nat.le_refl _) (hbr.mono hn)
        have hA' := (hc' k hlt').below hb' (Nat.le_refl _) (hbr.mono hn)
        have hlx := HKL.out (l[k]?.getD ruleNil) (by simp [hlt])
        have hly := HKL'.out (l'[k]?.getD ruleNil) (by simp [hlt'])
        have hlt1 : (k : Int) < (l.length : Int) := by omega
        have hlt1' : (k : Int) < (l'.length : Int) := by omega
        have hbw : b < wr.heap.size := by omega
        have hbw' : b' < wr.heap.size := by omega
        obtain ⟨x, hx⟩ : ∃ x, x = l[k]?.getD ruleNil := ⟨_, rfl⟩
        obtain ⟨y, hy⟩ : ∃ y, y = l'[k]?.getD ruleNil := ⟨_, rfl⟩
        rw [← hx] at hA hlx
        rw [← hy] at hA' hly
        have HX := hide hx
        have HY := hide hy
        clear hx hy hc hc' hk hk'
        have g0 := hA.c0
        have f0 := hA'.c0
        have g1 := hA.c1
        have f1 := hA'.c1
        obtain ⟨kv, g2, hi⟩ := hA.c2
        obtain ⟨kv', f2, hi'⟩ := hA'.c2
        obtain ⟨r1, hr1⟩ : ∃ r1 : Bool, r1 = true ↔ x = y := by classical exact ⟨decide (x = y), by simp⟩
        have HE : Hid (∀ w1, Below wr.heap.size wr w1 → Calls Try.prog 35 #[.agg #[.string x.name, .bool x.leaf, kv], .agg #[.string y.name, .bool y.leaf, kv']] w1 fun e w' => e = .returned (.bool r1) ∧ Below w1.heap.size w1 w') := fun w1 hb1 =>
          sameRule_any n₀ _ _ x y w1 ⟨kv, rfl, hi.below (Nat.le_refl _) (hb1.mono (by omega))⟩ ⟨kv', rfl, hi'.below (Nat.le_refl _) (hb1.mono (by omega))⟩ (by have := hb1.size; omega) hlx hly r1 hr1
        have HR1 := hide hr1
        obtain ⟨ak, ck, rfl, -⟩ := hi
        obtain ⟨ak', ck', rfl, -⟩ := hi'
        clear hA hA' hr1 hlx hly
        have hW2 := ((Below.refl wr.heap.size wr).alloc (Nat.le_refl _) (.cells #[.string x.name, .bool x.leaf, .slice ak x.terms.length ck] 29)).alloc (by simp) (.cells #[.string y.name, .bool y.leaf, .slice ak' y.terms.length ck'] 29)
        cases r1 with
        | true =>
          go_wp2_with (go_at_call 35; refine (HE.out _ hW2).mono ?_; rintro e w1 ⟨rfl, hb1⟩)
          refine ⟨⟨k + 1, by omega, by go_num, fun j hj => ?_, hbr.trans ((hW2.trans (hb1.mono (by simp; omega))).mono hsz)⟩, by simp [intOf]; omega⟩
          rcases Nat.lt_succ_iff_lt_or_eq.1 hj with h | rfl
          · exact hsame.out j h
          · exact HX.out.symm.trans ((HR1.out.1 (by trivial)).trans HY.out)
        | false =>
          have hf : Hid (r = false) := no_true HR.out (fun e => by have := HR1.out.2 (by rw [HX.out, HY.out, e]); cases this)
          go_wp2_with (go_at_call 35; refine (HE.out _ hW2).mono ?_; rintro e w1 ⟨rfl, hb1⟩)
          go_ret
          exact ⟨ret_bool hf.out.symm, hbr.trans ((hW2.trans (hb1.mono (by simp; omega))).mono hsz)⟩
      · have ht : Hid (r = true) := HR.out.2 (list_getD_ext ruleNil HL.out fun j hj => hsame.out j (by omega))
        clear hk hk'
        go_wp2_with fail
        go_ret
        exact ⟨ret_bool ht.out.symm, hbr⟩
  · have hf : Hid (r = false) := no_true HR.out (fun e => hle (by rw [e]))
    have hle1 : ((l.length : Int) != (l'.length : Int)) = true := by simp; omega
    clear hle hk hk'
    go_enter Try.func34, Try.ntmps34
    go_wp2_with fail
    go_ret
    exact ⟨ret_bool hf.out.symm, Below.refl _ _⟩
end Go.Proofs.Ytkfklaapoaocdaa
