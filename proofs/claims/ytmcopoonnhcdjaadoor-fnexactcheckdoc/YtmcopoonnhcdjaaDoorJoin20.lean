/-
  Whether a list of rules is a schema: what the specification and the program answer.
  What is asked of a schema ahead of all else, plainly.
-/
import Derived.Test.YtmcopoonnhcdjaaDoorJoin19
namespace Go.Proofs.YtmcopoonnhcdjaaDoor
open Go.RowKit

/-- A schema. -/
structure SchemaP (l : List PRule) : Prop where
  one : 1 ≤ l.length
  few : l.length ≤ 8
  rules : ∀ x ∈ l, RuleP l.length x
  names : ∀ i, i < l.length → ∀ j, j < i → nameAt l j ≠ nameAt l i

def NamesTo (l : List PRule) (n : Nat) : Prop := ∀ i, i < n → ∀ j, j < i → nameAt l j ≠ nameAt l i

theorem NamesTo.next {l : List PRule} {n : Nat} (h : NamesTo l n) (h1 : ∀ j, j < n → nameAt l j ≠ nameAt l n) : NamesTo l (n + 1) := by
  intro i hi j hj
  by_cases e : i = n
  · subst e; exact h1 j hj
  · exact h i (by omega) j hj

set_option maxHeartbeats 1000000 in
set_option maxRecDepth 100000 in
theorem specSchOK_any (n₀ : Nat) (v : Value) (l : List PRule) (w : World) (h : RulesAt n₀ w v l) (hn : n₀ ≤ w.heap.size) (hl : SmallRules l) (r : Bool) (hr : r = true ↔ SchemaP l) :
    Calls Tryd.prog 36 #[v] w fun e w' => e = .returned (.bool r) ∧ Below w.heap.size w w' := by
  obtain ⟨a, cap, rfl, hk⟩ := h
  have HR := hide hr
  have hl1 := hl.len
  have HKL := hide hl.rules
  clear hr hl
  cases hin : inB l.length 1 8 with
  | false =>
    have hf : Hid (r = false) := no_of HR.out fun T => by have := inB_iff.2 ⟨show (1 : Int) ≤ l.length by have := T.one; omega, show (l.length : Int) ≤ 8 by have := T.few; omega⟩; rw [hin] at this; cases this
    have HI := hide hin
    clear hin hk
    go_enter Tryd.func36, Tryd.ntmps36
    go_wp2_with (go_at_call 57; refine (specIn_any _ _ _ _).mono ?_; rw [HI.out]; rintro e w' ⟨rfl, rfl⟩)
    go_ret
    exact ⟨ret_bool hf.out.symm, Below.refl _ _⟩
  | true =>
    have HI := hide hin
    obtain ⟨h1, h8⟩ := inB_iff.1 hin
    clear hin
    obtain ⟨b, off, rfl, hb, hc⟩ := hk.resolve_left (by intro e; simp [e] at h1)
    have HC := hide hc
    clear hc hk
    go_enter Tryd.func36, Tryd.ntmps36
    go_wp2_with (go_at_call 57; refine (specIn_any _ _ _ _).mono ?_; rw [HI.out]; rintro e w' ⟨rfl, hw⟩; have hw2 := hw.symm; subst hw2; clear hw)
    go_loopw [3] (fun i wr => ∃ k : Nat, k ≤ l.length ∧ i = .int .i64 k ∧ Hid ((∀ x ∈ l.take k, RuleP l.length x) ∧ NamesTo l k) ∧ Below w.heap.size w wr) (fun i _ => l.length - (intOf i).toNat)
    case atStart => exact ⟨0, Nat.zero_le _, rfl, ⟨by simp, fun i hi => by omega⟩, Below.refl _ _⟩
    case round =>
      obtain ⟨wo, hwo⟩ : ∃ wo, wo = wr := ⟨_, rfl⟩
      subst hwo
      obtain ⟨k, hkl, rfl, hall, hbr⟩ := hrel
      have hsz := hbr.size
      by_cases hlt : k < l.length
      · have hA := (HC.out k hlt).below hb (Nat.le_refl _) (hbr.mono hn)
        have g0 := hA.c0
        have g1 := hA.c1
        obtain ⟨kv, g2, hi⟩ := hA.c2
        have hbw : b < wo.heap.size := by omega
        have HMem : Hid (l[k]?.getD ruleNil ∈ l) := by simp [Hid, hlt]
        have HSn := hide (take_snoc_all (d := ruleNil) hlt hall.out.1)
        have HNT := hide hall.out.2
        have HNx : Hid ((l[k]?.getD ruleNil).name = nameAt l k) := rfl
        have HCall : Hid (Calls Tryd.prog 64 #[.agg #[.string (l[k]?.getD ruleNil).name, .bool (l[k]?.getD ruleNil).leaf, kv], .int .i64 l.length] wo fun e w' => e = .returned (.bool (dec (RuleP l.length (l[k]?.getD ruleNil)))) ∧ Below wo.heap.size wo w') :=
          specRule_any n₀ _ (l[k]?.getD ruleNil) l.length wo ⟨kv, rfl, hi⟩ (by omega) (HKL.out _ HMem.out) h1 h8 _ (dec_iff _)
        obtain ⟨ak, ck, rfl, -⟩ := hi
        clear hA hall
        generalize l[k]?.getD ruleNil = x at *
        have HD := hide (dec_iff (RuleP l.length x))
        generalize dec (RuleP l.length x) = q at *
        go_wp2_with fail
        refine HCall.out.mono ?_
        rintro e w1 ⟨rfl, hb1⟩
        have hs1 := hb1.size
        have hbr1 := hbr.trans (hb1.mono hsz)
        cases q with
        | false =>
          have hf : Hid (r = false) := no_of HR.out fun T => by have := HD.out.2 (T.rules _ HMem.out); cases this
          go_wp2_with fail
          go_ret
          exact ⟨ret_bool hf.out.symm, hbr1⟩
        | true =>
          have HA2 := hide (HSn.out (HD.out.1 rfl))
          have g0' := (hb1.cell (p := ⟨b, off + k * 3, none⟩) hbw).trans g0
          clear HCall g0 g1 g2
          go_wp2_with fail
          go_loopw [4] (fun i wr => ∃ m : Nat, m ≤ k ∧ i = .int .i64 m ∧ Hid (∀ j, j < m → nameAt l j ≠ nameAt l k) ∧ ∃ q, wr = w1.drewN q) (fun i _ => k - (intOf i).toNat)
          case atStart => exact ⟨0, Nat.zero_le _, rfl, fun j hj => absurd hj (by omega), 0, rfl⟩
          case round =>
            obtain ⟨m, hm, rfl, hne, q, rfl⟩ := hrel
            by_cases hmk : m < k
            · have p0 := ((HC.out m (by omega)).below hb (Nat.le_refl _) (hbr1.mono hn)).c0
              have HT := hide (text_eq (l[m]?.getD ruleNil).name x.name)
              have HNm : Hid ((l[m]?.getD ruleNil).name = nameAt l m) := rfl
              have hlt1 : (k : Int) < (l.length : Int) := by omega
              have hlt2 : (m : Int) < (l.length : Int) := by omega
              generalize (l[m]?.getD ruleNil).name = nm at *
              generalize hte : (nm.toList == x.name.toList) = te at *
              cases te with
              | true =>
                have hf : Hid (r = false) := no_of HR.out fun T => T.names k hlt m hmk (by rw [← HNm.out, ← HNx.out]; exact HT.out.1 rfl)
                go_wp2_with fail
                go_quiet (fail)
                go_wp2_with fail
                go_ret
                exact ⟨ret_bool hf.out.symm, below_drewN (below_drewN hbr1 _) _⟩
              | false =>
                have HS : Hid (∀ j, j < m + 1 → nameAt l j ≠ nameAt l k) := fun j hj => by
                  by_cases e : j = m
                  · rw [e, ← HNm.out, ← HNx.out]; exact fun h => by have := HT.out.2 h; cases this
                  · exact hne.out j (by omega)
                go_wp2_with fail
                go_quiet (fail)
                go_wp2_with fail
                exact ⟨⟨m + 1, by omega, by go_num, HS, _, rfl⟩, by simp [intOf]; omega⟩
            · have HN2 := hide (HNT.out.next fun j hj => hne.out j (by omega))
              go_wp2_with fail
              exact ⟨⟨k + 1, by omega, by go_num, ⟨HA2.out, HN2.out⟩, below_drewN hbr1 _⟩, by simp [intOf]; omega⟩
      · have hy : Hid (r = true) := HR.out.2 ⟨by omega, by omega, by have := hall.out.1; rwa [List.take_of_length_le (by omega)] at this, fun i hi => hall.out.2 i (by omega)⟩
        go_wp2_with fail
        go_ret
        exact ⟨ret_bool hy.out.symm, hbr⟩

theorem RulesAt.take {n₀ : Nat} {w : World} {b off cap : Nat} {l : List PRule} (hb : b < n₀) (hc : ∀ j, j < l.length → RuleAt n₀ w b (off + j * 3) (l[j]?.getD ruleNil)) {k : Nat} (hk : k ≤ l.length) : RulesAt n₀ w (.slice (some ⟨b, off, none⟩) k cap) (l.take k) := by
  refine ⟨_, cap, by rw [List.length_take, Nat.min_eq_left hk], .inr ⟨b, off, rfl, hb, fun j hj => ?_⟩⟩
  rw [List.length_take] at hj
  have e : (l.take k)[j]?.getD ruleNil = l[j]?.getD ruleNil := by rw [List.getElem?_take]; rw [if_pos (by omega)]
  rw [e]
  exact hc j (by omega)

theorem nameAt_take {l : List PRule} {k j : Nat} (h : j < k) : nameAt (l.take k) j = nameAt l j := by
  unfold nameAt; rw [List.getElem?_take]; rw [if_pos h]

set_option maxHeartbeats 1000000 in
set_option maxRecDepth 100000 in
theorem implSchemaOK_any (n₀ : Nat) (v : Value) (l : List PRule) (w : World) (h : RulesAt n₀ w v l) (hroom : Roomy v l.length) (hn : n₀ ≤ w.heap.size) (hl : SmallRules l) (r : Bool) (hr : r = true ↔ SchemaP l) :
    Calls Tryd.prog 75 #[v] w fun e w' => e = .returned (.bool r) ∧ Below w.heap.size w w' := by
  obtain ⟨a, cap, rfl, hk⟩ := h
  obtain ⟨a', cap', hac, hcap⟩ := hroom
  obtain ⟨rfl, -, rfl⟩ : a = a' ∧ l.length = l.length ∧ cap = cap' := by simpa using hac
  clear hac
  have HR := hide hr
  have hl1 := hl.len
  have HKL := hide hl.rules
  clear hr hl
  go_enter Tryd.func75, Tryd.ntmps75
  go_wp2_with fail
  go_loopw [7] (fun i wr => ∃ k : Nat, k ≤ l.length ∧ i = .int .i64 k ∧ Hid ((∀ x ∈ l.take k, 1 ≤ (l.length : Int) ∧ (l.length : Int) ≤ 8 ∧ RuleP l.length x) ∧ NamesTo l k) ∧ Below w.heap.size w wr) (fun i _ => l.length - (intOf i).toNat)
  case atStart => exact ⟨0, Nat.zero_le _, rfl, ⟨by simp, fun i hi => by omega⟩, Below.refl _ _⟩
  case round =>
    obtain ⟨k, hkl, rfl, hall, hbr⟩ := hrel
    have hsz := hbr.size
    by_cases hlt : k < l.length
    · obtain ⟨b, off, rfl, hb, hc⟩ := hk.resolve_left (by intro e; simp [e] at hlt)
      have hA := (hc k hlt).below hb (Nat.le_refl _) (hbr.mono hn)
      have g0 := hA.c0
      have g1 := hA.c1
      obtain ⟨kv, g2, hi⟩ := hA.c2
      have hbw : b < wr.heap.size := by omega
      have HMem : Hid (l[k]?.getD ruleNil ∈ l) := by simp [Hid, hlt]
      have HSn := hide (take_snoc_all (d := ruleNil) hlt hall.out.1)
      have HNT := hide hall.out.2
      have HNx : Hid ((l[k]?.getD ruleNil).name = nameAt l k) := rfl
      have hlt1 : (k : Int) < (l.length : Int) := by omega
      have hlt2 : (k : Int) ≤ (cap : Int) := by omega
      obtain ⟨W, hW⟩ : ∃ W, W = wr.alloc (.cells #[.string (l[k]?.getD ruleNil).name, .bool (l[k]?.getD ruleNil).leaf, kv] 72) := ⟨_, rfl⟩
      have hWb : Below wr.heap.size wr W := by rw [hW]; exact (Below.refl _ _).alloc (Nat.le_refl _) _
      have hWs : W.heap.size = wr.heap.size + 1 := by rw [hW]; simp
      have HCall : Hid (∀ t : Calm W, Calls Tryd.prog 100 #[.agg #[.string (l[k]?.getD ruleNil).name, .bool (l[k]?.getD ruleNil).leaf, kv], .int .i64 l.length] t.out fun e w' => e = .returned (.bool (dec (1 ≤ (l.length : Int) ∧ (l.length : Int) ≤ 8 ∧ RuleP l.length (l[k]?.getD ruleNil)))) ∧ Below t.out.heap.size t.out w') := fun t =>
        implRuleOK_any n₀ _ (l[k]?.getD ruleNil) l.length t.out ⟨kv, rfl, hi.below (Nat.le_refl _) ((hWb.mono (by omega)).trans (t.below.mono (by omega)))⟩ (by have := t.below.size; omega) (HKL.out _ HMem.out) _ (dec_iff _)
      have HKN : Hid (∀ t : Calm W, Calls Tryd.prog 101 #[.slice (some ⟨b, off, none⟩) k cap, .string (l[k]?.getD ruleNil).name] t.out fun e w' => e = .returned (.int .i64 (kindOf (l.take k) (l[k]?.getD ruleNil).name)) ∧ Below t.out.heap.size t.out w') := fun t =>
        kindNamed_any n₀ _ (l.take k) _ t.out ((RulesAt.take hb hc (by omega)).below (Nat.le_refl _) ((hbr.mono hn).trans ((hWb.mono (by omega)).trans (t.below.mono (by omega))))) (by have := t.below.size; omega) (by rw [List.length_take]; omega)
      have HKZ : Hid (kindOf (l.take k) (l[k]?.getD ruleNil).name = 0 ↔ ∀ j, j < k → nameAt l j ≠ nameAt l k) := by
        rw [Hid, kindOf_zero, List.length_take, Nat.min_eq_left (by omega), HNx.out]
        exact ⟨fun h j hj => by have := h j hj; rwa [nameAt_take hj] at this, fun h j hj => by rw [nameAt_take hj]; exact h j hj⟩
      obtain ⟨ak, ck, rfl, -⟩ := hi
      clear hA hall hc hk
      generalize l[k]?.getD ruleNil = x at *
      have HD := hide (dec_iff (1 ≤ (l.length : Int) ∧ (l.length : Int) ≤ 8 ∧ RuleP l.length x))
      generalize dec (1 ≤ (l.length : Int) ∧ (l.length : Int) ≤ 8 ∧ RuleP l.length x) = q at *
      generalize kindOf (l.take k) x.name = z at *
      have c0 : W.cell? ⟨wr.heap.size, 0, none⟩ = some (.string x.name) := by rw [hW]; simp
      have c1 : W.cell? ⟨wr.heap.size, 1, none⟩ = some (.bool x.leaf) := by rw [hW]; simp
      have c2 : W.cell? ⟨wr.heap.size, 2, none⟩ = some (.slice ak x.terms.length ck) := by rw [hW]; simp
      have hWl : wr.heap.size < W.heap.size := by omega
      have hcal := calm_cell W
      have hbW : Below w.heap.size w W := hbr.trans (hWb.mono hsz)
      go_wp2_with fail
      rw [← hW]
      cases q with
      | false =>
        have hf : Hid (r = false) := no_of HR.out fun T => by have := HD.out.2 ⟨by have := T.one; omega, by have := T.few; omega, T.rules _ HMem.out⟩; cases this
        clear hW
        refine wp_region_calm (by kernel_rfl) (by kernel_rfl) ?_
        repeat (go_big_quiet_step ((go_at_call 100; exact calm_of (HCall.out _))))
        refine wpQuiet_nil ?_
        rintro _ ⟨t, rfl⟩
        have ht := t.below
        go_wp2_with fail
        go_ret
        exact ⟨ret_bool hf.out.symm, hbW.trans (ht.mono (by omega))⟩
      | true =>
        by_cases hz : z = 0
        · have HA2 := hide (HSn.out (HD.out.1 rfl))
          have HN2 := hide (HNT.out.next (HKZ.out.1 hz))
          have hz1 : decide (0 < z) = false := by simp [hz]
          clear hW hz
          refine wp_region_calm (by kernel_rfl) (by kernel_rfl) ?_
          repeat (go_big_quiet_step (first | (go_at_call 100; exact calm_of (HCall.out _)) | (go_at_call 101; exact calm_of (HKN.out _))))
          refine wpQuiet_nil ?_
          rintro _ ⟨t, rfl⟩
          have ht := t.below
          go_wp2_with fail
          exact ⟨⟨k + 1, by omega, by go_num, ⟨HA2.out, HN2.out⟩, hbW.trans (ht.mono (by omega))⟩, by simp [intOf]; omega⟩
        · have hf : Hid (r = false) := no_of HR.out fun T => hz (HKZ.out.2 fun j hj => T.names k hlt j hj)
          have hz1 : 0 < z := by omega
          clear hW hz
          refine wp_region_calm (by kernel_rfl) (by kernel_rfl) ?_
          repeat (go_big_quiet_step (first | (go_at_call 100; exact calm_of (HCall.out _)) | (go_at_call 101; exact calm_of (HKN.out _))))
          refine wpQuiet_nil ?_
          rintro _ ⟨t, rfl⟩
          have ht := t.below
          go_wp2_with fail
          go_ret
          exact ⟨ret_bool hf.out.symm, hbW.trans (ht.mono (by omega))⟩
    · obtain rfl : k = l.length := by omega
      have HY : Hid (decide (0 < l.length) = r) := by
        rw [Hid, Bool.eq_iff_iff, HR.out, decide_eq_true_eq]
        have hall' := hall.out.1
        rw [List.take_of_length_le (Nat.le_refl _)] at hall'
        refine ⟨fun h => ?_, fun T => by have := T.one; omega⟩
        have hx : l[0]'(by omega) ∈ l := List.getElem_mem _
        have := hall' _ hx
        exact ⟨by omega, by omega, fun x hx => (hall' x hx).2.2, hall.out.2⟩
      clear hk
      go_wp2_with fail
      go_ret
      exact ⟨ret_bool HY.out, hbr⟩
end Go.Proofs.YtmcopoonnhcdjaaDoor

namespace Go.Proofs.YtmcopoonnhcdjaaDoor
open Go.RowKit

noncomputable def schAsk (R : List PRule) : Int := by
  classical exact if 4096 < R.length then 2 else if SchemaP R then 0 else 1
theorem schAsk_long {R : List PRule} (h : 4096 < R.length) : schAsk R = 2 := by unfold schAsk; rw [if_pos h]
theorem schAsk_ok {R : List PRule} (h : SchemaP R) : schAsk R = 0 := by unfold schAsk; rw [if_neg (by have := h.few; omega), if_pos h]
theorem schAsk_bad {R : List PRule} (h : ¬ 4096 < R.length) (h1 : ¬ SchemaP R) : schAsk R = 1 := by unfold schAsk; rw [if_neg h, if_neg h1]
theorem schAsk_zero {R : List PRule} (h : schAsk R = 0) : SchemaP R := by
  unfold schAsk at h
  split at h
  · exact absurd h (by decide)
  · split at h
    · assumption
    · exact absurd h (by decide)
end Go.Proofs.YtmcopoonnhcdjaaDoor
