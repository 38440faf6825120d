/-
  Whether a rule is one of a schema of so many rules: what the specification and the program answer.
  The kind of a name among rules: what the specification and the program answer.
-/
import Derived.Test.YtmcopoonnhcdjaaDoorJoin17
import Derived.Test.YtmcopoonnhcdjaaDoorJoin18
namespace Go.Proofs.YtmcopoonnhcdjaaDoor
open Go.RowKit

def textWord : ByteArray := ⟨#[116, 101, 120, 116]⟩

theorem toList_inj {s t : ByteArray} (h : s.toList = t.toList) : s = t := by
  rw [ByteArray.toList_eq, ByteArray.toList_eq] at h
  cases s; cases t
  simpa using h

theorem textWord_eq (s : ByteArray) : (s.toList == [116, 101, 120, 116]) = true ↔ s = textWord := by
  have e : textWord.toList = [116, 101, 120, 116] := by decide +kernel
  rw [beq_iff_eq, ← e]
  exact ⟨toList_inj, fun h => by rw [h]⟩

theorem says_dec {e : Ending} {P : Prop} (h : Says e P) : e = .returned (.bool (dec P)) := by
  obtain ⟨b, rfl, hb⟩ := h
  exact ret_bool (Bool.eq_iff_iff.2 (hb.trans (dec_iff P).symm))

structure RuleP (rules : Int) (x : PRule) : Prop where
  name : NameP x.name
  other : x.name ≠ textWord
  leaf : x.leaf = true → x.terms = []
  terms : TermsP rules x.terms

set_option maxHeartbeats 1000000 in
set_option maxRecDepth 100000 in
theorem specRule_any (n₀ : Nat) (v : Value) (x : PRule) (rules : Int) (w : World) (h : RuleVal n₀ w v x) (hn : n₀ ≤ w.heap.size) (hl : SmallRule x) (h1 : 1 ≤ rules) (h8 : rules ≤ 8) (r : Bool) (hr : r = true ↔ RuleP rules x) :
    Calls Tryd.prog 64 #[v, .int .i64 rules] w fun e w' => e = .returned (.bool r) ∧ Below w.heap.size w w' := by
  obtain ⟨kv, rfl, a, cap, rfl, hk⟩ := h
  have HR := hide hr
  have hl1 := hl.terms.len
  have HKL := hide hl.terms.kinds
  have HNm : Hid (x.name.size ≤ maxLen) := by have := hl.name; unfold Hid maxLen; omega
  have HW : Hid (∀ wx, Calls Tryd.prog 91 #[.string x.name] wx fun e w' => e = .returned (.bool (dec (NameP x.name))) ∧ w' = wx) := fun wx => (specWord_any x.name wx HNm.out).mono fun e w' ⟨h, h'⟩ => ⟨says_dec h, h'⟩
  have HD := hide (dec_iff (NameP x.name))
  have HT := hide (textWord_eq x.name)
  clear hr hl
  generalize dec (NameP x.name) = nb at *
  generalize hte : (x.name.toList == [116, 101, 120, 116]) = te at *
  obtain ⟨lf, hlf0⟩ : ∃ lf, x.leaf = lf := ⟨_, rfl⟩
  rw [hlf0]
  have HLF := hide hlf0
  clear hlf0
  obtain ⟨b4, hb4⟩ : ∃ b4 : Bool, decide ((4 : Int) < (x.terms.length : Int)) = b4 := ⟨_, rfl⟩
  obtain ⟨b0, hb0⟩ : ∃ b0 : Bool, decide (0 < x.terms.length) = b0 := ⟨_, rfl⟩
  have hb0i : decide ((0 : Int) < (x.terms.length : Int)) = b0 := by rw [← hb0]; simp
  have HB4 := hide hb4
  have HB0 := hide hb0
  cases hbad : (!nb || te || b4 || (lf && b0)) with
  | true =>
    have hf : Hid (r = false) := no_of HR.out fun T => by
      have e1 : nb = true := HD.out.2 T.name
      have e2 : te = false := no_of HT.out T.other
      have e3 : b4 = false := by rw [← HB4.out]; have := T.terms.len; simp; omega
      have e4 : lf = true → b0 = false := fun h => by rw [← HB0.out]; have := T.leaf (HLF.out.trans h); simp [this]
      rw [e1, e2, e3] at hbad
      simp at hbad
      rw [e4 hbad.1] at hbad
      cases hbad.2
    clear hk
    cases nb with
    | false =>
      clear hbad
      go_enter Tryd.func64, Tryd.ntmps64
      go_wp2_with (go_at_call 91; refine (HW.out _).mono ?_; rintro e w' ⟨rfl, rfl⟩)
      go_ret
      exact ⟨ret_bool hf.out.symm, (Below.refl _ _).alloc (Nat.le_refl _) _⟩
    | true =>
      cases te with
      | true =>
        clear hbad
        go_enter Tryd.func64, Tryd.ntmps64
        go_wp2_with (go_at_call 91; refine (HW.out _).mono ?_; rintro e w' ⟨rfl, rfl⟩)
        go_ret
        exact ⟨ret_bool hf.out.symm, (Below.refl _ _).alloc (Nat.le_refl _) _⟩
      | false =>
        cases b4 with
        | true =>
          clear hbad
          go_enter Tryd.func64, Tryd.ntmps64
          go_wp2_with (go_at_call 91; refine (HW.out _).mono ?_; rintro e w' ⟨rfl, rfl⟩)
          go_ret
          exact ⟨ret_bool hf.out.symm, (Below.refl _ _).alloc (Nat.le_refl _) _⟩
        | false =>
          simp only [Bool.not_true, Bool.false_or, Bool.and_eq_true] at hbad
          obtain ⟨rfl, rfl⟩ := hbad
          go_enter Tryd.func64, Tryd.ntmps64
          go_wp2_with (go_at_call 91; refine (HW.out _).mono ?_; rintro e w' ⟨rfl, rfl⟩)
          go_ret
          exact ⟨ret_bool hf.out.symm, (Below.refl _ _).alloc (Nat.le_refl _) _⟩
  | false =>
    simp only [Bool.or_eq_false_iff, Bool.not_eq_false', Bool.and_eq_false_iff] at hbad
    obtain ⟨⟨⟨rfl, rfl⟩, rfl⟩, e4⟩ := hbad
    have HG : Hid (NameP x.name ∧ x.name ≠ textWord ∧ x.terms.length ≤ 4 ∧ (x.leaf = true → x.terms = [])) := by
      refine ⟨HD.out.1 rfl, fun h => (by have := HT.out.2 h; cases this), (by have := HB4.out; simp at this; omega), fun h => ?_⟩
      rcases e4 with e4 | e4
      · rw [← HLF.out, h] at e4; cases e4
      · have := HB0.out; rw [e4] at this; simpa using this
    have e4' : lf = false ∨ (lf = true ∧ b0 = false) := by
      cases lf with
      | false => exact .inl rfl
      | true => exact .inr ⟨rfl, e4.resolve_left (by simp)⟩
    clear e4
    rcases e4' with rfl | ⟨rfl, rfl⟩
    · go_enter Tryd.func64, Tryd.ntmps64
      go_wp2_with (go_at_call 91; refine (HW.out _).mono ?_; rintro e w' ⟨rfl, rfl⟩)
      go_loopw [5] (fun i wr => ∃ k : Nat, k ≤ x.terms.length ∧ i = .int .i64 k ∧ Hid (∀ t ∈ x.terms.take k, TermP rules t) ∧ Below (w.heap.size + 1) (w.alloc (.cells #[.string x.name, .bool false, .slice a x.terms.length cap] 72)) wr) (fun i _ => x.terms.length - (intOf i).toNat)
      case atStart => exact ⟨0, Nat.zero_le _, rfl, by simp [Hid], Below.refl _ _⟩
      case round =>
        obtain ⟨k, hkl, rfl, hall, hbr⟩ := hrel
        have hsz := hbr.size
        simp only [World.size_alloc] at hsz
        have hszl : w.heap.size < wr.heap.size := by omega
        have c2 : wr.cell? ⟨w.heap.size, 2, none⟩ = some (.slice a x.terms.length cap) := by rw [hbr.cell (p := ⟨w.heap.size, 2, none⟩) (by simp)]; simp
        have hw0 : Below w.heap.size w wr := ((Below.refl _ _).alloc (Nat.le_refl _) _).trans (hbr.mono (by omega))
        by_cases hlt : k < x.terms.length
        · obtain ⟨b, off, rfl, hb, hc⟩ := hk.resolve_left (by intro e; simp [e] at hlt)
          have hA := (hc k hlt).below hb (Nat.le_refl _) (hw0.mono hn)
          have g1 := hA.c1
          obtain ⟨kv, g0, hi⟩ := hA.c0
          have hbw : b < wr.heap.size := by omega
          have HMem : Hid (x.terms[k]?.getD termNil ∈ x.terms) := by simp [Hid, hlt]
          have HSn := hide (take_snoc_all (d := termNil) hlt hall.out)
          have HCall : Hid (Calls Tryd.prog 92 #[.agg #[kv, .int .i64 (x.terms[k]?.getD termNil).many], .int .i64 rules] wr fun e w' => e = .returned (.bool (dec (TermP rules (x.terms[k]?.getD termNil)))) ∧ Below wr.heap.size wr w') :=
            specTerm_any n₀ _ (x.terms[k]?.getD termNil) rules wr ⟨kv, rfl, hi⟩ (by omega) (HKL.out _ HMem.out) h1 h8 _ (dec_iff _)
          obtain ⟨ak, ck, rfl, -⟩ := hi
          clear hA hc hk hall
          generalize x.terms[k]?.getD termNil = y at *
          have HD := hide (dec_iff (TermP rules y))
          generalize dec (TermP rules y) = q at *
          go_wp2_with fail
          refine HCall.out.mono ?_
          rintro e w1 ⟨rfl, hb1⟩
          cases q with
          | false =>
            have hf : Hid (r = false) := no_of HR.out fun T => by have := HD.out.2 (T.terms.all _ HMem.out); cases this
            go_wp2_with fail
            go_ret
            exact ⟨ret_bool hf.out.symm, hw0.trans (hb1.mono (by omega))⟩
          | true =>
            have HA2 := hide (HSn.out (HD.out.1 rfl))
            go_wp2_with fail
            exact ⟨⟨k + 1, by omega, by go_num, HA2, hbr.trans (hb1.mono hsz)⟩, by simp [intOf]; omega⟩
        · have hy : Hid (r = true) := HR.out.2 ⟨HG.out.1, HG.out.2.1, HG.out.2.2.2, HG.out.2.2.1, by have := hall.out; rwa [List.take_of_length_le (by omega)] at this⟩
          clear hk
          go_wp2_with fail
          go_ret
          exact ⟨ret_bool hy.out.symm, hw0⟩
    · go_enter Tryd.func64, Tryd.ntmps64
      go_wp2_with (go_at_call 91; refine (HW.out _).mono ?_; rintro e w' ⟨rfl, rfl⟩)
      go_loopw [5] (fun i wr => ∃ k : Nat, k ≤ x.terms.length ∧ i = .int .i64 k ∧ Hid (∀ t ∈ x.terms.take k, TermP rules t) ∧ Below (w.heap.size + 1) (w.alloc (.cells #[.string x.name, .bool true, .slice a x.terms.length cap] 72)) wr) (fun i _ => x.terms.length - (intOf i).toNat)
      case atStart => exact ⟨0, Nat.zero_le _, rfl, by simp [Hid], Below.refl _ _⟩
      case round =>
        obtain ⟨k, hkl, rfl, hall, hbr⟩ := hrel
        have hsz := hbr.size
        simp only [World.size_alloc] at hsz
        have hszl : w.heap.size < wr.heap.size := by omega
        have c2 : wr.cell? ⟨w.heap.size, 2, none⟩ = some (.slice a x.terms.length cap) := by rw [hbr.cell (p := ⟨w.heap.size, 2, none⟩) (by simp)]; simp
        have hw0 : Below w.heap.size w wr := ((Below.refl _ _).alloc (Nat.le_refl _) _).trans (hbr.mono (by omega))
        by_cases hlt : k < x.terms.length
        · obtain ⟨b, off, rfl, hb, hc⟩ := hk.resolve_left (by intro e; simp [e] at hlt)
          have hA := (hc k hlt).below hb (Nat.le_refl _) (hw0.mono hn)
          have g1 := hA.c1
          obtain ⟨kv, g0, hi⟩ := hA.c0
          have hbw : b < wr.heap.size := by omega
          have HMem : Hid (x.terms[k]?.getD termNil ∈ x.terms) := by simp [Hid, hlt]
          have HSn := hide (take_snoc_all (d := termNil) hlt hall.out)
          have HCall : Hid (Calls Tryd.prog 92 #[.agg #[kv, .int .i64 (x.terms[k]?.getD termNil).many], .int .i64 rules] wr fun e w' => e = .returned (.bool (dec (TermP rules (x.terms[k]?.getD termNil)))) ∧ Below wr.heap.size wr w') :=
            specTerm_any n₀ _ (x.terms[k]?.getD termNil) rules wr ⟨kv, rfl, hi⟩ (by omega) (HKL.out _ HMem.out) h1 h8 _ (dec_iff _)
          obtain ⟨ak, ck, rfl, -⟩ := hi
          clear hA hc hk hall
          generalize x.terms[k]?.getD termNil = y at *
          have HD := hide (dec_iff (TermP rules y))
          generalize dec (TermP rules y) = q at *
          go_wp2_with fail
          refine HCall.out.mono ?_
          rintro e w1 ⟨rfl, hb1⟩
          cases q with
          | false =>
            have hf : Hid (r = false) := no_of HR.out fun T => by have := HD.out.2 (T.terms.all _ HMem.out); cases this
            go_wp2_with fail
            go_ret
            exact ⟨ret_bool hf.out.symm, hw0.trans (hb1.mono (by omega))⟩
          | true =>
            have HA2 := hide (HSn.out (HD.out.1 rfl))
            go_wp2_with fail
            exact ⟨⟨k + 1, by omega, by go_num, HA2, hbr.trans (hb1.mono hsz)⟩, by simp [intOf]; omega⟩
        · have hy : Hid (r = true) := HR.out.2 ⟨HG.out.1, HG.out.2.1, HG.out.2.2.2, HG.out.2.2.1, by have := hall.out; rwa [List.take_of_length_le (by omega)] at this⟩
          clear hk
          go_wp2_with fail
          go_ret
          exact ⟨ret_bool hy.out.symm, hw0⟩

set_option maxHeartbeats 1000000 in
set_option maxRecDepth 100000 in
theorem implRuleOK_any (n₀ : Nat) (v : Value) (x : PRule) (rules : Int) (w : World) (h : RuleVal n₀ w v x) (hn : n₀ ≤ w.heap.size) (hl : SmallRule x) (r : Bool) (hr : r = true ↔ (1 ≤ rules ∧ rules ≤ 8 ∧ RuleP rules x)) :
    Calls Tryd.prog 100 #[v, .int .i64 rules] w fun e w' => e = .returned (.bool r) ∧ Below w.heap.size w w' := by
  obtain ⟨kv, rfl, hk⟩ := h
  have HR := hide hr
  clear hr
  have hW := (Below.refl w.heap.size w).alloc (Nat.le_refl _) (.cells #[.string x.name, .bool x.leaf, kv] 72)
  have HNm : Hid (x.name.size ≤ maxLen) := by have := hl.name; unfold Hid maxLen; omega
  have HW : Hid (∀ wx, Calls Tryd.prog 113 #[.string x.name] wx fun e w' => e = .returned (.bool (dec (NameP x.name))) ∧ w' = wx) := fun wx => (nameOK_any x.name wx HNm.out).mono fun e w' ⟨h, h'⟩ => ⟨says_dec h, h'⟩
  have HD := hide (dec_iff (NameP x.name))
  have HT := hide (textWord_eq x.name)
  have HTs : Hid (1 ≤ rules → rules ≤ 8 → Calls Tryd.prog 114 #[kv, .int .i64 rules] (w.alloc (.cells #[.string x.name, .bool x.leaf, kv] 72)) fun e w' => e = .returned (.bool (dec (TermsP rules x.terms))) ∧ Below (w.alloc (.cells #[.string x.name, .bool x.leaf, kv] 72)).heap.size (w.alloc (.cells #[.string x.name, .bool x.leaf, kv] 72)) w') := fun h1 h8 =>
    implTerms_any n₀ kv x.terms rules _ (hk.below (Nat.le_refl _) (hW.mono hn)) (by simp; omega) hl.terms h1 h8 _ (dec_iff _)
  have HDT := hide (dec_iff (TermsP rules x.terms))
  obtain ⟨a, cap, rfl, -⟩ := hk
  clear hl
  generalize dec (NameP x.name) = nb at *
  generalize dec (TermsP rules x.terms) = tb at *
  generalize hte : (x.name.toList == [116, 101, 120, 116]) = te at *
  obtain ⟨ib, hin⟩ : ∃ ib, inB rules 1 8 = ib := ⟨_, rfl⟩
  have HI := hide hin
  clear hin
  cases hbad : (!ib || !nb || te) with
  | true =>
    have hf : Hid (r = false) := no_of HR.out fun T => by
      have e0 : ib = true := by rw [← HI.out]; exact inB_iff.2 ⟨T.1, T.2.1⟩
      have e1 : nb = true := HD.out.2 T.2.2.name
      have e2 : te = false := no_of HT.out T.2.2.other
      rw [e0, e1, e2] at hbad
      cases hbad
    clear HTs
    cases ib with
    | false =>
      clear hbad
      go_enter Tryd.func100, Tryd.ntmps100
      go_wp2_with (first | (go_at_call 59; refine (between_any _ _ _ _).mono ?_; rw [HI.out]; rintro e w' ⟨rfl, rfl⟩) | (go_at_call 113; refine (HW.out _).mono ?_; rintro e w' ⟨rfl, rfl⟩) | (go_at_call 114; refine HC.out.mono ?_; rintro e w1 ⟨rfl, hb1⟩))
      go_ret
      exact ⟨ret_bool hf.out.symm, hW⟩
    | true =>
      cases nb with
      | false =>
        clear hbad
        go_enter Tryd.func100, Tryd.ntmps100
        go_wp2_with (first | (go_at_call 59; refine (between_any _ _ _ _).mono ?_; rw [HI.out]; rintro e w' ⟨rfl, rfl⟩) | (go_at_call 113; refine (HW.out _).mono ?_; rintro e w' ⟨rfl, rfl⟩) | (go_at_call 114; refine HC.out.mono ?_; rintro e w1 ⟨rfl, hb1⟩))
        go_ret
        exact ⟨ret_bool hf.out.symm, hW⟩
      | true =>
        simp only [Bool.not_true, Bool.false_or] at hbad
        subst hbad
        go_enter Tryd.func100, Tryd.ntmps100
        go_wp2_with (first | (go_at_call 59; refine (between_any _ _ _ _).mono ?_; rw [HI.out]; rintro e w' ⟨rfl, rfl⟩) | (go_at_call 113; refine (HW.out _).mono ?_; rintro e w' ⟨rfl, rfl⟩) | (go_at_call 114; refine HC.out.mono ?_; rintro e w1 ⟨rfl, hb1⟩))
        go_ret
        exact ⟨ret_bool hf.out.symm, hW⟩
  | false =>
    simp only [Bool.or_eq_false_iff, Bool.not_eq_false'] at hbad
    obtain ⟨⟨rfl, rfl⟩, rfl⟩ := hbad
    have HG : Hid ((1 ≤ rules ∧ rules ≤ 8) ∧ NameP x.name ∧ x.name ≠ textWord) :=
      ⟨inB_iff.1 HI.out, HD.out.1 rfl, fun h => (by have := HT.out.2 h; cases this)⟩
    have HC := hide (HTs.out HG.out.1.1 HG.out.1.2)
    clear HTs
    cases hlf : x.leaf with
    | true =>
      have HY : Hid (((x.terms.length : Int) == 0) = r) := by
        rw [Hid, Bool.eq_iff_iff, HR.out, beq_iff_eq]
        refine ⟨fun h => ?_, fun T => by have := T.2.2.leaf hlf; simp [this]⟩
        have h0 : x.terms = [] := List.eq_nil_of_length_eq_zero (by omega)
        exact ⟨HG.out.1.1, HG.out.1.2, HG.out.2.1, HG.out.2.2, fun _ => h0, by simp [h0], by simp [h0]⟩
      clear HC
      go_enter Tryd.func100, Tryd.ntmps100
      go_wp2_with (first | (go_at_call 59; refine (between_any _ _ _ _).mono ?_; rw [HI.out]; rintro e w' ⟨rfl, rfl⟩) | (go_at_call 113; refine (HW.out _).mono ?_; rintro e w' ⟨rfl, rfl⟩) | (go_at_call 114; refine HC.out.mono ?_; rintro e w1 ⟨rfl, hb1⟩))
      go_ret
      rw [hlf] at hW
      exact ⟨ret_bool HY.out, hW⟩
    | false =>
      have HY : Hid (tb = r) := by
        rw [Hid, Bool.eq_iff_iff, HR.out, HDT.out]
        exact ⟨fun h => ⟨HG.out.1.1, HG.out.1.2, HG.out.2.1, HG.out.2.2, fun h' => (by rw [hlf] at h'; cases h'), h⟩, fun T => T.2.2.terms⟩
      rw [hlf] at HC hW
      go_enter Tryd.func100, Tryd.ntmps100
      go_wp2_with (first | (go_at_call 59; refine (between_any _ _ _ _).mono ?_; rw [HI.out]; rintro e w' ⟨rfl, rfl⟩) | (go_at_call 113; refine (HW.out _).mono ?_; rintro e w' ⟨rfl, rfl⟩) | (go_at_call 114; refine HC.out.mono ?_; rintro e w1 ⟨rfl, hb1⟩))
      go_ret
      exact ⟨ret_bool HY.out, hW.trans (hb1.mono (by simp))⟩
end Go.Proofs.YtmcopoonnhcdjaaDoor

namespace Go.Proofs.YtmcopoonnhcdjaaDoor
open Go.RowKit

def nameAt (l : List PRule) (j : Nat) : ByteArray := (l[j]?.getD ruleNil).name

open Classical in
/-- The place, from 1 on, of the first rule of that name; 0 of none. -/
noncomputable def kindOf : List PRule → ByteArray → Nat
  | [], _ => 0
  | x :: l, s => if x.name = s then 1 else if kindOf l s = 0 then 0 else kindOf l s + 1

theorem kindOf_none {l : List PRule} {s : ByteArray} (h : ∀ j, j < l.length → nameAt l j ≠ s) : kindOf l s = 0 := by
  induction l with
  | nil => rfl
  | cons x l ih =>
    have h0 := h 0 (by simp)
    have h1 := ih fun j hj => h (j + 1) (by simpa using hj)
    simp only [nameAt, List.getElem?_cons_zero, Option.getD_some] at h0
    simp [kindOf, h0, h1]

theorem kindOf_hit {l : List PRule} {s : ByteArray} {k : Nat} (hk : k < l.length) (h : ∀ j, j < k → nameAt l j ≠ s) (h1 : nameAt l k = s) : kindOf l s = k + 1 := by
  induction l generalizing k with
  | nil => simp at hk
  | cons x l ih =>
    cases k with
    | zero =>
      simp only [nameAt, List.getElem?_cons_zero, Option.getD_some] at h1
      simp [kindOf, h1]
    | succ k =>
      have h0 := h 0 (by omega)
      have h2 := ih (k := k) (by simpa using hk) (fun j hj => h (j + 1) (by omega)) h1
      simp only [nameAt, List.getElem?_cons_zero, Option.getD_some] at h0
      simp [kindOf, h0, h2]

theorem kindOf_le (l : List PRule) (s : ByteArray) : kindOf l s ≤ l.length := by
  induction l with
  | nil => simp [kindOf]
  | cons x l ih => simp only [kindOf, List.length_cons]; split; omega; split <;> omega

theorem kindOf_zero {l : List PRule} {s : ByteArray} : kindOf l s = 0 ↔ ∀ j, j < l.length → nameAt l j ≠ s := by
  refine ⟨fun h j hj e => ?_, kindOf_none⟩
  induction l generalizing j with
  | nil => simp at hj
  | cons x l ih =>
    cases j with
    | zero =>
      simp only [nameAt, List.getElem?_cons_zero, Option.getD_some] at e
      simp [kindOf, e] at h
    | succ j =>
      simp only [kindOf] at h
      split at h
      · cases h
      · split at h
        · exact ih (by assumption) j (by simpa using hj) e
        · cases h

theorem text_eq (a b : ByteArray) : (a.toList == b.toList) = true ↔ a = b := by
  rw [beq_iff_eq]
  exact ⟨toList_inj, fun h => by rw [h]⟩

set_option maxHeartbeats 400000 in
theorem named_any (x : PRule) (kv : Value) (s : ByteArray) (b : Nat) (w : World) (hb : b < w.heap.size) (hc : w.cell? ⟨b, 0, none⟩ = some (.string s)) :
    Calls Tryd.prog 116 #[.agg #[.string x.name, .bool x.leaf, kv], .pointer (some ⟨b, 0, none⟩)] w fun e w' => e = .returned (.bool (x.name.toList == s.toList)) ∧ Below w.heap.size w w' := by
  go_enter Tryd.func116, Tryd.ntmps116
  go_wp2_with fail
  go_ret
  exact ⟨rfl, (Below.refl _ _).alloc (Nat.le_refl _) _⟩

set_option maxHeartbeats 400000 in
theorem indexNamed_any (n₀ : Nat) (v : Value) (l : List PRule) (s : ByteArray) (pb : Nat) (w : World) (h : RulesAt n₀ w v l) (hn : n₀ ≤ w.heap.size) (hl : l.length ≤ 1048576) (hpb : pb < w.heap.size) (hc0 : w.cell? ⟨pb, 0, none⟩ = some (.string s)) :
    Calls Tryd.prog 115 #[v, .func (.func 116) #[] #[.pointer (some ⟨pb, 0, none⟩)]] w fun e w' => e = .returned (.int .i64 ((kindOf l s : Int) - 1)) ∧ Below w.heap.size w w' := by
  obtain ⟨a, cap, rfl, hk⟩ := h
  go_enter Tryd.func115, Tryd.ntmps115
  go_wp2_with fail
  go_loopw [8] (fun i wr => ∃ k : Nat, k ≤ l.length ∧ i = .int .i64 k ∧ Hid (∀ j, j < k → nameAt l j ≠ s) ∧ Below w.heap.size w wr) (fun i _ => l.length - (intOf i).toNat)
  case atStart => exact ⟨0, Nat.zero_le _, rfl, fun j hj => absurd hj (by omega), Below.refl _ _⟩
  case round =>
    obtain ⟨k, hkl, rfl, hno, hbr⟩ := hrel
    have hsz := hbr.size
    by_cases hlt : k < l.length
    · obtain ⟨b, off, rfl, hb, hc⟩ := hk.resolve_left (by intro e; simp [e] at hlt)
      have hA := (hc k hlt).below hb (Nat.le_refl _) (hbr.mono hn)
      have g0 := hA.c0
      have g1 := hA.c1
      obtain ⟨kv, g2, ak, ck, rfl, -⟩ := hA.c2
      have hbw : b < wr.heap.size := by omega
      have HCall := hide (named_any (l[k]?.getD ruleNil) (.slice ak (l[k]?.getD ruleNil).terms.length ck) s pb wr (by omega) ((hbr.cell (p := ⟨pb, 0, none⟩) hpb).trans hc0))
      have HT := hide (text_eq (l[k]?.getD ruleNil).name s)
      have HN : Hid ((l[k]?.getD ruleNil).name = nameAt l k) := rfl
      clear hA hc hk
      generalize l[k]?.getD ruleNil = x at *
      generalize (x.name.toList == s.toList) = te at *
      cases te with
      | true =>
        have HK : Hid (kindOf l s = k + 1) := kindOf_hit hlt hno.out (HN.out.symm.trans (HT.out.1 rfl))
        go_wp2_with (go_at_call 116; refine HCall.out.mono ?_; rintro e w1 ⟨rfl, hb1⟩)
        go_ret
        exact ⟨ret_int (by rw [HK.out]; simp), hbr.trans (hb1.mono hsz)⟩
      | false =>
        have HS : Hid (∀ j, j < k + 1 → nameAt l j ≠ s) := fun j hj => by
          by_cases e : j = k
          · rw [e, ← HN.out]; exact fun h => by have := HT.out.2 h; cases this
          · exact hno.out j (by omega)
        go_wp2_with (go_at_call 116; refine HCall.out.mono ?_; rintro e w1 ⟨rfl, hb1⟩)
        exact ⟨⟨k + 1, by omega, by go_num, HS, hbr.trans (hb1.mono hsz)⟩, by simp [intOf]; omega⟩
    · have HK : Hid (kindOf l s = 0) := kindOf_none fun j hj => hno.out j (by omega)
      clear hk
      go_wp2_with fail
      go_ret
      exact ⟨ret_int (by rw [HK.out]; rfl), hbr⟩

set_option maxHeartbeats 400000 in
theorem kindNamed_any (n₀ : Nat) (v : Value) (l : List PRule) (s : ByteArray) (w : World) (h : RulesAt n₀ w v l) (hn : n₀ ≤ w.heap.size) (hl : l.length ≤ 1048576) :
    Calls Tryd.prog 101 #[v, .string s] w fun e w' => e = .returned (.int .i64 (kindOf l s)) ∧ Below w.heap.size w w' := by
  have hW := (Below.refl w.heap.size w).alloc (Nat.le_refl _) (.cells #[.string s] 9)
  have HI := hide (indexNamed_any n₀ v l s w.heap.size (w.alloc (.cells #[.string s] 9)) (h.below (Nat.le_refl _) (hW.mono hn)) (by simp; omega) hl (by simp) (by rw [cell_of_heap (alloc_new _ _)]; rfl))
  have hmf : ∀ (fn : Fn) (first cap : Array Value) (w : World), (Instr.makeFunc fn first cap).run Tryd.prog w = .ok (.func fn first cap) w := fun _ _ _ _ => rfl
  have hkl := kindOf_le l s
  generalize kindOf l s = q at *
  obtain ⟨a, cap, rfl, -⟩ := h
  go_enter Tryd.func101, Tryd.ntmps101
  go_wp2_with fail
  refine HI.out.mono ?_
  rintro e w1 ⟨rfl, hb1⟩
  go_wp2_with fail
  go_ret
  exact ⟨ret_int (by first | omega | simp), hW.trans (hb1.mono (by simp))⟩
end Go.Proofs.YtmcopoonnhcdjaaDoor
