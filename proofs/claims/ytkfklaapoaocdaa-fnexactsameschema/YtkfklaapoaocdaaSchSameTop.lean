/-
  SameSchema: what the specification and the program answer.
-/
import Derived.Test.YtkfklaapoaocdaaSchSame
import Derived.Test.YtkfklaapoaocdaaSchLines
namespace Go.Proofs.Ytkfklaapoaocdaa
open Go.RowKit

set_option maxHeartbeats 1000000 in
set_option maxRecDepth 100000 in
theorem implSameSchema_any (n₀ : Nat) (v v' : Value) (l l' : List PRule) (w : World) (h : RulesAt n₀ w v l) (h' : RulesAt n₀ w v' l') (hroom : Roomy v l.length) (hroom' : Roomy v' l'.length) (hn : n₀ ≤ w.heap.size) (hl : SmallRules l) (hl' : SmallRules l') (r : Bool) (hr : r = true ↔ SchemaP l ∧ SchemaP l' ∧ l = l') :
    Calls Try.prog 20 #[v, v'] w fun e w' => e = .returned (.bool r) ∧ Below w.heap.size w w' := by
  obtain ⟨r1, hr1⟩ : ∃ r1 : Bool, r1 = true ↔ SchemaP l := ⟨dec _, dec_iff _⟩
  obtain ⟨r2, hr2⟩ : ∃ r2 : Bool, r2 = true ↔ SchemaP l' := ⟨dec _, dec_iff _⟩
  obtain ⟨r3, hr3⟩ : ∃ r3 : Bool, r3 = true ↔ l = l' := ⟨dec _, dec_iff _⟩
  have HE1 : Hid (∀ w1, Below w.heap.size w w1 → Calls Try.prog 15 #[v] w1 fun e w' => e = .returned (.bool r1) ∧ Below w1.heap.size w1 w') := fun w1 hb =>
    implSchemaOK_any n₀ v l w1 (h.below (Nat.le_refl _) (hb.mono hn)) hroom (by have := hb.size; omega) hl r1 hr1
  have HE2 : Hid (∀ w1, Below w.heap.size w w1 → Calls Try.prog 15 #[v'] w1 fun e w' => e = .returned (.bool r2) ∧ Below w1.heap.size w1 w') := fun w1 hb =>
    implSchemaOK_any n₀ v' l' w1 (h'.below (Nat.le_refl _) (hb.mono hn)) hroom' (by have := hb.size; omega) hl' r2 hr2
  have HE3 : Hid (∀ w1, Below w.heap.size w w1 → Calls Try.prog 34 #[v, v', .func (.func 35) #[] #[]] w1 fun e w' => e = .returned (.bool r3) ∧ Below w1.heap.size w1 w') := fun w1 hb =>
    equalRules_any n₀ v v' l l' w1 (h.below (Nat.le_refl _) (hb.mono hn)) (h'.below (Nat.le_refl _) (hb.mono hn)) (by have := hb.size; omega) hl hl' r3 hr3
  obtain ⟨a, cap, rfl, -⟩ := h
  obtain ⟨a', cap', rfl, -⟩ := h'
  rw [← hr1, ← hr2, ← hr3] at hr
  have HR := hide hr
  clear hr hr1 hr2 hr3 hroom hroom' hl hl'
  go_enter Try.func20, Try.ntmps20
  go_wp2_with fail
  refine (HE1.out _ (Below.refl _ _)).mono ?_
  rintro e w1 ⟨rfl, hb1⟩
  have hs1 := hb1.size
  cases r1 with
  | false =>
    have hf : Hid (r = false) := no_true HR.out (fun e => by cases e.1)
    go_wp2_with fail
    go_ret
    exact ⟨ret_bool hf.out.symm, hb1⟩
  | true =>
    go_wp2_with fail
    refine (HE2.out _ hb1).mono ?_
    rintro e w2 ⟨rfl, hb2⟩
    have hb2' := hb1.trans (hb2.mono hs1)
    have hs2 := hb2'.size
    cases r2 with
    | false =>
      have hf : Hid (r = false) := no_true HR.out (fun e => by cases e.2.1)
      go_wp2_with fail
      go_ret
      exact ⟨ret_bool hf.out.symm, hb2'⟩
    | true =>
      have he : Hid (r3 = r) := by
        have := HR.out
        simp only [true_and] at this
        exact Bool.eq_iff_iff.2 this.symm
      go_wp2_with fail
      refine (HE3.out _ hb2').mono ?_
      rintro e w3 ⟨rfl, hb3⟩
      go_wp2_with fail
      go_ret
      exact ⟨ret_bool he.out, hb2'.trans (hb3.mono hs2)⟩

set_option maxHeartbeats 1000000 in
set_option maxRecDepth 100000 in
theorem specSameSchema_any (n₀ : Nat) (v v' : Value) (l l' : List PRule) (w : World) (h : RulesAt n₀ w v l) (h' : RulesAt n₀ w v' l') (hn : n₀ ≤ w.heap.size) (hl : SmallRules l) (hl' : SmallRules l') (r : Bool) (hr : r = true ↔ SchemaP l ∧ SchemaP l' ∧ l = l') :
    Calls Try.prog 19 #[v, v'] w fun e w' => e = .returned (.bool r) ∧ Below w.heap.size w w' := by
  obtain ⟨r1, hr1⟩ : ∃ r1 : Bool, r1 = true ↔ SchemaP l := ⟨dec _, dec_iff _⟩
  obtain ⟨r2, hr2⟩ : ∃ r2 : Bool, r2 = true ↔ SchemaP l' := ⟨dec _, dec_iff _⟩
  have HE1 : Hid (∀ w1, Below w.heap.size w w1 → Calls Try.prog 29 #[v] w1 fun e w' => e = .returned (.bool r1) ∧ Below w1.heap.size w1 w') := fun w1 hb =>
    specSchOK_any n₀ v l w1 (h.below (Nat.le_refl _) (hb.mono hn)) (by have := hb.size; omega) hl r1 hr1
  have HE2 : Hid (∀ w1, Below w.heap.size w w1 → Calls Try.prog 29 #[v'] w1 fun e w' => e = .returned (.bool r2) ∧ Below w1.heap.size w1 w') := fun w1 hb =>
    specSchOK_any n₀ v' l' w1 (h'.below (Nat.le_refl _) (hb.mono hn)) (by have := hb.size; omega) hl' r2 hr2
  have HS1 := hide hr1
  have HS2 := hide hr2
  have HL1 : Hid (r1 = true → ∀ w1, Below w.heap.size w w1 → Calls Try.prog 33 #[v] w1 fun e w' => ∃ u, e = .returned u ∧ TextsAt w'.heap.size w' u (linesB l) ∧ Below w1.heap.size w1 w') := fun e w1 hb =>
    specLines_any n₀ v l w1 (h.below (Nat.le_refl _) (hb.mono hn)) (by have := hb.size; omega) (HS1.out.1 e)
  have HL2 : Hid (r2 = true → ∀ w1, Below w.heap.size w w1 → Calls Try.prog 33 #[v'] w1 fun e w' => ∃ u, e = .returned u ∧ TextsAt w'.heap.size w' u (linesB l') ∧ Below w1.heap.size w1 w') := fun e w1 hb =>
    specLines_any n₀ v' l' w1 (h'.below (Nat.le_refl _) (hb.mono hn)) (by have := hb.size; omega) (HS2.out.1 e)
  have HLen : Hid (∀ q : List PRule, SchemaP q → (linesB q).length ≤ 1048576) := fun q hq => by have := hq.few; simp [linesB]; omega
  have hf1 : r1 = true → l.length ≤ 8 := fun e => (HS1.out.1 e).few
  have hf2 : r2 = true → l'.length ≤ 8 := fun e => (HS2.out.1 e).few
  have hlz := hl.len
  have hlz' := hl'.len
  obtain ⟨a, cap, rfl, -⟩ := h
  obtain ⟨a', cap', rfl, -⟩ := h'
  rw [← hr1, ← hr2] at hr
  have HR := hide hr
  clear hr hr1 hr2 hl hl'
  by_cases hbig : 4096 < l.length
  · have hf : Hid (r = false) := no_true HR.out (fun e => by have := hf1 e.1; omega)
    have hq : (4096 : Int) < (l.length : Int) := by omega
    clear hf1 hf2
    go_enter Try.func19, Try.ntmps19
    go_wp2_with fail
    go_ret
    exact ⟨ret_bool hf.out.symm, Below.refl _ _⟩
  · by_cases hbig' : 4096 < l'.length
    · have hf : Hid (r = false) := no_true HR.out (fun e => by have := hf2 e.2.1; omega)
      have hq : ¬ (4096 : Int) < (l.length : Int) := by omega
      have hq' : (4096 : Int) < (l'.length : Int) := by omega
      clear hf1 hf2
      go_enter Try.func19, Try.ntmps19
      go_wp2_with fail
      go_ret
      exact ⟨ret_bool hf.out.symm, Below.refl _ _⟩
    · have hq : ¬ (4096 : Int) < (l.length : Int) := by omega
      have hq' : ¬ (4096 : Int) < (l'.length : Int) := by omega
      clear hf1 hf2
      go_enter Try.func19, Try.ntmps19
      go_wp2_with fail
      refine (HE1.out _ (Below.refl _ _)).mono ?_
      rintro e w1 ⟨rfl, hb1⟩
      have hs1 := hb1.size
      cases r1 with
      | false =>
        have hf : Hid (r = false) := no_true HR.out (fun e => by cases e.1)
        go_wp2_with fail
        go_ret
        exact ⟨ret_bool hf.out.symm, hb1⟩
      | true =>
        go_wp2_with fail
        refine (HE2.out _ hb1).mono ?_
        rintro e w2 ⟨rfl, hb2⟩
        have hb2' := hb1.trans (hb2.mono hs1)
        have hs2 := hb2'.size
        cases r2 with
        | false =>
          have hf : Hid (r = false) := no_true HR.out (fun e => by cases e.2.1)
          go_wp2_with fail
          go_ret
          exact ⟨ret_bool hf.out.symm, hb2'⟩
        | true =>
          go_wp2_with fail
          refine (HL1.out (by trivial) _ hb2').mono ?_
          rintro e w3 ⟨u3, rfl, ht3, hb3⟩
          have hb3' := hb2'.trans (hb3.mono hs2)
          have hs3 := hb3'.size
          go_wp2_with fail
          refine (HL2.out (by trivial) _ hb3').mono ?_
          rintro e w4 ⟨u4, rfl, ht4, hb4⟩
          have hb4' := hb3'.trans (hb4.mono hs3)
          have hs4 := hb4'.size
          have HT := hide (sameTexts_any w4.heap.size u3 u4 (linesB l) (linesB l') w4 (ht3.below hb4.size hb4) ht4 (HLen.out l (HS1.out.1 (by trivial))) (HLen.out l' (HS2.out.1 (by trivial))) r (by
            rw [linesB_inj (HS1.out.1 (by trivial)) (HS2.out.1 (by trivial))]
            have := HR.out
            simpa only [true_and] using this))
          clear ht3 ht4
          go_wp2_with fail
          refine HT.out.mono ?_
          rintro e w5 ⟨rfl, hb5⟩
          go_wp2_with fail
          go_ret
          exact ⟨rfl, hb4'.trans (hb5.mono hs4)⟩
end Go.Proofs.Ytkfklaapoaocdaa
