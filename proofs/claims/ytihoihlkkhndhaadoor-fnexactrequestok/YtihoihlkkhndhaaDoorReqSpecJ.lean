/-
  What the specification's RequestOK answers.
-/
import Derived.Test.YtihoihlkkhndhaaDoorReqRepJ
import Derived.Test.YtihoihlkkhndhaaDoorEditSpecJ
namespace Go.Proofs.YtihoihlkkhndhaaDoor
open Go.RowKit

theorem modeIn_any (m : Int) (w : World) :
    Calls Tryd.prog 10 #[.int .i64 m] w fun e w' => e = .returned (.bool (inB m 1 5)) ∧ w' = w := by
  go_enter Tryd.func10, Tryd.ntmps10
  go_wp2_with (go_at_call 9; refine (specIn_any _ _ _ _).mono ?_; rintro e w' ⟨rfl, rfl⟩)
  go_ret
  exact ⟨rfl, rfl⟩

set_option linter.unusedSimpArgs false in
set_option maxHeartbeats 4000000 in
set_option maxRecDepth 100000 in
theorem specReq1 (s n a : Int) (x : PEdit) (w : World) (hl : x.text.size ≤ 1048576) :
    Calls Tryd.prog 5 #[reqVal ⟨1, s, n, a, x⟩] w fun e w' => ∃ r, e = .returned (.bool r) ∧ (r = true ↔ ReqP ⟨1, s, n, a, x⟩) ∧ Below w.heap.size w w' := by
  have hW : Hid (∀ o1 o2, Below w.heap.size w ((w.alloc o1).alloc o2)) := fun o1 o2 => ((Below.refl _ _).alloc (Nat.le_refl _) _).alloc (by simp) _
  have HEd : Hid (∀ o1 o2, Calls Tryd.prog 11 #[editVal x] ((w.alloc o1).alloc o2) fun e w' => e = .returned (.bool (editB x)) ∧ Below w.heap.size w w') := fun o1 o2 =>
    (specEditOK_any x _ hl).mono fun e w' ⟨he, hb⟩ => ⟨he, (hW.out o1 o2).trans (hb.mono (by simp; omega))⟩
  have HT : Hid (x.text.toList = [] ↔ x.text.size = 0) := toList_nil
  obtain ⟨xk, xn, xa, xb, xt⟩ := x
  go_enter Tryd.func5, Tryd.ntmps5
  go_wp2_with (first | (go_at_call 9; refine (specIn_any _ _ _ _).mono ?_; rintro e w' ⟨rfl, rfl⟩) | (go_at_call 10; refine (modeIn_any _ _).mono ?_; rintro e w' ⟨rfl, rfl⟩) | (go_at_call 11; refine (HEd.out _ _).mono ?_; rintro e w' ⟨rfl, hb⟩))
  all_goals
    go_ret
    refine ⟨_, rfl, ?_, by first | exact hb | exact hW.out _ _⟩
    have ht := HT.out
    try simp only at ht
    simp only [beq_iff_eq, beq_eq_false_iff_ne, ne_eq, ht, ← Bool.not_eq_true, inB_iff, Bool.false_eq_true] at *
    unfold ReqP editZ sessN nodeN
    simp only [Bool.and_eq_true, decide_eq_true_eq, beq_iff_eq, inB_iff, Bool.false_eq_true, false_iff]
    first | (simp [*]; done) | (simp [*]; omega) | omega

set_option linter.unusedSimpArgs false in
set_option maxHeartbeats 4000000 in
set_option maxRecDepth 100000 in
theorem specReq2 (s n a : Int) (x : PEdit) (w : World) (hl : x.text.size ≤ 1048576) :
    Calls Tryd.prog 5 #[reqVal ⟨2, s, n, a, x⟩] w fun e w' => ∃ r, e = .returned (.bool r) ∧ (r = true ↔ ReqP ⟨2, s, n, a, x⟩) ∧ Below w.heap.size w w' := by
  have hW : Hid (∀ o1 o2, Below w.heap.size w ((w.alloc o1).alloc o2)) := fun o1 o2 => ((Below.refl _ _).alloc (Nat.le_refl _) _).alloc (by simp) _
  have HEd : Hid (∀ o1 o2, Calls Tryd.prog 11 #[editVal x] ((w.alloc o1).alloc o2) fun e w' => e = .returned (.bool (editB x)) ∧ Below w.heap.size w w') := fun o1 o2 =>
    (specEditOK_any x _ hl).mono fun e w' ⟨he, hb⟩ => ⟨he, (hW.out o1 o2).trans (hb.mono (by simp; omega))⟩
  have HT : Hid (x.text.toList = [] ↔ x.text.size = 0) := toList_nil
  obtain ⟨xk, xn, xa, xb, xt⟩ := x
  go_enter Tryd.func5, Tryd.ntmps5
  go_wp2_with (first | (go_at_call 9; refine (specIn_any _ _ _ _).mono ?_; rintro e w' ⟨rfl, rfl⟩) | (go_at_call 10; refine (modeIn_any _ _).mono ?_; rintro e w' ⟨rfl, rfl⟩) | (go_at_call 11; refine (HEd.out _ _).mono ?_; rintro e w' ⟨rfl, hb⟩))
  all_goals
    go_ret
    refine ⟨_, rfl, ?_, by first | exact hb | exact hW.out _ _⟩
    have ht := HT.out
    try simp only at ht
    simp only [beq_iff_eq, beq_eq_false_iff_ne, ne_eq, ht, ← Bool.not_eq_true, inB_iff, Bool.false_eq_true] at *
    unfold ReqP editZ sessN nodeN
    simp only [Bool.and_eq_true, decide_eq_true_eq, beq_iff_eq, inB_iff, Bool.false_eq_true, false_iff]
    first | (simp [*]; done) | (simp [*]; omega) | omega

set_option linter.unusedSimpArgs false in
set_option maxHeartbeats 4000000 in
set_option maxRecDepth 100000 in
theorem specReq3 (s n a : Int) (x : PEdit) (w : World) (hl : x.text.size ≤ 1048576) :
    Calls Tryd.prog 5 #[reqVal ⟨3, s, n, a, x⟩] w fun e w' => ∃ r, e = .returned (.bool r) ∧ (r = true ↔ ReqP ⟨3, s, n, a, x⟩) ∧ Below w.heap.size w w' := by
  have hW : Hid (∀ o1 o2, Below w.heap.size w ((w.alloc o1).alloc o2)) := fun o1 o2 => ((Below.refl _ _).alloc (Nat.le_refl _) _).alloc (by simp) _
  have HEd : Hid (∀ o1 o2, Calls Tryd.prog 11 #[editVal x] ((w.alloc o1).alloc o2) fun e w' => e = .returned (.bool (editB x)) ∧ Below w.heap.size w w') := fun o1 o2 =>
    (specEditOK_any x _ hl).mono fun e w' ⟨he, hb⟩ => ⟨he, (hW.out o1 o2).trans (hb.mono (by simp; omega))⟩
  have HT : Hid (x.text.toList = [] ↔ x.text.size = 0) := toList_nil
  obtain ⟨xk, xn, xa, xb, xt⟩ := x
  go_enter Tryd.func5, Tryd.ntmps5
  go_wp2_with (first | (go_at_call 9; refine (specIn_any _ _ _ _).mono ?_; rintro e w' ⟨rfl, rfl⟩) | (go_at_call 10; refine (modeIn_any _ _).mono ?_; rintro e w' ⟨rfl, rfl⟩) | (go_at_call 11; refine (HEd.out _ _).mono ?_; rintro e w' ⟨rfl, hb⟩))
  all_goals
    go_ret
    refine ⟨_, rfl, ?_, by first | exact hb | exact hW.out _ _⟩
    have ht := HT.out
    try simp only at ht
    simp only [beq_iff_eq, beq_eq_false_iff_ne, ne_eq, ht, ← Bool.not_eq_true, inB_iff, Bool.false_eq_true] at *
    unfold ReqP editZ sessN nodeN
    simp only [Bool.and_eq_true, decide_eq_true_eq, beq_iff_eq, inB_iff, Bool.false_eq_true, false_iff]
    first | (simp [*]; done) | (simp [*]; omega) | omega

set_option linter.unusedSimpArgs false in
set_option maxHeartbeats 4000000 in
set_option maxRecDepth 100000 in
theorem specReq4 (s n a : Int) (x : PEdit) (w : World) (hl : x.text.size ≤ 1048576) :
    Calls Tryd.prog 5 #[reqVal ⟨4, s, n, a, x⟩] w fun e w' => ∃ r, e = .returned (.bool r) ∧ (r = true ↔ ReqP ⟨4, s, n, a, x⟩) ∧ Below w.heap.size w w' := by
  have hW : Hid (∀ o1 o2, Below w.heap.size w ((w.alloc o1).alloc o2)) := fun o1 o2 => ((Below.refl _ _).alloc (Nat.le_refl _) _).alloc (by simp) _
  have HEd : Hid (∀ o1 o2, Calls Tryd.prog 11 #[editVal x] ((w.alloc o1).alloc o2) fun e w' => e = .returned (.bool (editB x)) ∧ Below w.heap.size w w') := fun o1 o2 =>
    (specEditOK_any x _ hl).mono fun e w' ⟨he, hb⟩ => ⟨he, (hW.out o1 o2).trans (hb.mono (by simp; omega))⟩
  have HT : Hid (x.text.toList = [] ↔ x.text.size = 0) := toList_nil
  obtain ⟨xk, xn, xa, xb, xt⟩ := x
  go_enter Tryd.func5, Tryd.ntmps5
  go_wp2_with (first | (go_at_call 9; refine (specIn_any _ _ _ _).mono ?_; rintro e w' ⟨rfl, rfl⟩) | (go_at_call 10; refine (modeIn_any _ _).mono ?_; rintro e w' ⟨rfl, rfl⟩) | (go_at_call 11; refine (HEd.out _ _).mono ?_; rintro e w' ⟨rfl, hb⟩))
  all_goals
    go_ret
    refine ⟨_, rfl, ?_, by first | exact hb | exact hW.out _ _⟩
    have ht := HT.out
    try simp only at ht
    simp only [beq_iff_eq, beq_eq_false_iff_ne, ne_eq, ht, ← Bool.not_eq_true, inB_iff, Bool.false_eq_true] at *
    unfold ReqP editZ sessN nodeN
    simp only [Bool.and_eq_true, decide_eq_true_eq, beq_iff_eq, inB_iff, Bool.false_eq_true, false_iff]
    first | (simp [*]; done) | (simp [*]; omega) | omega

set_option linter.unusedSimpArgs false in
set_option maxHeartbeats 4000000 in
set_option maxRecDepth 100000 in
theorem specReq5 (s n a : Int) (x : PEdit) (w : World) (hl : x.text.size ≤ 1048576) :
    Calls Tryd.prog 5 #[reqVal ⟨5, s, n, a, x⟩] w fun e w' => ∃ r, e = .returned (.bool r) ∧ (r = true ↔ ReqP ⟨5, s, n, a, x⟩) ∧ Below w.heap.size w w' := by
  have hW : Hid (∀ o1 o2, Below w.heap.size w ((w.alloc o1).alloc o2)) := fun o1 o2 => ((Below.refl _ _).alloc (Nat.le_refl _) _).alloc (by simp) _
  have HEd : Hid (∀ o1 o2, Calls Tryd.prog 11 #[editVal x] ((w.alloc o1).alloc o2) fun e w' => e = .returned (.bool (editB x)) ∧ Below w.heap.size w w') := fun o1 o2 =>
    (specEditOK_any x _ hl).mono fun e w' ⟨he, hb⟩ => ⟨he, (hW.out o1 o2).trans (hb.mono (by simp; omega))⟩
  have HT : Hid (x.text.toList = [] ↔ x.text.size = 0) := toList_nil
  obtain ⟨xk, xn, xa, xb, xt⟩ := x
  go_enter Tryd.func5, Tryd.ntmps5
  go_wp2_with (first | (go_at_call 9; refine (specIn_any _ _ _ _).mono ?_; rintro e w' ⟨rfl, rfl⟩) | (go_at_call 10; refine (modeIn_any _ _).mono ?_; rintro e w' ⟨rfl, rfl⟩) | (go_at_call 11; refine (HEd.out _ _).mono ?_; rintro e w' ⟨rfl, hb⟩))
  all_goals
    go_ret
    refine ⟨_, rfl, ?_, by first | exact hb | exact hW.out _ _⟩
    have ht := HT.out
    try simp only at ht
    simp only [beq_iff_eq, beq_eq_false_iff_ne, ne_eq, ht, ← Bool.not_eq_true, inB_iff, Bool.false_eq_true] at *
    unfold ReqP editZ sessN nodeN
    simp only [Bool.and_eq_true, decide_eq_true_eq, beq_iff_eq, inB_iff, Bool.false_eq_true, false_iff]
    first | (simp [*]; done) | (simp [*]; omega) | omega

set_option linter.unusedSimpArgs false in
set_option maxHeartbeats 4000000 in
set_option maxRecDepth 100000 in
theorem specReq6 (s n a : Int) (x : PEdit) (w : World) (hl : x.text.size ≤ 1048576) :
    Calls Tryd.prog 5 #[reqVal ⟨6, s, n, a, x⟩] w fun e w' => ∃ r, e = .returned (.bool r) ∧ (r = true ↔ ReqP ⟨6, s, n, a, x⟩) ∧ Below w.heap.size w w' := by
  have hW : Hid (∀ o1 o2, Below w.heap.size w ((w.alloc o1).alloc o2)) := fun o1 o2 => ((Below.refl _ _).alloc (Nat.le_refl _) _).alloc (by simp) _
  have HEd : Hid (∀ o1 o2, Calls Tryd.prog 11 #[editVal x] ((w.alloc o1).alloc o2) fun e w' => e = .returned (.bool (editB x)) ∧ Below w.heap.size w w') := fun o1 o2 =>
    (specEditOK_any x _ hl).mono fun e w' ⟨he, hb⟩ => ⟨he, (hW.out o1 o2).trans (hb.mono (by simp; omega))⟩
  have HT : Hid (x.text.toList = [] ↔ x.text.size = 0) := toList_nil
  obtain ⟨xk, xn, xa, xb, xt⟩ := x
  go_enter Tryd.func5, Tryd.ntmps5
  go_wp2_with (first | (go_at_call 9; refine (specIn_any _ _ _ _).mono ?_; rintro e w' ⟨rfl, rfl⟩) | (go_at_call 10; refine (modeIn_any _ _).mono ?_; rintro e w' ⟨rfl, rfl⟩) | (go_at_call 11; refine (HEd.out _ _).mono ?_; rintro e w' ⟨rfl, hb⟩))
  all_goals
    go_ret
    refine ⟨_, rfl, ?_, by first | exact hb | exact hW.out _ _⟩
    have ht := HT.out
    try simp only at ht
    simp only [beq_iff_eq, beq_eq_false_iff_ne, ne_eq, ht, ← Bool.not_eq_true, inB_iff, Bool.false_eq_true] at *
    unfold ReqP editZ sessN nodeN
    simp only [Bool.and_eq_true, decide_eq_true_eq, beq_iff_eq, inB_iff, Bool.false_eq_true, false_iff]
    first | (simp [*]; done) | (simp [*]; omega) | omega

set_option linter.unusedSimpArgs false in
set_option maxHeartbeats 4000000 in
set_option maxRecDepth 100000 in
theorem specReq7 (s n a : Int) (x : PEdit) (w : World) (hl : x.text.size ≤ 1048576) :
    Calls Tryd.prog 5 #[reqVal ⟨7, s, n, a, x⟩] w fun e w' => ∃ r, e = .returned (.bool r) ∧ (r = true ↔ ReqP ⟨7, s, n, a, x⟩) ∧ Below w.heap.size w w' := by
  have hW : Hid (∀ o1 o2, Below w.heap.size w ((w.alloc o1).alloc o2)) := fun o1 o2 => ((Below.refl _ _).alloc (Nat.le_refl _) _).alloc (by simp) _
  have HEd : Hid (∀ o1 o2, Calls Tryd.prog 11 #[editVal x] ((w.alloc o1).alloc o2) fun e w' => e = .returned (.bool (editB x)) ∧ Below w.heap.size w w') := fun o1 o2 =>
    (specEditOK_any x _ hl).mono fun e w' ⟨he, hb⟩ => ⟨he, (hW.out o1 o2).trans (hb.mono (by simp; omega))⟩
  have HT : Hid (x.text.toList = [] ↔ x.text.size = 0) := toList_nil
  obtain ⟨xk, xn, xa, xb, xt⟩ := x
  go_enter Tryd.func5, Tryd.ntmps5
  go_wp2_with (first | (go_at_call 9; refine (specIn_any _ _ _ _).mono ?_; rintro e w' ⟨rfl, rfl⟩) | (go_at_call 10; refine (modeIn_any _ _).mono ?_; rintro e w' ⟨rfl, rfl⟩) | (go_at_call 11; refine (HEd.out _ _).mono ?_; rintro e w' ⟨rfl, hb⟩))
  all_goals
    go_ret
    refine ⟨_, rfl, ?_, by first | exact hb | exact hW.out _ _⟩
    have ht := HT.out
    try simp only at ht
    simp only [beq_iff_eq, beq_eq_false_iff_ne, ne_eq, ht, ← Bool.not_eq_true, inB_iff, Bool.false_eq_true] at *
    unfold ReqP editZ sessN nodeN
    simp only [Bool.and_eq_true, decide_eq_true_eq, beq_iff_eq, inB_iff, Bool.false_eq_true, false_iff]
    first | (simp [*]; done) | (simp [*]; omega) | omega

set_option linter.unusedSimpArgs false in
set_option maxHeartbeats 4000000 in
set_option maxRecDepth 100000 in
theorem specReq8 (s n a : Int) (x : PEdit) (w : World) (hl : x.text.size ≤ 1048576) :
    Calls Tryd.prog 5 #[reqVal ⟨8, s, n, a, x⟩] w fun e w' => ∃ r, e = .returned (.bool r) ∧ (r = true ↔ ReqP ⟨8, s, n, a, x⟩) ∧ Below w.heap.size w w' := by
  have hW : Hid (∀ o1 o2, Below w.heap.size w ((w.alloc o1).alloc o2)) := fun o1 o2 => ((Below.refl _ _).alloc (Nat.le_refl _) _).alloc (by simp) _
  have HEd : Hid (∀ o1 o2, Calls Tryd.prog 11 #[editVal x] ((w.alloc o1).alloc o2) fun e w' => e = .returned (.bool (editB x)) ∧ Below w.heap.size w w') := fun o1 o2 =>
    (specEditOK_any x _ hl).mono fun e w' ⟨he, hb⟩ => ⟨he, (hW.out o1 o2).trans (hb.mono (by simp; omega))⟩
  have HT : Hid (x.text.toList = [] ↔ x.text.size = 0) := toList_nil
  obtain ⟨xk, xn, xa, xb, xt⟩ := x
  go_enter Tryd.func5, Tryd.ntmps5
  go_wp2_with (first | (go_at_call 9; refine (specIn_any _ _ _ _).mono ?_; rintro e w' ⟨rfl, rfl⟩) | (go_at_call 10; refine (modeIn_any _ _).mono ?_; rintro e w' ⟨rfl, rfl⟩) | (go_at_call 11; refine (HEd.out _ _).mono ?_; rintro e w' ⟨rfl, hb⟩))
  all_goals
    go_ret
    refine ⟨_, rfl, ?_, by first | exact hb | exact hW.out _ _⟩
    have ht := HT.out
    try simp only at ht
    simp only [beq_iff_eq, beq_eq_false_iff_ne, ne_eq, ht, ← Bool.not_eq_true, inB_iff, Bool.false_eq_true] at *
    unfold ReqP editZ sessN nodeN
    simp only [Bool.and_eq_true, decide_eq_true_eq, beq_iff_eq, inB_iff, Bool.false_eq_true, false_iff]
    first | (simp [*]; done) | (simp [*]; omega) | omega

set_option linter.unusedSimpArgs false in
set_option maxHeartbeats 4000000 in
set_option maxRecDepth 100000 in
theorem specReq9 (s n a : Int) (x : PEdit) (w : World) (hl : x.text.size ≤ 1048576) :
    Calls Tryd.prog 5 #[reqVal ⟨9, s, n, a, x⟩] w fun e w' => ∃ r, e = .returned (.bool r) ∧ (r = true ↔ ReqP ⟨9, s, n, a, x⟩) ∧ Below w.heap.size w w' := by
  have hW : Hid (∀ o1 o2, Below w.heap.size w ((w.alloc o1).alloc o2)) := fun o1 o2 => ((Below.refl _ _).alloc (Nat.le_refl _) _).alloc (by simp) _
  have HEd : Hid (∀ o1 o2, Calls Tryd.prog 11 #[editVal x] ((w.alloc o1).alloc o2) fun e w' => e = .returned (.bool (editB x)) ∧ Below w.heap.size w w') := fun o1 o2 =>
    (specEditOK_any x _ hl).mono fun e w' ⟨he, hb⟩ => ⟨he, (hW.out o1 o2).trans (hb.mono (by simp; omega))⟩
  have HT : Hid (x.text.toList = [] ↔ x.text.size = 0) := toList_nil
  obtain ⟨xk, xn, xa, xb, xt⟩ := x
  go_enter Tryd.func5, Tryd.ntmps5
  go_wp2_with (first | (go_at_call 9; refine (specIn_any _ _ _ _).mono ?_; rintro e w' ⟨rfl, rfl⟩) | (go_at_call 10; refine (modeIn_any _ _).mono ?_; rintro e w' ⟨rfl, rfl⟩) | (go_at_call 11; refine (HEd.out _ _).mono ?_; rintro e w' ⟨rfl, hb⟩))
  all_goals
    go_ret
    refine ⟨_, rfl, ?_, by first | exact hb | exact hW.out _ _⟩
    have ht := HT.out
    try simp only at ht
    simp only [beq_iff_eq, beq_eq_false_iff_ne, ne_eq, ht, ← Bool.not_eq_true, inB_iff, Bool.false_eq_true] at *
    unfold ReqP editZ sessN nodeN
    simp only [Bool.and_eq_true, decide_eq_true_eq, beq_iff_eq, inB_iff, Bool.false_eq_true, false_iff]
    first | (simp [*]; done) | (simp [*]; omega) | omega

set_option linter.unusedSimpArgs false in
set_option maxHeartbeats 4000000 in
set_option maxRecDepth 100000 in
theorem specReq10 (s n a : Int) (x : PEdit) (w : World) (hl : x.text.size ≤ 1048576) :
    Calls Tryd.prog 5 #[reqVal ⟨10, s, n, a, x⟩] w fun e w' => ∃ r, e = .returned (.bool r) ∧ (r = true ↔ ReqP ⟨10, s, n, a, x⟩) ∧ Below w.heap.size w w' := by
  have hW : Hid (∀ o1 o2, Below w.heap.size w ((w.alloc o1).alloc o2)) := fun o1 o2 => ((Below.refl _ _).alloc (Nat.le_refl _) _).alloc (by simp) _
  have HEd : Hid (∀ o1 o2, Calls Tryd.prog 11 #[editVal x] ((w.alloc o1).alloc o2) fun e w' => e = .returned (.bool (editB x)) ∧ Below w.heap.size w w') := fun o1 o2 =>
    (specEditOK_any x _ hl).mono fun e w' ⟨he, hb⟩ => ⟨he, (hW.out o1 o2).trans (hb.mono (by simp; omega))⟩
  have HT : Hid (x.text.toList = [] ↔ x.text.size = 0) := toList_nil
  obtain ⟨xk, xn, xa, xb, xt⟩ := x
  go_enter Tryd.func5, Tryd.ntmps5
  go_wp2_with (first | (go_at_call 9; refine (specIn_any _ _ _ _).mono ?_; rintro e w' ⟨rfl, rfl⟩) | (go_at_call 10; refine (modeIn_any _ _).mono ?_; rintro e w' ⟨rfl, rfl⟩) | (go_at_call 11; refine (HEd.out _ _).mono ?_; rintro e w' ⟨rfl, hb⟩))
  all_goals
    go_ret
    refine ⟨_, rfl, ?_, by first | exact hb | exact hW.out _ _⟩
    have ht := HT.out
    try simp only at ht
    simp only [beq_iff_eq, beq_eq_false_iff_ne, ne_eq, ht, ← Bool.not_eq_true, inB_iff, Bool.false_eq_true] at *
    unfold ReqP editZ sessN nodeN
    simp only [Bool.and_eq_true, decide_eq_true_eq, beq_iff_eq, inB_iff, Bool.false_eq_true, false_iff]
    first | (simp [*]; done) | (simp [*]; omega) | omega

set_option linter.unusedSimpArgs false in
set_option maxHeartbeats 4000000 in
set_option maxRecDepth 100000 in
theorem specReq11 (s n a : Int) (x : PEdit) (w : World) (hl : x.text.size ≤ 1048576) :
    Calls Tryd.prog 5 #[reqVal ⟨11, s, n, a, x⟩] w fun e w' => ∃ r, e = .returned (.bool r) ∧ (r = true ↔ ReqP ⟨11, s, n, a, x⟩) ∧ Below w.heap.size w w' := by
  have hW : Hid (∀ o1 o2, Below w.heap.size w ((w.alloc o1).alloc o2)) := fun o1 o2 => ((Below.refl _ _).alloc (Nat.le_refl _) _).alloc (by simp) _
  have HEd : Hid (∀ o1 o2, Calls Tryd.prog 11 #[editVal x] ((w.alloc o1).alloc o2) fun e w' => e = .returned (.bool (editB x)) ∧ Below w.heap.size w w') := fun o1 o2 =>
    (specEditOK_any x _ hl).mono fun e w' ⟨he, hb⟩ => ⟨he, (hW.out o1 o2).trans (hb.mono (by simp; omega))⟩
  have HT : Hid (x.text.toList = [] ↔ x.text.size = 0) := toList_nil
  obtain ⟨xk, xn, xa, xb, xt⟩ := x
  go_enter Tryd.func5, Tryd.ntmps5
  go_wp2_with (first | (go_at_call 9; refine (specIn_any _ _ _ _).mono ?_; rintro e w' ⟨rfl, rfl⟩) | (go_at_call 10; refine (modeIn_any _ _).mono ?_; rintro e w' ⟨rfl, rfl⟩) | (go_at_call 11; refine (HEd.out _ _).mono ?_; rintro e w' ⟨rfl, hb⟩))
  all_goals
    go_ret
    refine ⟨_, rfl, ?_, by first | exact hb | exact hW.out _ _⟩
    have ht := HT.out
    try simp only at ht
    simp only [beq_iff_eq, beq_eq_false_iff_ne, ne_eq, ht, ← Bool.not_eq_true, inB_iff, Bool.false_eq_true] at *
    unfold ReqP editZ sessN nodeN
    simp only [Bool.and_eq_true, decide_eq_true_eq, beq_iff_eq, inB_iff, Bool.false_eq_true, false_iff]
    first | (simp [*]; done) | (simp [*]; omega) | omega

set_option linter.unusedSimpArgs false in
set_option maxHeartbeats 4000000 in
set_option maxRecDepth 100000 in
theorem specReqOut (k : Int) (s n a : Int) (x : PEdit) (w : World) (hl : x.text.size ≤ 1048576) (hk : ¬ (1 ≤ k ∧ k ≤ 11)) :
    Calls Tryd.prog 5 #[reqVal ⟨k, s, n, a, x⟩] w fun e w' => ∃ r, e = .returned (.bool r) ∧ (r = true ↔ ReqP ⟨k, s, n, a, x⟩) ∧ Below w.heap.size w w' := by
  have hW : Hid (∀ o1 o2, Below w.heap.size w ((w.alloc o1).alloc o2)) := fun o1 o2 => ((Below.refl _ _).alloc (Nat.le_refl _) _).alloc (by simp) _
  have HEd : Hid (∀ o1 o2, Calls Tryd.prog 11 #[editVal x] ((w.alloc o1).alloc o2) fun e w' => e = .returned (.bool (editB x)) ∧ Below w.heap.size w w') := fun o1 o2 =>
    (specEditOK_any x _ hl).mono fun e w' ⟨he, hb⟩ => ⟨he, (hW.out o1 o2).trans (hb.mono (by simp; omega))⟩
  have HT : Hid (x.text.toList = [] ↔ x.text.size = 0) := toList_nil
  obtain ⟨xk, xn, xa, xb, xt⟩ := x
  have hk1 : k ≠ 1 := by omega
  have hk2 : k ≠ 2 := by omega
  have hk3 : k ≠ 3 := by omega
  have hk4 : k ≠ 4 := by omega
  have hk5 : k ≠ 5 := by omega
  have hk6 : k ≠ 6 := by omega
  have hk7 : k ≠ 7 := by omega
  have hk8 : k ≠ 8 := by omega
  have hk9 : k ≠ 9 := by omega
  have hk10 : k ≠ 10 := by omega
  have hk11 : k ≠ 11 := by omega
  go_enter Tryd.func5, Tryd.ntmps5
  go_wp2_with (first | (go_at_call 9; refine (specIn_any _ _ _ _).mono ?_; rintro e w' ⟨rfl, rfl⟩) | (go_at_call 10; refine (modeIn_any _ _).mono ?_; rintro e w' ⟨rfl, rfl⟩) | (go_at_call 11; refine (HEd.out _ _).mono ?_; rintro e w' ⟨rfl, hb⟩))
  all_goals
    go_ret
    refine ⟨_, rfl, ?_, by first | exact hb | exact hW.out _ _⟩
    have ht := HT.out
    try simp only at ht
    simp only [beq_iff_eq, beq_eq_false_iff_ne, ne_eq, ht, ← Bool.not_eq_true, inB_iff, Bool.false_eq_true] at *
    unfold ReqP editZ sessN nodeN
    simp only [Bool.and_eq_true, decide_eq_true_eq, beq_iff_eq, inB_iff, Bool.false_eq_true, false_iff]
    first | (simp [*]; done) | (simp [*]; omega) | omega

theorem specRequestOK_any (x : PReq) (w : World) (hl : x.edit.text.size ≤ 1048576) :
    Calls Tryd.prog 5 #[reqVal x] w fun e w' => ∃ r, e = .returned (.bool r) ∧ (r = true ↔ ReqP x) ∧ Below w.heap.size w w' := by
  obtain ⟨k, s, n, a, y⟩ := x
  by_cases hk : 1 ≤ k ∧ k ≤ 11
  · have h9 : k = 1 ∨ k = 2 ∨ k = 3 ∨ k = 4 ∨ k = 5 ∨ k = 6 ∨ k = 7 ∨ k = 8 ∨ k = 9 ∨ k = 10 ∨ k = 11 := by omega
    rcases h9 with rfl | rfl | rfl | rfl | rfl | rfl | rfl | rfl | rfl | rfl | rfl
    · exact specReq1 s n a y w hl
    · exact specReq2 s n a y w hl
    · exact specReq3 s n a y w hl
    · exact specReq4 s n a y w hl
    · exact specReq5 s n a y w hl
    · exact specReq6 s n a y w hl
    · exact specReq7 s n a y w hl
    · exact specReq8 s n a y w hl
    · exact specReq9 s n a y w hl
    · exact specReq10 s n a y w hl
    · exact specReq11 s n a y w hl
  · exact specReqOut k s n a y w hl hk
end Go.Proofs.YtihoihlkkhndhaaDoor
