/-
  What the program's EditOK answers.
-/
import Derived.Test.YtihoihlkkhndhaaDoorEditRepJ
namespace Go.Proofs.YtihoihlkkhndhaaDoor
open Go.RowKit

set_option linter.unusedSimpArgs false in
set_option maxHeartbeats 2000000 in
set_option maxRecDepth 100000 in
theorem implEdit1 (n a b : Int) (t : ByteArray) (w : World) (_hl : t.size ≤ 1048576) (hg : 1 < w.heap.size)
    (cw : w.cell? ⟨1, 5, none⟩ = some (.string ⟨#[105, 110, 115, 101, 114, 116]⟩)) (c0 : w.cell? ⟨1, 6, none⟩ = some (.int .i64 1)) (c1 : w.cell? ⟨1, 7, none⟩ = some (.int .i64 8)) (c2 : w.cell? ⟨1, 8, none⟩ = some (.int .i64 12)) (c3 : w.cell? ⟨1, 9, none⟩ = some (.int .i64 0)) :
    Calls Tryd.prog 17 #[editVal ⟨1, n, a, b, t⟩] w fun e w' => e = .returned (.bool (editB ⟨1, n, a, b, t⟩)) ∧ Below w.heap.size w w' := by
  go_enter Tryd.func17, Tryd.ntmps17
  go_wp2_with (go_at_call 13; refine (between_any _ _ _ _).mono ?_; rintro e w' ⟨rfl, rfl⟩)
  all_goals
    go_ret
    refine ⟨ret_bool ?_, by first | exact (Below.refl _ _).alloc (Nat.le_refl _) _ | exact ((Below.refl _ _).alloc (Nat.le_refl _) _).alloc (by simp) _⟩
    rw [Bool.eq_iff_iff, editB_iff]
    try simp only [Bool.not_eq_true', Bool.not_eq_false', ← Bool.not_eq_true] at *
    simp only [inB_iff, empty_iff, Bool.false_eq_true, decide_eq_true_eq] at *
    generalize t.size = z at *
    try subst_vars
    first | (simp; omega) | (simp; done) | omega

set_option linter.unusedSimpArgs false in
set_option maxHeartbeats 2000000 in
set_option maxRecDepth 100000 in
theorem implEdit2 (n a b : Int) (t : ByteArray) (w : World) (_hl : t.size ≤ 1048576) (hg : 1 < w.heap.size)
    (cw : w.cell? ⟨1, 10, none⟩ = some (.string ⟨#[100, 101, 108, 101, 116, 101]⟩)) (c0 : w.cell? ⟨1, 11, none⟩ = some (.int .i64 0)) (c1 : w.cell? ⟨1, 12, none⟩ = some (.int .i64 0)) (c2 : w.cell? ⟨1, 13, none⟩ = some (.int .i64 0)) (c3 : w.cell? ⟨1, 14, none⟩ = some (.int .i64 0)) :
    Calls Tryd.prog 17 #[editVal ⟨2, n, a, b, t⟩] w fun e w' => e = .returned (.bool (editB ⟨2, n, a, b, t⟩)) ∧ Below w.heap.size w w' := by
  go_enter Tryd.func17, Tryd.ntmps17
  go_wp2_with (go_at_call 13; refine (between_any _ _ _ _).mono ?_; rintro e w' ⟨rfl, rfl⟩)
  all_goals
    go_ret
    refine ⟨ret_bool ?_, by first | exact (Below.refl _ _).alloc (Nat.le_refl _) _ | exact ((Below.refl _ _).alloc (Nat.le_refl _) _).alloc (by simp) _⟩
    rw [Bool.eq_iff_iff, editB_iff]
    try simp only [Bool.not_eq_true', Bool.not_eq_false', ← Bool.not_eq_true] at *
    simp only [inB_iff, empty_iff, Bool.false_eq_true, decide_eq_true_eq] at *
    generalize t.size = z at *
    try subst_vars
    first | (simp; omega) | (simp; done) | omega

set_option linter.unusedSimpArgs false in
set_option maxHeartbeats 2000000 in
set_option maxRecDepth 100000 in
theorem implEdit3 (n a b : Int) (t : ByteArray) (w : World) (_hl : t.size ≤ 1048576) (hg : 1 < w.heap.size)
    (cw : w.cell? ⟨1, 15, none⟩ = some (.string ⟨#[116, 101, 120, 116]⟩)) (c0 : w.cell? ⟨1, 16, none⟩ = some (.int .i64 0)) (c1 : w.cell? ⟨1, 17, none⟩ = some (.int .i64 0)) (c2 : w.cell? ⟨1, 18, none⟩ = some (.int .i64 0)) (c3 : w.cell? ⟨1, 19, none⟩ = some (.int .i64 20)) :
    Calls Tryd.prog 17 #[editVal ⟨3, n, a, b, t⟩] w fun e w' => e = .returned (.bool (editB ⟨3, n, a, b, t⟩)) ∧ Below w.heap.size w w' := by
  go_enter Tryd.func17, Tryd.ntmps17
  go_wp2_with (go_at_call 13; refine (between_any _ _ _ _).mono ?_; rintro e w' ⟨rfl, rfl⟩)
  all_goals
    go_ret
    refine ⟨ret_bool ?_, by first | exact (Below.refl _ _).alloc (Nat.le_refl _) _ | exact ((Below.refl _ _).alloc (Nat.le_refl _) _).alloc (by simp) _⟩
    rw [Bool.eq_iff_iff, editB_iff]
    try simp only [Bool.not_eq_true', Bool.not_eq_false', ← Bool.not_eq_true] at *
    simp only [inB_iff, empty_iff, Bool.false_eq_true, decide_eq_true_eq] at *
    generalize t.size = z at *
    try subst_vars
    first | (simp; omega) | (simp; done) | omega

set_option linter.unusedSimpArgs false in
set_option maxHeartbeats 2000000 in
set_option maxRecDepth 100000 in
theorem implEdit4 (n a b : Int) (t : ByteArray) (w : World) (_hl : t.size ≤ 1048576) (hg : 1 < w.heap.size)
    (cw : w.cell? ⟨1, 20, none⟩ = some (.string ⟨#[97, 116, 116, 114]⟩)) (c0 : w.cell? ⟨1, 21, none⟩ = some (.int .i64 0)) (c1 : w.cell? ⟨1, 22, none⟩ = some (.int .i64 99)) (c2 : w.cell? ⟨1, 23, none⟩ = some (.int .i64 0)) (c3 : w.cell? ⟨1, 24, none⟩ = some (.int .i64 0)) :
    Calls Tryd.prog 17 #[editVal ⟨4, n, a, b, t⟩] w fun e w' => e = .returned (.bool (editB ⟨4, n, a, b, t⟩)) ∧ Below w.heap.size w w' := by
  go_enter Tryd.func17, Tryd.ntmps17
  go_wp2_with (go_at_call 13; refine (between_any _ _ _ _).mono ?_; rintro e w' ⟨rfl, rfl⟩)
  all_goals
    go_ret
    refine ⟨ret_bool ?_, by first | exact (Below.refl _ _).alloc (Nat.le_refl _) _ | exact ((Below.refl _ _).alloc (Nat.le_refl _) _).alloc (by simp) _⟩
    rw [Bool.eq_iff_iff, editB_iff]
    try simp only [Bool.not_eq_true', Bool.not_eq_false', ← Bool.not_eq_true] at *
    simp only [inB_iff, empty_iff, Bool.false_eq_true, decide_eq_true_eq] at *
    generalize t.size = z at *
    try subst_vars
    first | (simp; omega) | (simp; done) | omega

set_option linter.unusedSimpArgs false in
set_option maxHeartbeats 2000000 in
set_option maxRecDepth 100000 in
theorem implEdit5 (n a b : Int) (t : ByteArray) (w : World) (_hl : t.size ≤ 1048576) (hg : 1 < w.heap.size)
    (cw : w.cell? ⟨1, 25, none⟩ = some (.string ⟨#[109, 111, 118, 101]⟩)) (c0 : w.cell? ⟨1, 26, none⟩ = some (.int .i64 1)) (c1 : w.cell? ⟨1, 27, none⟩ = some (.int .i64 999999)) (c2 : w.cell? ⟨1, 28, none⟩ = some (.int .i64 12)) (c3 : w.cell? ⟨1, 29, none⟩ = some (.int .i64 0)) :
    Calls Tryd.prog 17 #[editVal ⟨5, n, a, b, t⟩] w fun e w' => e = .returned (.bool (editB ⟨5, n, a, b, t⟩)) ∧ Below w.heap.size w w' := by
  go_enter Tryd.func17, Tryd.ntmps17
  go_wp2_with (go_at_call 13; refine (between_any _ _ _ _).mono ?_; rintro e w' ⟨rfl, rfl⟩)
  all_goals
    go_ret
    refine ⟨ret_bool ?_, by first | exact (Below.refl _ _).alloc (Nat.le_refl _) _ | exact ((Below.refl _ _).alloc (Nat.le_refl _) _).alloc (by simp) _⟩
    rw [Bool.eq_iff_iff, editB_iff]
    try simp only [Bool.not_eq_true', Bool.not_eq_false', ← Bool.not_eq_true] at *
    simp only [inB_iff, empty_iff, Bool.false_eq_true, decide_eq_true_eq] at *
    generalize t.size = z at *
    try subst_vars
    first | (simp; omega) | (simp; done) | omega

set_option linter.unusedSimpArgs false in
set_option maxHeartbeats 2000000 in
set_option maxRecDepth 100000 in
theorem implEdit6 (n a b : Int) (t : ByteArray) (w : World) (_hl : t.size ≤ 1048576) (hg : 1 < w.heap.size)
    (cw : w.cell? ⟨1, 30, none⟩ = some (.string ⟨#[119, 114, 97, 112]⟩)) (c0 : w.cell? ⟨1, 31, none⟩ = some (.int .i64 1)) (c1 : w.cell? ⟨1, 32, none⟩ = some (.int .i64 8)) (c2 : w.cell? ⟨1, 33, none⟩ = some (.int .i64 0)) (c3 : w.cell? ⟨1, 34, none⟩ = some (.int .i64 0)) :
    Calls Tryd.prog 17 #[editVal ⟨6, n, a, b, t⟩] w fun e w' => e = .returned (.bool (editB ⟨6, n, a, b, t⟩)) ∧ Below w.heap.size w w' := by
  go_enter Tryd.func17, Tryd.ntmps17
  go_wp2_with (go_at_call 13; refine (between_any _ _ _ _).mono ?_; rintro e w' ⟨rfl, rfl⟩)
  all_goals
    go_ret
    refine ⟨ret_bool ?_, by first | exact (Below.refl _ _).alloc (Nat.le_refl _) _ | exact ((Below.refl _ _).alloc (Nat.le_refl _) _).alloc (by simp) _⟩
    rw [Bool.eq_iff_iff, editB_iff]
    try simp only [Bool.not_eq_true', Bool.not_eq_false', ← Bool.not_eq_true] at *
    simp only [inB_iff, empty_iff, Bool.false_eq_true, decide_eq_true_eq] at *
    generalize t.size = z at *
    try subst_vars
    first | (simp; omega) | (simp; done) | omega

set_option linter.unusedSimpArgs false in
set_option maxHeartbeats 2000000 in
set_option maxRecDepth 100000 in
theorem implEdit7 (n a b : Int) (t : ByteArray) (w : World) (_hl : t.size ≤ 1048576) (hg : 1 < w.heap.size)
    (cw : w.cell? ⟨1, 35, none⟩ = some (.string ⟨#[108, 105, 102, 116]⟩)) (c0 : w.cell? ⟨1, 36, none⟩ = some (.int .i64 0)) (c1 : w.cell? ⟨1, 37, none⟩ = some (.int .i64 0)) (c2 : w.cell? ⟨1, 38, none⟩ = some (.int .i64 0)) (c3 : w.cell? ⟨1, 39, none⟩ = some (.int .i64 0)) :
    Calls Tryd.prog 17 #[editVal ⟨7, n, a, b, t⟩] w fun e w' => e = .returned (.bool (editB ⟨7, n, a, b, t⟩)) ∧ Below w.heap.size w w' := by
  go_enter Tryd.func17, Tryd.ntmps17
  go_wp2_with (go_at_call 13; refine (between_any _ _ _ _).mono ?_; rintro e w' ⟨rfl, rfl⟩)
  all_goals
    go_ret
    refine ⟨ret_bool ?_, by first | exact (Below.refl _ _).alloc (Nat.le_refl _) _ | exact ((Below.refl _ _).alloc (Nat.le_refl _) _).alloc (by simp) _⟩
    rw [Bool.eq_iff_iff, editB_iff]
    try simp only [Bool.not_eq_true', Bool.not_eq_false', ← Bool.not_eq_true] at *
    simp only [inB_iff, empty_iff, Bool.false_eq_true, decide_eq_true_eq] at *
    generalize t.size = z at *
    try subst_vars
    first | (simp; omega) | (simp; done) | omega

set_option linter.unusedSimpArgs false in
set_option maxHeartbeats 2000000 in
set_option maxRecDepth 100000 in
theorem implEdit8 (n a b : Int) (t : ByteArray) (w : World) (_hl : t.size ≤ 1048576) (hg : 1 < w.heap.size)
    (cw : w.cell? ⟨1, 40, none⟩ = some (.string ⟨#[115, 112, 108, 105, 116]⟩)) (c0 : w.cell? ⟨1, 41, none⟩ = some (.int .i64 0)) (c1 : w.cell? ⟨1, 42, none⟩ = some (.int .i64 20)) (c2 : w.cell? ⟨1, 43, none⟩ = some (.int .i64 0)) (c3 : w.cell? ⟨1, 44, none⟩ = some (.int .i64 0)) :
    Calls Tryd.prog 17 #[editVal ⟨8, n, a, b, t⟩] w fun e w' => e = .returned (.bool (editB ⟨8, n, a, b, t⟩)) ∧ Below w.heap.size w w' := by
  go_enter Tryd.func17, Tryd.ntmps17
  go_wp2_with (go_at_call 13; refine (between_any _ _ _ _).mono ?_; rintro e w' ⟨rfl, rfl⟩)
  all_goals
    go_ret
    refine ⟨ret_bool ?_, by first | exact (Below.refl _ _).alloc (Nat.le_refl _) _ | exact ((Below.refl _ _).alloc (Nat.le_refl _) _).alloc (by simp) _⟩
    rw [Bool.eq_iff_iff, editB_iff]
    try simp only [Bool.not_eq_true', Bool.not_eq_false', ← Bool.not_eq_true] at *
    simp only [inB_iff, empty_iff, Bool.false_eq_true, decide_eq_true_eq] at *
    generalize t.size = z at *
    try subst_vars
    first | (simp; omega) | (simp; done) | omega

set_option linter.unusedSimpArgs false in
set_option maxHeartbeats 2000000 in
set_option maxRecDepth 100000 in
theorem implEdit9 (n a b : Int) (t : ByteArray) (w : World) (_hl : t.size ≤ 1048576) (hg : 1 < w.heap.size)
    (cw : w.cell? ⟨1, 45, none⟩ = some (.string ⟨#[106, 111, 105, 110]⟩)) (c0 : w.cell? ⟨1, 46, none⟩ = some (.int .i64 0)) (c1 : w.cell? ⟨1, 47, none⟩ = some (.int .i64 0)) (c2 : w.cell? ⟨1, 48, none⟩ = some (.int .i64 0)) (c3 : w.cell? ⟨1, 49, none⟩ = some (.int .i64 0)) :
    Calls Tryd.prog 17 #[editVal ⟨9, n, a, b, t⟩] w fun e w' => e = .returned (.bool (editB ⟨9, n, a, b, t⟩)) ∧ Below w.heap.size w w' := by
  go_enter Tryd.func17, Tryd.ntmps17
  go_wp2_with (go_at_call 13; refine (between_any _ _ _ _).mono ?_; rintro e w' ⟨rfl, rfl⟩)
  all_goals
    go_ret
    refine ⟨ret_bool ?_, by first | exact (Below.refl _ _).alloc (Nat.le_refl _) _ | exact ((Below.refl _ _).alloc (Nat.le_refl _) _).alloc (by simp) _⟩
    rw [Bool.eq_iff_iff, editB_iff]
    try simp only [Bool.not_eq_true', Bool.not_eq_false', ← Bool.not_eq_true] at *
    simp only [inB_iff, empty_iff, Bool.false_eq_true, decide_eq_true_eq] at *
    generalize t.size = z at *
    try subst_vars
    first | (simp; omega) | (simp; done) | omega

set_option maxHeartbeats 400000 in
theorem implEditOut (k n a b : Int) (t : ByteArray) (w : World) (hk : ¬ (1 ≤ k ∧ k ≤ 9)) :
    Calls Tryd.prog 17 #[editVal ⟨k, n, a, b, t⟩] w fun e w' => e = .returned (.bool (editB ⟨k, n, a, b, t⟩)) ∧ Below w.heap.size w w' := by
  have hi : inB k 1 9 = false := by rw [← Bool.not_eq_true, inB_iff]; exact hk
  go_enter Tryd.func17, Tryd.ntmps17
  go_wp2_with (go_at_call 13; refine (between_any _ _ _ _).mono ?_; rintro e w' ⟨rfl, rfl⟩; rw [hi])
  go_ret
  refine ⟨ret_bool ?_, by first | exact (Below.refl _ _).alloc (Nat.le_refl _) _ | exact ((Below.refl _ _).alloc (Nat.le_refl _) _).alloc (by simp) _⟩
  simp [editB, hi]

theorem implEditOK_any (x : PEdit) (w : World) (h : EditAt w) (hl : x.text.size ≤ 1048576) :
    Calls Tryd.prog 17 #[editVal x] w fun e w' => e = .returned (.bool (editB x)) ∧ Below w.heap.size w w' := by
  obtain ⟨k, n, a, b, t⟩ := x
  by_cases hk : 1 ≤ k ∧ k ≤ 9
  · have h9 : k = 1 ∨ k = 2 ∨ k = 3 ∨ k = 4 ∨ k = 5 ∨ k = 6 ∨ k = 7 ∨ k = 8 ∨ k = 9 := by omega
    rcases h9 with rfl | rfl | rfl | rfl | rfl | rfl | rfl | rfl | rfl
    · exact implEdit1 n a b t w hl h.lt (h.cw 1 (by decide)) (h.c0 1 (by decide)) (h.c1 1 (by decide)) (h.c2 1 (by decide)) (h.c3 1 (by decide))
    · exact implEdit2 n a b t w hl h.lt (h.cw 2 (by decide)) (h.c0 2 (by decide)) (h.c1 2 (by decide)) (h.c2 2 (by decide)) (h.c3 2 (by decide))
    · exact implEdit3 n a b t w hl h.lt (h.cw 3 (by decide)) (h.c0 3 (by decide)) (h.c1 3 (by decide)) (h.c2 3 (by decide)) (h.c3 3 (by decide))
    · exact implEdit4 n a b t w hl h.lt (h.cw 4 (by decide)) (h.c0 4 (by decide)) (h.c1 4 (by decide)) (h.c2 4 (by decide)) (h.c3 4 (by decide))
    · exact implEdit5 n a b t w hl h.lt (h.cw 5 (by decide)) (h.c0 5 (by decide)) (h.c1 5 (by decide)) (h.c2 5 (by decide)) (h.c3 5 (by decide))
    · exact implEdit6 n a b t w hl h.lt (h.cw 6 (by decide)) (h.c0 6 (by decide)) (h.c1 6 (by decide)) (h.c2 6 (by decide)) (h.c3 6 (by decide))
    · exact implEdit7 n a b t w hl h.lt (h.cw 7 (by decide)) (h.c0 7 (by decide)) (h.c1 7 (by decide)) (h.c2 7 (by decide)) (h.c3 7 (by decide))
    · exact implEdit8 n a b t w hl h.lt (h.cw 8 (by decide)) (h.c0 8 (by decide)) (h.c1 8 (by decide)) (h.c2 8 (by decide)) (h.c3 8 (by decide))
    · exact implEdit9 n a b t w hl h.lt (h.cw 9 (by decide)) (h.c0 9 (by decide)) (h.c1 9 (by decide)) (h.c2 9 (by decide)) (h.c3 9 (by decide))
  · exact implEditOut k n a b t w hk
end Go.Proofs.YtihoihlkkhndhaaDoor
