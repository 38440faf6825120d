/-
  What the program's RequestOK answers.
-/
import Derived.Test.YtihoihlkkhndhaaDoorReqRepJ
import Derived.Test.YtihoihlkkhndhaaDoorEditImplJ
namespace Go.Proofs.YtihoihlkkhndhaaDoor
open Go.RowKit

def numB (n : Int) (h : Bool) (m : Int) : Bool := if h = true then inB n 1 m else n == 0
def editFB (x : PEdit) (h : Bool) : Bool := if h = true then editB x else (x.kind == editZero.kind && (x.node == editZero.node && (x.a == editZero.a && (x.b == editZero.b && decide (x.text.toList = editZero.text.toList)))))

theorem numIn_any (n : Int) (h : Bool) (m : Int) (w : World) :
    Calls Tryd.prog 14 #[.int .i64 n, .bool h, .int .i64 m] w fun e w' => e = .returned (.bool (numB n h m)) ∧ w' = w := by
  cases h
  · go_enter Tryd.func14, Tryd.ntmps14
    go_wp2_with (go_at_call 13; refine (between_any _ _ _ _).mono ?_; rintro e w' ⟨rfl, rfl⟩)
    go_ret
    exact ⟨ret_bool (by simp [numB]), rfl⟩
  · go_enter Tryd.func14, Tryd.ntmps14
    go_wp2_with (go_at_call 13; refine (between_any _ _ _ _).mono ?_; rintro e w' ⟨rfl, rfl⟩)
    go_ret
    exact ⟨ret_bool (by simp [numB]), rfl⟩

set_option maxHeartbeats 1000000 in
theorem editIn_any (x : PEdit) (h : Bool) (w : World) (hA : EditAt w) (hl : x.text.size ≤ 1048576) :
    Calls Tryd.prog 15 #[editVal x, .bool h] w fun e w' => e = .returned (.bool (editFB x h)) ∧ Below w.heap.size w w' := by
  have hW := (Below.refl w.heap.size w).alloc (Nat.le_refl _) (.cells #[.int .i64 x.kind, .int .i64 x.node, .int .i64 x.a, .int .i64 x.b, .string x.text] 28)
  have HOk := hide (implEditOK_any x (w.alloc (.cells #[.int .i64 x.kind, .int .i64 x.node, .int .i64 x.a, .int .i64 x.b, .string x.text] 28)) (hA.below hW) hl)
  clear hA
  cases h
  · go_enter Tryd.func15, Tryd.ntmps15
    go_wp2_with fail
    all_goals
      go_ret
      exact ⟨ret_bool (by simp [editFB, editZero, *]), (Below.refl _ _).alloc (Nat.le_refl _) _⟩
  · go_enter Tryd.func15, Tryd.ntmps15
    go_wp2_with fail
    refine HOk.out.mono ?_
    rintro e w1 ⟨rfl, hb1⟩
    simp only [World.size_alloc] at hb1
    go_wp2_with fail
    go_ret
    exact ⟨ret_bool (by simp [editFB]), hW.trans (hb1.mono (by omega))⟩

theorem numB_yes {n m : Int} : numB n true m = true ↔ 1 ≤ n ∧ n ≤ m := by simp [numB, inB_iff]
theorem numB_no {n m : Int} : numB n false m = true ↔ n = 0 := by simp [numB]
theorem editFB_yes {x : PEdit} : editFB x true = true ↔ editB x = true := by simp [editFB]
theorem editFB_no {x : PEdit} : editFB x false = true ↔ editZ x := by
  unfold editFB
  rw [if_neg (by decide)]
  exact editZ_iff

set_option linter.unusedSimpArgs false in
set_option maxHeartbeats 4000000 in
set_option maxRecDepth 100000 in
theorem implReq1 (s n a : Int) (x : PEdit) (w : World) (hl : x.text.size ≤ 1048576) (hA : EditAt w) (hg : 0 < w.heap.size)
    (c0 : w.cell? ⟨0, 5, none⟩ = some (.bool false)) (c1 : w.cell? ⟨0, 6, none⟩ = some (.bool false)) (c2 : w.cell? ⟨0, 7, none⟩ = some (.bool false)) (c3 : w.cell? ⟨0, 8, none⟩ = some (.int .i64 0)) (c4 : w.cell? ⟨0, 9, none⟩ = some (.int .i64 0)) :
    Calls Tryd.prog 7 #[reqVal ⟨1, s, n, a, x⟩] w fun e w' => e = .returned (.bool (numB s false 999 && (numB n false 999999 && (inB a 0 0 && editFB x false)))) ∧ Below w.heap.size w w' := by
  have hW : Hid (∀ o1 o2, Below w.heap.size w ((w.alloc o1).alloc o2)) := fun o1 o2 => ((Below.refl _ _).alloc (Nat.le_refl _) _).alloc (by simp) _
  have HEd : Hid (∀ o1 o2, Calls Tryd.prog 15 #[editVal x, .bool false] ((w.alloc o1).alloc o2) fun e w' => e = .returned (.bool (editFB x false)) ∧ Below w.heap.size w w') := fun o1 o2 =>
    (editIn_any x false _ (hA.below (hW.out o1 o2)) hl).mono fun e w' ⟨he, hb⟩ => ⟨he, (hW.out o1 o2).trans (hb.mono (by simp; omega))⟩
  have hi : inB 1 1 11 = true := by decide
  generalize editFB x false = q4 at *
  clear hA
  go_enter Tryd.func7, Tryd.ntmps7
  go_wp2_with (first | (go_at_call 13; refine (between_any _ _ _ _).mono ?_; rintro e w' ⟨rfl, rfl⟩; try rw [hi]) | (go_at_call 14; refine (numIn_any _ _ _ _).mono ?_; rintro e w' ⟨rfl, rfl⟩) | (go_at_call 15; refine (HEd.out _ _).mono ?_; rintro e w' ⟨rfl, hb⟩))
  all_goals
    go_ret
    exact ⟨ret_bool (by simp [*]), by first | exact hb | exact hW.out _ _⟩

set_option linter.unusedSimpArgs false in
set_option maxHeartbeats 4000000 in
set_option maxRecDepth 100000 in
theorem implReq2 (s n a : Int) (x : PEdit) (w : World) (hl : x.text.size ≤ 1048576) (hA : EditAt w) (hg : 0 < w.heap.size)
    (c0 : w.cell? ⟨0, 10, none⟩ = some (.bool true)) (c1 : w.cell? ⟨0, 11, none⟩ = some (.bool false)) (c2 : w.cell? ⟨0, 12, none⟩ = some (.bool false)) (c3 : w.cell? ⟨0, 13, none⟩ = some (.int .i64 0)) (c4 : w.cell? ⟨0, 14, none⟩ = some (.int .i64 0)) :
    Calls Tryd.prog 7 #[reqVal ⟨2, s, n, a, x⟩] w fun e w' => e = .returned (.bool (numB s true 999 && (numB n false 999999 && (inB a 0 0 && editFB x false)))) ∧ Below w.heap.size w w' := by
  have hW : Hid (∀ o1 o2, Below w.heap.size w ((w.alloc o1).alloc o2)) := fun o1 o2 => ((Below.refl _ _).alloc (Nat.le_refl _) _).alloc (by simp) _
  have HEd : Hid (∀ o1 o2, Calls Tryd.prog 15 #[editVal x, .bool false] ((w.alloc o1).alloc o2) fun e w' => e = .returned (.bool (editFB x false)) ∧ Below w.heap.size w w') := fun o1 o2 =>
    (editIn_any x false _ (hA.below (hW.out o1 o2)) hl).mono fun e w' ⟨he, hb⟩ => ⟨he, (hW.out o1 o2).trans (hb.mono (by simp; omega))⟩
  have hi : inB 2 1 11 = true := by decide
  generalize editFB x false = q4 at *
  clear hA
  go_enter Tryd.func7, Tryd.ntmps7
  go_wp2_with (first | (go_at_call 13; refine (between_any _ _ _ _).mono ?_; rintro e w' ⟨rfl, rfl⟩; try rw [hi]) | (go_at_call 14; refine (numIn_any _ _ _ _).mono ?_; rintro e w' ⟨rfl, rfl⟩) | (go_at_call 15; refine (HEd.out _ _).mono ?_; rintro e w' ⟨rfl, hb⟩))
  all_goals
    go_ret
    exact ⟨ret_bool (by simp [*]), by first | exact hb | exact hW.out _ _⟩

set_option linter.unusedSimpArgs false in
set_option maxHeartbeats 4000000 in
set_option maxRecDepth 100000 in
theorem implReq3 (s n a : Int) (x : PEdit) (w : World) (hl : x.text.size ≤ 1048576) (hA : EditAt w) (hg : 0 < w.heap.size)
    (c0 : w.cell? ⟨0, 15, none⟩ = some (.bool true)) (c1 : w.cell? ⟨0, 16, none⟩ = some (.bool false)) (c2 : w.cell? ⟨0, 17, none⟩ = some (.bool false)) (c3 : w.cell? ⟨0, 18, none⟩ = some (.int .i64 0)) (c4 : w.cell? ⟨0, 19, none⟩ = some (.int .i64 0)) :
    Calls Tryd.prog 7 #[reqVal ⟨3, s, n, a, x⟩] w fun e w' => e = .returned (.bool (numB s true 999 && (numB n false 999999 && (inB a 0 0 && editFB x false)))) ∧ Below w.heap.size w w' := by
  have hW : Hid (∀ o1 o2, Below w.heap.size w ((w.alloc o1).alloc o2)) := fun o1 o2 => ((Below.refl _ _).alloc (Nat.le_refl _) _).alloc (by simp) _
  have HEd : Hid (∀ o1 o2, Calls Tryd.prog 15 #[editVal x, .bool false] ((w.alloc o1).alloc o2) fun e w' => e = .returned (.bool (editFB x false)) ∧ Below w.heap.size w w') := fun o1 o2 =>
    (editIn_any x false _ (hA.below (hW.out o1 o2)) hl).mono fun e w' ⟨he, hb⟩ => ⟨he, (hW.out o1 o2).trans (hb.mono (by simp; omega))⟩
  have hi : inB 3 1 11 = true := by decide
  generalize editFB x false = q4 at *
  clear hA
  go_enter Tryd.func7, Tryd.ntmps7
  go_wp2_with (first | (go_at_call 13; refine (between_any _ _ _ _).mono ?_; rintro e w' ⟨rfl, rfl⟩; try rw [hi]) | (go_at_call 14; refine (numIn_any _ _ _ _).mono ?_; rintro e w' ⟨rfl, rfl⟩) | (go_at_call 15; refine (HEd.out _ _).mono ?_; rintro e w' ⟨rfl, hb⟩))
  all_goals
    go_ret
    exact ⟨ret_bool (by simp [*]), by first | exact hb | exact hW.out _ _⟩

set_option linter.unusedSimpArgs false in
set_option maxHeartbeats 4000000 in
set_option maxRecDepth 100000 in
theorem implReq4 (s n a : Int) (x : PEdit) (w : World) (hl : x.text.size ≤ 1048576) (hA : EditAt w) (hg : 0 < w.heap.size)
    (c0 : w.cell? ⟨0, 20, none⟩ = some (.bool true)) (c1 : w.cell? ⟨0, 21, none⟩ = some (.bool true)) (c2 : w.cell? ⟨0, 22, none⟩ = some (.bool false)) (c3 : w.cell? ⟨0, 23, none⟩ = some (.int .i64 1)) (c4 : w.cell? ⟨0, 24, none⟩ = some (.int .i64 5)) :
    Calls Tryd.prog 7 #[reqVal ⟨4, s, n, a, x⟩] w fun e w' => e = .returned (.bool (numB s true 999 && (numB n true 999999 && (inB a 1 5 && editFB x false)))) ∧ Below w.heap.size w w' := by
  have hW : Hid (∀ o1 o2, Below w.heap.size w ((w.alloc o1).alloc o2)) := fun o1 o2 => ((Below.refl _ _).alloc (Nat.le_refl _) _).alloc (by simp) _
  have HEd : Hid (∀ o1 o2, Calls Tryd.prog 15 #[editVal x, .bool false] ((w.alloc o1).alloc o2) fun e w' => e = .returned (.bool (editFB x false)) ∧ Below w.heap.size w w') := fun o1 o2 =>
    (editIn_any x false _ (hA.below (hW.out o1 o2)) hl).mono fun e w' ⟨he, hb⟩ => ⟨he, (hW.out o1 o2).trans (hb.mono (by simp; omega))⟩
  have hi : inB 4 1 11 = true := by decide
  generalize editFB x false = q4 at *
  clear hA
  go_enter Tryd.func7, Tryd.ntmps7
  go_wp2_with (first | (go_at_call 13; refine (between_any _ _ _ _).mono ?_; rintro e w' ⟨rfl, rfl⟩; try rw [hi]) | (go_at_call 14; refine (numIn_any _ _ _ _).mono ?_; rintro e w' ⟨rfl, rfl⟩) | (go_at_call 15; refine (HEd.out _ _).mono ?_; rintro e w' ⟨rfl, hb⟩))
  all_goals
    go_ret
    exact ⟨ret_bool (by simp [*]), by first | exact hb | exact hW.out _ _⟩

set_option linter.unusedSimpArgs false in
set_option maxHeartbeats 4000000 in
set_option maxRecDepth 100000 in
theorem implReq5 (s n a : Int) (x : PEdit) (w : World) (hl : x.text.size ≤ 1048576) (hA : EditAt w) (hg : 0 < w.heap.size)
    (c0 : w.cell? ⟨0, 25, none⟩ = some (.bool true)) (c1 : w.cell? ⟨0, 26, none⟩ = some (.bool true)) (c2 : w.cell? ⟨0, 27, none⟩ = some (.bool false)) (c3 : w.cell? ⟨0, 28, none⟩ = some (.int .i64 0)) (c4 : w.cell? ⟨0, 29, none⟩ = some (.int .i64 0)) :
    Calls Tryd.prog 7 #[reqVal ⟨5, s, n, a, x⟩] w fun e w' => e = .returned (.bool (numB s true 999 && (numB n true 999999 && (inB a 0 0 && editFB x false)))) ∧ Below w.heap.size w w' := by
  have hW : Hid (∀ o1 o2, Below w.heap.size w ((w.alloc o1).alloc o2)) := fun o1 o2 => ((Below.refl _ _).alloc (Nat.le_refl _) _).alloc (by simp) _
  have HEd : Hid (∀ o1 o2, Calls Tryd.prog 15 #[editVal x, .bool false] ((w.alloc o1).alloc o2) fun e w' => e = .returned (.bool (editFB x false)) ∧ Below w.heap.size w w') := fun o1 o2 =>
    (editIn_any x false _ (hA.below (hW.out o1 o2)) hl).mono fun e w' ⟨he, hb⟩ => ⟨he, (hW.out o1 o2).trans (hb.mono (by simp; omega))⟩
  have hi : inB 5 1 11 = true := by decide
  generalize editFB x false = q4 at *
  clear hA
  go_enter Tryd.func7, Tryd.ntmps7
  go_wp2_with (first | (go_at_call 13; refine (between_any _ _ _ _).mono ?_; rintro e w' ⟨rfl, rfl⟩; try rw [hi]) | (go_at_call 14; refine (numIn_any _ _ _ _).mono ?_; rintro e w' ⟨rfl, rfl⟩) | (go_at_call 15; refine (HEd.out _ _).mono ?_; rintro e w' ⟨rfl, hb⟩))
  all_goals
    go_ret
    exact ⟨ret_bool (by simp [*]), by first | exact hb | exact hW.out _ _⟩

set_option linter.unusedSimpArgs false in
set_option maxHeartbeats 4000000 in
set_option maxRecDepth 100000 in
theorem implReq6 (s n a : Int) (x : PEdit) (w : World) (hl : x.text.size ≤ 1048576) (hA : EditAt w) (hg : 0 < w.heap.size)
    (c0 : w.cell? ⟨0, 30, none⟩ = some (.bool true)) (c1 : w.cell? ⟨0, 31, none⟩ = some (.bool true)) (c2 : w.cell? ⟨0, 32, none⟩ = some (.bool false)) (c3 : w.cell? ⟨0, 33, none⟩ = some (.int .i64 0)) (c4 : w.cell? ⟨0, 34, none⟩ = some (.int .i64 0)) :
    Calls Tryd.prog 7 #[reqVal ⟨6, s, n, a, x⟩] w fun e w' => e = .returned (.bool (numB s true 999 && (numB n true 999999 && (inB a 0 0 && editFB x false)))) ∧ Below w.heap.size w w' := by
  have hW : Hid (∀ o1 o2, Below w.heap.size w ((w.alloc o1).alloc o2)) := fun o1 o2 => ((Below.refl _ _).alloc (Nat.le_refl _) _).alloc (by simp) _
  have HEd : Hid (∀ o1 o2, Calls Tryd.prog 15 #[editVal x, .bool false] ((w.alloc o1).alloc o2) fun e w' => e = .returned (.bool (editFB x false)) ∧ Below w.heap.size w w') := fun o1 o2 =>
    (editIn_any x false _ (hA.below (hW.out o1 o2)) hl).mono fun e w' ⟨he, hb⟩ => ⟨he, (hW.out o1 o2).trans (hb.mono (by simp; omega))⟩
  have hi : inB 6 1 11 = true := by decide
  generalize editFB x false = q4 at *
  clear hA
  go_enter Tryd.func7, Tryd.ntmps7
  go_wp2_with (first | (go_at_call 13; refine (between_any _ _ _ _).mono ?_; rintro e w' ⟨rfl, rfl⟩; try rw [hi]) | (go_at_call 14; refine (numIn_any _ _ _ _).mono ?_; rintro e w' ⟨rfl, rfl⟩) | (go_at_call 15; refine (HEd.out _ _).mono ?_; rintro e w' ⟨rfl, hb⟩))
  all_goals
    go_ret
    exact ⟨ret_bool (by simp [*]), by first | exact hb | exact hW.out _ _⟩

set_option linter.unusedSimpArgs false in
set_option maxHeartbeats 4000000 in
set_option maxRecDepth 100000 in
theorem implReq7 (s n a : Int) (x : PEdit) (w : World) (hl : x.text.size ≤ 1048576) (hA : EditAt w) (hg : 0 < w.heap.size)
    (c0 : w.cell? ⟨0, 35, none⟩ = some (.bool true)) (c1 : w.cell? ⟨0, 36, none⟩ = some (.bool false)) (c2 : w.cell? ⟨0, 37, none⟩ = some (.bool true)) (c3 : w.cell? ⟨0, 38, none⟩ = some (.int .i64 0)) (c4 : w.cell? ⟨0, 39, none⟩ = some (.int .i64 0)) :
    Calls Tryd.prog 7 #[reqVal ⟨7, s, n, a, x⟩] w fun e w' => e = .returned (.bool (numB s true 999 && (numB n false 999999 && (inB a 0 0 && editFB x true)))) ∧ Below w.heap.size w w' := by
  have hW : Hid (∀ o1 o2, Below w.heap.size w ((w.alloc o1).alloc o2)) := fun o1 o2 => ((Below.refl _ _).alloc (Nat.le_refl _) _).alloc (by simp) _
  have HEd : Hid (∀ o1 o2, Calls Tryd.prog 15 #[editVal x, .bool true] ((w.alloc o1).alloc o2) fun e w' => e = .returned (.bool (editFB x true)) ∧ Below w.heap.size w w') := fun o1 o2 =>
    (editIn_any x true _ (hA.below (hW.out o1 o2)) hl).mono fun e w' ⟨he, hb⟩ => ⟨he, (hW.out o1 o2).trans (hb.mono (by simp; omega))⟩
  have hi : inB 7 1 11 = true := by decide
  generalize editFB x true = q4 at *
  clear hA
  go_enter Tryd.func7, Tryd.ntmps7
  go_wp2_with (first | (go_at_call 13; refine (between_any _ _ _ _).mono ?_; rintro e w' ⟨rfl, rfl⟩; try rw [hi]) | (go_at_call 14; refine (numIn_any _ _ _ _).mono ?_; rintro e w' ⟨rfl, rfl⟩) | (go_at_call 15; refine (HEd.out _ _).mono ?_; rintro e w' ⟨rfl, hb⟩))
  all_goals
    go_ret
    exact ⟨ret_bool (by simp [*]), by first | exact hb | exact hW.out _ _⟩

set_option linter.unusedSimpArgs false in
set_option maxHeartbeats 4000000 in
set_option maxRecDepth 100000 in
theorem implReq8 (s n a : Int) (x : PEdit) (w : World) (hl : x.text.size ≤ 1048576) (hA : EditAt w) (hg : 0 < w.heap.size)
    (c0 : w.cell? ⟨0, 40, none⟩ = some (.bool true)) (c1 : w.cell? ⟨0, 41, none⟩ = some (.bool false)) (c2 : w.cell? ⟨0, 42, none⟩ = some (.bool false)) (c3 : w.cell? ⟨0, 43, none⟩ = some (.int .i64 0)) (c4 : w.cell? ⟨0, 44, none⟩ = some (.int .i64 0)) :
    Calls Tryd.prog 7 #[reqVal ⟨8, s, n, a, x⟩] w fun e w' => e = .returned (.bool (numB s true 999 && (numB n false 999999 && (inB a 0 0 && editFB x false)))) ∧ Below w.heap.size w w' := by
  have hW : Hid (∀ o1 o2, Below w.heap.size w ((w.alloc o1).alloc o2)) := fun o1 o2 => ((Below.refl _ _).alloc (Nat.le_refl _) _).alloc (by simp) _
  have HEd : Hid (∀ o1 o2, Calls Tryd.prog 15 #[editVal x, .bool false] ((w.alloc o1).alloc o2) fun e w' => e = .returned (.bool (editFB x false)) ∧ Below w.heap.size w w') := fun o1 o2 =>
    (editIn_any x false _ (hA.below (hW.out o1 o2)) hl).mono fun e w' ⟨he, hb⟩ => ⟨he, (hW.out o1 o2).trans (hb.mono (by simp; omega))⟩
  have hi : inB 8 1 11 = true := by decide
  generalize editFB x false = q4 at *
  clear hA
  go_enter Tryd.func7, Tryd.ntmps7
  go_wp2_with (first | (go_at_call 13; refine (between_any _ _ _ _).mono ?_; rintro e w' ⟨rfl, rfl⟩; try rw [hi]) | (go_at_call 14; refine (numIn_any _ _ _ _).mono ?_; rintro e w' ⟨rfl, rfl⟩) | (go_at_call 15; refine (HEd.out _ _).mono ?_; rintro e w' ⟨rfl, hb⟩))
  all_goals
    go_ret
    exact ⟨ret_bool (by simp [*]), by first | exact hb | exact hW.out _ _⟩

set_option linter.unusedSimpArgs false in
set_option maxHeartbeats 4000000 in
set_option maxRecDepth 100000 in
theorem implReq9 (s n a : Int) (x : PEdit) (w : World) (hl : x.text.size ≤ 1048576) (hA : EditAt w) (hg : 0 < w.heap.size)
    (c0 : w.cell? ⟨0, 45, none⟩ = some (.bool true)) (c1 : w.cell? ⟨0, 46, none⟩ = some (.bool false)) (c2 : w.cell? ⟨0, 47, none⟩ = some (.bool false)) (c3 : w.cell? ⟨0, 48, none⟩ = some (.int .i64 0)) (c4 : w.cell? ⟨0, 49, none⟩ = some (.int .i64 0)) :
    Calls Tryd.prog 7 #[reqVal ⟨9, s, n, a, x⟩] w fun e w' => e = .returned (.bool (numB s true 999 && (numB n false 999999 && (inB a 0 0 && editFB x false)))) ∧ Below w.heap.size w w' := by
  have hW : Hid (∀ o1 o2, Below w.heap.size w ((w.alloc o1).alloc o2)) := fun o1 o2 => ((Below.refl _ _).alloc (Nat.le_refl _) _).alloc (by simp) _
  have HEd : Hid (∀ o1 o2, Calls Tryd.prog 15 #[editVal x, .bool false] ((w.alloc o1).alloc o2) fun e w' => e = .returned (.bool (editFB x false)) ∧ Below w.heap.size w w') := fun o1 o2 =>
    (editIn_any x false _ (hA.below (hW.out o1 o2)) hl).mono fun e w' ⟨he, hb⟩ => ⟨he, (hW.out o1 o2).trans (hb.mono (by simp; omega))⟩
  have hi : inB 9 1 11 = true := by decide
  generalize editFB x false = q4 at *
  clear hA
  go_enter Tryd.func7, Tryd.ntmps7
  go_wp2_with (first | (go_at_call 13; refine (between_any _ _ _ _).mono ?_; rintro e w' ⟨rfl, rfl⟩; try rw [hi]) | (go_at_call 14; refine (numIn_any _ _ _ _).mono ?_; rintro e w' ⟨rfl, rfl⟩) | (go_at_call 15; refine (HEd.out _ _).mono ?_; rintro e w' ⟨rfl, hb⟩))
  all_goals
    go_ret
    exact ⟨ret_bool (by simp [*]), by first | exact hb | exact hW.out _ _⟩

set_option linter.unusedSimpArgs false in
set_option maxHeartbeats 4000000 in
set_option maxRecDepth 100000 in
theorem implReq10 (s n a : Int) (x : PEdit) (w : World) (hl : x.text.size ≤ 1048576) (hA : EditAt w) (hg : 0 < w.heap.size)
    (c0 : w.cell? ⟨0, 50, none⟩ = some (.bool true)) (c1 : w.cell? ⟨0, 51, none⟩ = some (.bool true)) (c2 : w.cell? ⟨0, 52, none⟩ = some (.bool false)) (c3 : w.cell? ⟨0, 53, none⟩ = some (.int .i64 0)) (c4 : w.cell? ⟨0, 54, none⟩ = some (.int .i64 0)) :
    Calls Tryd.prog 7 #[reqVal ⟨10, s, n, a, x⟩] w fun e w' => e = .returned (.bool (numB s true 999 && (numB n true 999999 && (inB a 0 0 && editFB x false)))) ∧ Below w.heap.size w w' := by
  have hW : Hid (∀ o1 o2, Below w.heap.size w ((w.alloc o1).alloc o2)) := fun o1 o2 => ((Below.refl _ _).alloc (Nat.le_refl _) _).alloc (by simp) _
  have HEd : Hid (∀ o1 o2, Calls Tryd.prog 15 #[editVal x, .bool false] ((w.alloc o1).alloc o2) fun e w' => e = .returned (.bool (editFB x false)) ∧ Below w.heap.size w w') := fun o1 o2 =>
    (editIn_any x false _ (hA.below (hW.out o1 o2)) hl).mono fun e w' ⟨he, hb⟩ => ⟨he, (hW.out o1 o2).trans (hb.mono (by simp; omega))⟩
  have hi : inB 10 1 11 = true := by decide
  generalize editFB x false = q4 at *
  clear hA
  go_enter Tryd.func7, Tryd.ntmps7
  go_wp2_with (first | (go_at_call 13; refine (between_any _ _ _ _).mono ?_; rintro e w' ⟨rfl, rfl⟩; try rw [hi]) | (go_at_call 14; refine (numIn_any _ _ _ _).mono ?_; rintro e w' ⟨rfl, rfl⟩) | (go_at_call 15; refine (HEd.out _ _).mono ?_; rintro e w' ⟨rfl, hb⟩))
  all_goals
    go_ret
    exact ⟨ret_bool (by simp [*]), by first | exact hb | exact hW.out _ _⟩

set_option linter.unusedSimpArgs false in
set_option maxHeartbeats 4000000 in
set_option maxRecDepth 100000 in
theorem implReq11 (s n a : Int) (x : PEdit) (w : World) (hl : x.text.size ≤ 1048576) (hA : EditAt w) (hg : 0 < w.heap.size)
    (c0 : w.cell? ⟨0, 55, none⟩ = some (.bool false)) (c1 : w.cell? ⟨0, 56, none⟩ = some (.bool false)) (c2 : w.cell? ⟨0, 57, none⟩ = some (.bool false)) (c3 : w.cell? ⟨0, 58, none⟩ = some (.int .i64 1)) (c4 : w.cell? ⟨0, 59, none⟩ = some (.int .i64 500)) :
    Calls Tryd.prog 7 #[reqVal ⟨11, s, n, a, x⟩] w fun e w' => e = .returned (.bool (numB s false 999 && (numB n false 999999 && (inB a 1 500 && editFB x false)))) ∧ Below w.heap.size w w' := by
  have hW : Hid (∀ o1 o2, Below w.heap.size w ((w.alloc o1).alloc o2)) := fun o1 o2 => ((Below.refl _ _).alloc (Nat.le_refl _) _).alloc (by simp) _
  have HEd : Hid (∀ o1 o2, Calls Tryd.prog 15 #[editVal x, .bool false] ((w.alloc o1).alloc o2) fun e w' => e = .returned (.bool (editFB x false)) ∧ Below w.heap.size w w') := fun o1 o2 =>
    (editIn_any x false _ (hA.below (hW.out o1 o2)) hl).mono fun e w' ⟨he, hb⟩ => ⟨he, (hW.out o1 o2).trans (hb.mono (by simp; omega))⟩
  have hi : inB 11 1 11 = true := by decide
  generalize editFB x false = q4 at *
  clear hA
  go_enter Tryd.func7, Tryd.ntmps7
  go_wp2_with (first | (go_at_call 13; refine (between_any _ _ _ _).mono ?_; rintro e w' ⟨rfl, rfl⟩; try rw [hi]) | (go_at_call 14; refine (numIn_any _ _ _ _).mono ?_; rintro e w' ⟨rfl, rfl⟩) | (go_at_call 15; refine (HEd.out _ _).mono ?_; rintro e w' ⟨rfl, hb⟩))
  all_goals
    go_ret
    exact ⟨ret_bool (by simp [*]), by first | exact hb | exact hW.out _ _⟩

set_option maxHeartbeats 1000000 in
theorem implReqOut (k s n a : Int) (x : PEdit) (w : World) (hk : ¬ (1 ≤ k ∧ k ≤ 11)) :
    Calls Tryd.prog 7 #[reqVal ⟨k, s, n, a, x⟩] w fun e w' => e = .returned (.bool false) ∧ Below w.heap.size w w' := by
  have hi : inB k 1 11 = false := by rw [← Bool.not_eq_true, inB_iff]; exact hk
  go_enter Tryd.func7, Tryd.ntmps7
  go_wp2_with (go_at_call 13; refine (between_any _ _ _ _).mono ?_; rintro e w' ⟨rfl, rfl⟩; rw [hi])
  go_ret
  exact ⟨rfl, (Below.refl _ _).alloc (Nat.le_refl _) _⟩

theorem implRequestOK_any (x : PReq) (w : World) (h : ReqAt w) (hE : EditAt w) (hl : x.edit.text.size ≤ 1048576) :
    Calls Tryd.prog 7 #[reqVal x] w fun e w' => ∃ r, e = .returned (.bool r) ∧ (r = true ↔ ReqP x) ∧ Below w.heap.size w w' := by
  obtain ⟨k, s, n, a, y⟩ := x
  by_cases hk : 1 ≤ k ∧ k ≤ 11
  · have h9 : k = 1 ∨ k = 2 ∨ k = 3 ∨ k = 4 ∨ k = 5 ∨ k = 6 ∨ k = 7 ∨ k = 8 ∨ k = 9 ∨ k = 10 ∨ k = 11 := by omega
    rcases h9 with rfl | rfl | rfl | rfl | rfl | rfl | rfl | rfl | rfl | rfl | rfl
    · refine (implReq1 s n a y w hl hE h.lt (h.c0 1 (by decide)) (h.c1 1 (by decide)) (h.c2 1 (by decide)) (h.c3 1 (by decide)) (h.c4 1 (by decide))).mono fun e w' ⟨he, hb⟩ => ⟨_, he, ?_, hb⟩
      simp only [Bool.and_eq_true, numB_no, inB_iff, editFB_no]
      unfold ReqP sessN nodeN
      generalize editZ y = z
      generalize editB y = bb
      simp
      try omega
    · refine (implReq2 s n a y w hl hE h.lt (h.c0 2 (by decide)) (h.c1 2 (by decide)) (h.c2 2 (by decide)) (h.c3 2 (by decide)) (h.c4 2 (by decide))).mono fun e w' ⟨he, hb⟩ => ⟨_, he, ?_, hb⟩
      simp only [Bool.and_eq_true, numB_yes, numB_no, inB_iff, editFB_no]
      unfold ReqP sessN nodeN
      generalize editZ y = z
      generalize editB y = bb
      simp
      try omega
    · refine (implReq3 s n a y w hl hE h.lt (h.c0 3 (by decide)) (h.c1 3 (by decide)) (h.c2 3 (by decide)) (h.c3 3 (by decide)) (h.c4 3 (by decide))).mono fun e w' ⟨he, hb⟩ => ⟨_, he, ?_, hb⟩
      simp only [Bool.and_eq_true, numB_yes, numB_no, inB_iff, editFB_no]
      unfold ReqP sessN nodeN
      generalize editZ y = z
      generalize editB y = bb
      simp
      try omega
    · refine (implReq4 s n a y w hl hE h.lt (h.c0 4 (by decide)) (h.c1 4 (by decide)) (h.c2 4 (by decide)) (h.c3 4 (by decide)) (h.c4 4 (by decide))).mono fun e w' ⟨he, hb⟩ => ⟨_, he, ?_, hb⟩
      simp only [Bool.and_eq_true, numB_yes, inB_iff, editFB_no]
      unfold ReqP sessN nodeN
      generalize editZ y = z
      generalize editB y = bb
      simp
      try omega
    · refine (implReq5 s n a y w hl hE h.lt (h.c0 5 (by decide)) (h.c1 5 (by decide)) (h.c2 5 (by decide)) (h.c3 5 (by decide)) (h.c4 5 (by decide))).mono fun e w' ⟨he, hb⟩ => ⟨_, he, ?_, hb⟩
      simp only [Bool.and_eq_true, numB_yes, inB_iff, editFB_no]
      unfold ReqP sessN nodeN
      generalize editZ y = z
      generalize editB y = bb
      simp
      try omega
    · refine (implReq6 s n a y w hl hE h.lt (h.c0 6 (by decide)) (h.c1 6 (by decide)) (h.c2 6 (by decide)) (h.c3 6 (by decide)) (h.c4 6 (by decide))).mono fun e w' ⟨he, hb⟩ => ⟨_, he, ?_, hb⟩
      simp only [Bool.and_eq_true, numB_yes, inB_iff, editFB_no]
      unfold ReqP sessN nodeN
      generalize editZ y = z
      generalize editB y = bb
      simp
      try omega
    · refine (implReq7 s n a y w hl hE h.lt (h.c0 7 (by decide)) (h.c1 7 (by decide)) (h.c2 7 (by decide)) (h.c3 7 (by decide)) (h.c4 7 (by decide))).mono fun e w' ⟨he, hb⟩ => ⟨_, he, ?_, hb⟩
      simp only [Bool.and_eq_true, numB_yes, numB_no, inB_iff, editFB_yes]
      unfold ReqP sessN nodeN
      generalize editZ y = z
      generalize editB y = bb
      simp
      try omega
    · refine (implReq8 s n a y w hl hE h.lt (h.c0 8 (by decide)) (h.c1 8 (by decide)) (h.c2 8 (by decide)) (h.c3 8 (by decide)) (h.c4 8 (by decide))).mono fun e w' ⟨he, hb⟩ => ⟨_, he, ?_, hb⟩
      simp only [Bool.and_eq_true, numB_yes, numB_no, inB_iff, editFB_no]
      unfold ReqP sessN nodeN
      generalize editZ y = z
      generalize editB y = bb
      simp
      try omega
    · refine (implReq9 s n a y w hl hE h.lt (h.c0 9 (by decide)) (h.c1 9 (by decide)) (h.c2 9 (by decide)) (h.c3 9 (by decide)) (h.c4 9 (by decide))).mono fun e w' ⟨he, hb⟩ => ⟨_, he, ?_, hb⟩
      simp only [Bool.and_eq_true, numB_yes, numB_no, inB_iff, editFB_no]
      unfold ReqP sessN nodeN
      generalize editZ y = z
      generalize editB y = bb
      simp
      try omega
    · refine (implReq10 s n a y w hl hE h.lt (h.c0 10 (by decide)) (h.c1 10 (by decide)) (h.c2 10 (by decide)) (h.c3 10 (by decide)) (h.c4 10 (by decide))).mono fun e w' ⟨he, hb⟩ => ⟨_, he, ?_, hb⟩
      simp only [Bool.and_eq_true, numB_yes, inB_iff, editFB_no]
      unfold ReqP sessN nodeN
      generalize editZ y = z
      generalize editB y = bb
      simp
      try omega
    · refine (implReq11 s n a y w hl hE h.lt (h.c0 11 (by decide)) (h.c1 11 (by decide)) (h.c2 11 (by decide)) (h.c3 11 (by decide)) (h.c4 11 (by decide))).mono fun e w' ⟨he, hb⟩ => ⟨_, he, ?_, hb⟩
      simp only [Bool.and_eq_true, numB_no, inB_iff, editFB_no]
      unfold ReqP sessN nodeN
      generalize editZ y = z
      generalize editB y = bb
      simp
      try omega
  · refine (implReqOut k s n a y w hk).mono fun e w' ⟨he, hb⟩ => ⟨_, he, ?_, hb⟩
    unfold ReqP
    simp only [Bool.false_eq_true, false_iff]
    omega
end Go.Proofs.YtihoihlkkhndhaaDoor
