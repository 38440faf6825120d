/-
  How the program compares two locks: cmp.Compare, cmp.Or, compareLocks.
-/
import Derived.Test.YtfjhpfgffbghdaaJoinG
import Derived.Test.YtfjhpfgffbghdaaLawIntsJ
import Derived.Deep.RegionHeld3
namespace Go.Proofs.Ytfjhpfgffbghdaa
open Go.RowKit

def cmpI (a b : Int) : Int := if a < b then -1 else if b < a then 1 else 0

theorem isNaN_any (a : Int) (w : World) : Calls Try.prog 98 #[.int .i64 a] w fun e w' => e = .returned (.bool false) ∧ w' = w := by
  go_enter Try.func98, Try.ntmps98
  go_wp2
  go_ret
  exact ⟨rfl, rfl⟩

theorem compare_any (a b : Int) (w : World) : Calls Try.prog 89 #[.int .i64 a, .int .i64 b] w fun e w' => e = .returned (.int .i64 (cmpI a b)) ∧ w' = w := by
  by_cases h1 : a < b
  · have HR : Hid (cmpI a b = -1) := by simp [Hid, cmpI, h1]
    go_enter Try.func89, Try.ntmps89
    go_wp2_with (go_at_call 98; refine (isNaN_any _ _).mono ?_; rintro e w' ⟨rfl, rfl⟩)
    go_ret
    exact ⟨ret_int HR.out.symm, rfl⟩
  · by_cases h2 : b < a
    · have HR : Hid (cmpI a b = 1) := by simp [Hid, cmpI, h1, h2]
      go_enter Try.func89, Try.ntmps89
      go_wp2_with (go_at_call 98; refine (isNaN_any _ _).mono ?_; rintro e w' ⟨rfl, rfl⟩)
      go_ret
      exact ⟨ret_int HR.out.symm, rfl⟩
    · have HR : Hid (cmpI a b = 0) := by simp [Hid, cmpI, h1, h2]
      go_enter Try.func89, Try.ntmps89
      go_wp2_with (go_at_call 98; refine (isNaN_any _ _).mono ?_; rintro e w' ⟨rfl, rfl⟩)
      go_ret
      exact ⟨ret_int HR.out.symm, rfl⟩

def orI (a b : Int) : Int := if a = 0 then b else a

set_option maxHeartbeats 1000000 in
theorem or_any (a b : Int) (g : Nat) (w : World) (hh : w.heap[g]? = some (.cells #[.int .i64 a, .int .i64 b] 3 (0, 0))) :
    Calls Try.prog 88 #[.slice (some ⟨g, 0, none⟩) 2 2] w fun e w' => e = .returned (.int .i64 (orI a b)) ∧ w' = w := by
  have c0 := cell_of_heap hh 0
  have c1 := cell_of_heap hh 1
  simp only [List.getElem?_toArray, List.getElem?_cons_succ, List.getElem?_cons_zero] at c0 c1
  have hg : g < w.heap.size := (Array.getElem?_eq_some_iff.1 hh).1
  clear hh
  by_cases ha : a = 0
  · have HR : Hid (orI a b = b) := if_pos ha
    have ha1 : (a != 0) = false := by simp [ha]
    by_cases hb : b = 0
    · have hb1 : (b != 0) = false := by simp [hb]
      have HB := hide hb
      clear ha hb
      go_enter Try.func88, Try.ntmps88
      go_wp2_with fail
      go_loop [8] (fun i => ∃ k : Nat, k ≤ 2 ∧ i = .int .i64 k) (fun i => 2 - (intOf i).toNat)
      case atStart => exact ⟨0, by omega, rfl⟩
      case round =>
        obtain ⟨k, hk, rfl⟩ := hrel
        rcases (by omega : k = 0 ∨ k = 1 ∨ k = 2) with rfl | rfl | rfl
        · go_wp2_with fail
          go_round
          case rel => first | exact ⟨1, by omega, by go_num⟩ | exact ⟨1, by omega, rfl⟩
          case measure => simp [intOf]
        · go_wp2_with fail
          go_round
          case rel => first | exact ⟨2, by omega, by go_num⟩ | exact ⟨2, by omega, rfl⟩
          case measure => simp [intOf]
        · go_wp2_with fail
          go_ret
          exact ⟨ret_int (by rw [HR.out, HB.out]), rfl⟩
    · have hb1 : (b != 0) = true := by simp [hb]
      clear ha hb
      go_enter Try.func88, Try.ntmps88
      go_wp2_with fail
      go_loop [8] (fun i => ∃ k : Nat, k ≤ 1 ∧ i = .int .i64 k) (fun i => 2 - (intOf i).toNat)
      case atStart => exact ⟨0, by omega, rfl⟩
      case round =>
        obtain ⟨k, hk, rfl⟩ := hrel
        rcases (by omega : k = 0 ∨ k = 1) with rfl | rfl
        · go_wp2_with fail
          go_round
          case rel => first | exact ⟨1, by omega, by go_num⟩ | exact ⟨1, by omega, rfl⟩
          case measure => simp [intOf]
        · go_wp2_with fail
          go_ret
          exact ⟨ret_int HR.out.symm, rfl⟩
  · have HR : Hid (orI a b = a) := if_neg ha
    have ha1 : (a != 0) = true := by simp [ha]
    clear ha
    go_enter Try.func88, Try.ntmps88
    go_wp2_with fail
    go_loop [8] (fun i => i = .int .i64 0) (fun _ => 0)
    case atStart => rfl
    case round =>
      obtain rfl := hrel
      go_wp2_with fail
      go_ret
      exact ⟨ret_int HR.out.symm, rfl⟩

def cmpH (x y : PHold) : Int := orI (cmpI x.session y.session) (cmpI x.node y.node)

theorem cmpH_less {x y : PHold} : cmpH x y < 0 ↔ lessB x y = true := by
  rw [lessB_iff]; unfold cmpH orI cmpI
  split <;> split <;> first | omega | (split <;> first | omega | (split <;> omega))
theorem cmpH_zero {x y : PHold} : cmpH x y = 0 ↔ x.session = y.session ∧ x.node = y.node := by
  unfold cmpH orI cmpI
  split <;> split <;> first | omega | (split <;> first | omega | (split <;> omega))
theorem cmpH_range (x y : PHold) : -1 ≤ cmpH x y ∧ cmpH x y ≤ 1 := by
  unfold cmpH orI cmpI
  split <;> split <;> first | omega | (split <;> first | omega | (split <;> omega))

set_option maxHeartbeats 2000000 in
set_option maxRecDepth 100000 in
theorem compareLocks_any (ad : Int → Nat) (x y : PHold) (w : World) (hx : w.cell? ⟨ad x.node, 0, none⟩ = some (.int .i64 x.node)) (hy : w.cell? ⟨ad y.node, 0, none⟩ = some (.int .i64 y.node)) (hxl : ad x.node < w.heap.size) (hyl : ad y.node < w.heap.size) :
    Calls Try.prog 64 #[lockVal ad x, lockVal ad y] w fun e w' => e = .returned (.int .i64 (cmpH x y)) ∧ Below w.heap.size w w' := by
  obtain ⟨px, hpx⟩ : ∃ px, px = ad x.node := ⟨_, rfl⟩
  obtain ⟨py, hpy⟩ : ∃ py, py = ad y.node := ⟨_, rfl⟩
  have ex : lockVal ad x = .agg #[.int .i64 x.session, .int .i64 x.mode, .pointer (some ⟨px, 0, none⟩)] := by rw [hpx]
  have ey : lockVal ad y = .agg #[.int .i64 y.session, .int .i64 y.mode, .pointer (some ⟨py, 0, none⟩)] := by rw [hpy]
  rw [ex, ey]
  rw [← hpx] at hx hxl
  rw [← hpy] at hy hyl
  clear hpx hpy ex ey
  obtain ⟨W2, hW2⟩ : ∃ W2, W2 = (w.alloc (.cells #[.int .i64 x.session, .int .i64 x.mode, .pointer (some ⟨px, 0, none⟩)] 72)).alloc (.cells #[.int .i64 y.session, .int .i64 y.mode, .pointer (some ⟨py, 0, none⟩)] 72) := ⟨_, rfl⟩
  have hW : Below w.heap.size w W2 := by rw [hW2]; exact ((Below.refl w.heap.size w).alloc (Nat.le_refl _) _).alloc (by simp) _
  have hs2 : W2.heap.size = w.heap.size + 1 + 1 := by rw [hW2]; simp
  have h0 : W2.heap[w.heap.size]? = some (.cells #[.int .i64 x.session, .int .i64 x.mode, .pointer (some ⟨px, 0, none⟩)] 72 (0, 0)) := by
    rw [hW2]; exact (Below.heap_alloc _ _ w.heap.size (by simp)).trans (alloc_new w _)
  have h1 : W2.heap[w.heap.size + 1]? = some (.cells #[.int .i64 y.session, .int .i64 y.mode, .pointer (some ⟨py, 0, none⟩)] 72 (0, 0)) := by
    rw [hW2]
    have := alloc_new (w.alloc (.cells #[.int .i64 x.session, .int .i64 x.mode, .pointer (some ⟨px, 0, none⟩)] 72)) (.cells #[.int .i64 y.session, .int .i64 y.mode, .pointer (some ⟨py, 0, none⟩)] 72)
    simpa using this
  have HS : Hid (∀ wx, Below W2.heap.size W2 wx → wx.cell? ⟨w.heap.size, 0, none⟩ = some (.int .i64 x.session) ∧ wx.cell? ⟨w.heap.size, 2, none⟩ = some (.pointer (some ⟨px, 0, none⟩)) ∧ wx.cell? ⟨w.heap.size + 1, 0, none⟩ = some (.int .i64 y.session) ∧ wx.cell? ⟨w.heap.size + 1, 2, none⟩ = some (.pointer (some ⟨py, 0, none⟩)) ∧ wx.cell? ⟨px, 0, none⟩ = some (.int .i64 x.node) ∧ wx.cell? ⟨py, 0, none⟩ = some (.int .i64 y.node)) := fun wx hb => by
    have j0 := (hb.block w.heap.size (by omega)).trans h0
    have j1 := (hb.block (w.heap.size + 1) (by omega)).trans h1
    have hb2 := hW.trans (hb.mono (by omega))
    exact ⟨cell_of_heap j0 0, cell_of_heap j0 2, cell_of_heap j1 0, cell_of_heap j1 2, (hb2.cell (p := ⟨px, 0, none⟩) hxl).trans hx, (hb2.cell (p := ⟨py, 0, none⟩) hyl).trans hy⟩
  have HCm : Hid (∀ wx a b, Below W2.heap.size W2 wx → Calls Try.prog 89 #[.int .i64 a, .int .i64 b] wx fun e w' => e = .returned (.int .i64 (cmpI a b)) ∧ Below W2.heap.size W2 w') := fun wx a b hb =>
    (compare_any a b wx).mono fun e w' ⟨he, hw'⟩ => ⟨he, by rw [hw']; exact hb⟩
  have HOr : Hid (∀ wx : World, Below W2.heap.size W2 wx → Calls Try.prog 88 #[.slice (some ⟨wx.heap.size, 0, none⟩) 2 2] (wx.alloc (.cells #[.int .i64 (cmpI x.session y.session), .int .i64 (cmpI x.node y.node)] 3)) fun e w' => e = .returned (.int .i64 (cmpH x y)) ∧ Below W2.heap.size W2 w') := fun wx hb =>
    (or_any _ _ _ _ (alloc_new wx _)).mono fun e w' ⟨he, hw'⟩ => ⟨he, by rw [hw']; exact hb.alloc hb.size _⟩
  have hd : Below W2.heap.size W2 W2.drew := (Below.refl _ _).drew
  have hsz := hs2
  have HW := hide hW
  clear h0 h1 hs2 hW hx hy hxl hyl
  go_enter Try.func64, Try.ntmps64
  go_wp2_with fail
  rw [← hW2]
  clear hW2
  have HSz := hide hsz
  clear hsz
  go_region_held3 (fun wx => wx.cell? ⟨w.heap.size, 0, none⟩ = some (.int .i64 x.session) ∧ wx.cell? ⟨w.heap.size, 2, none⟩ = some (.pointer (some ⟨px, 0, none⟩)) ∧ wx.cell? ⟨w.heap.size + 1, 0, none⟩ = some (.int .i64 y.session) ∧ wx.cell? ⟨w.heap.size + 1, 2, none⟩ = some (.pointer (some ⟨py, 0, none⟩)) ∧ wx.cell? ⟨px, 0, none⟩ = some (.int .i64 x.node) ∧ wx.cell? ⟨py, 0, none⟩ = some (.int .i64 y.node)) (first | exact HS.out _ (by assumption) | go_keep)
    (first
      | (go_at_call 89; refine (HCm.out _ _ _ (by assumption)).mono ?_; rintro e w' ⟨rfl, hb⟩)
      | (go_at_call 88; refine (HOr.out _ (by assumption)).mono ?_; rintro e w' ⟨rfl, hb2⟩))
  all_goals
    go_wp2_with fail
    go_ret
    exact ⟨rfl, HW.out.trans (hb2.mono (by have := HSz.out; omega))⟩
end Go.Proofs.Ytfjhpfgffbghdaa
