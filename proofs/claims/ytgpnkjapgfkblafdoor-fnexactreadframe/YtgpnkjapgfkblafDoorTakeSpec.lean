/-
  What the specification's inner function that takes a number answers, way by way: the plain function. It leaves the world as it was.
-/
import Derived.Test.YtgpnkjapgfkblafDoorRows
import Derived.Test.YtgpnkjapgfkblafDoorTakePlain
import Derived.WalkKit
import Derived.WalkSpells
namespace Go.Proofs.YtgpnkjapgfkblafDoor
open Go.RowKit

/-- An ending answers what is taken. -/
def TakeIs (r : Int × Int × Int) (e : Ending) : Prop := e = .returned (.tuple #[.int .i64 r.1, .int .i64 r.2.1, .int .i64 r.2.2])
theorem take_is {r : Int × Int × Int} {x y x' y' c : Int} (hr : r = (x, y, c)) (hx : x' = x) (hy : y' = y) : TakeIs r (.returned (.tuple #[.int .i64 x', .int .i64 y', .int .i64 c])) := by
  subst hr; subst hx; subst hy; rfl

set_option maxHeartbeats 1000000 in
set_option maxRecDepth 100000 in
theorem specTake_end0 (s : ByteArray) (a : Nat) (w : World) (_hs : s.size ≤ 1048576)
    (h0 : a = s.size) :
    Calls Tryd.prog 22 #[.string s, .int .i64 (a : Int)] w fun e w' => TakeIs (take0 s a) e ∧ w' = w := by
  have HT : Hid (take0 s a = _) := take_end0 (by omega)
  have hle : s.size ≤ a + 0 := by omega
  have hge : a + 0 ≤ s.size := by omega
  clear h0
  go_enter Tryd.func22, Tryd.ntmps22
  go_wp2
  refine wp_loop_rounds 1 ?_
  rw [rounds_succ]
  go_wp2
  go_ret3
  exact ⟨take_is HT.out (by first | rfl | omega) (by first | rfl | omega), rfl⟩

set_option maxHeartbeats 1000000 in
set_option maxRecDepth 100000 in
theorem specTake_zero (s : ByteArray) (a : Nat) (w : World) (hs : s.size ≤ 1048576)
    (h0 : a < s.size) (b0 : s[a].toNat = 0) :
    Calls Tryd.prog 22 #[.string s, .int .i64 (a : Int)] w fun e w' => TakeIs (take0 s a) e ∧ w' = w := by
  have HT : Hid (take0 s a = _) := take_zero h0 b0
  have l0 : s[a].toNat < 256 := UInt8.toNat_lt _
  have z : ((s[a].toNat : Int) == 0) = true := beq_iff_eq.2 (by omega)
  have y : s[a].toNat < 128 := by omega
  have y2 : (s[a].toNat : Int) % 128 = 0 := by omega
  clear b0
  go_enter Tryd.func22, Tryd.ntmps22
  go_wp2
  refine wp_loop_rounds 1 ?_
  rw [rounds_succ]
  go_wp2
  go_ret3
  exact ⟨take_is HT.out (by first | rfl | omega) (by first | rfl | omega), rfl⟩

set_option maxHeartbeats 1000000 in
set_option maxRecDepth 100000 in
theorem specTake_one (s : ByteArray) (a : Nat) (w : World) (hs : s.size ≤ 1048576)
    (h0 : a < s.size) (b0 : s[a].toNat < 128) (z0 : ¬ s[a].toNat = 0) :
    Calls Tryd.prog 22 #[.string s, .int .i64 (a : Int)] w fun e w' => TakeIs (take0 s a) e ∧ w' = w := by
  have HT : Hid (take0 s a = _) := take_one h0 b0
  have l0 : s[a].toNat < 256 := UInt8.toNat_lt _
  have z : ((s[a].toNat : Int) == 0) = false := beq_eq_false_iff_ne.2 (by omega)
  go_enter Tryd.func22, Tryd.ntmps22
  go_wp2
  refine wp_loop_rounds 1 ?_
  rw [rounds_succ]
  go_wp2
  go_ret3
  exact ⟨take_is HT.out (by first | rfl | omega) (by first | rfl | omega), rfl⟩

set_option maxHeartbeats 1000000 in
set_option maxRecDepth 100000 in
theorem specTake_end1 (s : ByteArray) (a : Nat) (w : World) (hs : s.size ≤ 1048576)
    (h1 : a + 1 = s.size) (b0 : 128 ≤ s[a].toNat) :
    Calls Tryd.prog 22 #[.string s, .int .i64 (a : Int)] w fun e w' => TakeIs (take0 s a) e ∧ w' = w := by
  have HT : Hid (take0 s a = _) := (take_on0 (by omega) b0).trans (take_end1 _ (by omega))
  have l0 : s[a].toNat < 256 := UInt8.toNat_lt _
  have hle : s.size ≤ a + 1 := by omega
  have hge : a + 1 ≤ s.size := by omega
  go_enter Tryd.func22, Tryd.ntmps22
  go_wp2
  refine wp_loop_rounds 2 ?_
  rw [rounds_succ]
  go_wp2
  rw [rounds_succ]
  go_wp2
  go_ret3
  exact ⟨take_is HT.out (by first | rfl | omega) (by first | rfl | omega), rfl⟩

set_option maxHeartbeats 1000000 in
set_option maxRecDepth 100000 in
theorem specTake_form1 (s : ByteArray) (a : Nat) (w : World) (hs : s.size ≤ 1048576)
    (h1 : a + 1 < s.size) (b0 : 128 ≤ s[a].toNat) (b1 : s[a + 1].toNat = 0) :
    Calls Tryd.prog 22 #[.string s, .int .i64 (a : Int)] w fun e w' => TakeIs (take0 s a) e ∧ w' = w := by
  have HT : Hid (take0 s a = _) := (take_on0 (by omega) b0).trans (take_form1 _ h1 b1)
  have l0 : s[a].toNat < 256 := UInt8.toNat_lt _
  have l1 : s[a + 1].toNat < 256 := UInt8.toNat_lt _
  have z : ((s[a + 1].toNat : Int) == 0) = true := beq_iff_eq.2 (by omega)
  have y : s[a + 1].toNat < 128 := by omega
  have y2 : (s[a + 1].toNat : Int) % 128 = 0 := by omega
  clear b1
  go_enter Tryd.func22, Tryd.ntmps22
  go_wp2
  refine wp_loop_rounds 2 ?_
  rw [rounds_succ]
  go_wp2
  rw [rounds_succ]
  go_wp2
  go_ret3
  exact ⟨take_is HT.out (by first | rfl | omega) (by first | rfl | omega), rfl⟩

set_option maxHeartbeats 1000000 in
set_option maxRecDepth 100000 in
theorem specTake_two (s : ByteArray) (a : Nat) (w : World) (hs : s.size ≤ 1048576)
    (h1 : a + 1 < s.size) (b0 : 128 ≤ s[a].toNat) (b1 : s[a + 1].toNat < 128) (z1 : ¬ s[a + 1].toNat = 0) :
    Calls Tryd.prog 22 #[.string s, .int .i64 (a : Int)] w fun e w' => TakeIs (take0 s a) e ∧ w' = w := by
  have HT : Hid (take0 s a = _) := (take_on0 (by omega) b0).trans (take_two _ h1 b1 z1)
  have l0 : s[a].toNat < 256 := UInt8.toNat_lt _
  have l1 : s[a + 1].toNat < 256 := UInt8.toNat_lt _
  have z : ((s[a + 1].toNat : Int) == 0) = false := beq_eq_false_iff_ne.2 (by omega)
  go_enter Tryd.func22, Tryd.ntmps22
  go_wp2
  refine wp_loop_rounds 2 ?_
  rw [rounds_succ]
  go_wp2
  rw [rounds_succ]
  go_wp2
  go_ret3
  exact ⟨take_is HT.out (by first | rfl | omega) (by first | rfl | omega), rfl⟩

set_option maxHeartbeats 1000000 in
set_option maxRecDepth 100000 in
theorem specTake_end2 (s : ByteArray) (a : Nat) (w : World) (hs : s.size ≤ 1048576)
    (h2 : a + 2 = s.size) (b0 : 128 ≤ s[a].toNat) (b1 : 128 ≤ s[a + 1].toNat) :
    Calls Tryd.prog 22 #[.string s, .int .i64 (a : Int)] w fun e w' => TakeIs (take0 s a) e ∧ w' = w := by
  have HT : Hid (take0 s a = _) := ((take_on0 (by omega) b0).trans (take_on1 _ (by omega) b1)).trans (take_end2 _ (by omega))
  have l0 : s[a].toNat < 256 := UInt8.toNat_lt _
  have l1 : s[a + 1].toNat < 256 := UInt8.toNat_lt _
  have hle : s.size ≤ a + 2 := by omega
  have hge : a + 2 ≤ s.size := by omega
  go_enter Tryd.func22, Tryd.ntmps22
  go_wp2
  refine wp_loop_rounds 3 ?_
  rw [rounds_succ]
  go_wp2
  rw [rounds_succ]
  go_wp2
  rw [rounds_succ]
  go_wp2
  go_ret3
  exact ⟨take_is HT.out (by first | rfl | omega) (by first | rfl | omega), rfl⟩

set_option maxHeartbeats 1000000 in
set_option maxRecDepth 100000 in
theorem specTake_form2 (s : ByteArray) (a : Nat) (w : World) (hs : s.size ≤ 1048576)
    (h2 : a + 2 < s.size) (b0 : 128 ≤ s[a].toNat) (b1 : 128 ≤ s[a + 1].toNat) (b2 : s[a + 2].toNat = 0) :
    Calls Tryd.prog 22 #[.string s, .int .i64 (a : Int)] w fun e w' => TakeIs (take0 s a) e ∧ w' = w := by
  have HT : Hid (take0 s a = _) := ((take_on0 (by omega) b0).trans (take_on1 _ (by omega) b1)).trans (take_form2 _ h2 b2)
  have l0 : s[a].toNat < 256 := UInt8.toNat_lt _
  have l1 : s[a + 1].toNat < 256 := UInt8.toNat_lt _
  have l2 : s[a + 2].toNat < 256 := UInt8.toNat_lt _
  have z : ((s[a + 1 + 1].toNat : Int) == 0) = true := beq_iff_eq.2 (by have e : s[a + 1 + 1].toNat = 0 := b2; omega)
  have y : s[a + 1 + 1].toNat < 128 := (by have e : s[a + 1 + 1].toNat = 0 := b2; omega)
  have y2 : (s[a + 1 + 1].toNat : Int) % 128 = 0 := (by have e : s[a + 1 + 1].toNat = 0 := b2; omega)
  clear b2 l2
  go_enter Tryd.func22, Tryd.ntmps22
  go_wp2
  refine wp_loop_rounds 3 ?_
  rw [rounds_succ]
  go_wp2
  rw [rounds_succ]
  go_wp2
  rw [rounds_succ]
  go_wp2
  go_ret3
  exact ⟨take_is HT.out (by first | rfl | omega) (by first | rfl | omega), rfl⟩

set_option maxHeartbeats 1000000 in
set_option maxRecDepth 100000 in
theorem specTake_range2 (s : ByteArray) (a : Nat) (w : World) (hs : s.size ≤ 1048576)
    (h2 : a + 2 < s.size) (b0 : 128 ≤ s[a].toNat) (b1 : 128 ≤ s[a + 1].toNat) (b2 : 128 ≤ s[a + 2].toNat) :
    Calls Tryd.prog 22 #[.string s, .int .i64 (a : Int)] w fun e w' => TakeIs (take0 s a) e ∧ w' = w := by
  have HT : Hid (take0 s a = _) := ((take_on0 (by omega) b0).trans (take_on1 _ (by omega) b1)).trans (take_range2 _ h2 b2)
  have l0 : s[a].toNat < 256 := UInt8.toNat_lt _
  have l1 : s[a + 1].toNat < 256 := UInt8.toNat_lt _
  have l2 : s[a + 2].toNat < 256 := UInt8.toNat_lt _
  have m2 : s[a + 1 + 1].toNat < 256 := l2
  have c2 : 128 ≤ s[a + 1 + 1].toNat := b2
  clear b2 l2
  go_enter Tryd.func22, Tryd.ntmps22
  go_wp2
  refine wp_loop_rounds 3 ?_
  rw [rounds_succ]
  go_wp2
  rw [rounds_succ]
  go_wp2
  rw [rounds_succ]
  go_wp2
  go_ret3
  exact ⟨take_is HT.out (by first | rfl | omega) (by first | rfl | omega), rfl⟩

set_option maxHeartbeats 1000000 in
set_option maxRecDepth 100000 in
theorem specTake_great (s : ByteArray) (a : Nat) (w : World) (hs : s.size ≤ 1048576)
    (h2 : a + 2 < s.size) (b0 : 128 ≤ s[a].toNat) (b1 : 128 ≤ s[a + 1].toNat) (b2 : s[a + 2].toNat < 128) (z2 : ¬ s[a + 2].toNat = 0) (g : 999999 < (s[a].toNat : Int) % 128 + (s[a + 1].toNat : Int) % 128 * 128 + (s[a + 2].toNat : Int) % 128 * 16384) :
    Calls Tryd.prog 22 #[.string s, .int .i64 (a : Int)] w fun e w' => TakeIs (take0 s a) e ∧ w' = w := by
  have HT : Hid (take0 s a = _) := ((take_on0 (by omega) b0).trans (take_on1 _ (by omega) b1)).trans (take_great _ h2 b2 z2 g)
  have l0 : s[a].toNat < 256 := UInt8.toNat_lt _
  have l1 : s[a + 1].toNat < 256 := UInt8.toNat_lt _
  have l2 : s[a + 2].toNat < 256 := UInt8.toNat_lt _
  have m2 : s[a + 1 + 1].toNat < 256 := l2
  have c2 : s[a + 1 + 1].toNat < 128 := b2
  have z : ((s[a + 1 + 1].toNat : Int) == 0) = false := beq_eq_false_iff_ne.2 (by have e : ¬ s[a + 1 + 1].toNat = 0 := z2; omega)
  have g' : 999999 < (s[a].toNat : Int) % 128 + (s[a + 1].toNat : Int) % 128 * 128 + (s[a + 1 + 1].toNat : Int) % 128 * 16384 := g
  clear b2 l2 z2 g
  go_enter Tryd.func22, Tryd.ntmps22
  go_wp2
  refine wp_loop_rounds 3 ?_
  rw [rounds_succ]
  go_wp2
  rw [rounds_succ]
  go_wp2
  rw [rounds_succ]
  go_wp2
  go_ret3
  exact ⟨take_is HT.out (by first | rfl | omega) (by first | rfl | omega), rfl⟩

set_option maxHeartbeats 1000000 in
set_option maxRecDepth 100000 in
theorem specTake_three (s : ByteArray) (a : Nat) (w : World) (hs : s.size ≤ 1048576)
    (h2 : a + 2 < s.size) (b0 : 128 ≤ s[a].toNat) (b1 : 128 ≤ s[a + 1].toNat) (b2 : s[a + 2].toNat < 128) (z2 : ¬ s[a + 2].toNat = 0) (g : ¬ 999999 < (s[a].toNat : Int) % 128 + (s[a + 1].toNat : Int) % 128 * 128 + (s[a + 2].toNat : Int) % 128 * 16384) :
    Calls Tryd.prog 22 #[.string s, .int .i64 (a : Int)] w fun e w' => TakeIs (take0 s a) e ∧ w' = w := by
  have HT : Hid (take0 s a = _) := ((take_on0 (by omega) b0).trans (take_on1 _ (by omega) b1)).trans (take_three _ h2 b2 z2 g)
  have l0 : s[a].toNat < 256 := UInt8.toNat_lt _
  have l1 : s[a + 1].toNat < 256 := UInt8.toNat_lt _
  have l2 : s[a + 2].toNat < 256 := UInt8.toNat_lt _
  have m2 : s[a + 1 + 1].toNat < 256 := l2
  have c2 : s[a + 1 + 1].toNat < 128 := b2
  have z : ((s[a + 1 + 1].toNat : Int) == 0) = false := beq_eq_false_iff_ne.2 (by have e : ¬ s[a + 1 + 1].toNat = 0 := z2; omega)
  have g' : ¬ 999999 < (s[a].toNat : Int) % 128 + (s[a + 1].toNat : Int) % 128 * 128 + (s[a + 1 + 1].toNat : Int) % 128 * 16384 := g
  clear b2 l2 z2 g
  go_enter Tryd.func22, Tryd.ntmps22
  go_wp2
  refine wp_loop_rounds 3 ?_
  rw [rounds_succ]
  go_wp2
  rw [rounds_succ]
  go_wp2
  rw [rounds_succ]
  go_wp2
  go_ret3
  exact ⟨take_is HT.out (by first | rfl | omega) (by first | rfl | omega), rfl⟩

/-- The number from a place within the text. -/
theorem specTake_in (s : ByteArray) (a : Nat) (w : World) (hs : s.size ≤ 1048576) (ha : a ≤ s.size) :
    Calls Tryd.prog 22 #[.string s, .int .i64 (a : Int)] w fun e w' => TakeIs (take0 s a) e ∧ w' = w := by
  by_cases h0 : a = s.size
  · exact specTake_end0 s a w hs h0
  have h0' : a < s.size := by omega
  by_cases b0 : s[a].toNat < 128
  · by_cases z0 : s[a].toNat = 0
    · exact specTake_zero s a w hs h0' z0
    · exact specTake_one s a w hs h0' b0 z0
  have b0' : 128 ≤ s[a].toNat := by omega
  by_cases h1 : a + 1 = s.size
  · exact specTake_end1 s a w hs h1 b0'
  have h1' : a + 1 < s.size := by omega
  by_cases b1 : s[a + 1].toNat < 128
  · by_cases z1 : s[a + 1].toNat = 0
    · exact specTake_form1 s a w hs h1' b0' z1
    · exact specTake_two s a w hs h1' b0' b1 z1
  have b1' : 128 ≤ s[a + 1].toNat := by omega
  by_cases h2 : a + 2 = s.size
  · exact specTake_end2 s a w hs h2 b0' b1'
  have h2' : a + 2 < s.size := by omega
  by_cases b2 : s[a + 2].toNat < 128
  · by_cases z2 : s[a + 2].toNat = 0
    · exact specTake_form2 s a w hs h2' b0' b1' z2
    · by_cases g : 999999 < (s[a].toNat : Int) % 128 + (s[a + 1].toNat : Int) % 128 * 128 + (s[a + 2].toNat : Int) % 128 * 16384
      · exact specTake_great s a w hs h2' b0' b1' b2 z2 g
      · exact specTake_three s a w hs h2' b0' b1' b2 z2 g
  · exact specTake_range2 s a w hs h2' b0' b1' (by omega)
end Go.Proofs.YtgpnkjapgfkblafDoor
