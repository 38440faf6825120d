/-
  What TakeNumber answers, the program's (where the four variables hold four sentinels at different places) and the specification's. They make new memory alone.
-/
import Derived.Test.YtgpnkjapgfkblaeDoorTakeWays
import Derived.Test.YtgpnkjapgfkblaeDoorTakeSpec
namespace Go.Proofs.YtgpnkjapgfkblaeDoor
open Go.RowKit

/-- What is taken from a place, be it within the text or not: the number, the place behind it, the code. -/
def takeAt (s : ByteArray) (n : Int) : Int × Int × Int := if 0 ≤ n ∧ n ≤ (s.size : Int) then take0 s n.toNat else (0, 0, 8)

theorem takeAt_in {s : ByteArray} {n : Int} (h : 0 ≤ n ∧ n ≤ (s.size : Int)) : takeAt s n = take0 s n.toNat := if_pos h
theorem takeAt_out {s : ByteArray} {n : Int} (h : ¬ (0 ≤ n ∧ n ≤ (s.size : Int))) : takeAt s n = (0, 0, 8) := if_neg h

theorem takeNumber_any {aF aR aS aM : Addr} (s : ByteArray) (n : Int) (w : World) (hs : s.size ≤ 1048576) (h : Sents w aF aR aS aM) :
    Calls Tryd.prog 22 #[.string s, .int .i64 n] w fun e w' => TakeSays aF aR aS aM (takeAt s n) e ∧ Below w.heap.size w w' := by
  by_cases ha : 0 ≤ n ∧ n ≤ (s.size : Int)
  · rw [takeAt_in ha]
    obtain ⟨a, rfl⟩ := Int.eq_ofNat_of_zero_le ha.1
    rw [Int.toNat_natCast]
    exact takeNumber_in s a w hs h (by omega)
  · rw [takeAt_out ha]
    exact takeNumber_out s n w h ha

/-- The number that TakeNumber answers. -/
def takeNumAns (s : ByteArray) (n : Int) : Int := if s.size ≤ 65536 then (takeAt s n).1 else 0
/-- The code that TakeNumber answers. -/
def takeNumCode (s : ByteArray) (n : Int) : Int := if s.size ≤ 65536 then (takeAt s n).2.2 else 2

theorem implTakeNumber_any {aF aR aS aM : Addr} (s : ByteArray) (n : Int) (w : World) (hs : s.size ≤ 1048576) (h : Sents w aF aR aS aM) :
    Calls Tryd.prog 12 #[.string s, .int .i64 n] w fun e w' => e = .returned (.tuple #[.int .i64 (takeNumAns s n), .int .i64 (takeNumCode s n)]) ∧ Below w.heap.size w w' := by
  have H : Hid (Sents w aF aR aS aM) := h
  clear h
  by_cases hl : s.size ≤ 65536
  · have HA : Hid (takeNumAns s n = (takeAt s n).1 ∧ takeNumCode s n = (takeAt s n).2.2) := ⟨if_pos hl, if_pos hl⟩
    go_enter Tryd.func12, Tryd.ntmps12
    go_wp2_with fail
    refine (takeNumber_any s n _ hs H.out).mono ?_
    rintro e w1 ⟨⟨v, rfl, hv⟩, hb1⟩
    have HV : Hid (FaultV aF aR aS aM v (takeAt s n).2.2) := hv
    clear hv
    go_wp2_with fail
    refine (codeOfFault_any v _ _ (H.out.below hb1) HV.out).mono ?_
    rintro e w2 ⟨rfl, hb2⟩
    have hb := hb1.trans (hb2.mono hb1.size)
    clear hb1 hb2
    go_wp2
    go_ret2
    exact ⟨by rw [HA.out.1, HA.out.2]; rfl, hb⟩
  · have HA : Hid (takeNumAns s n = 0 ∧ takeNumCode s n = 2) := ⟨if_neg hl, if_neg hl⟩
    go_enter Tryd.func12, Tryd.ntmps12
    go_wp2
    go_ret2
    exact ⟨by rw [HA.out.1, HA.out.2]; rfl, Below.refl _ _⟩

theorem specTakeNumber_any (s : ByteArray) (n : Int) (w : World) (hs : s.size ≤ 1048576) :
    Calls Tryd.prog 11 #[.string s, .int .i64 n] w fun e w' => e = .returned (.tuple #[.int .i64 (takeNumAns s n), .int .i64 (takeNumCode s n)]) ∧ w' = w := by
  by_cases hl : s.size ≤ 65536
  · have HA : Hid (takeNumAns s n = (takeAt s n).1 ∧ takeNumCode s n = (takeAt s n).2.2) := ⟨if_pos hl, if_pos hl⟩
    by_cases h0 : n < 0
    · have HT : Hid (takeAt s n = (0, 0, 8)) := takeAt_out (by omega)
      go_enter Tryd.func11, Tryd.ntmps11
      go_wp2
      go_ret2
      exact ⟨by rw [HA.out.1, HA.out.2, HT.out]; rfl, rfl⟩
    · obtain ⟨a, rfl⟩ := Int.eq_ofNat_of_zero_le (by omega : 0 ≤ n)
      have hd : decide ((a : Int) < 0) = false := by simp
      by_cases h1 : s.size < a
      · have HT : Hid (takeAt s (a : Int) = (0, 0, 8)) := takeAt_out (by omega)
        go_enter Tryd.func11, Tryd.ntmps11
        go_wp2
        go_ret2
        exact ⟨by rw [HA.out.1, HA.out.2, HT.out]; rfl, rfl⟩
      · have HT : Hid (takeAt s (a : Int) = take0 s a) := takeAt_in (by omega)
        have hd2 : decide ((s.size : Int) < (a : Int)) = false := by simp; omega
        go_enter Tryd.func11, Tryd.ntmps11
        go_wp2_with fail
        refine (specTake_in s a _ hs (by omega)).mono ?_
        rintro e w1 ⟨rfl, rfl⟩
        go_wp2
        go_ret2
        exact ⟨by rw [HA.out.1, HA.out.2, HT.out]; rfl, rfl⟩
  · have HA : Hid (takeNumAns s n = 0 ∧ takeNumCode s n = 2) := ⟨if_neg hl, if_neg hl⟩
    go_enter Tryd.func11, Tryd.ntmps11
    go_wp2
    go_ret2
    exact ⟨by rw [HA.out.1, HA.out.2]; rfl, rfl⟩

theorem takeNumLaw_any {aF aR aS aM : Addr} (s : ByteArray) (n : Int) (w : World) (hs : s.size ≤ maxLen) (h : Sents w aF aR aS aM) :
    Calls Tryd.prog 5 #[.string s, .int .i64 n] w fun e w' => e = .returned (.bool true) ∧ Below w.heap.size w w' := by
  have H : Hid (Sents w aF aR aS aM) := h
  clear h
  unfold maxLen at hs
  by_cases hlt : 1048576 < s.size
  · go_enter Tryd.func5, Tryd.ntmps5
    go_wp2
    go_ret
    exact ⟨rfl, Below.refl _ _⟩
  · go_enter Tryd.func5, Tryd.ntmps5
    go_wp2_with fail
    refine (specTakeNumber_any s n _ (by omega)).mono ?_
    rintro e w1 ⟨rfl, rfl⟩
    go_wp2_with fail
    refine (implTakeNumber_any s n _ (by omega) H.out).mono ?_
    rintro e w2 ⟨rfl, hb⟩
    go_wp2
    go_ret
    exact ⟨rfl, hb⟩
end Go.Proofs.YtgpnkjapgfkblaeDoor
