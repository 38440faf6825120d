/-
  What PutNumber answers, the program's (where the four variables hold four sentinels at different places) and the specification's: the bytes of a number from 0 to 999999, the code for a range of any other. They make new memory alone.
-/
import Derived.Test.YtgpnkjapgfkblaaDoorErrCode
import Derived.Test.YtgpnkjapgfkblaaDoorBoundsInt
import Derived.Test.YtgpnkjapgfkblaaDoorPutWalks
namespace Go.Proofs.YtgpnkjapgfkblaaDoor
open Go.RowKit

/-- The text that PutNumber answers. -/
def putNumAns (n : Int) : ByteArray := if 0 ≤ n ∧ n ≤ 999999 then putB n.toNat else ⟨#[]⟩
/-- The code that PutNumber answers. -/
def putNumCode (n : Int) : Int := if 0 ≤ n ∧ n ≤ 999999 then 0 else 4

theorem implPutNumber_any {aF aR aS aM : Addr} (n : Int) (w : World) (h : Sents w aF aR aS aM) :
    Calls Tryd.prog 7 #[.int .i64 n] w fun e w' => e = .returned (.tuple #[.string (putNumAns n), .int .i64 (putNumCode n)]) ∧ Below w.heap.size w w' := by
  have kR := h.cR
  have H : Hid (Sents w aF aR aS aM) := h
  clear h
  by_cases hn : 0 ≤ n ∧ n ≤ 999999
  · have HA : Hid (putNumAns n = putB n.toNat ∧ putNumCode n = 0) := ⟨if_pos hn, if_pos hn⟩
    obtain ⟨h0, h1⟩ := hn
    go_enter Tryd.func7, Tryd.ntmps7
    go_wp2_with fail
    refine (checkInt_in _ _ _ _ _ (by omega) (by omega)).mono ?_
    rintro e w1 ⟨rfl, rfl⟩
    go_wp2_with fail
    refine (putNumber_any _ _ (by omega) (by omega)).mono ?_
    rintro e w2 ⟨rfl, hb⟩
    go_wp2
    go_ret2
    exact ⟨by rw [HA.out.1, HA.out.2]; rfl, hb⟩
  · have HA : Hid (putNumAns n = ⟨#[]⟩ ∧ putNumCode n = 4) := ⟨if_neg hn, if_neg hn⟩
    have HN : Hid (¬ (0 ≤ n ∧ n ≤ 999999)) := hn
    clear hn
    go_enter Tryd.func7, Tryd.ntmps7
    go_wp2_with fail
    refine (checkInt_out _ _ _ aR _ HN.out).mono ?_
    rintro e w1 ⟨rfl, rfl⟩
    go_wp2_with fail
    refine (codeOfFault_wrapR _ _ _ _ H.out).mono ?_
    rintro e w2 ⟨rfl, hb⟩
    go_wp2
    go_ret2
    exact ⟨by rw [HA.out.1, HA.out.2]; rfl, hb⟩

theorem specIn_any (n lo hi : Int) (w : World) :
    Calls Tryd.prog 26 #[.int .i64 n, .int .i64 lo, .int .i64 hi] w fun e w' => e = .returned (.bool (decide (lo ≤ n) && decide (n ≤ hi))) ∧ w' = w := by
  by_cases h0 : lo ≤ n <;> by_cases h1 : n ≤ hi
  all_goals
    go_enter Tryd.func26, Tryd.ntmps26
    go_wp2
    go_ret
    exact ⟨by simp [h0, h1], rfl⟩

theorem specPutNumber_any (n : Int) (w : World) :
    Calls Tryd.prog 8 #[.int .i64 n] w fun e w' => e = .returned (.tuple #[.string (putNumAns n), .int .i64 (putNumCode n)]) ∧ Below w.heap.size w w' := by
  by_cases hn : 0 ≤ n ∧ n ≤ 999999
  · have HA : Hid (putNumAns n = putB n.toNat ∧ putNumCode n = 0) := ⟨if_pos hn, if_pos hn⟩
    obtain ⟨h0, h1⟩ := hn
    have hd : (decide (0 ≤ n) && decide (n ≤ 999999)) = true := by simp [h0, h1]
    go_enter Tryd.func8, Tryd.ntmps8
    go_wp2_with fail
    refine (specIn_any _ _ _ _).mono ?_
    rintro e w1 ⟨rfl, rfl⟩
    rw [hd]
    go_wp2_with fail
    refine (specPut_any _ _ (by omega) (by omega)).mono ?_
    rintro e w2 ⟨rfl, hb⟩
    go_wp2
    go_ret2
    exact ⟨by rw [HA.out.1, HA.out.2]; rfl, hb⟩
  · have HA : Hid (putNumAns n = ⟨#[]⟩ ∧ putNumCode n = 4) := ⟨if_neg hn, if_neg hn⟩
    have hd : (decide (0 ≤ n) && decide (n ≤ 999999)) = false := by simp; omega
    clear hn
    go_enter Tryd.func8, Tryd.ntmps8
    go_wp2_with fail
    refine (specIn_any _ _ _ _).mono ?_
    rintro e w1 ⟨rfl, rfl⟩
    rw [hd]
    clear hd
    go_wp2
    go_ret2
    exact ⟨by rw [HA.out.1, HA.out.2]; rfl, Below.refl _ _⟩
end Go.Proofs.YtgpnkjapgfkblaaDoor
