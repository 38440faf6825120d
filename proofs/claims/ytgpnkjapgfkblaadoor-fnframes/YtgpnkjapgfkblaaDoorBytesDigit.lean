/-
  What the program's function that reads one digit answers (where the variable of forms holds a sentinel). It leaves the world as it was.
-/
import Derived.Test.YtgpnkjapgfkblaaDoorErrFault
import Derived.Test.YtgpnkjapgfkblaaDoorBytesPlain
namespace Go.Proofs.YtgpnkjapgfkblaaDoor
open Go.RowKit

theorem digitOf_yes {aF aR aS aM : Addr} (c : Int) (w : World) (h : Sents w aF aR aS aM) (h0 : 0 ≤ c) (h1 : c ≤ 255) (hd : 0 ≤ digV c) :
    Calls Tryd.prog 44 #[.int .u8 c] w fun e w' => e = .returned (.tuple #[.int .u8 (digV c), .nilIface]) ∧ w' = w := by
  have kF := h.cF
  clear h
  by_cases hn : 48 ≤ c ∧ c ≤ 57
  · have HD : Hid (digV c = c - 48) := digV_num hn
    obtain ⟨n0, n1⟩ := hn
    clear hd kF
    go_enter Tryd.func44, Tryd.ntmps44
    go_wp2
    go_ret2
    exact ⟨by rw [HD.out]; rfl, rfl⟩
  · by_cases hl : 97 ≤ c ∧ c ≤ 102
    · have HD : Hid (digV c = c - 97 + 10) := (digV_let hl).trans (by omega)
      obtain ⟨n0, n1⟩ := hl
      have a0 : 48 ≤ c := by omega
      have a1 : decide (c ≤ 57) = false := by simp; omega
      clear hn hd
      go_enter Tryd.func44, Tryd.ntmps44
      go_wp2
      go_ret2
      exact ⟨by rw [HD.out]; rfl, rfl⟩
    · rw [digV_no hn hl] at hd; omega

theorem digitOf_no {aF aR aS aM : Addr} (c : Int) (w : World) (h : Sents w aF aR aS aM) (h0 : 0 ≤ c) (h1 : c ≤ 255) (hd : digV c < 0) :
    Calls Tryd.prog 44 #[.int .u8 c] w fun e w' => e = .returned (.tuple #[.int .u8 0, .iface 53 (.agg #[.int .i64 c, .int .i64 97, .int .i64 102, .iface 76 (.pointer (some aF))])]) ∧ w' = w := by
  have kF := h.cF
  clear h
  by_cases hn : 48 ≤ c ∧ c ≤ 57
  · rw [digV_num hn] at hd; omega
  by_cases hl : 97 ≤ c ∧ c ≤ 102
  · rw [digV_let hl] at hd; omega
  clear hd
  by_cases a0 : 48 ≤ c
  · have a1 : decide (c ≤ 57) = false := by simp; omega
    by_cases a2 : 97 ≤ c
    · have a3 : decide (c ≤ 102) = false := by simp; omega
      clear hn hl
      go_enter Tryd.func44, Tryd.ntmps44
      go_wp2
      go_ret2
      exact ⟨rfl, rfl⟩
    · have a3 : decide (97 ≤ c) = false := by simp; omega
      clear hn hl
      go_enter Tryd.func44, Tryd.ntmps44
      go_wp2
      go_ret2
      exact ⟨rfl, rfl⟩
  · have a1 : decide (48 ≤ c) = false := by simp; omega
    have a3 : decide (97 ≤ c) = false := by simp; omega
    clear hn hl
    go_enter Tryd.func44, Tryd.ntmps44
    go_wp2
    go_ret2
    exact ⟨rfl, rfl⟩
end Go.Proofs.YtgpnkjapgfkblaaDoor
