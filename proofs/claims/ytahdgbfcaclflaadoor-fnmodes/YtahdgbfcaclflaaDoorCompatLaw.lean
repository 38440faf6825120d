/-
  Compatible: what the specification and the program answer, and the law on it.
-/
import Derived.Test.YtahdgbfcaclflaaDoorJoinSpec
import Derived.Test.YtahdgbfcaclflaaDoorFitsSpec
import Derived.Test.YtahdgbfcaclflaaDoorFitsAt
namespace Go.Proofs.YtahdgbfcaclflaaDoor
open Go.RowKit

theorem ModeP.nat {m : Int} (h : ModeP m) : ∃ n : Nat, n < 6 ∧ m = n := ⟨m.toNat, by obtain ⟨a, b⟩ := h; omega, by obtain ⟨a, b⟩ := h; omega⟩

theorem modeB_no {m : Int} (h : ¬ ModeP m) : modeB m = false := by rw [← Bool.not_eq_true, modeB_iff]; exact h

def compCode (a b : Int) : Int := if modeB a && modeB b then 0 else 19
def compAns (a b : Int) : Bool := modeB a && modeB b && fitsB a b

set_option maxHeartbeats 400000 in
theorem specCompatible_any (a b : Int) (w : World) :
    Calls Tryd.prog 10 #[.int .i64 a, .int .i64 b] w fun e w' => e = .returned (.tuple #[.bool (compAns a b), .int .i64 (compCode a b)]) ∧ w' = w := by
  by_cases ha : ModeP a
  · by_cases hb : ModeP b
    · have HF := hide (specFits_any a b ha hb w)
      have HA : Hid (compAns a b = fitsB a b ∧ compCode a b = 0) := by simp [Hid, compAns, compCode, modeB_iff.2 ha, modeB_iff.2 hb]
      have ha1 := modeB_iff.2 ha
      have hb1 := modeB_iff.2 hb
      rw [Hid] at HA
      rw [HA.1, HA.2]
      clear ha hb HA
      go_enter Tryd.func10, Tryd.ntmps10
      go_wp2_with (first | (go_at_call 36; refine (specMode0_any _ _).mono ?_; rintro e w' ⟨rfl, rfl⟩) | (go_at_call 37; refine HF.out.mono ?_; rintro e w' ⟨rfl, rfl⟩))
      go_ret2
      exact ⟨rfl, rfl⟩
    · have ha1 := modeB_iff.2 ha
      have hb1 := modeB_no hb
      have HA : compAns a b = false ∧ compCode a b = 19 := by simp [compAns, compCode, ha1, hb1]
      rw [HA.1, HA.2]
      clear ha hb HA
      go_enter Tryd.func10, Tryd.ntmps10
      go_wp2_with (go_at_call 36; refine (specMode0_any _ _).mono ?_; rintro e w' ⟨rfl, rfl⟩)
      go_ret2
      exact ⟨rfl, rfl⟩
  · have ha1 := modeB_no ha
    have HA : compAns a b = false ∧ compCode a b = 19 := by simp [compAns, compCode, ha1]
    rw [HA.1, HA.2]
    clear ha HA
    go_enter Tryd.func10, Tryd.ntmps10
    go_wp2_with (go_at_call 36; refine (specMode0_any _ _).mono ?_; rintro e w' ⟨rfl, rfl⟩)
    go_ret2
    exact ⟨rfl, rfl⟩

set_option maxHeartbeats 400000 in
theorem implCompatible_any (a b : Int) (w : World) (hF : FitsAt w) :
    Calls Tryd.prog 11 #[.int .i64 a, .int .i64 b] w fun e w' => e = .returned (.tuple #[.bool (compAns a b), .int .i64 (compCode a b)]) ∧ w' = w := by
  have hlt := hF.lt
  by_cases ha : ModeP a
  · by_cases hb : ModeP b
    · have ha1 := modeB_iff.2 ha
      have hb1 := modeB_iff.2 hb
      have HA : compAns a b = fitsB a b ∧ compCode a b = 0 := by simp [compAns, compCode, ha1, hb1]
      rw [HA.1, HA.2]
      obtain ⟨n, hn, rfl⟩ := ha.nat
      obtain ⟨m, hm, rfl⟩ := hb.nat
      have hc := hF n m hn hm
      clear ha hb HA hF
      generalize fitsB n m = r at *
      go_enter Tryd.func11, Tryd.ntmps11
      go_wp2_with (go_at_call 38; refine (isMode_any _ _).mono ?_; rintro e w' ⟨rfl, rfl⟩)
      go_ret2
      exact ⟨rfl, rfl⟩
    · have ha1 := modeB_iff.2 ha
      have hb1 := modeB_no hb
      have HA : compAns a b = false ∧ compCode a b = 19 := by simp [compAns, compCode, ha1, hb1]
      rw [HA.1, HA.2]
      clear ha hb HA hF
      go_enter Tryd.func11, Tryd.ntmps11
      go_wp2_with (go_at_call 38; refine (isMode_any _ _).mono ?_; rintro e w' ⟨rfl, rfl⟩)
      go_ret2
      exact ⟨rfl, rfl⟩
  · have ha1 := modeB_no ha
    have HA : compAns a b = false ∧ compCode a b = 19 := by simp [compAns, compCode, ha1]
    rw [HA.1, HA.2]
    clear ha HA hF
    go_enter Tryd.func11, Tryd.ntmps11
    go_wp2_with (go_at_call 38; refine (isMode_any _ _).mono ?_; rintro e w' ⟨rfl, rfl⟩)
    go_ret2
    exact ⟨rfl, rfl⟩

set_option maxHeartbeats 400000 in
theorem compatibleLaw (a b : Int) (w : World) (hF : FitsAt w) :
    Calls Tryd.prog 3 #[.int .i64 a, .int .i64 b] w fun e w' => e = .returned (.bool true) ∧ Below w.heap.size w w' := by
  have HS := hide (specCompatible_any a b w)
  have HI := hide (implCompatible_any a b w hF)
  clear hF
  go_enter Tryd.func3, Tryd.ntmps3
  go_wp2_with (first | (go_at_call 10; refine HS.out.mono ?_; rintro e w' ⟨rfl, rfl⟩) | (go_at_call 11; refine HI.out.mono ?_; rintro e w' ⟨rfl, rfl⟩))
  go_ret
  exact ⟨rfl, Below.refl _ _⟩
end Go.Proofs.YtahdgbfcaclflaaDoor
