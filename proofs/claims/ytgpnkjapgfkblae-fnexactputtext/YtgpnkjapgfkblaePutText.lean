/-
  What PutText answers, the program's and the specification's: the bytes of the length and the text; of more than 65536 bytes the code for too long. They make new memory alone.
-/
import Derived.Test.YtgpnkjapgfkblaePutWalks
namespace Go.Proofs.Ytgpnkjapgfkblae
open Go.RowKit

theorem putText_any (s : ByteArray) (w : World) (hs : s.size ≤ 1048576) :
    Calls Try.prog 10 #[.string s] w fun e w' => e = .returned (.string (putB s.size ++ s)) ∧ Below w.heap.size w w' := by
  have hn := putB_nine (n := s.size) (by omega)
  go_enter Try.func10, Try.ntmps10
  go_wp2_with fail
  refine (putNumber_any _ _ (by omega) (by omega)).mono ?_
  rintro e w1 ⟨rfl, hb⟩
  rw [Int.toNat_natCast]
  go_wp2
  go_ret
  exact ⟨rfl, hb⟩

theorem specPutText_any (s : ByteArray) (w : World) (hs : s.size ≤ 1048576) :
    Calls Try.prog 9 #[.string s] w fun e w' => e = .returned (.string (putB s.size ++ s)) ∧ Below w.heap.size w w' := by
  have hn := putB_nine (n := s.size) (by omega)
  go_enter Try.func9, Try.ntmps9
  go_wp2_with fail
  refine (specPut_any _ _ (by omega) (by omega)).mono ?_
  rintro e w1 ⟨rfl, hb⟩
  rw [Int.toNat_natCast]
  go_wp2
  go_ret
  exact ⟨rfl, hb⟩

/-- The text that PutText answers. -/
def putTextAns (s : ByteArray) : ByteArray := if s.size ≤ 65536 then putB s.size ++ s else ⟨#[]⟩
/-- The code that PutText answers. -/
def putTextCode (s : ByteArray) : Int := if s.size ≤ 65536 then 0 else 2

theorem implPutText_any (s : ByteArray) (w : World) (hs : s.size ≤ 1048576) :
    Calls Try.prog 6 #[.string s] w fun e w' => e = .returned (.tuple #[.string (putTextAns s), .int .i64 (putTextCode s)]) ∧ Below w.heap.size w w' := by
  by_cases h : s.size ≤ 65536
  · have HA : Hid (putTextAns s = putB s.size ++ s ∧ putTextCode s = 0) := ⟨if_pos h, if_pos h⟩
    go_enter Try.func6, Try.ntmps6
    go_wp2_with (go_at_call 10; refine (putText_any s _ hs).mono ?_; rintro e w1 ⟨rfl, hb⟩)
    go_ret2
    exact ⟨by rw [HA.out.1, HA.out.2]; rfl, hb⟩
  · have HA : Hid (putTextAns s = ⟨#[]⟩ ∧ putTextCode s = 2) := ⟨if_neg h, if_neg h⟩
    go_enter Try.func6, Try.ntmps6
    go_wp2
    go_ret2
    exact ⟨by rw [HA.out.1, HA.out.2]; rfl, Below.refl _ _⟩

theorem specPutTextTop_any (s : ByteArray) (w : World) (hs : s.size ≤ 1048576) :
    Calls Try.prog 5 #[.string s] w fun e w' => e = .returned (.tuple #[.string (putTextAns s), .int .i64 (putTextCode s)]) ∧ Below w.heap.size w w' := by
  by_cases h : s.size ≤ 65536
  · have HA : Hid (putTextAns s = putB s.size ++ s ∧ putTextCode s = 0) := ⟨if_pos h, if_pos h⟩
    go_enter Try.func5, Try.ntmps5
    go_wp2_with (go_at_call 9; refine (specPutText_any s _ hs).mono ?_; rintro e w1 ⟨rfl, hb⟩)
    go_ret2
    exact ⟨by rw [HA.out.1, HA.out.2]; rfl, hb⟩
  · have HA : Hid (putTextAns s = ⟨#[]⟩ ∧ putTextCode s = 2) := ⟨if_neg h, if_neg h⟩
    go_enter Try.func5, Try.ntmps5
    go_wp2
    go_ret2
    exact ⟨by rw [HA.out.1, HA.out.2]; rfl, Below.refl _ _⟩

end Go.Proofs.Ytgpnkjapgfkblae
