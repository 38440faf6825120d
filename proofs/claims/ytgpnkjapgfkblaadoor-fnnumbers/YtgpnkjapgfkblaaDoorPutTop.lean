/-
  What PutText answers, the program's and the specification's: the bytes of the length and the text; of more than 65536 bytes the code for too long. They make new memory alone.
-/
import Derived.Test.YtgpnkjapgfkblaaDoorPutInner
namespace Go.Proofs.YtgpnkjapgfkblaaDoor
open Go.RowKit

/-- The text that PutText answers. -/
def putTextAns (s : ByteArray) : ByteArray := if s.size ≤ 65536 then putB s.size ++ s else ⟨#[]⟩
/-- The code that PutText answers. -/
def putTextCode (s : ByteArray) : Int := if s.size ≤ 65536 then 0 else 2

theorem implPutText_any (s : ByteArray) (w : World) (hs : s.size ≤ 1048576) :
    Calls Tryd.prog 10 #[.string s] w fun e w' => e = .returned (.tuple #[.string (putTextAns s), .int .i64 (putTextCode s)]) ∧ Below w.heap.size w w' := by
  by_cases h : s.size ≤ 65536
  · have HA : Hid (putTextAns s = putB s.size ++ s ∧ putTextCode s = 0) := ⟨if_pos h, if_pos h⟩
    go_enter Tryd.func10, Tryd.ntmps10
    go_wp2_with (go_at_call 29; refine (putText_any s _ hs).mono ?_; rintro e w1 ⟨rfl, hb⟩)
    go_ret2
    exact ⟨by rw [HA.out.1, HA.out.2]; rfl, hb⟩
  · have HA : Hid (putTextAns s = ⟨#[]⟩ ∧ putTextCode s = 2) := ⟨if_neg h, if_neg h⟩
    go_enter Tryd.func10, Tryd.ntmps10
    go_wp2
    go_ret2
    exact ⟨by rw [HA.out.1, HA.out.2]; rfl, Below.refl _ _⟩

theorem specPutTextTop_any (s : ByteArray) (w : World) (hs : s.size ≤ 1048576) :
    Calls Tryd.prog 11 #[.string s] w fun e w' => e = .returned (.tuple #[.string (putTextAns s), .int .i64 (putTextCode s)]) ∧ Below w.heap.size w w' := by
  by_cases h : s.size ≤ 65536
  · have HA : Hid (putTextAns s = putB s.size ++ s ∧ putTextCode s = 0) := ⟨if_pos h, if_pos h⟩
    go_enter Tryd.func11, Tryd.ntmps11
    go_wp2_with (go_at_call 30; refine (specPutText_any s _ hs).mono ?_; rintro e w1 ⟨rfl, hb⟩)
    go_ret2
    exact ⟨by rw [HA.out.1, HA.out.2]; rfl, hb⟩
  · have HA : Hid (putTextAns s = ⟨#[]⟩ ∧ putTextCode s = 2) := ⟨if_neg h, if_neg h⟩
    go_enter Tryd.func11, Tryd.ntmps11
    go_wp2
    go_ret2
    exact ⟨by rw [HA.out.1, HA.out.2]; rfl, Below.refl _ _⟩

end Go.Proofs.YtgpnkjapgfkblaaDoor
