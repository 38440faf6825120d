/-
  What HexOf answers, the program's and the specification's: the digits of the bytes; nothing of more than 32768 bytes. They make new memory alone.
-/
import Derived.Test.YtgpnkjapgfkblaaDoorHexWalks
namespace Go.Proofs.YtgpnkjapgfkblaaDoor
open Go.RowKit

/-- The text that HexOf answers. -/
def hexAns (s : ByteArray) : ByteArray := if s.size ≤ 32768 then ⟨(hexL s.data.toList).toArray⟩ else ⟨#[]⟩

theorem implHex_any (s : ByteArray) (w : World) (hs : s.size ≤ 1048576) :
    Calls Tryd.prog 16 #[.string s] w fun e w' => e = .returned (.string (hexAns s)) ∧ Below w.heap.size w w' := by
  by_cases h : s.size ≤ 32768
  · have HA : Hid (hexAns s = ⟨(hexL s.data.toList).toArray⟩) := if_pos h
    go_enter Tryd.func16, Tryd.ntmps16
    go_wp2_with (go_at_call 35; refine (hexOf_any s _ hs).mono ?_; rintro e w1 ⟨rfl, hb⟩)
    go_ret
    exact ⟨by rw [HA.out]; rfl, hb⟩
  · have HA : Hid (hexAns s = ⟨#[]⟩) := if_neg h
    go_enter Tryd.func16, Tryd.ntmps16
    go_wp2
    go_ret
    exact ⟨by rw [HA.out]; rfl, Below.refl _ _⟩

theorem specHexOf_any (s : ByteArray) (w : World) (hs : s.size ≤ 1048576) :
    Calls Tryd.prog 20 #[.string s] w fun e w' => e = .returned (.string (hexAns s)) ∧ Below w.heap.size w w' := by
  by_cases h : s.size ≤ 32768
  · have HA : Hid (hexAns s = ⟨(hexL s.data.toList).toArray⟩) := if_pos h
    go_enter Tryd.func20, Tryd.ntmps20
    go_wp2_with (go_at_call 39; refine (specHex_any s _ hs).mono ?_; rintro e w1 ⟨rfl, hb⟩)
    go_ret
    exact ⟨by rw [HA.out]; rfl, hb⟩
  · have HA : Hid (hexAns s = ⟨#[]⟩) := if_neg h
    go_enter Tryd.func20, Tryd.ntmps20
    go_wp2
    go_ret
    exact ⟨by rw [HA.out]; rfl, Below.refl _ _⟩

end Go.Proofs.YtgpnkjapgfkblaaDoor
