/-
  What BytesOf answers, the program's (where the four variables hold four sentinels at different places) and the specification's. They make new memory alone.
-/
import Derived.Test.YtgpnkjapgfkblafDoorBytesImpl
namespace Go.Proofs.YtgpnkjapgfkblafDoor
open Go.RowKit

/-- The bytes that BytesOf answers. -/
def bytesAns (s : ByteArray) : ByteArray := if s.size ≤ 65536 then hexBytes s else ⟨#[]⟩
/-- The code that BytesOf answers. -/
def bytesCode (s : ByteArray) : Int := if s.size ≤ 65536 then hexCode s else 2

theorem implBytes_any {aF aR aS aM : Addr} (s : ByteArray) (w : World) (hs : s.size ≤ 1048576) (h : Sents w aF aR aS aM) :
    Calls Tryd.prog 8 #[.string s] w fun e w' => e = .returned (.tuple #[.string (bytesAns s), .int .i64 (bytesCode s)]) ∧ Below w.heap.size w w' := by
  have H : Hid (Sents w aF aR aS aM) := h
  clear h
  by_cases hl : s.size ≤ 65536
  · have HA : Hid (bytesAns s = hexBytes s ∧ bytesCode s = hexCode s) := ⟨if_pos hl, if_pos hl⟩
    go_enter Tryd.func8, Tryd.ntmps8
    go_wp2_with fail
    refine (bytesOf_any s _ hs H.out).mono ?_
    rintro e w1 ⟨⟨v, rfl, hv⟩, hb1⟩
    have HV : Hid (FaultV aF aR aS aM v (hexCode s)) := hv
    clear hv
    go_wp2_with fail
    refine (codeOfFault_any v _ _ (H.out.below hb1) HV.out).mono ?_
    rintro e w2 ⟨rfl, hb2⟩
    have hb := hb1.trans (hb2.mono hb1.size)
    clear hb1 hb2
    go_wp2
    go_ret2
    exact ⟨by rw [HA.out.1, HA.out.2]; rfl, hb⟩
  · have HA : Hid (bytesAns s = ⟨#[]⟩ ∧ bytesCode s = 2) := ⟨if_neg hl, if_neg hl⟩
    go_enter Tryd.func8, Tryd.ntmps8
    go_wp2
    go_ret2
    exact ⟨by rw [HA.out.1, HA.out.2]; rfl, Below.refl _ _⟩

theorem specBytesOf_any (s : ByteArray) (w : World) (hs : s.size ≤ 1048576) :
    Calls Tryd.prog 7 #[.string s] w fun e w' => e = .returned (.tuple #[.string (bytesAns s), .int .i64 (bytesCode s)]) ∧ Below w.heap.size w w' := by
  by_cases hl : s.size ≤ 65536
  · have HA : Hid (bytesAns s = hexBytes s ∧ bytesCode s = hexCode s) := ⟨if_pos hl, if_pos hl⟩
    cases hx : hexText s
    · have HX : Hid (hexBytes s = ⟨#[]⟩ ∧ hexCode s = 3) := ⟨if_neg (by rw [hx]; decide), if_neg (by rw [hx]; decide)⟩
      go_enter Tryd.func7, Tryd.ntmps7
      go_wp2_with fail
      refine (specBytes_any s _ hs).mono ?_
      rintro e w1 ⟨rfl, hb⟩
      go_wp2
      go_ret2
      exact ⟨by rw [HA.out.1, HA.out.2, HX.out.1, HX.out.2]; rfl, hb⟩
    · have HX : Hid (hexCode s = 0) := if_pos hx
      go_enter Tryd.func7, Tryd.ntmps7
      go_wp2_with fail
      refine (specBytes_any s _ hs).mono ?_
      rintro e w1 ⟨rfl, hb⟩
      go_wp2
      go_ret2
      exact ⟨by rw [HA.out.1, HA.out.2, HX.out]; rfl, hb⟩
  · have HA : Hid (bytesAns s = ⟨#[]⟩ ∧ bytesCode s = 2) := ⟨if_neg hl, if_neg hl⟩
    go_enter Tryd.func7, Tryd.ntmps7
    go_wp2
    go_ret2
    exact ⟨by rw [HA.out.1, HA.out.2]; rfl, Below.refl _ _⟩
end Go.Proofs.YtgpnkjapgfkblafDoor
