/-
  What the program's BytesOf answers (where the four variables hold four sentinels at different places). It makes new memory alone.
-/
import Derived.Test.YtgpnkjapgfkblaaDoorBytesImpl
namespace Go.Proofs.YtgpnkjapgfkblaaDoor
open Go.RowKit

/-- The bytes that BytesOf answers. -/
def bytesAns (s : ByteArray) : ByteArray := if s.size ≤ 65536 then hexBytes s else ⟨#[]⟩
/-- The code that BytesOf answers. -/
def bytesCode (s : ByteArray) : Int := if s.size ≤ 65536 then hexCode s else 2

theorem implBytes_any {aF aR aS aM : Addr} (s : ByteArray) (w : World) (hs : s.size ≤ 1048576) (h : Sents w aF aR aS aM) :
    Calls Tryd.prog 17 #[.string s] w fun e w' => e = .returned (.tuple #[.string (bytesAns s), .int .i64 (bytesCode s)]) ∧ Below w.heap.size w w' := by
  have H : Hid (Sents w aF aR aS aM) := h
  clear h
  by_cases hl : s.size ≤ 65536
  · have HA : Hid (bytesAns s = hexBytes s ∧ bytesCode s = hexCode s) := ⟨if_pos hl, if_pos hl⟩
    go_enter Tryd.func17, Tryd.ntmps17
    go_wp2_with fail
    refine (bytesOf_any s _ hs H.out).mono ?_
    rintro e w1 ⟨⟨v, rfl, hv⟩, hb1⟩
    have HV : Hid (FaultV aF aR aS aM v (hexCode s)) := hv
    clear hv
    go_wp2_with fail
    refine (codeOfFault_any v _ _ (H.out.below hb1) HV.out).mono ?_
    rintro e w2 ⟨rfl, hb2⟩
    have hb := hb1.trans (hb2.mono hb1.size)
    clear hb1 hb2
    go_wp2
    go_ret2
    exact ⟨by rw [HA.out.1, HA.out.2]; rfl, hb⟩
  · have HA : Hid (bytesAns s = ⟨#[]⟩ ∧ bytesCode s = 2) := ⟨if_neg hl, if_neg hl⟩
    go_enter Tryd.func17, Tryd.ntmps17
    go_wp2
    go_ret2
    exact ⟨by rw [HA.out.1, HA.out.2]; rfl, Below.refl _ _⟩

end Go.Proofs.YtgpnkjapgfkblaaDoor
