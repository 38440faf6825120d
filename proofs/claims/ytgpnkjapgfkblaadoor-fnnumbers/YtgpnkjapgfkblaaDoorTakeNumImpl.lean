/-
  What the program's TakeNumber answers (where the four variables hold four sentinels at different places). It makes new memory alone.
-/
import Derived.Test.YtgpnkjapgfkblaaDoorTakeAt
namespace Go.Proofs.YtgpnkjapgfkblaaDoor
open Go.RowKit

/-- The number that TakeNumber answers. -/
def takeNumAns (s : ByteArray) (n : Int) : Int := if s.size ≤ 65536 then (takeAt s n).1 else 0
/-- The code that TakeNumber answers. -/
def takeNumCode (s : ByteArray) (n : Int) : Int := if s.size ≤ 65536 then (takeAt s n).2.2 else 2

theorem implTakeNumber_any {aF aR aS aM : Addr} (s : ByteArray) (n : Int) (w : World) (hs : s.size ≤ 1048576) (h : Sents w aF aR aS aM) :
    Calls Tryd.prog 9 #[.string s, .int .i64 n] w fun e w' => e = .returned (.tuple #[.int .i64 (takeNumAns s n), .int .i64 (takeNumCode s n)]) ∧ Below w.heap.size w w' := by
  have H : Hid (Sents w aF aR aS aM) := h
  clear h
  by_cases hl : s.size ≤ 65536
  · have HA : Hid (takeNumAns s n = (takeAt s n).1 ∧ takeNumCode s n = (takeAt s n).2.2) := ⟨if_pos hl, if_pos hl⟩
    go_enter Tryd.func9, Tryd.ntmps9
    go_wp2_with fail
    refine (takeNumber_any s n _ hs H.out).mono ?_
    rintro e w1 ⟨⟨v, rfl, hv⟩, hb1⟩
    have HV : Hid (FaultV aF aR aS aM v (takeAt s n).2.2) := hv
    clear hv
    go_wp2_with fail
    refine (codeOfFault_any v _ _ (H.out.below hb1) HV.out).mono ?_
    rintro e w2 ⟨rfl, hb2⟩
    have hb := hb1.trans (hb2.mono hb1.size)
    clear hb1 hb2
    go_wp2
    go_ret2
    exact ⟨by rw [HA.out.1, HA.out.2]; rfl, hb⟩
  · have HA : Hid (takeNumAns s n = 0 ∧ takeNumCode s n = 2) := ⟨if_neg hl, if_neg hl⟩
    go_enter Tryd.func9, Tryd.ntmps9
    go_wp2
    go_ret2
    exact ⟨by rw [HA.out.1, HA.out.2]; rfl, Below.refl _ _⟩

end Go.Proofs.YtgpnkjapgfkblaaDoor
