/-
  What the program's TakeText answers (where the four variables hold four sentinels at different places) . It makes new memory alone.
-/
import Derived.Test.YtgpnkjapgfkblaaDoorTakeText
namespace Go.Proofs.YtgpnkjapgfkblaaDoor
open Go.RowKit

/-- What TakeText answers: the text, the place behind it, the code. -/
def textTop (s : ByteArray) (x : Int) : ByteArray × Int × Int := if s.size ≤ 65536 then textAt s x else (⟨#[]⟩, 0, 2)

theorem textAt_out {s : ByteArray} {x : Int} (h : ¬ (0 ≤ x ∧ x ≤ (s.size : Int))) : textAt s x = (⟨#[]⟩, 0, 8) := by
  have e := takeAt_out h
  rw [textAt_code (by rw [e]; decide), e]

theorem implTakeText_any {aF aR aS aM : Addr} (s : ByteArray) (x : Int) (w : World) (hs : s.size ≤ 1048576) (h : Sents w aF aR aS aM) :
    Calls Tryd.prog 12 #[.string s, .int .i64 x] w fun e w' => TextIs (textTop s x) e ∧ Below w.heap.size w w' := by
  have H : Hid (Sents w aF aR aS aM) := h
  clear h
  by_cases hl : s.size ≤ 65536
  · have HA : Hid (textTop s x = ((textAt s x).1, (textAt s x).2.1, (textAt s x).2.2)) := if_pos hl
    go_enter Tryd.func12, Tryd.ntmps12
    go_wp2_with fail
    refine (takeText_any s x _ hs H.out).mono ?_
    rintro e w1 ⟨⟨v, rfl, hv⟩, hb1⟩
    have HV : Hid (FaultV aF aR aS aM v (textAt s x).2.2) := hv
    clear hv
    go_wp2_with fail
    refine (codeOfFault_any v _ _ (H.out.below hb1) HV.out).mono ?_
    rintro e w2 ⟨rfl, hb2⟩
    have hb := hb1.trans (hb2.mono hb1.size)
    clear hb1 hb2
    go_wp2
    go_ret3
    exact ⟨text_is HA.out, hb⟩
  · have HA : Hid (textTop s x = (⟨#[]⟩, 0, 2)) := if_neg hl
    go_enter Tryd.func12, Tryd.ntmps12
    go_wp2
    go_ret3
    exact ⟨text_is HA.out, Below.refl _ _⟩

end Go.Proofs.YtgpnkjapgfkblaaDoor
