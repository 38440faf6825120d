/-
  What TakeText answers, the program's (where the four variables hold four sentinels at different places) and the specification's. They make new memory alone.
-/
import Derived.Test.YtgpnkjapgfkblaeDoorTakeText
namespace Go.Proofs.YtgpnkjapgfkblaeDoor
open Go.RowKit

/-- What TakeText answers: the text, the place behind it, the code. -/
def textTop (s : ByteArray) (x : Int) : ByteArray × Int × Int := if s.size ≤ 65536 then textAt s x else (⟨#[]⟩, 0, 2)

theorem textAt_out {s : ByteArray} {x : Int} (h : ¬ (0 ≤ x ∧ x ≤ (s.size : Int))) : textAt s x = (⟨#[]⟩, 0, 8) := by
  have e := takeAt_out h
  rw [textAt_code (by rw [e]; decide), e]

theorem implTakeText_any {aF aR aS aM : Addr} (s : ByteArray) (x : Int) (w : World) (hs : s.size ≤ 1048576) (h : Sents w aF aR aS aM) :
    Calls Tryd.prog 14 #[.string s, .int .i64 x] w fun e w' => TextIs (textTop s x) e ∧ Below w.heap.size w w' := by
  have H : Hid (Sents w aF aR aS aM) := h
  clear h
  by_cases hl : s.size ≤ 65536
  · have HA : Hid (textTop s x = ((textAt s x).1, (textAt s x).2.1, (textAt s x).2.2)) := if_pos hl
    go_enter Tryd.func14, Tryd.ntmps14
    go_wp2_with fail
    refine (takeText_any s x _ hs H.out).mono ?_
    rintro e w1 ⟨⟨v, rfl, hv⟩, hb1⟩
    have HV : Hid (FaultV aF aR aS aM v (textAt s x).2.2) := hv
    clear hv
    go_wp2_with fail
    refine (codeOfFault_any v _ _ (H.out.below hb1) HV.out).mono ?_
    rintro e w2 ⟨rfl, hb2⟩
    have hb := hb1.trans (hb2.mono hb1.size)
    clear hb1 hb2
    go_wp2
    go_ret3
    exact ⟨text_is HA.out, hb⟩
  · have HA : Hid (textTop s x = (⟨#[]⟩, 0, 2)) := if_neg hl
    go_enter Tryd.func14, Tryd.ntmps14
    go_wp2
    go_ret3
    exact ⟨text_is HA.out, Below.refl _ _⟩

theorem specTakeTextTop_any (s : ByteArray) (x : Int) (w : World) (hs : s.size ≤ 1048576) :
    Calls Tryd.prog 13 #[.string s, .int .i64 x] w fun e w' => TextIs (textTop s x) e ∧ w' = w := by
  by_cases hl : s.size ≤ 65536
  · by_cases h0 : x < 0
    · have HA : Hid (textTop s x = (⟨#[]⟩, 0, 8)) := (if_pos hl).trans (textAt_out (by omega))
      go_enter Tryd.func13, Tryd.ntmps13
      go_wp2
      go_ret3
      exact ⟨text_is HA.out, rfl⟩
    · obtain ⟨a, rfl⟩ := Int.eq_ofNat_of_zero_le (by omega : 0 ≤ x)
      have hd : decide ((a : Int) < 0) = false := by simp
      by_cases h1 : s.size < a
      · have HA : Hid (textTop s (a : Int) = (⟨#[]⟩, 0, 8)) := (if_pos hl).trans (textAt_out (by omega))
        go_enter Tryd.func13, Tryd.ntmps13
        go_wp2
        go_ret3
        exact ⟨text_is HA.out, rfl⟩
      · have HA : Hid (textTop s (a : Int) = ((textAt s (a : Int)).1, (textAt s (a : Int)).2.1, (textAt s (a : Int)).2.2)) := if_pos hl
        have hd2 : decide ((s.size : Int) < (a : Int)) = false := by simp; omega
        go_enter Tryd.func13, Tryd.ntmps13
        go_wp2_with fail
        refine (specTakeText_in s a _ hs (by omega)).mono ?_
        rintro e w1 ⟨rfl, rfl⟩
        go_wp2
        go_ret3
        exact ⟨text_is HA.out, rfl⟩
  · have HA : Hid (textTop s x = (⟨#[]⟩, 0, 2)) := if_neg hl
    go_enter Tryd.func13, Tryd.ntmps13
    go_wp2
    go_ret3
    exact ⟨text_is HA.out, rfl⟩
end Go.Proofs.YtgpnkjapgfkblaeDoor
