/-
  What the specification's inner function behind TakeText answers. It leaves the world as it was.
-/
import Derived.Test.YtgpnkjapgfkblafDoorTakeText
import Derived.Test.YtgpnkjapgfkblafDoorTakeSpec
namespace Go.Proofs.YtgpnkjapgfkblafDoor
open Go.RowKit

theorem specTakeText_in (s : ByteArray) (a : Nat) (w : World) (hs : s.size ≤ 1048576) (ha : a ≤ s.size) :
    Calls Tryd.prog 14 #[.string s, .int .i64 (a : Int)] w fun e w' => TextIs (textAt s (a : Int)) e ∧ w' = w := by
  have HE : Hid (takeAt s (a : Int) = take0 s a) := takeAt_in (by omega)
  rcases takeAt_parts s (a : Int) with ⟨hc, hx, hy⟩ | ⟨n, m, ht, hn, hm⟩
  · have HT : Hid (textAt s (a : Int) = (⟨#[]⟩, 0, (take0 s a).2.2)) := by rw [← HE.out]; exact textAt_code hc
    rw [HE.out] at hc
    have hb : ((take0 s a).2.2 != 0) = true := by simpa using hc
    clear hc hx hy
    go_enter Tryd.func14, Tryd.ntmps14
    go_wp2_with fail
    refine (specTake_in s a _ hs ha).mono ?_
    rintro e w1 ⟨rfl, rfl⟩
    go_wp2
    go_ret3
    exact ⟨text_is HT.out, rfl⟩
  · have HT0 : Hid (takeAt s (a : Int) = ((n : Int), (m : Int), 0)) := ht
    have HT1 : Hid (take0 s a = ((n : Int), (m : Int), 0)) := HE.out.symm.trans ht
    clear ht
    by_cases hl : m + n ≤ s.size
    · have HT : Hid (textAt s (a : Int) = (s.extract m (m + n), (m : Int) + (n : Int), 0)) := textAt_whole HT0.out hl
      go_enter Tryd.func14, Tryd.ntmps14
      go_wp2_with fail
      refine (specTake_in s a _ hs ha).mono ?_
      rw [HT1.out]
      rintro e w1 ⟨rfl, rfl⟩
      go_wp2
      go_ret3
      exact ⟨text_is HT.out, rfl⟩
    · have HT : Hid (textAt s (a : Int) = (⟨#[]⟩, 0, 8)) := textAt_short HT0.out (by omega)
      go_enter Tryd.func14, Tryd.ntmps14
      go_wp2_with fail
      refine (specTake_in s a _ hs ha).mono ?_
      rw [HT1.out]
      rintro e w1 ⟨rfl, rfl⟩
      go_wp2
      go_ret3
      exact ⟨text_is HT.out, rfl⟩
end Go.Proofs.YtgpnkjapgfkblafDoor
