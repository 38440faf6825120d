/-
  What the program's CodeWord answers where its table holds the words: the plain function of the Plain text. It leaves the world as it was.
-/
import Derived.Test.YtgpnkjapgfkbladDoorWordWalks
namespace Go.Proofs.YtgpnkjapgfkbladDoor
open Go.RowKit

set_option maxHeartbeats 2000000 in
theorem implWord_any (c : Int) (w : World) (ht : WordsAt w) :
    Calls Tryd.prog 5 #[.int .i64 c] w fun e w' => e = .returned (.string (wordB c)) ∧ w' = w := by
  by_cases h0 : 0 ≤ c
  · by_cases h1 : c ≤ 21
    · obtain ⟨k, rfl⟩ := Int.eq_ofNat_of_zero_le h0
      have hc := ht k (by omega)
      have HW : Hid (wordB (k : Int) = wordB (k : Int)) := rfl
      clear ht
      go_enter Tryd.func5, Tryd.ntmps5
      go_wp2
      go_ret
      exact ⟨rfl, rfl⟩
    · have HA : Hid (wordB c = ⟨#[]⟩) := wordB_out (by omega)
      clear ht
      go_enter Tryd.func5, Tryd.ntmps5
      go_wp2
      go_ret
      exact ⟨by rw [HA.out]; rfl, rfl⟩
  · have HA : Hid (wordB c = ⟨#[]⟩) := wordB_out (by omega)
    clear ht
    go_enter Tryd.func5, Tryd.ntmps5
    go_wp2
    go_ret
    exact ⟨by rw [HA.out]; rfl, rfl⟩

theorem WordsAt.below {w w' : World} (ht : WordsAt w) (hb : Below w.heap.size w w') (hg : 0 < w.heap.size) : WordsAt w' := fun k hk =>
  (hb.cell (p := ⟨0, k, none⟩) hg).trans (ht k hk)

theorem wordLaw_any (c : Int) (w : World) (ht : WordsAt w) (hg : 0 < w.heap.size) :
    Calls Tryd.prog 3 #[.int .i64 c] w fun e w' => e = .returned (.bool true) ∧ Below w.heap.size w w' := by
  go_enter Tryd.func3, Tryd.ntmps3
  go_wp2_with fail
  refine (specWord_any c _).mono ?_
  rintro e w1 ⟨rfl, hb1⟩
  have ht1 := ht.below hb1 hg
  clear ht
  go_wp2_with fail
  refine (implWord_any c _ ht1).mono ?_
  rintro e w2 ⟨rfl, rfl⟩
  clear ht1
  go_wp2
  go_ret
  exact ⟨rfl, hb1⟩
end Go.Proofs.YtgpnkjapgfkbladDoor
