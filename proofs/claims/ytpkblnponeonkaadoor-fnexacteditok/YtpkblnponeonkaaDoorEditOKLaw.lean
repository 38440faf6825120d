/-
  The law on EditOK answers true at every edit that a program can hold.
-/
import Derived.Test.YtpkblnponeonkaaDoorEditSpec
import Derived.Test.YtpkblnponeonkaaDoorEditImpl
import Derived.Test.YtpkblnponeonkaaDoorLawInts
import Derived.Deep.RegionWith
namespace Go.Proofs.YtpkblnponeonkaaDoor
open Go.RowKit

set_option maxHeartbeats 1000000 in
set_option maxRecDepth 100000 in
theorem editOKLaw (x : PEdit) (w : World) (hA : EditAt w) (hf : x.text.size ≤ 9223372036854775807) :
    Calls Tryd.prog 3 #[editVal x] w fun e w' => e = .returned (.bool true) ∧ Below w.heap.size w w' := by
  obtain ⟨k, n, a, b, t⟩ := x
  have hW := (Below.refl w.heap.size w).alloc (Nat.le_refl _) (.cells #[.int .i64 k, .int .i64 n, .int .i64 a, .int .i64 b, .string t] 23)
  have HSz := hide (szEdit_any ⟨k, n, a, b, t⟩ 1048576 (w.alloc (.cells #[.int .i64 k, .int .i64 n, .int .i64 a, .int .i64 b, .string t] 23)) (by omega) (by omega) hf)
  go_enter Tryd.func3, Tryd.ntmps3
  go_wp2_with fail
  refine HSz.out.mono ?_
  rintro e w1 ⟨q, rfl, hq1, hq2, hq3, hb1⟩
  simp only [World.size_alloc] at hb1
  have hs1 := hb1.size
  simp only [World.size_alloc] at hs1
  by_cases hq : q < 0
  · clear hq3
    go_wp2_with fail
    go_ret
    exact ⟨rfl, hW.trans (hb1.mono (by omega))⟩
  · have hS := hq3 (by omega)
    clear hq3
    have hb1' := hW.trans (hb1.mono (by omega))
    obtain ⟨hcx, hfx⟩ := bcell (W := w.alloc _) (by simpa using hb1)
    go_wp2_with fail
    refine (toEdit_any ⟨k, n, a, b, t⟩ w1).mono ?_
    rintro e w2 ⟨rfl, hb2⟩
    have hs2 := hb2.size
    go_wp2_with fail
    refine (specEditOK_any ⟨k, n, a, b, t⟩ w2 hS).mono ?_
    rintro e w3 ⟨rfl, hb3⟩
    have hs3 := hb3.size
    have hb3' := hb1.trans ((hb2.mono hs1).trans (hb3.mono (by omega)))
    clear hcx hfx
    obtain ⟨hcx, hfx⟩ := bcell (W := w.alloc _) (by simpa using hb3')
    go_wp2_with fail
    refine (toEdit_any ⟨k, n, a, b, t⟩ w3).mono ?_
    rintro e w4 ⟨rfl, hb4⟩
    have hs4 := hb4.size
    have hb4' := hb3'.trans (hb4.mono (by omega))
    have hw4 := hW.trans (hb4'.mono (by omega))
    go_wp2_with fail
    refine (implEditOK_any ⟨k, n, a, b, t⟩ w4 (hA.below hw4) hS).mono ?_
    rintro e w5 ⟨rfl, hb5⟩
    have hs5 := hb5.size
    have hb5' := hW.trans ((hb4'.trans (hb5.mono (by omega))).mono (by omega))
    clear hcx hfx
    generalize editB _ = r
    cases r
    all_goals
      go_wp2_with fail
      go_ret
      exact ⟨rfl, hb5'⟩
end Go.Proofs.YtpkblnponeonkaaDoor
