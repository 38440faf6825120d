/-
  What the specification's ReadFrame answers. It leaves the world as it was.
-/
import Derived.Test.YtgpnkjapgfkblafDoorReadFrameImpl
import Derived.Test.YtgpnkjapgfkblafDoorTakeTextSpec
namespace Go.Proofs.YtgpnkjapgfkblafDoor
open Go.RowKit

/-- An ending answers a text and a code. -/
def ReadIs (r : ByteArray × Int) (e : Ending) : Prop := e = .returned (.tuple #[.string r.1, .int .i64 r.2])
theorem read_is {r : ByteArray × Int} {x : ByteArray} {c : Int} (hr : r = (x, c)) : ReadIs r (.returned (.tuple #[.string x, .int .i64 c])) := by
  subst hr; rfl

set_option maxHeartbeats 1000000 in
theorem specReadFrame_any (s : ByteArray) (w : World) (hs : s.size ≤ 1048576) :
    Calls Tryd.prog 9 #[.string s] w fun e w' => ReadIs (frameRead s) e ∧ w' = w := by
  by_cases h0 : s.size < 5
  · have HR : Hid (frameRead s = (⟨#[]⟩, 3)) := read_form (.inl h0)
    go_enter Tryd.func9, Tryd.ntmps9
    go_wp2
    go_ret2
    exact ⟨read_is HR.out, rfl⟩
  have hd : decide ((s.size : Int) < 5) = false := by simp; omega
  by_cases h1 : s.extract 0 2 = ⟨#[67, 79]⟩
  · have hb := letters_yes h1
    rcases textAt_parts s 2 with ⟨hc, _, _⟩ | ⟨b, m, ht, hm⟩
    · have HR : Hid (frameRead s = (⟨#[]⟩, (textAt s 2).2.2)) := read_code h0 h1 hc
      have hn : ((textAt s 2).2.2 != 0) = true := by simpa using hc
      clear h1 hc
      go_enter Tryd.func9, Tryd.ntmps9
      go_wp2_with fail
      refine (specTakeText_in s 2 _ hs (by omega)).mono ?_
      rintro e w1 ⟨rfl, rfl⟩
      go_wp2
      go_ret2
      exact ⟨read_is HR.out, rfl⟩
    · have HT : Hid (textAt s ((2 : Nat) : Int) = (b, (m : Int), 0)) := ht
      by_cases h3 : m + 2 = s.size
      · have hle : m + 2 ≤ s.size := by omega
        have hge : s.size ≤ m + 2 := by omega
        have hz : ((m : Int) != (s.size : Int) - 2) = false := by simp; omega
        have hm0 : m < s.size := by omega
        have hm1 : m + 1 < s.size := by omega
        have c0 : (s[m]'hm0).toNat < 256 := UInt8.toNat_lt _
        have c1 : (s[m + 1]'hm1).toNat < 256 := UInt8.toNat_lt _
        have sb := sumL_bound (s.extract 0 m).data.toList
        by_cases e0 : ((s[m]'hm0).toNat : Int) = sumL (s.extract 0 m).data.toList % 256
        · have f0 : (((s[m]'hm0).toNat : Int) != sumL (s.extract 0 m).data.toList % 256) = false := by simp [e0]
          by_cases e1 : ((s[m + 1]'hm1).toNat : Int) = sumL (s.extract 0 m).data.toList / 256
          · have f1 : (((s[m + 1]'hm1).toNat : Int) != sumL (s.extract 0 m).data.toList / 256) = false := by simp [e1]
            have HR : Hid (frameRead s = (b, 0)) := read_good h0 h1 ht h3 ((two_last h3).2 ⟨e0, e1⟩)
            clear h1 ht h3 e0 e1
            go_enter Tryd.func9, Tryd.ntmps9
            go_wp2_with fail
            refine (specTakeText_in s 2 _ hs (by omega)).mono ?_
            rw [HT.out]
            rintro e w1 ⟨rfl, rfl⟩
            go_wp2_with fail
            refine (specSum_any _ _ (by simp [ByteArray.size_extract]; unfold maxLen; omega)).mono ?_
            rintro e w2 ⟨rfl, rfl⟩
            generalize sumL (s.extract 0 m).data.toList = n at *
            go_wp2
            go_ret2
            exact ⟨read_is HR.out, rfl⟩
          · have f1 : (((s[m + 1]'hm1).toNat : Int) != sumL (s.extract 0 m).data.toList / 256) = true := by simpa using e1
            have HR : Hid (frameRead s = (⟨#[]⟩, 9)) := read_sum h0 h1 ht h3 (fun e => e1 ((two_last h3).1 e).2)
            clear h1 ht h3 e0 e1
            go_enter Tryd.func9, Tryd.ntmps9
            go_wp2_with fail
            refine (specTakeText_in s 2 _ hs (by omega)).mono ?_
            rw [HT.out]
            rintro e w1 ⟨rfl, rfl⟩
            go_wp2_with fail
            refine (specSum_any _ _ (by simp [ByteArray.size_extract]; unfold maxLen; omega)).mono ?_
            rintro e w2 ⟨rfl, rfl⟩
            generalize sumL (s.extract 0 m).data.toList = n at *
            go_wp2
            go_ret2
            exact ⟨read_is HR.out, rfl⟩
        · have f0 : (((s[m]'hm0).toNat : Int) != sumL (s.extract 0 m).data.toList % 256) = true := by simpa using e0
          have HR : Hid (frameRead s = (⟨#[]⟩, 9)) := read_sum h0 h1 ht h3 (fun e => e0 ((two_last h3).1 e).1)
          clear h1 ht h3 e0
          go_enter Tryd.func9, Tryd.ntmps9
          go_wp2_with fail
          refine (specTakeText_in s 2 _ hs (by omega)).mono ?_
          rw [HT.out]
          rintro e w1 ⟨rfl, rfl⟩
          go_wp2_with fail
          refine (specSum_any _ _ (by simp [ByteArray.size_extract]; unfold maxLen; omega)).mono ?_
          rintro e w2 ⟨rfl, rfl⟩
          generalize sumL (s.extract 0 m).data.toList = n at *
          go_wp2
          go_ret2
          exact ⟨read_is HR.out, rfl⟩
      · have HR : Hid (frameRead s = (⟨#[]⟩, 8)) := read_size h0 h1 ht h3
        have hz : ((m : Int) != (s.size : Int) - 2) = true := by simp; omega
        clear h1 ht
        go_enter Tryd.func9, Tryd.ntmps9
        go_wp2_with fail
        refine (specTakeText_in s 2 _ hs (by omega)).mono ?_
        rw [HT.out]
        rintro e w1 ⟨rfl, rfl⟩
        go_wp2
        go_ret2
        exact ⟨read_is HR.out, rfl⟩
  · have HR : Hid (frameRead s = (⟨#[]⟩, 3)) := read_form (.inr h1)
    have hb := letters_no h1
    clear h1
    go_enter Tryd.func9, Tryd.ntmps9
    go_wp2
    go_ret2
    exact ⟨read_is HR.out, rfl⟩

theorem specReadFrameTop_any (s : ByteArray) (w : World) (hs : s.size ≤ 1048576) :
    Calls Tryd.prog 5 #[.string s] w fun e w' => e = .returned (.tuple #[.string (readTop s).1, .int .i64 (readTop s).2]) ∧ Below w.heap.size w w' := by
  by_cases hl : s.size ≤ 65536
  · have HA : Hid (readTop s = frameRead s) := if_pos hl
    go_enter Tryd.func5, Tryd.ntmps5
    go_wp2_with fail
    refine (specReadFrame_any s _ hs).mono ?_
    rintro e w1 ⟨rfl, rfl⟩
    go_wp2
    go_ret2
    exact ⟨by rw [HA.out]; rfl, Below.refl _ _⟩
  · have HA : Hid (readTop s = (⟨#[]⟩, 2)) := if_neg hl
    go_enter Tryd.func5, Tryd.ntmps5
    go_wp2
    go_ret2
    exact ⟨by rw [HA.out]; rfl, Below.refl _ _⟩
end Go.Proofs.YtgpnkjapgfkblafDoor
