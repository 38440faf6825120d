/-
  What the functions of frames answer, the program's and the specification's: the letters CO, the length's bytes, the text, and the sum of all that is ahead in two bytes. They make new memory alone.
-/
import Derived.Test.YtgpnkjapgfkblafPutInner
import Derived.Test.YtgpnkjapgfkblafSumWalks
namespace Go.Proofs.Ytgpnkjapgfkblaf
open Go.RowKit

/-- A sum's two bytes, the lower one first. -/
def sumB (s : ByteArray) : ByteArray := ⟨#[(sumL s.data.toList % 256).toNat.toUInt8, (sumL s.data.toList / 256).toNat.toUInt8]⟩
/-- What stands ahead of a frame's sum. -/
def headB (s : ByteArray) : ByteArray := ⟨#[67, 79]⟩ ++ (putB s.size ++ s)

/-- A slice of two bytes that was written out reads back as the text of these bytes. -/
theorem pair_text (w : World) (x y : Int) (hx : 0 ≤ x) (hx' : x < 256) (hy : 0 ≤ y) (hy' : y < 256) :
    (convert 27 9 (.slice (some ⟨w.heap.size, 0, none⟩) 2 2)).run Try.prog (w.alloc (.cells #[.int .u8 x, .int .u8 y] 5)) = .ok (.string ⟨#[x.toNat.toUInt8, y.toNat.toUInt8]⟩) (w.alloc (.cells #[.int .u8 x, .int .u8 y] 5)) :=
  run_convert_bytes_back (P := Try.prog) _ 27 9 5 ⟨w.heap.size, 0, none⟩ 2 [x.toNat.toUInt8, y.toNat.toUInt8] Try.underlying27 Try.underlying5 Try.underlying9 (fun j hj => by
    match j, hj with
    | 0, _ => simp [Addr.add]; omega
    | 1, _ => simp [Addr.add]; omega)

theorem sumText_any (s : ByteArray) (w : World) (hs : s.size ≤ maxLen) :
    Calls Try.prog 11 #[.string s] w fun e w' => e = .returned (.string (sumB s)) ∧ Below w.heap.size w w' := by
  have hb := sumL_bound s.data.toList
  go_enter Try.func11, Try.ntmps11
  go_wp2_with fail
  refine (sumOf_any s _ hs).mono ?_
  rintro e w1 ⟨rfl, rfl⟩
  have hcv := pair_text w1 (sumL s.data.toList % 256) (sumL s.data.toList / 256) (by omega) (by omega) (by omega) (by omega)
  go_wp2
  go_ret
  exact ⟨rfl, (Below.refl _ _).alloc (Nat.le_refl _) _⟩

theorem headB_size (s : ByteArray) (hs : s.size ≤ 1048576) : s.size + 3 ≤ (headB s).size ∧ (headB s).size ≤ s.size + 11 := by
  have h := putB_nine (n := s.size) (by omega)
  have e : (⟨#[67, 79]⟩ : ByteArray).size = 2 := rfl
  rw [headB, ByteArray.size_append, ByteArray.size_append, e]
  omega

theorem specFrame_any (s : ByteArray) (w : World) (hs : s.size ≤ 1048576) :
    Calls Try.prog 9 #[.string s] w fun e w' => e = .returned (.string (headB s ++ sumB (headB s))) ∧ Below w.heap.size w w' := by
  have hsz := headB_size s hs
  have hb := sumL_bound (headB s).data.toList
  have hn := putB_nine (n := s.size) (by omega)
  have HH : Hid (⟨#[67, 79]⟩ ++ (putB s.size ++ s) = headB s) := rfl
  go_enter Try.func9, Try.ntmps9
  go_wp2_with fail
  refine (specPutText_any s _ hs).mono ?_
  rintro e w1 ⟨rfl, hb1⟩
  go_wp2_with fail
  rw [HH.out]
  refine (specSum_any _ _ (by unfold maxLen; omega)).mono ?_
  rintro e w2 ⟨rfl, rfl⟩
  have hcv := pair_text w2 (sumL (headB s).data.toList % 256) (sumL (headB s).data.toList / 256) (by omega) (by omega) (by omega) (by omega)
  go_wp2
  go_ret
  exact ⟨rfl, hb1.alloc hb1.size _⟩
end Go.Proofs.Ytgpnkjapgfkblaf
