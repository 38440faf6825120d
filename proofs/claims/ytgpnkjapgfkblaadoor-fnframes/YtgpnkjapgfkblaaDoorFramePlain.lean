/-
  Frames are read back; with another byte in their texts, or with fewer bytes or with more, they are none: of the plain functions alone.
-/
import Derived.Test.YtgpnkjapgfkblaaDoorNumPlain
import Derived.Test.YtgpnkjapgfkblaaDoorReadFrameImpl
import Derived.Test.YtgpnkjapgfkblaaDoorFrameTop
import Derived.Test.YtgpnkjapgfkblaaDoorHexPlain
import Derived.Test.YtgpnkjapgfkblaaDoorBytesTopImpl
namespace Go.Proofs.YtgpnkjapgfkblaaDoor

theorem extract_left (a b : ByteArray) : (a ++ b).extract 0 a.size = a := by
  rw [extract_split a b a.size (Nat.le_refl _), Nat.sub_self]
  apply ByteArray.ext
  apply Array.ext'
  simp
theorem extract_right (a b : ByteArray) : (a ++ b).extract a.size (a ++ b).size = b := by
  apply ByteArray.ext
  apply Array.ext'
  have e1 : List.drop a.size a.data.toList = [] := List.drop_of_length_le (by simp)
  have e2 : (a ++ b).size - a.size = b.size := by rw [ByteArray.size_append]; omega
  have e3 : List.take b.size b.data.toList = b.data.toList := List.take_of_length_le (by simp)
  simp [ByteArray.data_extract, ByteArray.data_append, e1, e3]
theorem extract_less (a b : ByteArray) (k : Nat) (h : k ≤ a.size) : (a ++ b).extract 0 k = a.extract 0 k := by
  apply ByteArray.ext
  apply Array.ext'
  simp [ByteArray.data_extract, ByteArray.data_append]
  omega

/-- The letters of a frame. -/
def coB : ByteArray := ⟨#[67, 79]⟩
theorem headB_co (s : ByteArray) : headB s = coB ++ (putB s.size ++ s) := rfl

section
variable (s y : ByteArray)
theorem frame_text (hs : s.size ≤ 65536) : textAt (coB ++ ((putB s.size ++ s) ++ y)) 2 = (s, (((headB s).size : Nat) : Int), 0) := by
  have h := textAt_put coB s y hs
  have e : (coB.size : Int) = 2 := rfl
  rw [e] at h
  rw [h, headB_co, ByteArray.size_append]
  simp; rfl
theorem frame_assoc : coB ++ ((putB s.size ++ s) ++ y) = headB s ++ y := by rw [headB_co]; exact (ByteArray.append_assoc ..).symm
theorem head_extract : (headB s ++ y).extract 0 2 = ⟨#[67, 79]⟩ := by
  rw [← frame_assoc]; exact extract_left coB _

theorem frame_size (hs : s.size ≤ 65536) (h5 : 5 ≤ (headB s ++ y).size) (hy : ¬ y.size = 2) : frameRead (headB s ++ y) = (⟨#[]⟩, 8) := by
  refine read_size (m := (headB s).size) (b := s) (by omega) (head_extract s y) ?_ (by rw [ByteArray.size_append]; omega)
  rw [← frame_assoc]; exact frame_text s y hs
theorem frame_good (hs : s.size ≤ 65536) (h5 : 5 ≤ (headB s ++ y).size) (hy : y = sumB (headB s)) : frameRead (headB s ++ y) = (s, 0) := by
  have h2 : y.size = 2 := by rw [hy]; rfl
  refine read_good (m := (headB s).size) (b := s) (by omega) (head_extract s y) ?_ (by rw [ByteArray.size_append]; omega) ?_
  · rw [← frame_assoc]; exact frame_text s y hs
  · rw [extract_right, extract_left]; exact hy
theorem frame_bad (hs : s.size ≤ 65536) (h5 : 5 ≤ (headB s ++ y).size) (h2 : y.size = 2) (hy : y ≠ sumB (headB s)) : frameRead (headB s ++ y) = (⟨#[]⟩, 9) := by
  refine read_sum (m := (headB s).size) (b := s) (by omega) (head_extract s y) ?_ (by rw [ByteArray.size_append]; omega) ?_
  · rw [← frame_assoc]; exact frame_text s y hs
  · rw [extract_right, extract_left]; exact hy
theorem frame_few (k : Nat) (hs : s.size ≤ 16383) (h5 : 5 ≤ k) (hk : k < (headB s).size) : frameRead ((headB s).extract 0 k) = (⟨#[]⟩, 8) := by
  have hz : (headB s).size = 2 + (putB s.size ++ s).size := by rw [headB_co, ByteArray.size_append]; rfl
  have e : (headB s).extract 0 k = coB ++ (putB s.size ++ s).extract 0 (k - 2) := by
    rw [headB_co]; exact extract_split coB _ k (by show 2 ≤ k; omega)
  have ht := textAt_few coB s (k - 2) hs (by omega)
  have e2 : (coB.size : Int) = 2 := rfl
  rw [e2] at ht
  have hsz := size_extract0 (headB s) k (by omega)
  have hl : ((headB s).extract 0 k).extract 0 2 = ⟨#[67, 79]⟩ := by rw [e]; exact extract_left coB _
  have hc : (textAt ((headB s).extract 0 k) 2).2.2 = 8 := by rw [e, ht]
  rw [read_code (by omega) hl (by rw [hc]; decide), hc]
end

/-- Sums of lists that part in one byte part. -/
theorem foldl_inj : ∀ (l : List UInt8) (a b : Int), 0 ≤ a → a < 65521 → 0 ≤ b → b < 65521 → l.foldl sumStep a = l.foldl sumStep b → a = b
  | [], _, _, _, _, _, _, h => h
  | c :: l, a, b, a0, a1, b0, b1, h => by
    have := foldl_inj l (sumStep a c) (sumStep b c) (by unfold sumStep; omega) (by unfold sumStep; omega) (by unfold sumStep; omega) (by unfold sumStep; omega) h
    unfold sumStep at this
    omega
theorem sum_parts (x q : List UInt8) (b c : UInt8) (h : b ≠ c) : sumL (x ++ b :: q) ≠ sumL (x ++ c :: q) := by
  have hx := sumL_bound x
  have hb := b.toNat_lt
  have hc := c.toNat_lt
  have hne : b.toNat ≠ c.toNat := fun e => h (UInt8.toNat_inj.1 e)
  intro e
  simp only [sumL, List.foldl_append, List.foldl_cons] at e hx
  have := foldl_inj q _ _ (by unfold sumStep; omega) (by unfold sumStep; omega) (by unfold sumStep; omega) (by unfold sumStep; omega) e
  unfold sumStep at this
  omega
theorem sumB_parts (a b : ByteArray) (h : sumL a.data.toList ≠ sumL b.data.toList) : sumB a ≠ sumB b := by
  have ha := sumL_bound a.data.toList
  have hb := sumL_bound b.data.toList
  intro e
  rw [sumB, sumB] at e
  simp only [ByteArray.mk.injEq, Array.mk.injEq, List.cons.injEq, and_true] at e
  have u : ∀ x y : Int, 0 ≤ x → x < 256 → 0 ≤ y → y < 256 → x.toNat.toUInt8 = y.toNat.toUInt8 → x = y := by
    intro x y x0 x1 y0 y1 h
    have := congrArg UInt8.toNat h
    rw [u8_back (by omega), u8_back (by omega)] at this
    omega
  have e0 := u _ _ (by omega) (by omega) (by omega) (by omega) e.1
  have e1 := u _ _ (by omega) (by omega) (by omega) (by omega) e.2
  omega
end Go.Proofs.YtgpnkjapgfkblaaDoor
