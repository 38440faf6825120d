/-
  Numbers and texts are read back from their bytes, wherever these stand, and from no fewer: of the plain functions alone.
-/
import Derived.Test.YtgpnkjapgfkblaaDoorTakeText
import Derived.Test.YtgpnkjapgfkblaaDoorPutPlain
namespace Go.Proofs.YtgpnkjapgfkblaaDoor

theorem size_data (s : ByteArray) : s.data.toList.length = s.size := by simp

theorem byteAt_data (s : ByteArray) (k : Nat) : byteAt s k = ((s.data.toList.getD k 0).toNat : Int) := by
  by_cases h : k < s.size
  · rw [byteAt_in h, List.getD_eq_getElem?_getD, List.getElem?_eq_getElem (by simpa using h), Option.getD_some]; rfl
  · rw [byteAt, dif_neg h, List.getD_eq_getElem?_getD, List.getElem?_eq_none (by simpa using h)]; rfl

theorem data_append (a b : ByteArray) : (a ++ b).data.toList = a.data.toList ++ b.data.toList := by
  rw [ByteArray.data_append]; simp

theorem byteAt_right (h x : ByteArray) (j : Nat) : byteAt (h ++ x) (h.size + j) = byteAt x j := by
  rw [byteAt_data, byteAt_data, data_append, List.getD_eq_getElem?_getD, List.getD_eq_getElem?_getD, List.getElem?_append_right (by simp)]
  simp
theorem byteAt_left (x y : ByteArray) (j : Nat) (hj : j < x.size) : byteAt (x ++ y) j = byteAt x j := by
  rw [byteAt_data, byteAt_data, data_append, List.getD_eq_getElem?_getD, List.getD_eq_getElem?_getD, List.getElem?_append_left (by simpa using hj)]

/-- What is taken behind a head is what is taken from the beginning, the place moved on. -/
theorem take_shift (h x : ByteArray) : take0 (h ++ x) h.size = ((take0 x 0).1, if (take0 x 0).2.2 = 0 then (h.size : Int) + (take0 x 0).2.1 else 0, (take0 x 0).2.2) := by
  have e0 := byteAt_right h x 0
  have e1 := byteAt_right h x 1
  have e2 := byteAt_right h x 2
  have hs : (h ++ x).size = h.size + x.size := ByteArray.size_append ..
  rw [Nat.add_zero] at e0
  simp only [take0, take1, take2, e0, e1, e2, hs, Nat.zero_add]
  by_cases a0 : x.size ≤ 0
  · rw [if_pos (by omega), if_pos a0]; rfl
  rw [if_neg (by omega), if_neg a0]
  by_cases b0 : 128 ≤ byteAt x 0
  · rw [if_pos b0, if_pos b0]
    by_cases a1 : x.size ≤ 1
    · rw [if_pos (by omega), if_pos a1]; rfl
    rw [if_neg (by omega), if_neg a1]
    by_cases b1 : 128 ≤ byteAt x 1
    · rw [if_pos b1, if_pos b1]
      by_cases a2 : x.size ≤ 2
      · rw [if_pos (by omega), if_pos a2]; rfl
      rw [if_neg (by omega), if_neg a2]
      by_cases b2 : 128 ≤ byteAt x 2
      · rw [if_pos b2, if_pos b2]; rfl
      rw [if_neg b2, if_neg b2]
      by_cases z2 : byteAt x 2 = 0
      · rw [if_pos z2, if_pos z2]; rfl
      rw [if_neg z2, if_neg z2]
      by_cases g : 999999 < byteAt x 0 % 128 + byteAt x 1 % 128 * 128 + byteAt x 2 % 128 * 16384
      · rw [if_pos g, if_pos g]; rfl
      rw [if_neg g, if_neg g]
      simp; omega
    rw [if_neg b1, if_neg b1]
    by_cases z1 : byteAt x 1 = 0
    · rw [if_pos z1, if_pos z1]; rfl
    rw [if_neg z1, if_neg z1]
    simp; omega
  rw [if_neg b0, if_neg b0]
  simp

theorem u8_back {a : Nat} (h : a < 256) : a.toUInt8.toNat = a := by rw [Nat.toUInt8_eq, UInt8.toNat_ofNat']; omega

/-- A number's bytes, whatever follows, are read back. -/
theorem take_put (n : Nat) (hn : n ≤ 999999) (y : ByteArray) : take0 (putB n ++ y) 0 = ((n : Int), ((putB n).size : Int), 0) := by
  have hs : (putB n ++ y).size = (putB n).size + y.size := ByteArray.size_append ..
  by_cases h1 : n < 128
  · have hl : putL n = [n.toUInt8] := putL_small h1
    have hz : (putB n).size = 1 := by rw [putB_size, hl]; rfl
    have v0 : byteAt (putB n ++ y) 0 = (n : Int) := by
      rw [byteAt_left _ _ _ (by omega), byteAt_data, putB, hl]; simp; omega
    rw [take0, if_neg (by omega), v0, if_neg (by omega), hz]
    have : (n : Int) % 128 = n := by omega
    rw [this]; rfl
  · have hl : putL n = (n % 128 + 128).toUInt8 :: putL (n / 128) := putL_big h1
    by_cases h2 : n / 128 < 128
    · rw [putL_small h2] at hl
      have hz : (putB n).size = 2 := by rw [putB_size, hl]; rfl
      have v0 : byteAt (putB n ++ y) 0 = ((n % 128 + 128 : Nat) : Int) := by
        rw [byteAt_left _ _ _ (by omega), byteAt_data, putB, hl]; simp only [List.getD_cons_zero]; rw [u8_back (by omega)]
      have v1 : byteAt (putB n ++ y) 1 = ((n / 128 : Nat) : Int) := by
        rw [byteAt_left _ _ _ (by omega), byteAt_data, putB, hl]; simp only [List.getD_cons_succ, List.getD_cons_zero]; rw [u8_back (by omega)]
      rw [take0, if_neg (by omega), v0, if_pos (by omega), take1, if_neg (by omega), v1, if_neg (by omega), if_neg (by omega), hz]
      refine Prod.ext (by simp; omega) (Prod.ext (by simp) rfl)
    · have hl2 : putL (n / 128) = (n / 128 % 128 + 128).toUInt8 :: putL (n / 128 / 128) := putL_big h2
      rw [putL_small (n := n / 128 / 128) (by omega)] at hl2
      rw [hl2] at hl
      have hz : (putB n).size = 3 := by rw [putB_size, hl]; rfl
      have v0 : byteAt (putB n ++ y) 0 = ((n % 128 + 128 : Nat) : Int) := by
        rw [byteAt_left _ _ _ (by omega), byteAt_data, putB, hl]; simp only [List.getD_cons_zero]; rw [u8_back (by omega)]
      have v1 : byteAt (putB n ++ y) 1 = ((n / 128 % 128 + 128 : Nat) : Int) := by
        rw [byteAt_left _ _ _ (by omega), byteAt_data, putB, hl]; simp only [List.getD_cons_succ, List.getD_cons_zero]; rw [u8_back (by omega)]
      have v2 : byteAt (putB n ++ y) 2 = ((n / 128 / 128 : Nat) : Int) := by
        rw [byteAt_left _ _ _ (by omega), byteAt_data, putB, hl]; simp only [List.getD_cons_succ, List.getD_cons_zero]; rw [u8_back (by omega)]
      rw [take0, if_neg (by omega), v0, if_pos (by omega), take1, if_neg (by omega), v1, if_pos (by omega), take2, if_neg (by omega), v2, if_neg (by omega), if_neg (by omega), if_neg (by omega), hz]
      refine Prod.ext (by simp; omega) (Prod.ext (by simp) rfl)

/-- A number behind a head is read back. -/
theorem takeAt_put (h y : ByteArray) (n : Nat) (hn : n ≤ 999999) : takeAt (h ++ (putB n ++ y)) (h.size : Int) = ((n : Int), (h.size : Int) + ((putB n).size : Int), 0) := by
  have hs : (h ++ (putB n ++ y)).size = h.size + (putB n ++ y).size := ByteArray.size_append ..
  rw [takeAt_in (by omega), Int.toNat_natCast, take_shift, take_put n hn y]; rfl

theorem extract_mid (a b c : ByteArray) : (a ++ (b ++ c)).extract a.size (a.size + b.size) = b := by
  apply ByteArray.ext
  apply Array.ext'
  have e1 : List.drop a.size a.data.toList = [] := List.drop_of_length_le (by simp)
  have e2 : List.take b.size b.data.toList = b.data.toList := List.take_of_length_le (by simp)
  simp [ByteArray.data_extract, ByteArray.data_append, e1, e2]

theorem byteAt_extract (x : ByteArray) (k j : Nat) (h : j < k) : byteAt (x.extract 0 k) j = byteAt x j := by
  rw [byteAt_data, byteAt_data, List.getD_eq_getElem?_getD, List.getD_eq_getElem?_getD]
  have : (x.extract 0 k).data.toList = x.data.toList.take k := by simp [ByteArray.data_extract]
  rw [this, List.getElem?_take, if_pos h]

theorem size_extract0 (x : ByteArray) (k : Nat) (h : k ≤ x.size) : (x.extract 0 k).size = k := by
  rw [ByteArray.size_extract]; omega

theorem extract_split (a b : ByteArray) (k : Nat) (h : a.size ≤ k) : (a ++ b).extract 0 k = a ++ b.extract 0 (k - a.size) := by
  apply ByteArray.ext
  apply Array.ext'
  have e1 : List.take k a.data.toList = a.data.toList := List.take_of_length_le (by simpa using h)
  simp [ByteArray.data_extract, ByteArray.data_append, e1]

/-- A text behind a head is read back. -/
theorem textAt_put (h s y : ByteArray) (hs : s.size ≤ 65536) : textAt (h ++ ((putB s.size ++ s) ++ y)) (h.size : Int) = (s, (h.size : Int) + ((putB s.size ++ s).size : Int), 0) := by
  have e : h ++ ((putB s.size ++ s) ++ y) = h ++ (putB s.size ++ (s ++ y)) := by rw [ByteArray.append_assoc]
  have ht := takeAt_put h (s ++ y) s.size (by omega)
  have z1 : (h ++ (putB s.size ++ (s ++ y))).size = h.size + ((putB s.size).size + (s.size + y.size)) := by rw [ByteArray.size_append, ByteArray.size_append, ByteArray.size_append]
  have z2 : (putB s.size ++ s).size = (putB s.size).size + s.size := ByteArray.size_append ..
  have ht2 : takeAt (h ++ (putB s.size ++ (s ++ y))) (h.size : Int) = ((s.size : Int), ((h.size + (putB s.size).size : Nat) : Int), 0) := by rw [ht]; simp
  rw [e, textAt_whole ht2 (by omega), z2]
  refine Prod.ext ?_ (Prod.ext (by simp; omega) rfl)
  have e2 : h ++ (putB s.size ++ (s ++ y)) = (h ++ putB s.size) ++ (s ++ y) := by rw [ByteArray.append_assoc]
  have z3 : (h ++ putB s.size).size = h.size + (putB s.size).size := ByteArray.size_append ..
  show (h ++ (putB s.size ++ (s ++ y))).extract (h.size + (putB s.size).size) (h.size + (putB s.size).size + s.size) = s
  rw [e2, ← z3]
  exact extract_mid _ _ _

/-- Fewer bytes than a text's are no text. -/
theorem textAt_few (h s : ByteArray) (k : Nat) (hs : s.size ≤ 16383) (hk : k < (putB s.size ++ s).size) : textAt (h ++ (putB s.size ++ s).extract 0 k) (h.size : Int) = (⟨#[]⟩, 0, 8) := by
  have z2 : (putB s.size ++ s).size = (putB s.size).size + s.size := ByteArray.size_append ..
  by_cases hp : (putB s.size).size ≤ k
  · rw [extract_split _ _ _ hp]
    have z3 := size_extract0 s (k - (putB s.size).size) (by omega)
    have ht := takeAt_put h (s.extract 0 (k - (putB s.size).size)) s.size (by omega)
    have ht2 : takeAt (h ++ (putB s.size ++ s.extract 0 (k - (putB s.size).size))) (h.size : Int) = ((s.size : Int), ((h.size + (putB s.size).size : Nat) : Int), 0) := by rw [ht]; simp
    refine textAt_short ht2 ?_
    rw [ByteArray.size_append, ByteArray.size_append, z3]; omega
  · have zx := size_extract0 (putB s.size ++ s) k (by omega)
    have zh : (h ++ (putB s.size ++ s).extract 0 k).size = h.size + k := by rw [ByteArray.size_append, zx]
    have hc : takeAt (h ++ (putB s.size ++ s).extract 0 k) (h.size : Int) = (0, 0, 8) := by
      rw [takeAt_in (by omega), Int.toNat_natCast, take_shift]
      by_cases k0 : k = 0
      · rw [take_end0 (by omega)]; rfl
      · have hb : ¬ s.size < 128 := fun hlt => by rw [putB_size, putL_small hlt] at hp; simp at hp; omega
        have hl : putL s.size = (s.size % 128 + 128).toUInt8 :: putL (s.size / 128) := putL_big hb
        rw [putL_small (n := s.size / 128) (by omega)] at hl
        have hz : (putB s.size).size = 2 := by rw [putB_size, hl]; rfl
        have v0 : byteAt ((putB s.size ++ s).extract 0 k) 0 = ((s.size % 128 + 128 : Nat) : Int) := by
          rw [byteAt_extract _ _ _ (by omega), byteAt_left _ _ _ (by omega), byteAt_data, putB, hl]; simp only [List.getD_cons_zero]; rw [u8_back (by omega)]
        have e : take0 ((putB s.size ++ s).extract 0 k) 0 = (0, 0, 8) := by
          rw [take0, if_neg (by omega), v0, if_pos (by omega), take1, if_pos (by omega)]
        rw [e]; rfl
    rw [textAt_code (by rw [hc]; decide), hc]

theorem takeAt_form : takeAt ⟨#[133, 0]⟩ 0 = (0, 0, 3) := by decide +kernel
end Go.Proofs.YtgpnkjapgfkblaaDoor
