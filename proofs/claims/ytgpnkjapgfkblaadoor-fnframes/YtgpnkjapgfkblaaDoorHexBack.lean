/-
  A text's digits are read back as its bytes; with a digit more they are none: of the plain functions alone.
-/
import Derived.Test.YtgpnkjapgfkblaaDoorNumPlain
import Derived.Test.YtgpnkjapgfkblaaDoorHexTop
import Derived.Test.YtgpnkjapgfkblaaDoorBytesTopImpl
namespace Go.Proofs.YtgpnkjapgfkblaaDoor

theorem hexL_get : ∀ (l : List UInt8) (j : Nat) (h : j < l.length), (hexL l).getD (2 * j) 0 = (hexD (l[j].toNat / 16)).toUInt8 ∧ (hexL l).getD (2 * j + 1) 0 = (hexD (l[j].toNat % 16)).toUInt8
  | [], _, h => by simp at h
  | c :: l, 0, _ => ⟨rfl, rfl⟩
  | c :: l, j + 1, h => by
    have := hexL_get l j (by simpa using h)
    have e : hexL (c :: l) = (hexD (c.toNat / 16)).toUInt8 :: (hexD (c.toNat % 16)).toUInt8 :: hexL l := rfl
    rw [e]
    exact this

theorem digV_hexD {n : Nat} (h : n < 16) : digV ((hexD n : Nat) : Int) = (n : Int) := by
  unfold hexD
  split
  · rw [digV_num (by omega)]; omega
  · rw [digV_let (by omega)]; omega

/-- The digits of a text, as a text. -/
def hexB (s : ByteArray) : ByteArray := ⟨(hexL s.data.toList).toArray⟩
theorem hexB_size (s : ByteArray) : (hexB s).size = 2 * s.size := by
  show (hexL s.data.toList).toArray.size = _
  simp [hexL_len]
theorem hexB_at (s : ByteArray) (j : Nat) (h : j < s.size) : byteAt (hexB s) (2 * j) = ((hexD ((s[j].toNat) / 16) : Nat) : Int) ∧ byteAt (hexB s) (2 * j + 1) = ((hexD ((s[j].toNat) % 16) : Nat) : Int) := by
  have hl : j < s.data.toList.length := by simpa using h
  have hg := hexL_get s.data.toList j hl
  have e : s.data.toList[j] = s[j] := rfl
  have hb := s[j].toNat_lt
  rw [e] at hg
  rw [byteAt_data, byteAt_data]
  show (((hexL s.data.toList).getD (2 * j) 0).toNat : Int) = _ ∧ (((hexL s.data.toList).getD (2 * j + 1) 0).toNat : Int) = _
  rw [hg.1, hg.2, u8_back (hexD_lt (by omega)), u8_back (hexD_lt (by omega))]
  exact ⟨rfl, rfl⟩

theorem hexB_digits (s : ByteArray) (j : Nat) (h : j < s.size) : digV (byteAt (hexB s) (2 * j)) = ((s[j].toNat / 16 : Nat) : Int) ∧ digV (byteAt (hexB s) (2 * j + 1)) = ((s[j].toNat % 16 : Nat) : Int) := by
  have hb := s[j].toNat_lt
  rw [(hexB_at s j h).1, (hexB_at s j h).2, digV_hexD (by omega), digV_hexD (by omega)]
  exact ⟨rfl, rfl⟩

theorem hexB_text (s : ByteArray) : hexText (hexB s) = true := by
  have hz := hexB_size s
  refine hexText_good (by omega) (fun j hj => ?_)
  have hd := hexB_digits s j (by omega)
  rw [pairOK, hd.1, hd.2]
  simp; omega

theorem hexB_pairs (s : ByteArray) : pairsL (hexB s) s.size = s.data.toList := by
  apply List.ext_getElem
  · rw [pairsL_len]; simp
  · intro j h1 h2
    have hj : j < s.size := by simpa [pairsL_len] using h1
    have hd := hexB_digits s j hj
    have hb := s[j].toNat_lt
    have e : s.data.toList[j] = s[j] := rfl
    simp only [pairsL, List.getElem_map, List.getElem_range]
    rw [e, pairV, hd.1, hd.2]
    apply UInt8.toNat_inj.1
    have e2 : (16 * ((s[j].toNat / 16 : Nat) : Int) + ((s[j].toNat % 16 : Nat) : Int)).toNat = s[j].toNat := by omega
    rw [e2, u8_back hb]

theorem hexAns_small {s : ByteArray} (h : s.size ≤ 60) : hexAns s = hexB s := if_pos (by omega)
theorem bytes_back {s : ByteArray} (h : s.size ≤ 60) : bytesAns (hexB s) = s ∧ bytesCode (hexB s) = 0 := by
  have hz := hexB_size s
  have ht := hexB_text s
  refine ⟨(if_pos (by omega)).trans ?_, (if_pos (by omega)).trans (if_pos ht)⟩
  rw [hexBytes, if_pos ht, show (hexB s).size / 2 = s.size by omega, hexB_pairs]
theorem bytes_odd {s : ByteArray} (h : s.size ≤ 60) : bytesCode (hexB s ++ ⟨#[48]⟩) = 3 := by
  have hz := hexB_size s
  have hz2 : (hexB s ++ (⟨#[48]⟩ : ByteArray)).size = 2 * s.size + 1 := by rw [ByteArray.size_append, hz]; rfl
  have ht : hexText (hexB s ++ ⟨#[48]⟩) = false := hexText_odd (by omega)
  exact (if_pos (by omega)).trans (if_neg (by rw [ht]; decide))
end Go.Proofs.YtgpnkjapgfkblaaDoor
