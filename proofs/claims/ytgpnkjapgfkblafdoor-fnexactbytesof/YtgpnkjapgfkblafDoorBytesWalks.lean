/-
  What the inner functions behind BytesOf answer, the program's (where the four variables hold four sentinels at different places) and the specification's: the bytes of a text of digits, and that any other text is none. They make new memory alone.
-/
import Derived.Test.YtgpnkjapgfkblafDoorBytesDigit
import Derived.Test.YtgpnkjapgfkblafDoorRowText
namespace Go.Proofs.YtgpnkjapgfkblafDoor
open Go.RowKit

/-- The bytes of a text of digits, no bytes of any other. -/
def hexBytes (s : ByteArray) : ByteArray := if hexText s = true then ⟨(pairsL s (s.size / 2)).toArray⟩ else ⟨#[]⟩

theorem pairOK_at {s : ByteArray} {k m : Nat} (hm : m ≤ 2 * k) (hm' : 2 * k ≤ m) (h : m + 1 < s.size) : pairOK s k = (decide (0 ≤ digV (s[m].toNat : Int)) && decide (0 ≤ digV (s[m + 1].toNat : Int))) := by
  obtain rfl : m = 2 * k := by omega
  rw [pairOK, byteAt_in (by omega), byteAt_in h]
theorem pairV_at {s : ByteArray} {k m : Nat} (hm : m ≤ 2 * k) (hm' : 2 * k ≤ m) (h : m + 1 < s.size) : pairV s k = (16 * digV (s[m].toNat : Int) + digV (s[m + 1].toNat : Int)).toNat.toUInt8 := by
  obtain rfl : m = 2 * k := by omega
  rw [pairV, byteAt_in (by omega), byteAt_in h]

theorem pairs_next {s : ByteArray} {k : Nat} (h : ∀ j, j < k → pairOK s j = true) (hk : pairOK s k = true) : ∀ j, j < k + 1 → pairOK s j = true := by
  intro j hj
  by_cases e : j = k
  · rw [e]; exact hk
  · exact h j (by omega)

theorem pairs_cells {s : ByteArray} {k m : Nat} (hm : m ≤ 2 * k) (hm' : 2 * k ≤ m) (h : m + 1 < s.size) (h0 : 0 ≤ digV (s[m].toNat : Int)) (h1 : 0 ≤ digV (s[m + 1].toNat : Int)) :
    Lib.byteCells (pairsL s k) ++ [Value.int .u8 (16 * digV (s[m].toNat : Int) + digV (s[m + 1].toNat : Int))] = Lib.byteCells (pairsL s (k + 1)) := by
  have b0 := digV_bound (s[m].toNat : Int)
  have b1 := digV_bound (s[m + 1].toNat : Int)
  rw [pairsL_snoc, Lib.byteCells_append, pairV_at hm hm' h]
  simp only [Lib.byteCells, List.map_cons, List.map_nil]
  rw [pair_cell h0 b0.2 h1 b1.2]

set_option maxHeartbeats 1000000 in
set_option maxRecDepth 100000 in
theorem specBytes_any (s : ByteArray) (w : World) (hs : s.size ≤ 1048576) :
    Calls Tryd.prog 12 #[.string s] w fun e w' => e = .returned (.tuple #[.string (hexBytes s), .bool (hexText s)]) ∧ Below w.heap.size w w' := by
  obtain ⟨i0, hi, hz0, hz1, hz2⟩ := info_parts infoByte
  by_cases hodd : s.size % 2 = 0
  · have hb : ((s.size : Int) % 2 != 0) = false := by simp; omega
    go_enter Tryd.func12, Tryd.ntmps12
    go_wp2
    go_loopw [4, 5] (fun v i wr => ∃ k m : Nat, i = .int .i64 m ∧ m ≤ 2 * k ∧ 2 * k ≤ m ∧ m ≤ s.size ∧ Hid (∀ j, j < k → pairOK s j = true) ∧ wr.ownsRow w.heap.size 5 1 v k (Lib.byteCells (pairsL s k)) ∧ Below w.heap.size w wr) (fun _ i _ => s.size - (intOf i).toNat)
    case atStart => exact ⟨0, 0, rfl, by omega, by omega, by omega, fun j hj => absurd hj (Nat.not_lt_zero _), World.ownsRow_made w #[] 0 (Nat.le_refl _) (Nat.zero_le _) rfl, (Below.refl _ _).alloc (Nat.le_refl _) _⟩
    case round =>
      obtain ⟨k, m, rfl, hm, hm', hms, HA, hown, hnx⟩ := hrel
      have hsz := hnx.size
      by_cases hlt : m < s.size
      · have h1 : m + 1 < s.size := by omega
        have HO : Hid (pairOK s k = (decide (0 ≤ digV (s[m].toNat : Int)) && decide (0 ≤ digV (s[m + 1].toNat : Int)))) := pairOK_at hm hm' h1
        have c0 : s[m].toNat < 256 := UInt8.toNat_lt _
        have c1 : s[m + 1].toNat < 256 := UInt8.toNat_lt _
        have b0 := digV_bound (s[m].toNat : Int)
        have b1 := digV_bound (s[m + 1].toNat : Int)
        by_cases d0 : 0 ≤ digV (s[m].toNat : Int)
        · have e0 : decide (digV (s[m].toNat : Int) < 0) = false := by simp; omega
          by_cases d1 : 0 ≤ digV (s[m + 1].toNat : Int)
          · have HC : Hid (Lib.byteCells (pairsL s k) ++ [Value.int .u8 (16 * digV (s[m].toNat : Int) + digV (s[m + 1].toNat : Int))] = Lib.byteCells (pairsL s (k + 1))) := pairs_cells hm hm' h1 d0 d1
            have HK : Hid (pairOK s k = true) := by show pairOK s k = true; rw [HO.out]; simp [d0, d1]
            go_wp2_with (first | (go_at_call 20; refine (specDigitV_any _ _ (by omega) (by omega)).mono ?_; rintro e w' ⟨rfl, rfl⟩) | (at_builtin; refine wpList_append_own _ rfl _ _ 40 rfl w.heap.size 5 i0 (.int .u8 0) 1 1 Tryd.underlying40 hi hz0 hz1 hz2 rfl (by decide) _ _ _ rfl (hown.alloc _) ⟨_, 0, none⟩ 1 1 [Value.int .u8 (16 * digV (s[m].toNat : Int) + digV (s[m + 1].toNat : Int))] rfl rfl (cell_one_new _ _ _) (cell_one _) (by unfold maxLen; omega) (by omega) (by simp; omega) ?_))
            intro v' w1 hown' hgrow _
            have hnx' : Below w.heap.size w w1 := (hnx.alloc (by omega) _).grown hgrow (by simp; omega) (fun k hk => (hown.lt k hk).1)
            rw [HC.out] at hown'
            clear hgrow hown
            go_wp2
            go_roundw
            case rel => exact ⟨k + 1, m + 2, by go_num, by omega, by omega, by omega, pairs_next HA.out HK.out, hown', hnx'⟩
            case measure => simp [intOf]; omega
          · have HX : Hid (hexText s = false) := hexText_bad (k := k) (by omega) hodd (by rw [HO.out]; simp; omega)
            have HY : Hid (hexBytes s = ⟨#[]⟩) := if_neg (by rw [HX.out]; decide)
            have e1 : decide (digV (s[m + 1].toNat : Int) < 0) = true := by simp; omega
            clear hown
            go_wp2_with (go_at_call 20; refine (specDigitV_any _ _ (by omega) (by omega)).mono ?_; rintro e w' ⟨rfl, rfl⟩)
            go_ret2
            exact ⟨by rw [HX.out, HY.out]; rfl, hnx⟩
        · have HX : Hid (hexText s = false) := hexText_bad (k := k) (by omega) hodd (by rw [HO.out]; simp; omega)
          have HY : Hid (hexBytes s = ⟨#[]⟩) := if_neg (by rw [HX.out]; decide)
          have e0 : decide (digV (s[m].toNat : Int) < 0) = true := by simp; omega
          clear hown
          go_wp2_with (go_at_call 20; refine (specDigitV_any _ _ (by omega) (by omega)).mono ?_; rintro e w' ⟨rfl, rfl⟩)
          go_ret2
          exact ⟨by rw [HX.out, HY.out]; rfl, hnx⟩
      · have HX : Hid (hexText s = true) := hexText_good hodd (fun j hj => HA.out j (by omega))
        have HY : Hid (hexBytes s = ⟨(pairsL s k).toArray⟩) := (if_pos HX.out).trans (by rw [show s.size / 2 = k by omega])
        have hl := pairsL_len s k
        have HL : Hid ((pairsL s k).length = k) := hl
        rw [show wr.ownsRow w.heap.size 5 1 u4 k (Lib.byteCells (pairsL s k)) = wr.ownsRow w.heap.size 5 1 u4 (pairsL s k).length (Lib.byteCells (pairsL s k)) by rw [hl]] at hown
        clear hl
        rcases hown.2 with ⟨rfl, h0⟩ | ⟨g, cap, cur, rfl, -⟩
        · have HN : Hid (pairsL s k = []) := List.eq_nil_of_length_eq_zero h0
          have hcv := text_of_none wr
          clear hown h0
          go_wp2
          go_ret2
          exact ⟨by rw [HX.out, HY.out, HN.out]; rfl, hnx⟩
        · have hcv := text_of_row hown
          clear hown
          go_wp2
          go_ret2
          exact ⟨by rw [HX.out, HY.out]; rfl, hnx⟩
  · have HX : Hid (hexText s = false) := hexText_odd hodd
    have HY : Hid (hexBytes s = ⟨#[]⟩) := if_neg (by rw [HX.out]; decide)
    have hb : ((s.size : Int) % 2 != 0) = true := by simp; omega
    go_enter Tryd.func12, Tryd.ntmps12
    go_wp2
    go_ret2
    exact ⟨by rw [HX.out, HY.out]; rfl, Below.refl _ _⟩
end Go.Proofs.YtgpnkjapgfkblafDoor
