/-
  What the program's inner function behind BytesOf answers (where the four variables hold four sentinels at different places): the bytes of a text of digits, and an error of form for any other text. It makes new memory alone.
-/
import Derived.Test.YtgpnkjapgfkblaaDoorBytesPairs
import Derived.Test.YtgpnkjapgfkblaaDoorBytesDigit
import Derived.Test.YtgpnkjapgfkblaaDoorRowText
namespace Go.Proofs.YtgpnkjapgfkblaaDoor
open Go.RowKit

/-- The code that BytesOf answers of a text that is not too long. -/
def hexCode (s : ByteArray) : Int := if hexText s = true then 0 else 3
/-- An ending answers the bytes, and an error of the code. -/
def HexSays (aF aR aS aM : Addr) (s : ByteArray) (e : Ending) : Prop := ∃ v, e = .returned (.tuple #[.string (hexBytes s), v]) ∧ FaultV aF aR aS aM v (hexCode s)

theorem hex_no {aF aR aS aM : Addr} {s : ByteArray} {v : Value} (h : hexText s = false) (hv : FaultV aF aR aS aM v 3) : HexSays aF aR aS aM s (.returned (.tuple #[.string ⟨#[]⟩, v])) := by
  have e1 : hexBytes s = ⟨#[]⟩ := if_neg (by rw [h]; decide)
  have e2 : hexCode s = 3 := if_neg (by rw [h]; decide)
  exact ⟨v, by rw [e1], by rw [e2]; exact hv⟩
theorem hex_yes {aF aR aS aM : Addr} {s : ByteArray} {b : ByteArray} (h : hexText s = true) (hb : hexBytes s = b) : HexSays aF aR aS aM s (.returned (.tuple #[.string b, .nilIface])) := by
  have e2 : hexCode s = 0 := if_pos h
  exact ⟨_, by rw [hb], by rw [e2]; exact fault_nil⟩

set_option maxHeartbeats 1000000 in
set_option maxRecDepth 100000 in
theorem bytesOf_any {aF aR aS aM : Addr} (s : ByteArray) (w : World) (hs : s.size ≤ 1048576) (h : Sents w aF aR aS aM) :
    Calls Tryd.prog 36 #[.string s] w fun e w' => HexSays aF aR aS aM s e ∧ Below w.heap.size w w' := by
  obtain ⟨i0, hi, hz0, hz1, hz2⟩ := info_parts infoByte
  have H : Hid (Sents w aF aR aS aM) := h
  clear h
  by_cases hodd : s.size % 2 = 0
  · have hb : ((s.size : Int) % 2 != 0) = false := by simp; omega
    go_enter Tryd.func36, Tryd.ntmps36
    go_wp2_with (at_make; refine wpList_make_own _ rfl _ _ 22 rfl w.heap.size 5 i0 (.int .u8 0) 1 Tryd.underlying22 hi hz0 hz1 _ _ _ (s.size / 2) rfl rfl (by omega) (by rw [hz2]; omega) (by unfold maxLen; omega) (Nat.le_refl _) ?_)
    intro w0 hown0 hgrow0
    have hnx0 : Below w.heap.size w w0 := (Below.refl _ _).grown hgrow0 (Nat.le_refl _) (fun k hk => by simp at hk)
    clear hgrow0
    go_wp2
    go_loopw [4, 5] (fun v i wr => ∃ k m : Nat, i = .int .i64 m ∧ m ≤ 2 * k ∧ 2 * k ≤ m ∧ m ≤ s.size ∧ Hid (∀ j, j < k → pairOK s j = true) ∧ wr.ownsRow w.heap.size 5 1 v k (Lib.byteCells (pairsL s k)) ∧ Below w.heap.size w wr) (fun _ i _ => s.size - (intOf i).toNat)
    case atStart => exact ⟨0, 0, rfl, by omega, by omega, by omega, fun j hj => absurd hj (Nat.not_lt_zero _), hown0, hnx0⟩
    case round =>
      clear hown0 hnx0
      obtain ⟨k, m, rfl, hm, hm', hms, HA, hown, hnx⟩ := hrel
      have hsz := hnx.size
      have HS : Hid (Sents wr aF aR aS aM) := H.out.below hnx
      by_cases hlt : m < s.size
      · have h1 : m + 1 < s.size := by omega
        have HO : Hid (pairOK s k = (decide (0 ≤ digV (s[m].toNat : Int)) && decide (0 ≤ digV (s[m + 1].toNat : Int)))) := pairOK_at hm hm' h1
        have c0 : s[m].toNat < 256 := UInt8.toNat_lt _
        have c1 : s[m + 1].toNat < 256 := UInt8.toNat_lt _
        have b0 := digV_bound (s[m].toNat : Int)
        have b1 := digV_bound (s[m + 1].toNat : Int)
        by_cases d0 : 0 ≤ digV (s[m].toNat : Int)
        · by_cases d1 : 0 ≤ digV (s[m + 1].toNat : Int)
          · have HC : Hid (Lib.byteCells (pairsL s k) ++ [Value.int .u8 (16 * digV (s[m].toNat : Int) + digV (s[m + 1].toNat : Int))] = Lib.byteCells (pairsL s (k + 1))) := pairs_cells hm hm' h1 d0 d1
            have HK : Hid (pairOK s k = true) := by show pairOK s k = true; rw [HO.out]; simp [d0, d1]
            go_wp2_with fail
            refine (digitOf_yes _ _ HS.out (by omega) (by omega) d0).mono ?_
            rintro e w1 ⟨rfl, hw⟩
            subst hw
            go_wp2_with fail
            refine (digitOf_yes _ _ HS.out (by omega) (by omega) d1).mono ?_
            rintro e w2 ⟨rfl, hw⟩
            subst hw
            go_wp2_with (at_builtin; refine wpList_append_own _ rfl _ _ 22 rfl w.heap.size 5 i0 (.int .u8 0) 1 1 Tryd.underlying22 hi hz0 hz1 hz2 rfl (by decide) _ _ _ rfl (hown.alloc _) ⟨_, 0, none⟩ 1 1 [Value.int .u8 (16 * digV (s[m].toNat : Int) + digV (s[m + 1].toNat : Int))] rfl rfl (cell_one_new _ _ _) (cell_one _) (by unfold maxLen; omega) (by omega) (by simp; omega) ?_)
            intro v' w3 hown' hgrow _
            have hnx' : Below w.heap.size w w3 := (hnx.alloc (by omega) _).grown hgrow (by simp; omega) (fun k hk => (hown.lt k hk).1)
            rw [HC.out] at hown'
            clear hgrow hown
            go_wp2
            go_roundw
            case rel => exact ⟨k + 1, m + 2, by go_num, by omega, by omega, by omega, pairs_next HA.out HK.out, hown', hnx'⟩
            case measure => simp [intOf]; omega
          · have HX : Hid (hexText s = false) := hexText_bad (k := k) (by omega) hodd (by rw [HO.out]; simp; omega)
            clear hown
            go_wp2_with fail
            refine (digitOf_yes _ _ HS.out (by omega) (by omega) d0).mono ?_
            rintro e w1 ⟨rfl, hw⟩
            subst hw
            go_wp2_with fail
            refine (digitOf_no _ _ HS.out (by omega) (by omega) (by omega)).mono ?_
            rintro e w2 ⟨rfl, hw⟩
            subst hw
            go_wp2
            go_ret2
            exact ⟨hex_no HX.out (fault_wrapF _ _ _), hnx⟩
        · have HX : Hid (hexText s = false) := hexText_bad (k := k) (by omega) hodd (by rw [HO.out]; simp; omega)
          clear hown
          go_wp2_with fail
          refine (digitOf_no _ _ HS.out (by omega) (by omega) (by omega)).mono ?_
          rintro e w1 ⟨rfl, hw⟩
          subst hw
          go_wp2
          go_ret2
          exact ⟨hex_no HX.out (fault_wrapF _ _ _), hnx⟩
      · have HX : Hid (hexText s = true) := hexText_good hodd (fun j hj => HA.out j (by omega))
        have HY : Hid (hexBytes s = ⟨(pairsL s k).toArray⟩) := (if_pos HX.out).trans (by rw [show s.size / 2 = k by omega])
        have hl := pairsL_len s k
        rw [show wr.ownsRow w.heap.size 5 1 u4 k (Lib.byteCells (pairsL s k)) = wr.ownsRow w.heap.size 5 1 u4 (pairsL s k).length (Lib.byteCells (pairsL s k)) by rw [hl]] at hown
        clear hl
        rcases hown.2 with ⟨rfl, h0⟩ | ⟨g, cap, cur, rfl, -⟩
        · have HN : Hid (pairsL s k = []) := List.eq_nil_of_length_eq_zero h0
          have hcv := text_of_none wr
          clear hown h0
          go_wp2
          go_ret2
          exact ⟨hex_yes HX.out (by rw [HY.out, HN.out]), hnx⟩
        · have hcv := text_of_row hown
          clear hown
          go_wp2
          go_ret2
          exact ⟨hex_yes HX.out HY.out, hnx⟩
  · have HX : Hid (hexText s = false) := hexText_odd hodd
    have hb : ((s.size : Int) % 2 != 0) = true := by simp; omega
    have kF := H.out.cF
    go_enter Tryd.func36, Tryd.ntmps36
    go_wp2
    go_region
    all_goals go_wp2
    all_goals go_ret2
    all_goals exact ⟨hex_no HX.out fault_F, (Below.refl _ _).drew⟩
end Go.Proofs.YtgpnkjapgfkblaaDoor
