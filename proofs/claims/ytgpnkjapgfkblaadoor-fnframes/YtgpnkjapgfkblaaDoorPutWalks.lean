/-
  What the two functions that write a number's bytes answer, the program's and the specification's: the plain function of the Plain text, at every number from 0 to the greatest. They make new memory alone.
-/
import Derived.Test.YtgpnkjapgfkblaaDoorRows
import Derived.Test.YtgpnkjapgfkblaaDoorPutPlain
import Derived.Lib.UnsafeStr
import Derived.Laws.IdiomStrings
import Derived.Maps.AppendAt
import Derived.OwnWalk
import Derived.WalkKit
import Derived.WalkSpells
namespace Go.Proofs.YtgpnkjapgfkblaaDoor
open Go.RowKit

theorem putInfoByte : (Tryd.prog.info? 5).map (fun i => (i.zero, i.size, i.bytes)) = some (some (.int .u8 0), 1, 1) := by kernel_rfl

theorem bytes_snoc (pre : List UInt8) {a : Nat} (h : a < 256) : Lib.byteCells (pre ++ [a.toUInt8]) = Lib.byteCells pre ++ [Value.int .u8 (a : Int)] := by
  have e : a.toUInt8.toNat = a := by rw [Nat.toUInt8_eq, UInt8.toNat_ofNat']; omega
  simp [Lib.byteCells, e]

theorem cast_low (k : Nat) : (((k % 128 + 128 : Nat)) : Int) = (k : Int) % 128 + 128 := by omega

theorem one_cell (x : Int) : ∀ u ∈ [Value.int .u8 x], u.oneCell' = true := by
  intro u hu; simp at hu; subst hu; rfl

/-- A row of bytes that is owned reads back as the text of these bytes. -/
theorem row_text {w : World} {base g cap : Nat} {l : List UInt8} (hown : w.ownsRow base 5 1 (.slice (some ⟨g, 0, none⟩) l.length cap) l.length (Lib.byteCells l)) :
    (convert 22 9 (.slice (some ⟨g, 0, none⟩) l.length cap)).run Tryd.prog w = .ok (.string ⟨l.toArray⟩) w :=
  run_convert_bytes_back (P := Tryd.prog) w 22 9 5 ⟨g, 0, none⟩ cap l Tryd.underlying22 Tryd.underlying5 Tryd.underlying9 (fun j hj => hown.cells (g := g) rfl j _ (by simp [Lib.byteCells, hj]))

set_option maxHeartbeats 1000000 in
set_option maxRecDepth 100000 in
theorem putNumber_nat (m : Nat) (w : World) (hm : m ≤ 9223372036854775807) :
    Calls Tryd.prog 25 #[.int .i64 (m : Int)] w fun e w' => e = .returned (.string ⟨(putL m).toArray⟩) ∧ Below w.heap.size w w' := by
  obtain ⟨i0, hi, hz0, hz1, hz2⟩ := info_parts putInfoByte
  have hnine := putL_nine hm
  go_enter Tryd.func25, Tryd.ntmps25
  go_wp2
  go_loopw [0, 3] (fun nv v wr => ∃ (k : Nat) (pre : List UInt8), nv = .int .i64 k ∧ k ≤ m ∧ Hid (pre ++ putL k = putL m) ∧ wr.ownsRow w.heap.size 5 1 v pre.length (Lib.byteCells pre) ∧ Below w.heap.size w wr) (fun nv _ _ => (intOf nv).toNat)
  case atStart => exact ⟨m, [], rfl, Nat.le_refl _, by simp [Hid], World.ownsRow_nil _ _ _ _, Below.refl _ _⟩
  case round =>
    obtain ⟨k, pre, rfl, hk, HP, hown, hnx⟩ := hrel
    have hlen : pre.length + (putL k).length ≤ 9 := by rw [← List.length_append, HP.out]; exact hnine
    have hpos := putL_pos k
    have hsz := hnx.size
    by_cases hlt : k < 128
    · have HE : Hid (pre ++ [k.toUInt8] = putL m) := by rw [← HP.out, putL_small hlt]; rfl
      have HC : Hid (Lib.byteCells pre ++ [Value.int .u8 (k : Int)] = Lib.byteCells (pre ++ [k.toUInt8])) := (bytes_snoc pre (by omega)).symm
      go_wp2_with (at_builtin; refine wpList_append_own _ rfl _ _ 22 rfl w.heap.size 5 i0 (.int .u8 0) 1 1 Tryd.underlying22 hi hz0 hz1 hz2 rfl (by decide) _ _ _ rfl (hown.alloc _) ⟨wr.heap.size, 0, none⟩ 1 1 [Value.int .u8 (k : Int)] rfl rfl (cell_one_new _ _ _) (one_cell _) (by unfold maxLen; omega) (by omega) (by simp; omega) ?_)
      intro v' w1 hown' hgrow _
      have hnx' : Below w.heap.size w w1 := (hnx.alloc (by omega) _).grown hgrow (by simp; omega) (fun k hk => (hown.lt k hk).1)
      rw [HC.out, show pre.length + 1 = (pre ++ [k.toUInt8]).length by simp, HE.out] at hown'
      have hp := putL_pos m
      rcases hown'.2 with ⟨-, h0⟩ | ⟨g, cap, cur, rfl, -⟩
      · omega
      · have hcv := row_text hown'
        clear hown' hgrow hown
        go_wp2
        go_ret
        exact ⟨rfl, hnx'⟩
    · have HE : Hid ((pre ++ [(k % 128 + 128).toUInt8]) ++ putL (k / 128) = putL m) := by rw [← HP.out, putL_big hlt]; simp [Hid]
      have HC : Hid (Lib.byteCells pre ++ [Value.int .u8 ((k : Int) % 128 + 128)] = Lib.byteCells (pre ++ [(k % 128 + 128).toUInt8])) := by
        rw [bytes_snoc pre (by omega), cast_low]; rfl
      go_wp2_with (at_builtin; refine wpList_append_own _ rfl _ _ 22 rfl w.heap.size 5 i0 (.int .u8 0) 1 1 Tryd.underlying22 hi hz0 hz1 hz2 rfl (by decide) _ _ _ rfl (hown.alloc _) ⟨wr.heap.size, 0, none⟩ 1 1 [Value.int .u8 ((k : Int) % 128 + 128)] rfl rfl (cell_one_new _ _ _) (one_cell _) (by unfold maxLen; omega) (by omega) (by simp; omega) ?_)
      intro v' w1 hown' hgrow _
      have hnx' : Below w.heap.size w w1 := (hnx.alloc (by omega) _).grown hgrow (by simp; omega) (fun k hk => (hown.lt k hk).1)
      rw [HC.out, show pre.length + 1 = (pre ++ [(k % 128 + 128).toUInt8]).length by simp] at hown'
      clear hgrow hown
      go_wp2
      go_roundw
      case rel => exact ⟨k / 128, _, by go_num, by omega, HE, hown', hnx'⟩
      case measure => simp [intOf]; omega

set_option maxHeartbeats 1000000 in
set_option maxRecDepth 100000 in
theorem specPut_nat (m : Nat) (w : World) (hm : m ≤ 9223372036854775807) :
    Calls Tryd.prog 27 #[.int .i64 (m : Int)] w fun e w' => e = .returned (.string ⟨(putL m).toArray⟩) ∧ Below w.heap.size w w' := by
  obtain ⟨i0, hi, hz0, hz1, hz2⟩ := info_parts putInfoByte
  have hnine := putL_nine hm
  go_enter Tryd.func27, Tryd.ntmps27
  go_wp2
  go_loopw [0, 3] (fun nv v wr => ∃ (k : Nat) (pre : List UInt8), nv = .int .i64 k ∧ k ≤ m ∧ Hid (pre ++ putL k = putL m) ∧ wr.ownsRow w.heap.size 5 1 v pre.length (Lib.byteCells pre) ∧ Below w.heap.size w wr) (fun nv _ _ => (intOf nv).toNat)
  case atStart => exact ⟨m, [], rfl, Nat.le_refl _, by simp [Hid], World.ownsRow_made w #[] 0 (Nat.le_refl _) (Nat.zero_le _) rfl, (Below.refl _ _).alloc (Nat.le_refl _) _⟩
  case round =>
    obtain ⟨k, pre, rfl, hk, HP, hown, hnx⟩ := hrel
    have hlen : pre.length + (putL k).length ≤ 9 := by rw [← List.length_append, HP.out]; exact hnine
    have hpos := putL_pos k
    have hsz := hnx.size
    by_cases hlt : k < 128
    · have HE : Hid (pre ++ [k.toUInt8] = putL m) := by rw [← HP.out, putL_small hlt]; rfl
      have HC : Hid (Lib.byteCells pre ++ [Value.int .u8 (k : Int)] = Lib.byteCells (pre ++ [k.toUInt8])) := (bytes_snoc pre (by omega)).symm
      go_wp2_with (at_builtin; refine wpList_append_own _ rfl _ _ 22 rfl w.heap.size 5 i0 (.int .u8 0) 1 1 Tryd.underlying22 hi hz0 hz1 hz2 rfl (by decide) _ _ _ rfl (hown.alloc _) ⟨wr.heap.size, 0, none⟩ 1 1 [Value.int .u8 (k : Int)] rfl rfl (cell_one_new _ _ _) (one_cell _) (by unfold maxLen; omega) (by omega) (by simp; omega) ?_)
      intro v' w1 hown' hgrow _
      have hnx' : Below w.heap.size w w1 := (hnx.alloc (by omega) _).grown hgrow (by simp; omega) (fun k hk => (hown.lt k hk).1)
      rw [HC.out, show pre.length + 1 = (pre ++ [k.toUInt8]).length by simp, HE.out] at hown'
      have hp := putL_pos m
      rcases hown'.2 with ⟨-, h0⟩ | ⟨g, cap, cur, rfl, -⟩
      · omega
      · have hcv := row_text hown'
        clear hown' hgrow hown
        go_wp2
        go_ret
        exact ⟨rfl, hnx'⟩
    · have HE : Hid ((pre ++ [(k % 128 + 128).toUInt8]) ++ putL (k / 128) = putL m) := by rw [← HP.out, putL_big hlt]; simp [Hid]
      have HC : Hid (Lib.byteCells pre ++ [Value.int .u8 (128 + (k : Int) % 128)] = Lib.byteCells (pre ++ [(k % 128 + 128).toUInt8])) := by
        rw [bytes_snoc pre (by omega), cast_low, Int.add_comm]; rfl
      go_wp2_with (at_builtin; refine wpList_append_own _ rfl _ _ 22 rfl w.heap.size 5 i0 (.int .u8 0) 1 1 Tryd.underlying22 hi hz0 hz1 hz2 rfl (by decide) _ _ _ rfl (hown.alloc _) ⟨wr.heap.size, 0, none⟩ 1 1 [Value.int .u8 (128 + (k : Int) % 128)] rfl rfl (cell_one_new _ _ _) (one_cell _) (by unfold maxLen; omega) (by omega) (by simp; omega) ?_)
      intro v' w1 hown' hgrow _
      have hnx' : Below w.heap.size w w1 := (hnx.alloc (by omega) _).grown hgrow (by simp; omega) (fun k hk => (hown.lt k hk).1)
      rw [HC.out, show pre.length + 1 = (pre ++ [(k % 128 + 128).toUInt8]).length by simp] at hown'
      clear hgrow hown
      go_wp2
      go_roundw
      case rel => exact ⟨k / 128, _, by go_num, by omega, HE, hown', hnx'⟩
      case measure => simp [intOf]; omega

/-- The same of a number that stands as an integer. -/
theorem putNumber_any (n : Int) (w : World) (h0 : 0 ≤ n) (h1 : n ≤ 9223372036854775807) :
    Calls Tryd.prog 25 #[.int .i64 n] w fun e w' => e = .returned (.string (putB n.toNat)) ∧ Below w.heap.size w w' := by
  obtain ⟨m, rfl⟩ := Int.eq_ofNat_of_zero_le h0
  rw [Int.toNat_natCast]
  exact putNumber_nat m w (by omega)

theorem specPut_any (n : Int) (w : World) (h0 : 0 ≤ n) (h1 : n ≤ 9223372036854775807) :
    Calls Tryd.prog 27 #[.int .i64 n] w fun e w' => e = .returned (.string (putB n.toNat)) ∧ Below w.heap.size w w' := by
  obtain ⟨m, rfl⟩ := Int.eq_ofNat_of_zero_le h0
  rw [Int.toNat_natCast]
  exact specPut_nat m w (by omega)
end Go.Proofs.YtgpnkjapgfkblaaDoor
