/-
  The Ids of a list of pointers to branches: what the program's idsOf answers.
-/
import Derived.Test.YtkfklaapoaocdabPtrs
import Derived.Test.YtkfklaapoaocdabSpecNodes
namespace Go.Proofs.Ytkfklaapoaocdab
open Go.RowKit

/-- A list of numbers of its own. -/
def IdsPost (w : World) (ks : List Int) (e : Ending) (w' : World) : Prop :=
  ∃ v, e = .returned v ∧ w'.ownsRow w.heap.size 3 1 v ks.length (ks.map (Value.int .i64)) ∧ Below w.heap.size w w'

set_option maxHeartbeats 1000000 in
set_option maxRecDepth 100000 in
theorem idsOf_any (l : List PNode) (ad : Int → Nat) (up : Int → Option Int) (n₁ : Nat) (ks : List Int) (hks : ∀ k ∈ ks, k ∈ idsOf l) (v : Value) (w : World) (hT : TreeAt n₁ w l ad up) (hP : PtrsAt n₁ w v ks ad) (hn : n₁ ≤ w.heap.size) (hl : ks.length ≤ 1048576) :
    Calls Try.prog 38 #[v] w (IdsPost w ks) := by
  obtain ⟨i0, hi, hz0, hz1, hz2⟩ := info_parts specInfoInt
  obtain ⟨g, cap, rfl, hk⟩ := hP
  have HT := hide hT
  have HKS := hide hks
  clear hT hks
  go_enter Try.func38, Try.ntmps38
  go_wp2_with fail
  go_loopw [3, 8] (fun sv i' wr => ∃ m : Nat, m ≤ ks.length ∧ i' = .int .i64 m ∧ wr.ownsRow w.heap.size 3 1 sv m ((ks.take m).map (Value.int .i64)) ∧ Below w.heap.size w wr) (fun _ i' _ => ks.length - (intOf i').toNat)
  case atStart => exact ⟨0, Nat.zero_le _, rfl, by simpa using World.ownsRow_nil _ _ _ _, Below.refl _ _⟩
  case round =>
    obtain ⟨m, hm, rfl, hown, hbr⟩ := hrel
    have hsz := hbr.size
    by_cases hlt : m < ks.length
    · obtain ⟨b, rfl, hb, hc⟩ := hk.resolve_left (by intro e; simp [e] at hlt)
      have hcm := (hbr.cell (p := ⟨b, m, none⟩) (show b < _ by omega)).trans (hc m hlt)
      have hin := HKS.out (ks[m]?.getD 0) (by rw [List.getElem?_eq_getElem hlt]; exact List.getElem_mem hlt)
      have HTS : Hid (ks.take (m + 1) = ks.take m ++ [ks[m]?.getD 0]) := int_snoc hlt
      have hlt1 : (m : Int) < (ks.length : Int) := by omega
      clear hc hk
      generalize ks[m]?.getD 0 = y at *
      obtain ⟨x, hx, rfl⟩ := node_of hin
      have hB := HT.out x hx
      have hxl := hB.lt
      have c0 := (hbr.cell (p := ⟨ad x.id, 0, none⟩) (show ad x.id < _ by omega)).trans hB.c0
      obtain ⟨ar, cr, rfl⟩ := row_shape hown
      clear hB hin
      go_wp2_with (at_builtin; refine wpList_append_own _ rfl _ _ 26 rfl w.heap.size 3 i0 (.int .i64 0) 1 8 Try.underlying26 hi hz0 hz1 hz2 rfl (by decide) _ _ _ rfl (hown.alloc _) ⟨wr.heap.size, 0, none⟩ 1 1 [Value.int .i64 x.id] rfl rfl (cell_one_new _ _ _) (one_int _) (by unfold maxLen; omega) (by omega) (by simp; omega) ?_)
      intro v' w1 hown' hgrow _
      have hb3 := (hbr.alloc (by omega) (.cells #[.int .i64 x.id] 3)).grown hgrow (by simp; omega) (fun g hg => (hown.lt g hg).1)
      have HRow : Hid (w1.ownsRow w.heap.size 3 1 v' (m + 1) ((ks.take (m + 1)).map (Value.int .i64))) := by
        unfold Hid; rw [HTS.out]; simpa using hown'
      clear hown' hgrow hown
      go_wp2_with fail
      go_roundw
      case rel => exact ⟨m + 1, by omega, by go_num, HRow.out, hb3⟩
      case measure => simp [intOf]; omega
    · have HRow : Hid (wr.ownsRow w.heap.size 3 1 u3 ks.length (ks.map (Value.int .i64))) := by
        have := hown
        rw [List.take_of_length_le (by omega), show m = ks.length by omega] at this
        exact this
      obtain ⟨ar, cr, rfl⟩ := row_shape hown
      clear hk hown
      go_wp2_with fail
      go_ret
      exact ⟨_, rfl, HRow.out, hbr⟩
end Go.Proofs.Ytkfklaapoaocdab
