/-
  What the specification's l03TermText and l03Line answer.
-/
import Derived.Test.YtmcopoonnhcdjaaDoorSchText
namespace Go.Proofs.YtmcopoonnhcdjaaDoor
open Go.RowKit

/-- The text of these bytes. -/
def bt (xs : List UInt8) : ByteArray := ⟨xs.toArray⟩
theorem bt_add (xs ys : List UInt8) : bt xs ++ bt ys = bt (xs ++ ys) := by
  refine ByteArray.ext ?_
  simp [bt, ByteArray.data_append]
theorem bt_of (s : ByteArray) : s = bt s.data.toList := by
  refine ByteArray.ext ?_
  simp [bt]
theorem bt_inj {xs ys : List UInt8} (h : bt xs = bt ys) : xs = ys := by
  have := congrArg (fun z => z.data.toList) h
  simpa [bt] using this

theorem join_next (l : List PRule) {p : List Int} (h : p ≠ []) (k : Int) : joinT l (p ++ [k]) = joinT l p ++ 124 :: nm l k := by
  cases p with
  | nil => exact absurd rfl h
  | cons a r => simp [joinT, glue]

theorem take_next (ks : List Int) {k : Nat} (h : k < ks.length) : ks.take (k + 1) = ks.take k ++ [ks[k]?.getD 0] := by
  rw [List.take_succ_eq_append_getElem h]; simp [h]

set_option maxHeartbeats 1000000 in
set_option maxRecDepth 100000 in
theorem specTermText_any (n₀ : Nat) (v vt : Value) (l : List PRule) (t : PTerm) (w : World) (h : RulesAt n₀ w v l) (ht : TermVal n₀ w vt t) (hn : n₀ ≤ w.heap.size) (hs : SchemaP l) (hp : TermP l.length t) :
    Calls Tryd.prog 105 #[v, vt] w fun e w' => ∃ s, e = .returned (.string s) ∧ Hid (s = bt (termT l t)) ∧ s.size ≤ 105 ∧ Below w.heap.size w w' := by
  obtain ⟨kv, rfl, hk⟩ := ht
  obtain ⟨a, cap, rfl, hl⟩ := h
  obtain ⟨b, off, rfl, hb, hc⟩ := hl.resolve_left (by intro e; have := hs.one; simp [e] at this)
  obtain ⟨ak, ck, rfl, hk⟩ := hk
  obtain ⟨ks, m⟩ := t
  have hm0 := hp.many0
  have hm3 := hp.many3
  have hlen := hs.few
  have HIn := hide (up_in hp)
  have hne := hp.some
  have hkl := hp.up.len hne
  have HC := hide hc
  have HSz : Hid (∀ j, j < l.length → (l[j]?.getD ruleNil).name.size ≤ 12) := fun j hj => (hs.rules _ (by simp [hj])).name.2.1
  dsimp only at *
  clear hl hc hs hp
  obtain ⟨W, hW⟩ : ∃ W, W = w.alloc (.cells #[.slice ak ks.length ck, .int .i64 m] 126) := ⟨_, rfl⟩
  have hW1 : Below w.heap.size w W := by rw [hW]; exact (Below.refl _ _).alloc (Nat.le_refl _) _
  have hWs : W.heap.size = w.heap.size + 1 := by rw [hW]; simp
  have bh : W.heap[w.heap.size]? = some (.cells #[.slice ak ks.length ck, .int .i64 m] 126 (0, 0)) := by rw [hW]; exact alloc_new w _
  have x0 := cell_of_heap bh 0
  have x1 := cell_of_heap bh 1
  have xf := frozen_of_heap bh
  have hwlt : w.heap.size < W.heap.size := by omega
  clear bh
  simp only [List.getElem?_toArray, List.getElem?_cons_zero, List.getElem?_cons_succ] at x0 x1
  go_enter Tryd.func105, Tryd.ntmps105
  go_wp2_with fail
  rw [← hW]
  clear hW
  go_loopw [5, 6] (fun sv i wr => ∃ (k : Nat) (s : ByteArray), k ≤ ks.length ∧ i = .int .i64 k ∧ sv = .string s ∧ Hid (s = bt (joinT l (ks.take k))) ∧ s.size ≤ 13 * k ∧ wr = W) (fun _ i _ => ks.length - (intOf i).toNat)
  case atStart => exact ⟨0, _, Nat.zero_le _, rfl, rfl, rfl, Nat.zero_le _, rfl⟩
  case round =>
    obtain ⟨k, s, hkl2, rfl, rfl, hsv, hss, rfl⟩ := hrel
    by_cases hlt : k < ks.length
    · obtain ⟨bk, ok, rfl, hbk, hck⟩ := hk.resolve_left (by intro e; simp [e] at hlt)
      have hckk := (hW1.cell (p := ⟨bk, ok + k, none⟩) (show bk < w.heap.size by omega)).trans (hck k hlt)
      obtain ⟨y, hy⟩ : ∃ y, y = ks[k]?.getD 0 := ⟨_, rfl⟩
      have hyin := HIn.out (ks[k]?.getD 0) (by simp [hlt])
      have hcn := (hW1.cell (p := ⟨b, off + (y - 1).toNat * 3, none⟩) (show b < w.heap.size by omega)).trans (HC.out (y - 1).toNat (by omega)).c0
      have HNm : Hid ((l[(y - 1).toNat]?.getD ruleNil).name = bt (nm l y)) := bt_of _
      rw [← hy] at hckk hyin
      have HT : Hid (ks.take (k + 1) = ks.take k ++ [y]) := by rw [Hid, hy]; exact take_next ks hlt
      have hlt1 : (k : Int) < (ks.length : Int) := by omega
      have hsn := HSz.out (y - 1).toNat (by omega)
      clear hck hk HC HIn hy HSz
      generalize (l[(y - 1).toNat]?.getD ruleNil).name = nn at *
      generalize hj : (y - 1).toNat = j at *
      obtain rfl : y = (j : Int) + 1 := by omega
      have hbW : b < wr.heap.size := by omega
      have hbkW : bk < wr.heap.size := by omega
      have hjl : (j : Int) < (l.length : Int) := by omega
      clear hj
      have hwr : wrap64 ((j : Int) + 1 - 1) = (j : Int) := by rw [Int.add_sub_cancel]; unfold wrap64; omega
      have hq1 : ¬ 9223372036854775807 < s.size + 1 := by omega
      have hq2 : ¬ 9223372036854775807 < s.size + nn.size := by omega
      have hq3 : ¬ 9223372036854775807 < s.size + 1 + nn.size := by omega
      by_cases hk0 : k = 0
      · subst hk0
        simp only [Nat.add_zero] at hckk
        go_wp2_with fail
        refine ⟨⟨0 + 1, _, by omega, by go_num, rfl, ?_, ?_, trivial⟩, by simp [intOf]; omega⟩
        · rw [Hid, HT.out, hsv.out, HNm.out, bt_add]
          simp [joinT, glue]
        · rw [ByteArray.size_append]; omega
      · have hk1 : (0 : Int) < (k : Int) := by omega
        go_wp2_with fail
        refine ⟨⟨k + 1, _, by omega, by go_num, rfl, ?_, ?_, trivial⟩, by simp [intOf]; omega⟩
        · rw [Hid, HT.out, hsv.out, HNm.out, join_next l (by intro e; have := congrArg List.length e; rw [List.length_take, List.length_nil] at this; omega)]
          show bt _ ++ bt [124] ++ bt _ = _
          rw [bt_add, bt_add, List.append_assoc]; rfl
        · rw [ByteArray.size_append, ByteArray.size_append]
          show s.size + 1 + nn.size ≤ _
          omega
    · have HS : Hid (s = bt (joinT l ks)) := by have := hsv.out; rwa [List.take_of_length_le (by omega)] at this
      clear hk hsv
      obtain hm | hm | hm | hm : m = 0 ∨ m = 1 ∨ m = 2 ∨ m = 3 := by omega
      all_goals
        subst hm
        have hq0 : ¬ 9223372036854775807 < s.size := by omega
        have hq1 : ¬ 9223372036854775807 < s.size + 1 := by omega
        go_wp2_with fail
        go_ret
        refine ⟨_, rfl, ?_, ?_, hW1.alloc (by omega) _⟩
        · rw [Hid, HS.out]; show bt _ ++ bt _ = _; rw [bt_add]; rfl
        · rw [ByteArray.size_append]
          refine Nat.le_trans (Nat.add_le_add_right hss _) ?_
          show 13 * k + _ ≤ _
          first | (show 13 * k + 1 ≤ _; omega) | (show 13 * k + 0 ≤ _; omega)
end Go.Proofs.YtmcopoonnhcdjaaDoor
