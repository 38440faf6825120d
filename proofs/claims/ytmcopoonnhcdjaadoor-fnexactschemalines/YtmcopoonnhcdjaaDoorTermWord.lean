/-
  What the program's termWord answers: by the shelf's contract of strings.Join.
-/
import Derived.Test.YtmcopoonnhcdjaaDoorSchLines
import Derived.Test.YtmcopoonnhcdjaaDoorAmtAt
import Derived.Test.YtmcopoonnhcdjaaDoorShelf
import Derived.Deep.RegionWith
namespace Go.Proofs.YtmcopoonnhcdjaaDoor
open Go.RowKit

theorem join_inter (l : List PRule) (ks : List Int) : Lib.join (ks.map (nm l)) [124] = joinT l ks := by
  unfold Lib.join
  cases ks with
  | nil => rfl
  | cons k r =>
    show _ = nm l k ++ glue 124 (r.map (nm l))
    induction r generalizing k with
    | nil => simp [List.intercalate, glue]
    | cons k2 r ih =>
      have := ih k2
      simp only [List.map_cons, List.intercalate, List.intersperse, List.flatten_cons] at this ⊢
      rw [this]
      simp [glue]

def nmB (l : List PRule) (k : Int) : ByteArray := nameAt l (k - 1).toNat
theorem nmB_map (l : List PRule) (ks : List Int) : (ks.map (nmB l)).map (·.data.toList) = ks.map (nm l) := by
  simp [nmB, nm, Function.comp_def]

theorem mark_bt (j : Nat) (h : j < 4) : markOfMany j = bt (markT (j : Int)) := by
  obtain rfl | rfl | rfl | rfl : j = 0 ∨ j = 1 ∨ j = 2 ∨ j = 3 := by omega
  all_goals rfl

theorem text_row_some {w : World} {B : Nat} {e : TypeId} {v : Value} {n : Nat} {xs : List Value} (h : w.ownsRow B e 1 v n xs) (hn : 0 < n) : ∃ g c, v = .slice (some ⟨g, 0, none⟩) n c ∧ n ≤ c ∧ g < w.heap.size := by
  obtain ⟨_, ⟨rfl, rfl⟩ | ⟨g, cap, cur, rfl, hg, hh, h1, h2, h3, h4⟩⟩ := h
  · omega
  · exact ⟨g, cap, rfl, h1, (Array.getElem?_eq_some_iff.1 hh).1⟩

theorem join_len (l : List PRule) (ks : List Int) (h : ∀ k ∈ ks, (nm l k).length ≤ 12) : (joinT l ks).length ≤ 13 * ks.length := by
  have hg : ∀ r : List Int, (∀ k ∈ r, (nm l k).length ≤ 12) → (glue 124 (r.map (nm l))).length ≤ 13 * r.length := by
    intro r
    induction r with
    | nil => intro _; simp [glue]
    | cons k r ih =>
      intro hr
      have h1 := ih (fun k hk => hr k (by simp [hk]))
      have h2 := hr k (by simp)
      simp only [glue, List.map_cons, List.flatMap_cons, List.length_append, List.length_cons] at h1 ⊢
      omega
  cases ks with
  | nil => simp [joinT]
  | cons k r =>
    have h1 := hg r (fun k hk => h k (by simp [hk]))
    have h2 := h k (by simp)
    simp only [joinT, List.length_append, List.length_cons]
    omega

set_option maxHeartbeats 2000000 in
set_option maxRecDepth 100000 in
theorem termWord_any (n₀ : Nat) (v vt : Value) (l : List PRule) (t : PTerm) (w : World) (h : RulesAt n₀ w v l) (ht : TermVal n₀ w vt t) (hn : n₀ ≤ w.heap.size) (hs : SchemaP l) (hp : TermP l.length t) (hA : AmtAt w) :
    Calls Tryd.prog 87 #[v, vt] w fun e w' => ∃ s, e = .returned (.string s) ∧ Hid (s = bt (termT l t)) ∧ s.size ≤ 105 ∧ Below w.heap.size w w' := by
  obtain ⟨i0, hinf, hz0, hz1, hz2⟩ := info_parts infoText
  obtain ⟨kv, rfl, hk⟩ := ht
  obtain ⟨a, cap, rfl, hl⟩ := h
  obtain ⟨b, off, rfl, hb, hc⟩ := hl.resolve_left (by intro e; have := hs.one; simp [e] at this)
  obtain ⟨ak, ck, rfl, hk⟩ := hk
  obtain ⟨ks, m⟩ := t
  have hm0 := hp.many0
  have hm3 := hp.many3
  have hlen := hs.few
  have HIn := hide (up_in hp)
  have hne := hp.some
  have hkl := hp.up.len hne
  have HC := hide hc
  have HSz : Hid (∀ j, j < l.length → (l[j]?.getD ruleNil).name.size ≤ 12) := fun j hj => (hs.rules _ (by simp [hj])).name.2.1
  dsimp only at *
  obtain ⟨mj, rfl⟩ : ∃ mj : Nat, m = (mj : Int) := ⟨m.toNat, by omega⟩
  have hmj : mj < 4 := by omega
  have HMk := hide (mark_bt mj hmj)
  have hAm := hA.mark mj hmj
  clear hl hc hs hp
  have hpos : 0 < ks.length := List.length_pos_iff.2 hne
  obtain ⟨W, hW⟩ : ∃ W, W = w.alloc (.cells #[.slice ak ks.length ck, .int .i64 mj] 126) := ⟨_, rfl⟩
  have hW1 : Below w.heap.size w W := by rw [hW]; exact (Below.refl _ _).alloc (Nat.le_refl _) _
  have hWs : W.heap.size = w.heap.size + 1 := by rw [hW]; simp
  have bh : W.heap[w.heap.size]? = some (.cells #[.slice ak ks.length ck, .int .i64 mj] 126 (0, 0)) := by rw [hW]; exact alloc_new w _
  have x1 := cell_of_heap bh 1
  have hwlt : w.heap.size < W.heap.size := by omega
  have hgl : 1 < w.heap.size := World.block_lt_of_cell? w _ hAm
  have hAm1 := (hW1.cell (p := ⟨1, mj * 3, none⟩) hgl).trans hAm
  clear bh hA
  simp only [List.getElem?_toArray, List.getElem?_cons_zero, List.getElem?_cons_succ] at x1
  go_enter Tryd.func87, Tryd.ntmps87
  go_wp2_with fail
  rw [← hW]
  clear hW
  go_loopw [5, 11] (fun ov i wr => ∃ k : Nat, k ≤ ks.length ∧ i = .int .i64 k ∧ Hid (wr.ownsRow W.heap.size 9 1 ov k (((ks.take k).map (nmB l)).map Value.string)) ∧ Below W.heap.size W wr) (fun _ i _ => ks.length - (intOf i).toNat)
  case atStart => exact ⟨0, Nat.zero_le _, rfl, World.ownsRow_nil _ _ _ _, Below.refl _ _⟩
  case round =>
    obtain ⟨k, hkl2, rfl, hrow, hbr⟩ := hrel
    have hbr' := hW1.trans (hbr.mono (by omega))
    have hsz := hbr.size
    obtain ⟨ar, cr, rfl⟩ := text_row_shape hrow.out
    by_cases hlt : k < ks.length
    · obtain ⟨bk, ok, rfl, hbk, hck⟩ := hk.resolve_left (by intro e; simp [e] at hlt)
      have hckk := (hbr'.cell (p := ⟨bk, ok + k, none⟩) (show bk < w.heap.size by omega)).trans (hck k hlt)
      obtain ⟨y, hy⟩ : ∃ y, y = ks[k]?.getD 0 := ⟨_, rfl⟩
      have hyin := HIn.out (ks[k]?.getD 0) (by simp [hlt])
      have hcn := (hbr'.cell (p := ⟨b, off + (y - 1).toNat * 3, none⟩) (show b < w.heap.size by omega)).trans (HC.out (y - 1).toNat (by omega)).c0
      have HNx : Hid (((ks.take (k + 1)).map (nmB l)).map Value.string = ((ks.take k).map (nmB l)).map Value.string ++ [Value.string ((l[(y - 1).toNat]?.getD ruleNil).name)]) := by
        rw [Hid, take_next ks hlt, ← hy]; simp [nmB, nameAt]
      rw [← hy] at hckk hyin
      have hlt1 : (k : Int) < (ks.length : Int) := by omega
      clear hck hk HC HIn hy HSz
      generalize (l[(y - 1).toNat]?.getD ruleNil).name = nn at *
      generalize hj : (y - 1).toNat = j at *
      obtain rfl : y = (j : Int) + 1 := by omega
      clear hj
      have hwr : wrap64 ((j : Int) + 1 - 1) = (j : Int) := by rw [Int.add_sub_cancel]; unfold wrap64; omega
      have hbW : b < wr.heap.size := by omega
      have hbkW : bk < wr.heap.size := by omega
      have hjl : (j : Int) < (l.length : Int) := by omega
      go_wp2_with (at_builtin; refine wpList_append_own _ rfl _ _ 55 rfl W.heap.size 9 i0 (.string ⟨#[]⟩) 1 16 Tryd.underlying55 hinf hz0 hz1 hz2 rfl (by decide) _ _ _ rfl (hrow.out.alloc _) ⟨wr.heap.size, 0, none⟩ 1 1 [Value.string nn] rfl rfl (cell_one_new _ _ _) (one_text _) (by unfold maxLen; omega) (by omega) (by simp; omega) ?_; intro v' w2 hown' hgrow _)
      have hb3 := (hbr.alloc (by omega) (.cells #[.string nn] 9)).grown hgrow (by simp; omega) (fun g hg => (hrow.out.lt g hg).1)
      refine ⟨⟨k + 1, by omega, by go_num, ?_, hb3⟩, by simp [intOf]; omega⟩
      rw [Hid, HNx.out]; exact hown'
    · have e : k = ks.length := by omega
      have hfin := hrow.out
      rw [List.take_of_length_le (by omega)] at hfin
      obtain ⟨g, c, hgc, hcap, hglt⟩ := text_row_some hfin (by omega)
      rw [hgc] at hfin
      obtain ⟨rfl, -, rfl⟩ : ar = some ⟨g, 0, none⟩ ∧ k = k ∧ cr = c := by simpa using hgc
      have hcells := hfin.cells (g := g) rfl
      obtain ⟨s0, hs0⟩ : ∃ s0, s0 = bt (joinT l ks) := ⟨_, rfl⟩
      have hjl : (joinT l ks).length ≤ 13 * ks.length := join_len l ks fun y hy => by
        have h1 := HIn.out y hy
        have := HSz.out (y - 1).toNat (by omega)
        simpa [nm, nameAt] using this
      have hz0 : s0.size ≤ 104 := by
        have : s0.size = (joinT l ks).length := by rw [hs0]; show (joinT l ks).toArray.size = _; simp
        omega
      have HJ : Hid (∀ wx, Below wr.heap.size wr wx → Calls Tryd.prog 88 #[.slice (some ⟨g, 0, none⟩) ks.length cr, .string ⟨#[124]⟩] wx fun e w' => e = .returned (.string s0) ∧ Below wx.heap.size wx w') := fun wx hbx => by
        have hcs : ∀ (j : Nat) x, (ks.map (nmB l))[j]? = some x → wx.cell? ⟨g, 0 + j, none⟩ = some (.string x) := fun j x hx => by
          have := hcells j (.string x) (by rw [List.getElem?_map, hx]; rfl)
          rw [Go.WideShapes.add_plain] at this
          exact (hbx.cell (p := ⟨g, 0 + j, none⟩) hglt).trans this
        have hJ := Tryd.strings_Join g 0 cr (ks.map (nmB l)) ⟨#[124]⟩ wx hcs (by have := hbx.size; omega) (by rw [List.length_map]; omega) (by rw [List.length_map]; omega) (by rw [nmB_map]; show (Lib.join _ [124]).length ≤ _; rw [join_inter]; omega)
        rw [nmB_map, List.length_map] at hJ
        have e2 : (⟨(Lib.join (ks.map (nm l)) (⟨#[124]⟩ : ByteArray).data.toList).toArray⟩ : ByteArray) = s0 := by rw [hs0]; show bt (Lib.join _ [124]) = _; rw [join_inter]
        rw [e2] at hJ
        exact hJ
      have HFin : Hid (s0 ++ markOfMany mj = bt (termT l ⟨ks, (mj : Int)⟩)) := by rw [Hid, hs0, HMk.out, bt_add]; rfl
      have hmz : (markOfMany mj).size ≤ 1 := by
        obtain rfl | rfl | rfl | rfl : mj = 0 ∨ mj = 1 ∨ mj = 2 ∨ mj = 3 := by omega
        all_goals decide
      generalize markOfMany mj = mk at *
      have y1 := (hbr.cell (p := ⟨w.heap.size, 1, none⟩) hwlt).trans x1
      have y2 := (hbr.cell (p := ⟨1, mj * 3, none⟩) (show 1 < W.heap.size by omega)).trans hAm1
      have hq : ¬ 9223372036854775807 < s0.size + mk.size := by omega
      have hwlt' : w.heap.size < wr.heap.size := by omega
      have hgl' : 1 < wr.heap.size := by omega
      have hmj1 : (mj : Int) < 4 := by omega
      clear hcells hrow hfin hgc hk HIn HSz HC x1 hAm1 hAm hs0
      have hd0 : Below wr.heap.size wr wr.drew := (Below.refl _ _).drew
      go_wp2_with fail
      go_region_with (go_at_call 88; (refine (HJ.out _ hd0).mono ?_; rintro e w1 ⟨rfl, hb1⟩; have z1 := (hb1.cell (p := ⟨w.heap.size, 1, none⟩) hwlt').trans y1; have z2 := (hb1.cell (p := ⟨1, mj * 3, none⟩) hgl').trans y2; have hs9 := hb1.size; have hz9 : w.heap.size < w1.heap.size := by simp at hs9; omega))
      all_goals
        go_wp2_with fail
        go_ret
        refine ⟨_, rfl, HFin, ?_, ?_⟩
        · rw [ByteArray.size_append]; omega
        · exact hbr'.trans ((hd0.trans hb1).mono (show w.heap.size ≤ wr.heap.size by omega))
end Go.Proofs.YtmcopoonnhcdjaaDoor
