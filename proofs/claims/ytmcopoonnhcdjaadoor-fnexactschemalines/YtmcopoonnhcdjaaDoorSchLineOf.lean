/-
  What the specification's l03Line answers.
-/
import Derived.Test.YtmcopoonnhcdjaaDoorSchLine
namespace Go.Proofs.YtmcopoonnhcdjaaDoor
open Go.RowKit

theorem glue_next (c : UInt8) (ws : List (List UInt8)) (w : List UInt8) : glue c (ws ++ [w]) = glue c ws ++ c :: w := by
  simp [glue]

theorem take_map_next {α β : Type} (f : α → β) (ts : List α) (d : α) {k : Nat} (h : k < ts.length) : (ts.take (k + 1)).map f = (ts.take k).map f ++ [f (ts[k]?.getD d)] := by
  rw [List.take_succ_eq_append_getElem h, List.map_append, List.map_cons, List.map_nil, List.getElem?_eq_getElem h, Option.getD_some]

/-- A line's head: the name, ':' and, of a leaf, the word. -/
def headT (x : PRule) : List UInt8 := x.name.data.toList ++ 58 :: (if x.leaf then [32, 116, 101, 120, 116] else [])
theorem lineT_head (l : List PRule) (x : PRule) : lineT l x = headT x ++ glue 32 (x.terms.map (termT l)) := by
  simp [lineT, headT, restT]

set_option maxHeartbeats 1000000 in
set_option maxRecDepth 100000 in
theorem specLine_any (n₀ : Nat) (v vr : Value) (l : List PRule) (x : PRule) (w : World) (h : RulesAt n₀ w v l) (hx : RuleVal n₀ w vr x) (hn : n₀ ≤ w.heap.size) (hs : SchemaP l) (hp : RuleP l.length x) :
    Calls Tryd.prog 86 #[v, vr] w fun e w' => ∃ s, e = .returned (.string s) ∧ Hid (s = bt (lineT l x)) ∧ Below w.heap.size w w' := by
  obtain ⟨kv, rfl, hk⟩ := hx
  have HD := hide h
  have HSch := hide hs
  have HTm := hide hp.terms.all
  have hln := hp.terms.len
  have hnn := hp.name.2.1
  have HLine := hide (lineT_head l x)
  obtain ⟨ak, ck, rfl, hk⟩ := hk
  obtain ⟨a, cap, rfl, -⟩ := h
  clear hs hp
  obtain ⟨W, hW⟩ : ∃ W, W = w.alloc (.cells #[.string x.name, .bool x.leaf, .slice ak x.terms.length ck] 72) := ⟨_, rfl⟩
  have hW1 : Below w.heap.size w W := by rw [hW]; exact (Below.refl _ _).alloc (Nat.le_refl _) _
  have hWs : W.heap.size = w.heap.size + 1 := by rw [hW]; simp
  have bh : W.heap[w.heap.size]? = some (.cells #[.string x.name, .bool x.leaf, .slice ak x.terms.length ck] 72 (0, 0)) := by rw [hW]; exact alloc_new w _
  have x2 := cell_of_heap bh 2
  have hwlt : w.heap.size < W.heap.size := by omega
  clear bh
  simp only [List.getElem?_toArray, List.getElem?_cons_zero, List.getElem?_cons_succ] at x2
  have HT : Hid (∀ t ∈ x.terms, ∀ kv wx, IntsAt n₀ wx kv t.kinds → Below w.heap.size w wx → Calls Tryd.prog 105 #[.slice a l.length cap, .agg #[kv, .int .i64 t.many]] wx fun e w' => ∃ s, e = .returned (.string s) ∧ Hid (s = bt (termT l t)) ∧ s.size ≤ 105 ∧ Below wx.heap.size wx w') := fun t ht kv wx hi hb =>
    specTermText_any n₀ _ _ l t wx (HD.out.below (Nat.le_refl _) (hb.mono hn)) ⟨kv, rfl, hi⟩ (by have := hb.size; omega) HSch.out (HTm.out t ht)
  have hq0 : ¬ 9223372036854775807 < x.name.size + 1 := by omega
  have hq9 : ¬ 9223372036854775807 < x.name.size + 1 + 5 := by omega
  obtain ⟨hdT, hhd⟩ : ∃ hdT, hdT = headT x := ⟨_, rfl⟩
  rw [← hhd] at HLine
  obtain ⟨xn, xl, ts⟩ := x
  dsimp only at *
  clear HTm HSch
  cases xl with
  | false =>
    have HHd : Hid (hdT = xn.data.toList ++ 58 :: []) := by rw [Hid, hhd]; rfl
    clear hhd
    go_enter Tryd.func86, Tryd.ntmps86
    go_wp2_with fail
    rw [← hW]
    clear hW
    go_loopw [5, 6] (fun sv i wr => ∃ (k : Nat) (s : ByteArray), k ≤ ts.length ∧ i = .int .i64 k ∧ sv = .string s ∧ Hid (s = bt (hdT ++ glue 32 ((ts.take k).map (termT l)))) ∧ s.size ≤ 18 + 106 * k ∧ Below W.heap.size W wr) (fun _ i _ => ts.length - (intOf i).toNat)
    case atStart =>
      refine ⟨0, _, Nat.zero_le _, rfl, rfl, ?_, ?_, Below.refl _ _⟩
      · rw [Hid, HHd.out]
        rw [bt_of xn]
        show bt _ ++ bt [58] = _
        rw [bt_add]
        simp [bt, glue]
      · rw [ByteArray.size_append]; show xn.size + 1 ≤ _; omega
    case round =>
      obtain ⟨k, s, hkl2, rfl, rfl, hsv, hss, hbr⟩ := hrel
      obtain ⟨hcx, -⟩ := bcell hbr
      have x2' := (hcx w.heap.size 2 hwlt).trans x2
      have hbr' := hW1.trans (hbr.mono (by omega))
      have hsz := hbr.size
      have hwlt' : w.heap.size < wr.heap.size := by omega
      clear hcx
      by_cases hlt : k < ts.length
      · obtain ⟨bk, ok, rfl, hbk, hck⟩ := hk.resolve_left (by intro e; simp [e] at hlt)
        have hA := (hck k hlt).below hbk (Nat.le_refl _) (hbr'.mono hn)
        have HTk := hide (HT.out (ts[k]?.getD termNil) (by simp [hlt]))
        have HNx := hide (take_map_next (termT l) ts termNil hlt)
        have g1 := hA.c1
        obtain ⟨kv, g0, hi⟩ := hA.c0
        have HIk := hide hi
        obtain ⟨ai, ci, rfl, -⟩ := hi
        have hbkW : bk < wr.heap.size := by omega
        have hlt1 : (k : Int) < (ts.length : Int) := by omega
        clear hck hk hA HT
        generalize ts[k]?.getD termNil = t at *
        go_wp2_with fail
        refine (HTk.out _ _ HIk.out hbr').mono ?_
        rintro e w1 ⟨u, rfl, hu, huz, hb1⟩
        have hqa : ¬ 9223372036854775807 < 1 + u.size := by omega
        have hqb : ¬ 9223372036854775807 < s.size + (1 + u.size) := by omega
        go_wp2_with fail
        refine ⟨⟨k + 1, _, by omega, by go_num, rfl, ?_, ?_, hbr.trans (hb1.mono hsz)⟩, by simp [intOf]; omega⟩
        · rw [Hid, HNx.out, glue_next, hsv.out, hu.out]
          show bt _ ++ (bt [32] ++ bt _) = _
          rw [bt_add, bt_add, List.append_assoc]; rfl
        · rw [ByteArray.size_append, ByteArray.size_append]
          show s.size + (1 + u.size) ≤ _
          omega
      · have HS : Hid (s = bt (lineT l ⟨xn, false, ts⟩)) := by have := hsv.out; rw [List.take_of_length_le (by omega)] at this; rw [Hid, HLine.out, this]
        clear hk hsv HT
        go_wp2_with fail
        go_ret
        exact ⟨_, rfl, HS, hbr'⟩
  | true =>
    have HHd : Hid (hdT = xn.data.toList ++ 58 :: [32, 116, 101, 120, 116]) := by rw [Hid, hhd]; rfl
    clear hhd
    go_enter Tryd.func86, Tryd.ntmps86
    go_wp2_with fail
    rw [← hW]
    clear hW
    go_loopw [5, 6] (fun sv i wr => ∃ (k : Nat) (s : ByteArray), k ≤ ts.length ∧ i = .int .i64 k ∧ sv = .string s ∧ Hid (s = bt (hdT ++ glue 32 ((ts.take k).map (termT l)))) ∧ s.size ≤ 18 + 106 * k ∧ Below W.heap.size W wr) (fun _ i _ => ts.length - (intOf i).toNat)
    case atStart =>
      refine ⟨0, _, Nat.zero_le _, rfl, rfl, ?_, ?_, Below.refl _ _⟩
      · rw [Hid, HHd.out]
        rw [bt_of xn]
        show bt _ ++ bt [58] ++ bt [32, 116, 101, 120, 116] = _
        rw [bt_add, bt_add]
        simp [bt, glue]
      · rw [ByteArray.size_append, ByteArray.size_append]; show xn.size + 1 + 5 ≤ _; omega
    case round =>
      obtain ⟨k, s, hkl2, rfl, rfl, hsv, hss, hbr⟩ := hrel
      obtain ⟨hcx, -⟩ := bcell hbr
      have x2' := (hcx w.heap.size 2 hwlt).trans x2
      have hbr' := hW1.trans (hbr.mono (by omega))
      have hsz := hbr.size
      have hwlt' : w.heap.size < wr.heap.size := by omega
      clear hcx
      by_cases hlt : k < ts.length
      · obtain ⟨bk, ok, rfl, hbk, hck⟩ := hk.resolve_left (by intro e; simp [e] at hlt)
        have hA := (hck k hlt).below hbk (Nat.le_refl _) (hbr'.mono hn)
        have HTk := hide (HT.out (ts[k]?.getD termNil) (by simp [hlt]))
        have HNx := hide (take_map_next (termT l) ts termNil hlt)
        have g1 := hA.c1
        obtain ⟨kv, g0, hi⟩ := hA.c0
        have HIk := hide hi
        obtain ⟨ai, ci, rfl, -⟩ := hi
        have hbkW : bk < wr.heap.size := by omega
        have hlt1 : (k : Int) < (ts.length : Int) := by omega
        clear hck hk hA HT
        generalize ts[k]?.getD termNil = t at *
        go_wp2_with fail
        refine (HTk.out _ _ HIk.out hbr').mono ?_
        rintro e w1 ⟨u, rfl, hu, huz, hb1⟩
        have hqa : ¬ 9223372036854775807 < 1 + u.size := by omega
        have hqb : ¬ 9223372036854775807 < s.size + (1 + u.size) := by omega
        go_wp2_with fail
        refine ⟨⟨k + 1, _, by omega, by go_num, rfl, ?_, ?_, hbr.trans (hb1.mono hsz)⟩, by simp [intOf]; omega⟩
        · rw [Hid, HNx.out, glue_next, hsv.out, hu.out]
          show bt _ ++ (bt [32] ++ bt _) = _
          rw [bt_add, bt_add, List.append_assoc]; rfl
        · rw [ByteArray.size_append, ByteArray.size_append]
          show s.size + (1 + u.size) ≤ _
          omega
      · have HS : Hid (s = bt (lineT l ⟨xn, true, ts⟩)) := by have := hsv.out; rw [List.take_of_length_le (by omega)] at this; rw [Hid, HLine.out, this]
        clear hk hsv HT
        go_wp2_with fail
        go_ret
        exact ⟨_, rfl, HS, hbr'⟩
end Go.Proofs.YtmcopoonnhcdjaaDoor
