/-
  What the program's ruleLine answers.
-/
import Derived.Test.YtmcopoonnhcdjaaDoorTermWord
namespace Go.Proofs.YtmcopoonnhcdjaaDoor
open Go.RowKit

theorem join_glue (c : UInt8) (w : List UInt8) (ws : List (List UInt8)) : Lib.join (w :: ws) [c] = w ++ glue c ws := by
  unfold Lib.join
  induction ws generalizing w with
  | nil => simp [List.intercalate, glue]
  | cons w2 ws ih =>
    have := ih w2
    simp only [List.intercalate, List.intersperse, List.flatten_cons] at this ⊢
    rw [this]
    simp [glue]

theorem glue_len (c : UInt8) (ws : List (List UInt8)) (h : ∀ w ∈ ws, w.length ≤ 105) : (glue c ws).length ≤ 106 * ws.length := by
  induction ws with
  | nil => simp [glue]
  | cons w ws ih =>
    have h1 := ih (fun w hw => h w (by simp [hw]))
    have h2 := h w (by simp)
    simp only [glue, List.flatMap_cons, List.length_append, List.length_cons] at h1 ⊢
    omega

theorem termT_len {l : List PRule} (h : SchemaP l) {t : PTerm} (ht : TermP l.length t) : (termT l t).length ≤ 105 := by
  have h1 := join_len l t.kinds fun y hy => by
    have h1 := up_in ht y hy
    have := (h.rules (l[(y - 1).toNat]?.getD ruleNil) (by rw [List.getElem?_eq_getElem (by omega)]; exact List.getElem_mem _)).name.2.1
    simpa [nm, nameAt] using this
  have h2 : (markT t.many).length ≤ 1 := by
    unfold markT
    split
    · simp
    · split
      · simp
      · split <;> simp
  have h3 := ht.up.len ht.some
  have h4 := h.few
  simp only [termT, List.length_append]
  omega

theorem text_row_one (w : World) (base : Nat) (hb : base ≤ w.heap.size) (s : ByteArray) : (w.alloc (.cells #[.string s] 9)).ownsRow base 9 1 (.slice (some ⟨w.heap.size, 0, none⟩) 1 1) 1 [.string s] :=
  ⟨by simp, .inr ⟨w.heap.size, 1, #[.string s], rfl, hb, (MapKept.heap_alloc w _).1, Nat.le_refl _, by unfold maxLen; omega, rfl, by simp⟩⟩

theorem text_row_at (w : World) (base n : Nat) (hb : base ≤ w.heap.size) (e : w.heap.size = n) (s : ByteArray) : (w.alloc (.cells #[.string s] 9)).ownsRow base 9 1 (.slice (some ⟨n, 0, none⟩) 1 1) 1 [.string s] := by
  subst e; exact text_row_one w base hb s

/-- The words of a line. -/
def wordsB (l : List PRule) (x : PRule) (k : Nat) : List ByteArray := ([bt (x.name.data.toList ++ [58])] ++ (if x.leaf then [bt [116, 101, 120, 116]] else [])) ++ (x.terms.take k).map fun t => bt (termT l t)

theorem words_join (l : List PRule) (x : PRule) : Lib.join ((wordsB l x x.terms.length).map (·.data.toList)) [32] = lineT l x := by
  unfold wordsB
  rw [List.take_of_length_le (Nat.le_refl _), List.append_assoc, List.singleton_append, List.map_cons, join_glue]
  unfold lineT restT
  cases x.leaf <;> simp [glue, bt, List.flatMap_map, Function.comp_def]

theorem line_len {l : List PRule} (h : SchemaP l) {x : PRule} (hx : RuleP l.length x) : (lineT l x).length ≤ 1000 := by
  have h1 := hx.name.2.1
  have h2 := glue_len 32 (x.terms.map (termT l)) (by intro w hw; obtain ⟨t, ht, rfl⟩ := List.mem_map.1 hw; exact termT_len h (hx.terms.all t ht))
  have h3 := hx.terms.len
  have h4 : (if x.leaf then ([32, 116, 101, 120, 116] : List UInt8) else []).length ≤ 5 := by split <;> simp
  have h5 : x.name.data.toList.length = x.name.size := by simp
  rw [List.length_map] at h2
  simp only [lineT, restT, List.length_append, List.length_cons, h5]
  omega

theorem words_next (l : List PRule) (x : PRule) {k : Nat} (h : k < x.terms.length) : (wordsB l x (k + 1)).map Value.string = (wordsB l x k).map Value.string ++ [Value.string (bt (termT l (x.terms[k]?.getD termNil)))] := by
  unfold wordsB
  rw [take_map_next _ x.terms termNil h]
  simp

set_option maxHeartbeats 2000000 in
set_option maxRecDepth 100000 in
theorem ruleLine_any (n₀ : Nat) (v vr : Value) (l : List PRule) (x : PRule) (w : World) (h : RulesAt n₀ w v l) (hx : RuleVal n₀ w vr x) (hn : n₀ ≤ w.heap.size) (hs : SchemaP l) (hp : RuleP l.length x) (hA : AmtAt w) :
    Calls Tryd.prog 61 #[v, vr] w fun e w' => ∃ s, e = .returned (.string s) ∧ Hid (s = bt (lineT l x)) ∧ Below w.heap.size w w' := by
  obtain ⟨i0, hinf, hz0, hz1, hz2⟩ := info_parts infoText
  obtain ⟨kv, rfl, hk⟩ := hx
  have HD := hide h
  have HAm := hide hA
  have HSch := hide hs
  have HTm := hide hp.terms.all
  have hln := hp.terms.len
  have hnn := hp.name.2.1
  have hlen := line_len hs hp
  obtain ⟨ak, ck, rfl, hk⟩ := hk
  obtain ⟨a, cap, rfl, -⟩ := h
  clear hs hp hA
  obtain ⟨W, hW⟩ : ∃ W, W = w.alloc (.cells #[.string x.name, .bool x.leaf, .slice ak x.terms.length ck] 72) := ⟨_, rfl⟩
  have hW1 : Below w.heap.size w W := by rw [hW]; exact (Below.refl _ _).alloc (Nat.le_refl _) _
  have hWs : W.heap.size = w.heap.size + 1 := by rw [hW]; simp
  have bh : W.heap[w.heap.size]? = some (.cells #[.string x.name, .bool x.leaf, .slice ak x.terms.length ck] 72 (0, 0)) := by rw [hW]; exact alloc_new w _
  have x2 := cell_of_heap bh 2
  have hwlt : w.heap.size < W.heap.size := by omega
  clear bh
  simp only [List.getElem?_toArray, List.getElem?_cons_zero, List.getElem?_cons_succ] at x2
  have HT : Hid (∀ t ∈ x.terms, ∀ kv wx, IntsAt n₀ wx kv t.kinds → Below w.heap.size w wx → Calls Tryd.prog 87 #[.slice a l.length cap, .agg #[kv, .int .i64 t.many]] wx fun e w' => ∃ s, e = .returned (.string s) ∧ Hid (s = bt (termT l t)) ∧ s.size ≤ 105 ∧ Below wx.heap.size wx w') := fun t ht kv wx hi hb =>
    termWord_any n₀ _ _ l t wx (HD.out.below (Nat.le_refl _) (hb.mono hn)) ⟨kv, rfl, hi⟩ (by have := hb.size; omega) HSch.out (HTm.out t ht) (HAm.out.below hb)
  have hq0 : ¬ 9223372036854775807 < x.name.size + 1 := by omega
  have HJoin := hide (words_join l x)
  have HNext : Hid (∀ k, k < x.terms.length → (wordsB l x (k + 1)).map Value.string = (wordsB l x k).map Value.string ++ [Value.string (bt (termT l (x.terms[k]?.getD termNil)))]) := fun k hk => words_next l x hk
  obtain ⟨hd, hhd⟩ : ∃ hd, hd = x.name ++ ⟨#[58]⟩ := ⟨_, rfl⟩
  have HHd : Hid (hd = bt (x.name.data.toList ++ [58])) := by rw [Hid, hhd]; conv => { lhs; lhs; rw [bt_of x.name] }; exact bt_add _ [58]
  obtain ⟨wd, hwd⟩ : ∃ wd : Nat → List ByteArray, wd = wordsB l x := ⟨_, rfl⟩
  have HW0 : Hid (wd 0 = [hd] ++ (if x.leaf then [bt [116, 101, 120, 116]] else [])) := by rw [Hid, hwd, HHd.out]; simp [wordsB]
  have HWl : Hid (∀ k, k ≤ x.terms.length → (wd k).length = (if x.leaf then 2 else 1) + k) := fun k hk => by
    rw [hwd]; unfold wordsB
    cases x.leaf <;> simp [Nat.min_eq_left hk] <;> omega
  rw [← hwd] at HJoin HNext
  have HR0 := hide (text_row_at W W.heap.size (w.heap.size + 1) (Nat.le_refl _) hWs hd)
  have HC1 : Hid (∀ j u, [Value.string ⟨#[116, 101, 120, 116]⟩][j]? = some u → ((W.alloc (.cells #[.string hd] 9)).alloc (.cells #[.string ⟨#[116, 101, 120, 116]⟩] 9)).cell? ((⟨w.heap.size + 1 + 1, 0, none⟩ : Addr).add j) = some u) := by
    have := cell_one_new (W.alloc (.cells #[.string hd] 9)) (Value.string ⟨#[116, 101, 120, 116]⟩) 9
    rwa [World.size_alloc, hWs] at this
  clear HHd hwd
  obtain ⟨xn, xl, ts⟩ := x
  dsimp only at *
  clear HTm HSch
  cases xl with
  | false =>
    go_enter Tryd.func61, Tryd.ntmps61
    go_wp2_with fail
    rw [← hW, ← hhd]
    clear hW hhd
    go_loopw [5, 20] (fun ov i wr => ∃ k : Nat, k ≤ ts.length ∧ i = .int .i64 k ∧ Hid (wr.ownsRow W.heap.size 9 1 ov (1 + k) ((wd k).map Value.string)) ∧ Below W.heap.size W wr) (fun _ i _ => ts.length - (intOf i).toNat)
    case atStart => exact ⟨0, Nat.zero_le _, rfl, by rw [Hid, HW0.out]; exact HR0.out, (Below.refl _ _).alloc (Nat.le_refl _) _⟩
    case round =>
      obtain ⟨k, hkl2, rfl, hrow, hbr⟩ := hrel
      have hbr' := hW1.trans (hbr.mono (by omega))
      have hsz := hbr.size
      by_cases hlt : k < ts.length
      · obtain ⟨ar, cr, rfl⟩ := text_row_shape hrow.out
        obtain ⟨bk, ok, rfl, hbk, hck⟩ := hk.resolve_left (by intro e; simp [e] at hlt)
        have hA := (hck k hlt).below hbk (Nat.le_refl _) (hbr'.mono hn)
        have HTk := hide (HT.out (ts[k]?.getD termNil) (by simp [hlt]))
        have HNx := hide (HNext.out k hlt)
        have g1 := hA.c1
        obtain ⟨kv, g0, hi⟩ := hA.c0
        have HIk := hide hi
        obtain ⟨ai, ci, rfl, -⟩ := hi
        have hbkW : bk < wr.heap.size := by omega
        have hlt1 : (k : Int) < (ts.length : Int) := by omega
        clear hck hk hA HT HNext
        generalize ts[k]?.getD termNil = t at *
        have hal := hbr'.alloc (by omega) (.cells #[.slice ai t.kinds.length ci, .int .i64 t.many] 126)
        have hal1 := hbr.alloc (by omega) (.cells #[.slice ai t.kinds.length ci, .int .i64 t.many] 126)
        have HIk1 : Hid (IntsAt n₀ (wr.alloc (.cells #[.slice ai t.kinds.length ci, .int .i64 t.many] 126)) (.slice ai t.kinds.length ci) t.kinds) := HIk.out.below (Nat.le_refl _) ((Below.refl _ _).alloc (by omega) _)
        go_wp2_with fail
        refine (HTk.out _ _ HIk1.out hal).mono ?_
        rintro e w1 ⟨u, rfl, hu, huz, hb1⟩
        have hrow1 := ownsRow_below (hrow.out.alloc _) hb1
        have hs1 := hb1.size
        have hs2 := hal1.size
        have hbr1 := hal1.trans (hb1.mono hs2)
        have hs3 := hbr1.size
        clear hrow
        go_wp2_with (at_builtin; refine wpList_append_own _ rfl _ _ 55 rfl W.heap.size 9 i0 (.string ⟨#[]⟩) 1 16 Tryd.underlying55 hinf hz0 hz1 hz2 rfl (by decide) _ _ _ rfl (hrow1.alloc _) ⟨w1.heap.size, 0, none⟩ 1 1 [Value.string u] rfl rfl (cell_one_new _ _ _) (one_text _) (by unfold maxLen; omega) (by omega) (by simp; omega) ?_; intro v' w2 hown' hgrow _)
        have hb3 := (hbr1.alloc (by omega) (.cells #[.string u] 9)).grown hgrow (by simp; omega) (fun g hg => (hrow1.lt g hg).1)
        refine ⟨⟨k + 1, by omega, by go_num, ?_, hb3⟩, by simp [intOf]; omega⟩
        rw [Hid, HNx.out, ← hu.out]; exact hown'
      · have e : k = ts.length := by omega
        have hwl := HWl.out k (by omega)
        obtain ⟨g, c, rfl, hcap, hglt⟩ := text_row_some hrow.out (by omega)
        have hcells := hrow.out.cells (g := g) rfl
        have HJ : Hid (Calls Tryd.prog 88 #[.slice (some ⟨g, 0, none⟩) (1 + ts.length) c, .string ⟨#[32]⟩] wr fun e w' => e = .returned (.string (bt (lineT l ⟨xn, false, ts⟩))) ∧ Below wr.heap.size wr w') := by
          have hcs : ∀ (j : Nat) x, (wd k)[j]? = some x → wr.cell? ⟨g, 0 + j, none⟩ = some (.string x) := fun j x hx => by
            have := hcells j (.string x) (by rw [List.getElem?_map, hx]; rfl)
            rw [Go.WideShapes.add_plain] at this
            exact this
          have hwl' : (wd k).length = 1 + ts.length := by rw [hwl, e]; rfl
          have hjn : Lib.join ((wd k).map (·.data.toList)) (⟨#[32]⟩ : ByteArray).data.toList = lineT l ⟨xn, false, ts⟩ := by rw [e]; exact HJoin.out
          have hJ := Tryd.strings_Join g 0 c (wd k) ⟨#[32]⟩ wr hcs hglt (by omega) (by omega) (by rw [hjn]; omega)
          rw [hjn, hwl'] at hJ
          exact hJ
        clear hcells hrow hk HT HNext
        subst e
        go_wp2_with fail
        refine HJ.out.mono ?_
        rintro e w1 ⟨rfl, hb1⟩
        go_wp2_with fail
        go_ret
        exact ⟨_, rfl, rfl, hbr'.trans (hb1.mono (by omega))⟩
  | true =>
    have HR0u := hide (text_row_at W (w.heap.size + 1) (w.heap.size + 1) (by omega) hWs hd)
    have HC1u := HC1
    rw [hW, hhd] at HR0u HC1u
    go_enter Tryd.func61, Tryd.ntmps61
    go_wp2_with (at_builtin; (refine wpList_append_own _ rfl _ _ 55 rfl (w.heap.size + 1) 9 i0 (.string ⟨#[]⟩) 1 16 Tryd.underlying55 hinf hz0 hz1 hz2 rfl (by decide) _ _ _ rfl (HR0u.out.alloc _) ⟨w.heap.size + 1 + 1, 0, none⟩ 1 1 [Value.string ⟨#[116, 101, 120, 116]⟩] rfl rfl HC1u.out (one_text _) (by unfold maxLen; omega) (by omega) (by simp) ?_; intro v' w2 hown' hgrow _; rewrite [← hW, ← hhd] at hgrow; rewrite [← hhd] at hown'; have hb3 := (((Below.refl W.heap.size W).alloc (Nat.le_refl _) (.cells #[.string hd] 9)).alloc (by simp) (.cells #[.string ⟨#[116, 101, 120, 116]⟩] 9)).grown hgrow (by rewrite [World.size_alloc, World.size_alloc]; exact Nat.le_add_right _ 2) (fun g hg => (HR0.out.lt g hg).1); obtain ⟨g1, c1, rfl, -, -⟩ := text_row_some hown' (Nat.succ_pos 1); have x2w := (hb3.cell (p := ⟨w.heap.size, 2, none⟩) hwlt).trans x2; have hzw := hb3.size; have hzw2 : w.heap.size < w2.heap.size := Nat.lt_of_lt_of_le hwlt hzw; have HOwn := hide hown'; clear hgrow hown'))
    clear hW hhd HR0u HC1u
    go_loopw [5, 20] (fun ov i wr => ∃ k : Nat, k ≤ ts.length ∧ i = .int .i64 k ∧ Hid (wr.ownsRow W.heap.size 9 1 ov (2 + k) ((wd k).map Value.string)) ∧ Below W.heap.size W wr) (fun _ i _ => ts.length - (intOf i).toNat)
    case atStart => exact ⟨0, Nat.zero_le _, rfl, by rw [Hid, HW0.out, hWs]; exact HOwn.out, hb3⟩
    case round =>
      obtain ⟨k, hkl2, rfl, hrow, hbr⟩ := hrel
      have hbr' := hW1.trans (hbr.mono (by omega))
      have hsz := hbr.size
      by_cases hlt : k < ts.length
      · obtain ⟨ar, cr, rfl⟩ := text_row_shape hrow.out
        obtain ⟨bk, ok, rfl, hbk, hck⟩ := hk.resolve_left (by intro e; simp [e] at hlt)
        have hA := (hck k hlt).below hbk (Nat.le_refl _) (hbr'.mono hn)
        have HTk := hide (HT.out (ts[k]?.getD termNil) (by simp [hlt]))
        have HNx := hide (HNext.out k hlt)
        have g1 := hA.c1
        obtain ⟨kv, g0, hi⟩ := hA.c0
        have HIk := hide hi
        obtain ⟨ai, ci, rfl, -⟩ := hi
        have hbkW : bk < wr.heap.size := by omega
        have hlt1 : (k : Int) < (ts.length : Int) := by omega
        clear hck hk hA HT HNext
        generalize ts[k]?.getD termNil = t at *
        have hal := hbr'.alloc (by omega) (.cells #[.slice ai t.kinds.length ci, .int .i64 t.many] 126)
        have hal1 := hbr.alloc (by omega) (.cells #[.slice ai t.kinds.length ci, .int .i64 t.many] 126)
        have HIk1 : Hid (IntsAt n₀ (wr.alloc (.cells #[.slice ai t.kinds.length ci, .int .i64 t.many] 126)) (.slice ai t.kinds.length ci) t.kinds) := HIk.out.below (Nat.le_refl _) ((Below.refl _ _).alloc (by omega) _)
        go_wp2_with fail
        refine (HTk.out _ _ HIk1.out hal).mono ?_
        rintro e w1 ⟨u, rfl, hu, huz, hb1⟩
        have hrow1 := ownsRow_below (hrow.out.alloc _) hb1
        have hs1 := hb1.size
        have hs2 := hal1.size
        have hbr1 := hal1.trans (hb1.mono hs2)
        have hs3 := hbr1.size
        clear hrow
        go_wp2_with (at_builtin; refine wpList_append_own _ rfl _ _ 55 rfl W.heap.size 9 i0 (.string ⟨#[]⟩) 1 16 Tryd.underlying55 hinf hz0 hz1 hz2 rfl (by decide) _ _ _ rfl (hrow1.alloc _) ⟨w1.heap.size, 0, none⟩ 1 1 [Value.string u] rfl rfl (cell_one_new _ _ _) (one_text _) (by unfold maxLen; omega) (by omega) (by simp; omega) ?_; intro v' w2 hown' hgrow _)
        have hb3 := (hbr1.alloc (by omega) (.cells #[.string u] 9)).grown hgrow (by simp; omega) (fun g hg => (hrow1.lt g hg).1)
        refine ⟨⟨k + 1, by omega, by go_num, ?_, hb3⟩, by simp [intOf]; omega⟩
        rw [Hid, HNx.out, ← hu.out]; exact hown'
      · have e : k = ts.length := by omega
        have hwl := HWl.out k (by omega)
        obtain ⟨g, c, rfl, hcap, hglt⟩ := text_row_some hrow.out (by omega)
        have hcells := hrow.out.cells (g := g) rfl
        have HJ : Hid (Calls Tryd.prog 88 #[.slice (some ⟨g, 0, none⟩) (2 + ts.length) c, .string ⟨#[32]⟩] wr fun e w' => e = .returned (.string (bt (lineT l ⟨xn, true, ts⟩))) ∧ Below wr.heap.size wr w') := by
          have hcs : ∀ (j : Nat) x, (wd k)[j]? = some x → wr.cell? ⟨g, 0 + j, none⟩ = some (.string x) := fun j x hx => by
            have := hcells j (.string x) (by rw [List.getElem?_map, hx]; rfl)
            rw [Go.WideShapes.add_plain] at this
            exact this
          have hwl' : (wd k).length = 2 + ts.length := by rw [hwl, e]; rfl
          have hjn : Lib.join ((wd k).map (·.data.toList)) (⟨#[32]⟩ : ByteArray).data.toList = lineT l ⟨xn, true, ts⟩ := by rw [e]; exact HJoin.out
          have hJ := Tryd.strings_Join g 0 c (wd k) ⟨#[32]⟩ wr hcs hglt (by omega) (by omega) (by rw [hjn]; omega)
          rw [hjn, hwl'] at hJ
          exact hJ
        clear hcells hrow hk HT HNext
        subst e
        go_wp2_with fail
        refine HJ.out.mono ?_
        rintro e w1 ⟨rfl, hb1⟩
        go_wp2_with fail
        go_ret
        exact ⟨_, rfl, rfl, hbr'.trans (hb1.mono (by omega))⟩
end Go.Proofs.YtmcopoonnhcdjaaDoor
