/-
  slices.Insert of one lock into a list that a call owns.
-/
import Derived.Test.YtfjhpfgffbghdaaJoinL
import Derived.Shelf.Spec.SlicesInsertGrow
namespace Go.Proofs.Ytfjhpfgffbghdaa
open Go.RowKit Go.Shelf

theorem run_copy3 (w : World) (dT sT ty elem : TypeId) (b o dLen dCap : Nat) (a : Addr) (sLen sCap n : Nat) (cs : List Value)
    (hu : Try.prog.underlying dT = some (.slice elem)) (hs : (Try.prog.info? elem).map (·.size) = some 3) (hn : n = Nat.min sLen dLen) (hl : cs.length = n * 3)
    (hsrc : ∀ j v, cs[j]? = some v → w.cell? (a.add j) = some v) (hc : ∀ j, j < cs.length → (w.cell? ⟨b, o + j, none⟩).isSome = true) (hf : ∀ j, j < cs.length → w.frozen? ⟨b, o + j, none⟩ = false) (h1 : ∀ v ∈ cs, v.oneCell' = true) :
    (Builtin.copy_ #[dT, sT] ty #[.slice (some ⟨b, o, none⟩) dLen dCap, .slice (some a) sLen sCap]).run Try.prog w = .ok (goInt n) (w.setCells b o cs) := by
  have hld := run_loadCells_list (P := Try.prog) w a cs hsrc
  have hst := run_storeCells_cells (P := Try.prog) b o cs 0 w (by simpa using hc) (by simpa using hf) h1
  rw [hl] at hld
  cases hq : Try.prog.info? elem with
  | none => simp [hq] at hs
  | some i =>
    have hi : i.size = 3 := by simpa [hq] using hs
    simp [Builtin.copy_, run_underlying hu, Builtin.lenOf, Builtin.firstCells, sizeOf, typeInfo, hq, hi, ← hn, hld, hst]

/-- The cells behind an insertion in place. -/
theorem insert_cells {ad : Int → Nat} {L : List PHold} {x : PHold} {cur : Array Value} {i n cap : Nat} (hn : n = L.length) (hi : i < n) (hnc : n + 1 ≤ cap) (hcs : cur.size = cap * 3) (htk : cur.toList.take (n * 3) = lockVals ad L) :
    (layL (layL cur ((i + 1) * 3) (lockVals ad (L.drop i))) (i * 3) (lockCells ad x)).toList.take ((n + 1) * 3) = lockVals ad (L.take i ++ x :: L.drop i) := by
  have hval : ∀ t, t < n * 3 → cur[t]? = (lockVals ad L)[t]? := fun t ht => by rw [← htk, List.getElem?_take, if_pos ht, Array.getElem?_toList]
  have hl1 : (lockVals ad (L.take i)).length = i * 3 := by rw [lockVals_len, List.length_take]; omega
  have hl2 : (lockVals ad (L.drop i)).length = (n - i) * 3 := by rw [lockVals_len, List.length_drop, hn]
  have hl3 : (lockCells ad x).length = 3 := rfl
  rw [lockVals_app, lockVals_cons]
  apply List.ext_getElem?
  intro t
  by_cases ht : t < (n + 1) * 3
  · rw [List.getElem?_take, if_pos ht, Array.getElem?_toList]
    by_cases h1 : t < i * 3
    · rw [layL_out _ _ _ _ (.inl h1), layL_out _ _ _ _ (.inl (by omega)), hval t (by omega), List.getElem?_append_left (by omega)]
      have e : lockVals ad L = lockVals ad (L.take i) ++ lockVals ad (L.drop i) := by rw [← lockVals_app, List.take_append_drop]
      rw [e, List.getElem?_append_left (by omega)]
    · rw [List.getElem?_append_right (by omega), hl1]
      by_cases h2 : t < (i + 1) * 3
      · rw [layL_in _ _ _ _ (by rw [layL_size]; omega) (by omega) (by omega), List.getElem?_append_left (by omega)]
      · rw [layL_out _ _ _ _ (.inr (by omega)), layL_in _ _ _ _ (by omega) (by omega) (by omega), List.getElem?_append_right (by omega), hl3]
        congr 1; omega
  · rw [List.getElem?_eq_none (by rw [List.length_take]; omega), List.getElem?_eq_none (by rw [List.length_append, List.length_append]; omega)]

set_option maxHeartbeats 4000000 in
set_option maxRecDepth 100000 in
/-- At the end. -/
theorem insertLock_end (ad : Int → Nat) (B vb : Nat) (v : Value) (L : List PHold) (x : PHold) (w : World) (hrow : w.ownsRow B 72 3 v L.length (lockVals ad L)) (hv : w.heap[vb]? = some (.cells #[.int .i64 x.session, .int .i64 x.mode, .pointer (some ⟨ad x.node, 0, none⟩)] 72 (0, 0))) (hL : L.length ≤ 1048576) (hB : B ≤ w.heap.size) :
    Calls Try.prog 70 #[v, .int .i64 L.length, .slice (some ⟨vb, 0, none⟩) 1 1] w fun e w' => ∃ v', e = .returned v' ∧ w'.ownsRow B 72 3 v' (L.length + 1) (lockVals ad (L ++ [x])) ∧ Below B w w' := by
  obtain ⟨i0, hinf, hq0, hq1, hq2⟩ := info_parts lockInfo
  have HRow := hide hrow
  have HNews : Hid (∀ j u, (lockCells ad x)[j]? = some u → w.cell? ((⟨vb, 0, none⟩ : Addr).add j) = some u) := fun j u hu => by
    rw [Go.WideShapes.add_plain, Nat.zero_add, cell_of_heap hv]
    simpa [lockCells] using hu
  have HEnd : Hid (lockVals ad (L ++ [x]) = lockVals ad L ++ lockCells ad x) := lockVals_snoc ad L x
  obtain ⟨a, cap, rfl⟩ := slice_form hrow
  have hcap : L.length ≤ cap := by
    obtain ⟨_, ⟨e, h0⟩ | ⟨g, c, cur, e, _, _, h1, _⟩⟩ := hrow
    · omega
    · simp only [Value.slice.injEq] at e; omega
  clear hrow hv
  go_enter Try.func70, Try.ntmps70
  go_wp2_with (at_builtin; refine wpList_append_own _ rfl _ _ 79 rfl B 72 i0 (.agg #[.int .i64 0, .int .i64 0, .pointer none]) 3 24 Try.underlying79 hinf hq0 hq1 hq2 rfl (by decide) _ _ _ rfl HRow.out ⟨vb, 0, none⟩ 1 1 (lockCells ad x) rfl rfl HNews.out (lockCells_one ad x) (by unfold maxLen; omega) (by omega) (by omega) ?_)
  all_goals
    intro v' w3 hown' hgrow _
    have hb3 := (Below.refl B w).grown hgrow hB (fun g' hg' => by have := (HRow.out.lt g' (by cases a <;> first | exact hg' | cases hg')).1; omega)
    have HR3 : Hid (w3.ownsRow B 72 3 v' (L.length + 1) (lockVals ad (L ++ [x]))) := by rw [Hid, HEnd.out]; exact hown'
    clear hown' hgrow
    go_wp2_with fail
    go_ret
    exact ⟨_, rfl, HR3.out, hb3⟩

theorem size_lock (w : World) : (Go.sizeOf 72).run Try.prog w = .ok 3 w := by kernel_rfl
theorem info_lock : (Try.prog.info? 72).map (·.size) = some 3 := by kernel_rfl

theorem overlaps_lock (w : World) (vb g o lb cb nA nB : Nat) (hne : vb ≠ g) {csA csB : Array Value} (hA : w.heap[vb]? = some (.cells csA 72 (0, 0))) (hB : w.heap[g]? = some (.cells csB 72 (0, 0))) (hz : csB.size ≠ 0) :
    (callFunc 92 #[.slice (some ⟨vb, 0, none⟩) nA nB, .slice (some ⟨g, o, none⟩) lb cb]).run Try.prog w = .ok (.value (.bool false)) w := by
  rw [run_callFunc_extern Try.func92 (by kernel_rfl) (by kernel_rfl) (by kernel_rfl) (e := Extern.SlicesOverlaps.overlaps #[79, 79] #[4]) (by kernel_rfl),
    Lib.run_overlaps_apart w 79 4 72 Try.underlying79 3 size_lock ⟨vb, 0, none⟩ ⟨g, o, none⟩ nA nB lb cb hne 72 72 csA.size csB.size (by simp [World.shape?, hA]) (by simp [World.shape?, hB]) hz (frozen_of_heap hA _) (frozen_of_heap hA _)]
  rfl

set_option maxHeartbeats 4000000 in
set_option maxRecDepth 100000 in
/-- In the middle, where there is room. -/
theorem insertLock_shift (ad : Int → Nat) (B g cap vb i : Nat) (L : List PHold) (x : PHold) (w : World) (hrow : w.ownsRow B 72 3 (.slice (some ⟨g, 0, none⟩) L.length cap) L.length (lockVals ad L)) (hv : w.heap[vb]? = some (.cells #[.int .i64 x.session, .int .i64 x.mode, .pointer (some ⟨ad x.node, 0, none⟩)] 72 (0, 0))) (hne : vb ≠ g) (hi : i < L.length) (hroom : L.length + 1 ≤ cap) (hL : L.length ≤ 1048576) :
    Calls Try.prog 70 #[.slice (some ⟨g, 0, none⟩) L.length cap, .int .i64 i, .slice (some ⟨vb, 0, none⟩) 1 1] w fun e w' => e = .returned (.slice (some ⟨g, 0, none⟩) (L.length + 1) cap) ∧ w'.ownsRow B 72 3 (.slice (some ⟨g, 0, none⟩) (L.length + 1) cap) (L.length + 1) (lockVals ad (L.take i ++ x :: L.drop i)) ∧ Below B w w' := by
  obtain ⟨hlen, ⟨e0, _⟩ | ⟨g', cap', cur, e0, hg, hh, hnc, hcm, hcs, htk⟩⟩ := hrow
  · cases e0
  simp only [Value.slice.injEq, Option.some.injEq, Addr.mk.injEq, and_true, true_and] at e0
  obtain ⟨rfl, rfl⟩ := e0
  obtain ⟨n, hn⟩ : ∃ n, n = L.length := ⟨_, rfl⟩
  rw [← hn] at hlen hnc htk hi hL hroom ⊢
  have hcap : cap ≤ 9223372036854775807 := by have := hcm; simp only [maxLen] at this; omega
  have hval : ∀ t, t < n * 3 → cur[t]? = (lockVals ad L)[t]? := fun t ht => by rw [← htk, List.getElem?_take, if_pos ht, Array.getElem?_toList]
  obtain ⟨mv, hmv⟩ : ∃ mv, mv = lockVals ad (L.drop i) := ⟨_, rfl⟩
  have hl2 : mv.length = (n - i) * 3 := by rw [hmv, lockVals_len, List.length_drop, hn]
  obtain ⟨nw, hnw⟩ : ∃ nw, nw = lockCells ad x := ⟨_, rfl⟩
  have hl3 : nw.length = 3 := by rw [hnw]; rfl
  obtain ⟨j, hj⟩ : ∃ j, j = i + 1 := ⟨_, rfl⟩
  have hcell : ∀ t, t < cap * 3 → (w.cell? ⟨g, t, none⟩).isSome = true := fun t ht => by rw [cell_of_heap hh, Array.getElem?_eq_getElem (by omega)]; rfl
  have hcp1 : ∀ ty dc sc, (Builtin.copy_ #[79, 79] ty #[.slice (some ⟨g, j * 3, none⟩) (n + 1 - j) dc, .slice (some ⟨g, i * 3, none⟩) (n + 1 - i) sc]).run Try.prog w.drew = .ok (goInt ((n - i : Nat) : Int)) (w.drew.setCells g (j * 3) mv) := fun ty dc sc =>
    run_copy3 w.drew _ _ ty 72 g (j * 3) (n + 1 - j) dc ⟨g, i * 3, none⟩ (n + 1 - i) sc (n - i) mv Try.underlying79 info_lock (by simp only [Nat.min_def]; split <;> omega) hl2
      (fun t u hu => by
        have ht : t < (n - i) * 3 := by have := (List.getElem?_eq_some_iff.1 hu).1; omega
        rw [Go.WideShapes.add_plain, World.cell?_drew, cell_of_heap hh, hval _ (by omega)]
        have e : lockVals ad L = lockVals ad (L.take i) ++ lockVals ad (L.drop i) := by rw [← lockVals_app, List.take_append_drop]
        have hl1 : (lockVals ad (L.take i)).length = i * 3 := by rw [lockVals_len, List.length_take]; omega
        rw [e, List.getElem?_append_right (by omega), hl1, ← hmv, show i * 3 + t - i * 3 = t by omega]
        exact hu)
      (fun t ht => by rw [World.cell?_drew]; exact hcell _ (by omega)) (fun t _ => frozen_of_heap (w := w) hh _) (by rw [hmv]; exact lockVals_one _ _)
  obtain ⟨W1, hW1⟩ : ∃ W1, W1 = w.drew.setCells g (j * 3) mv := ⟨_, rfl⟩
  have hh1 : W1.heap[g]? = some (.cells (layL cur (j * 3) mv) 72 (0, 0)) := by rw [hW1]; exact heap_setCells_in g _ mv (j * 3) w.drew cur hh
  have hsz1 : (layL cur (j * 3) mv).size = cap * 3 := by rw [layL_size]; exact hcs
  have hb1 : Below B w W1 := by rw [hW1]; exact below_setCells B g hg mv _ w w.drew (Below.refl _ _).drew
  have hv1 : W1.heap[vb]? = some (.cells #[.int .i64 x.session, .int .i64 x.mode, .pointer (some ⟨ad x.node, 0, none⟩)] 72 (0, 0)) := by
    rw [hW1]
    have : ∀ (vs : List Value) (o : Nat) (w : World), (w.setCells g o vs).heap[vb]? = w.heap[vb]? := fun vs => by
      induction vs with
      | nil => intro o w; rfl
      | cons u us ih => intro o w; rw [World.setCells, ih, heap_setCell_other _ _ _ _ (by exact hne)]
    rw [this]; exact hv
  have hcp2 : ∀ ty dc, (Builtin.copy_ #[79, 79] ty #[.slice (some ⟨g, i * 3, none⟩) (n + 1 - i) dc, .slice (some ⟨vb, 0, none⟩) 1 1]).run Try.prog W1 = .ok (goInt 1) (W1.setCells g (i * 3) nw) := fun ty dc =>
    run_copy3 W1 _ _ ty 72 g (i * 3) (n + 1 - i) dc ⟨vb, 0, none⟩ 1 1 1 nw Try.underlying79 info_lock (by simp only [Nat.min_def]; split <;> omega) hl3
      (fun t u hu => by
        rw [Go.WideShapes.add_plain, Nat.zero_add, cell_of_heap hv1]
        rw [hnw] at hu
        simpa [lockCells] using hu)
      (fun t ht => by rw [cell_of_heap hh1, Array.getElem?_eq_getElem (by omega)]; rfl) (fun t _ => frozen_of_heap hh1 _) (by rw [hnw]; exact lockCells_one _ _)
  have hov : ∀ lb cb, (callFunc 92 #[.slice (some ⟨vb, 0, none⟩) 1 1, .slice (some ⟨g, j * 3, none⟩) lb cb]).run Try.prog w = .ok (.value (.bool false)) w := fun lb cb => overlaps_lock w vb g (j * 3) lb cb 1 1 hne hv hh (by omega)
  have HEnd : Hid ((W1.setCells g (i * 3) nw).ownsRow B 72 3 (.slice (some ⟨g, 0, none⟩) (n + 1) cap) (n + 1) (lockVals ad (L.take i ++ x :: L.drop i)) ∧ Below B w (W1.setCells g (i * 3) nw)) := by
    refine ⟨⟨?_, .inr ⟨g, cap, _, rfl, hg, heap_setCells_in g _ _ _ W1 _ hh1, by omega, hcm, by rw [layL_size]; exact hsz1, ?_⟩⟩, below_setCells B g hg _ _ w W1 hb1⟩
    · rw [lockVals_len, List.length_append, List.length_cons, List.length_take, List.length_drop]; omega
    · rw [hnw, hmv, hj]; exact insert_cells hn hi hroom hcs htk
  have hz2 : ¬ ((i : Int) = (n : Int)) := by omega
  have hi1 : i ≤ n := by omega
  have hi2 : (i : Int) ≤ (n : Int) := by omega
  have hc1 : ¬ cap = i := by omega
  have hc2 : ¬ cap = j := by omega
  have hic : i ≤ cap := by omega
  have hr1 : ¬ ((cap : Int) < (n : Int) + 1) := by omega
  have hr2 : (n : Int) + 1 ≤ (cap : Int) := by omega
  have hnn : ((n : Int) + 1).toNat = n + 1 := by omega
  have hj1 : (i : Int) + 1 = (j : Int) := by omega
  have hj2 : IntKind.i64.wrap ((i : Int) + 1) = (j : Int) := by rw [IntKind.wrap_i64]; omega
  have hj6 : IntKind.i64.wrap (j : Int) = (j : Int) := by rw [IntKind.wrap_i64]; omega
  have hj7 : (0 : Int) ≤ (j : Int) := by omega
  have hj3 : j ≤ n + 1 := by omega
  have hj4 : (j : Int) ≤ (n : Int) + 1 := by omega
  have hi5 : i ≤ n + 1 := by omega
  have hi6 : (i : Int) ≤ (n : Int) + 1 := by omega
  rw [← hW1] at hcp1
  clear hval hmv hnw hj hW1 hh1 hsz1 hb1 hv1 hv hh htk hlen hn hl2 hl3 hcell
  go_enter Try.func70, Try.ntmps70
  go_wp2_with (simp only [hov])
  go_region_law (refine step_copy_runI rfl _ _ 79 79 rfl _ _ (by simp [Act.eval, Act.put]; done) (by simp [Act.eval, Act.put]; done) (hcp1 _ _ _) ?_)
  go_wp2_with (at_builtin; refine wpList_copy_runI _ rfl _ _ 79 79 rfl _ _ rfl rfl (hcp2 _ _) ?_)
  go_ret
  exact ⟨rfl, HEnd.out.1, HEnd.out.2⟩

theorem zeroCells_size (z : Array Value) (n : Nat) : (Builtin.zeroCells z n).size = n * z.size := by simp [Builtin.zeroCells]

/-- The cells behind an insertion into new memory. -/
theorem insert_cells_new {ad : Int → Nat} {L : List PHold} {x : PHold} {cur : Array Value} {i n : Nat} (hn : n = L.length) (hi : i < n) (hcs : (n + 1) * 3 ≤ cur.size) (hval : ∀ t, t < i * 3 → cur[t]? = (lockVals ad (L.take i))[t]?) :
    (layL (layL cur (i * 3) (lockCells ad x)) ((i + 1) * 3) (lockVals ad (L.drop i))).toList.take ((n + 1) * 3) = lockVals ad (L.take i ++ x :: L.drop i) := by
  have hl1 : (lockVals ad (L.take i)).length = i * 3 := by rw [lockVals_len, List.length_take]; omega
  have hl2 : (lockVals ad (L.drop i)).length = (n - i) * 3 := by rw [lockVals_len, List.length_drop, hn]
  have hl3 : (lockCells ad x).length = 3 := rfl
  rw [lockVals_app, lockVals_cons]
  apply List.ext_getElem?
  intro t
  by_cases ht : t < (n + 1) * 3
  · rw [List.getElem?_take, if_pos ht, Array.getElem?_toList]
    by_cases h1 : t < i * 3
    · rw [layL_out _ _ _ _ (.inl (by omega)), layL_out _ _ _ _ (.inl h1), hval t h1, List.getElem?_append_left (by omega)]
    · rw [List.getElem?_append_right (by omega), hl1]
      by_cases h2 : t < (i + 1) * 3
      · rw [layL_out _ _ _ _ (.inl h2), layL_in _ _ _ _ (by omega) (by omega) (by omega), List.getElem?_append_left (by omega)]
      · rw [layL_in _ _ _ _ (by rw [layL_size]; omega) (by omega) (by omega), List.getElem?_append_right (by omega), hl3]
        congr 1; omega
  · rw [List.getElem?_eq_none (by rw [List.length_take]; omega), List.getElem?_eq_none (by rw [List.length_append, List.length_append]; omega)]

theorem setCells_other (g : Nat) : ∀ (vs : List Value) (o : Nat) (w : World) (m : Nat), m ≠ g → (w.setCells g o vs).heap[m]? = w.heap[m]?
  | [], _, _, _, _ => rfl
  | u :: us, o, w, m, h => by rw [World.setCells, setCells_other g us _ _ m h, heap_setCell_other _ _ _ _ (by exact h)]

set_option maxHeartbeats 4000000 in
set_option maxRecDepth 100000 in
/-- In the middle, where there is no room. -/
theorem insertLock_grow (ad : Int → Nat) (B g cap vb i : Nat) (L : List PHold) (x : PHold) (w : World) (hrow : w.ownsRow B 72 3 (.slice (some ⟨g, 0, none⟩) L.length cap) L.length (lockVals ad L)) (hv : w.heap[vb]? = some (.cells #[.int .i64 x.session, .int .i64 x.mode, .pointer (some ⟨ad x.node, 0, none⟩)] 72 (0, 0))) (hi : i < L.length) (hroom : cap < L.length + 1) (hL : L.length ≤ 1048576) (hB : B ≤ w.heap.size) :
    Calls Try.prog 70 #[.slice (some ⟨g, 0, none⟩) L.length cap, .int .i64 i, .slice (some ⟨vb, 0, none⟩) 1 1] w fun e w' => ∃ v', e = .returned v' ∧ w'.ownsRow B 72 3 v' (L.length + 1) (lockVals ad (L.take i ++ x :: L.drop i)) ∧ Below B w w' := by
  obtain ⟨i0, hinf, hq0, hq1, hq2⟩ := info_parts lockInfo
  obtain ⟨hlen, ⟨e0, _⟩ | ⟨g', cap', cur, e0, hg, hh, hnc, hcm, hcs, htk⟩⟩ := hrow
  · cases e0
  simp only [Value.slice.injEq, Option.some.injEq, Addr.mk.injEq, and_true, true_and] at e0
  obtain ⟨rfl, rfl⟩ := e0
  obtain ⟨n, hn⟩ : ∃ n, n = L.length := ⟨_, rfl⟩
  rw [← hn] at hlen hnc htk hi hL hroom ⊢
  have hcap : cap ≤ 9223372036854775807 := by have := hcm; simp only [maxLen] at this; omega
  have hgl : g < w.heap.size := (Array.getElem?_eq_some_iff.1 hh).1
  have hvl : vb < w.heap.size := (Array.getElem?_eq_some_iff.1 hv).1
  have hval : ∀ t, t < n * 3 → cur[t]? = (lockVals ad L)[t]? := fun t ht => by rw [← htk, List.getElem?_take, if_pos ht, Array.getElem?_toList]
  obtain ⟨mv, hmv⟩ : ∃ mv, mv = lockVals ad (L.drop i) := ⟨_, rfl⟩
  have hl2 : mv.length = (n - i) * 3 := by rw [hmv, lockVals_len, List.length_drop, hn]
  obtain ⟨nw, hnw⟩ : ∃ nw, nw = lockCells ad x := ⟨_, rfl⟩
  have hl3 : nw.length = 3 := by rw [hnw]; rfl
  have hl1 : (lockVals ad (L.take i)).length = i * 3 := by rw [lockVals_len, List.length_take]; omega
  have hsplit : lockVals ad L = lockVals ad (L.take i) ++ lockVals ad (L.drop i) := by rw [← lockVals_app, List.take_append_drop]
  obtain ⟨j, hj⟩ : ∃ j, j = i + 1 := ⟨_, rfl⟩
  have hik : i + (n + 1 - i) = n + 1 := by omega
  have hkk : (n : Int) + 1 - (i : Int) = ((n + 1 - i : Nat) : Int) := by omega
  obtain ⟨G, hG⟩ : ∃ G, G = grownCap w (n + 1) cap 72 := ⟨_, rfl⟩
  have hGn : n + 1 ≤ G := by rw [hG]; exact grownCap_ge w _ _ _
  have hGm : G ≤ maxLen := by rw [hG]; exact grownCap_le_maxLen w _ _ _ (by unfold maxLen; omega)
  have hG63 : G ≤ 9223372036854775807 := by have := hGm; unfold maxLen at this; omega
  have hold : (Builtin.firstCells i0.size i (.slice (some ⟨g, 0, none⟩) i cap)).run Try.prog w.drew = .ok (lockVals ad (L.take i)).toArray w.drew := by
    rw [hq1]
    exact run_firstCells_some w.drew 3 i ⟨g, 0, none⟩ i cap _ hl1 (fun t u hu => by
      have ht : t < i * 3 := by have := (List.getElem?_eq_some_iff.1 hu).1; omega
      rw [Go.WideShapes.add_plain, Nat.zero_add, World.cell?_drew, cell_of_heap hh, hval _ (by omega), hsplit, List.getElem?_append_left (by omega)]
      exact hu)
  obtain ⟨ROW, hROW⟩ : ∃ ROW : Array Value, ROW = (lockVals ad (L.take i)).toArray ++ Builtin.zeroCells (Value.agg #[.int .i64 0, .int .i64 0, .pointer none]).cells (n + 1 - i) ++ Builtin.zeroCells (Value.agg #[.int .i64 0, .int .i64 0, .pointer none]).cells (G - (n + 1)) := ⟨_, rfl⟩
  have hRs : ROW.size = G * 3 := by
    rw [hROW, Array.size_append, Array.size_append, zeroCells_size, zeroCells_size]
    simp only [List.size_toArray, hl1, Value.cells]
    simp only [List.length_cons, List.length_nil]
    omega
  have hRv : ∀ t, t < i * 3 → ROW[t]? = (lockVals ad (L.take i))[t]? := fun t ht => by
    rw [hROW, Array.getElem?_append_left (by rw [Array.size_append, List.size_toArray]; omega), Array.getElem?_append_left (by rw [List.size_toArray]; omega)]
    simp
  obtain ⟨W1, hW1⟩ : ∃ W1, W1 = w.drew.alloc (.cells ROW 72) := ⟨_, rfl⟩
  have hrz : ∀ ty, (Builtin.append_ #[79, 3] ty #[.slice (some ⟨g, 0, none⟩) i cap, .int .i64 ((n : Int) + 1 - (i : Int))]).run Try.prog w = .ok (.slice (some ⟨w.heap.size, 0, none⟩) (n + 1) G) W1 := fun ty => by
    have h := Lib.run_append_grow_zeros w 79 3 ty 72 i0 _ .i64 .i64 Try.underlying79 Try.underlying3 hinf hq0 (some ⟨g, 0, none⟩) i cap _ hold (n + 1 - i) (by omega) (by rw [hq1]; omega) (by omega) (by omega) (by rw [hq2]; omega) (by rw [hq2, hik]; exact growslice_fits hroom (by omega))
    rw [hik, ← hG, ← hROW, ← hW1] at h
    rw [hkk]
    exact h
  have hh1 : W1.heap[w.heap.size]? = some (.cells ROW 72 (0, 0)) := by rw [hW1]; exact alloc_new w.drew _
  have hb1 : Below B w W1 := by rw [hW1]; exact (Below.refl B w).drew.alloc hB _
  have hold1 : ∀ m, m < w.heap.size → W1.heap[m]? = w.heap[m]? := fun m hm => by rw [hW1, Below.heap_alloc _ _ _ (by exact hm)]; rfl
  have hcp1 : ∀ ty dc, (Builtin.copy_ #[79, 79] ty #[.slice (some ⟨w.heap.size, i * 3, none⟩) (n + 1 - i) dc, .slice (some ⟨vb, 0, none⟩) 1 1]).run Try.prog W1 = .ok (goInt 1) (W1.setCells w.heap.size (i * 3) nw) := fun ty dc =>
    run_copy3 W1 _ _ ty 72 w.heap.size (i * 3) (n + 1 - i) dc ⟨vb, 0, none⟩ 1 1 1 nw Try.underlying79 info_lock (by simp only [Nat.min_def]; split <;> omega) hl3
      (fun t u hu => by
        rw [Go.WideShapes.add_plain, Nat.zero_add, cell_of_heap ((hold1 vb hvl).trans hv)]
        rw [hnw] at hu
        simpa [lockCells] using hu)
      (fun t ht => by rw [cell_of_heap hh1, Array.getElem?_eq_getElem (by omega)]; rfl) (fun t _ => frozen_of_heap hh1 _) (by rw [hnw]; exact lockCells_one _ _)
  obtain ⟨W2, hW2⟩ : ∃ W2, W2 = W1.setCells w.heap.size (i * 3) nw := ⟨_, rfl⟩
  have hh2 : W2.heap[w.heap.size]? = some (.cells (layL ROW (i * 3) nw) 72 (0, 0)) := by rw [hW2]; exact heap_setCells_in _ _ nw (i * 3) W1 ROW hh1
  have hb2 : Below B w W2 := by rw [hW2]; exact below_setCells B _ hB nw _ w W1 hb1
  have hg2 : W2.heap[g]? = some (.cells cur 72 (0, 0)) := by rw [hW2, setCells_other _ _ _ _ _ (by omega), hold1 g hgl]; exact hh
  have hsz2 : (layL ROW (i * 3) nw).size = G * 3 := by rw [layL_size]; exact hRs
  have hcp2 : ∀ ty dc sc, (Builtin.copy_ #[79, 79] ty #[.slice (some ⟨w.heap.size, j * 3, none⟩) (n + 1 - j) dc, .slice (some ⟨g, i * 3, none⟩) (n - i) sc]).run Try.prog W2.drew = .ok (goInt ((n - i : Nat) : Int)) (W2.drew.setCells w.heap.size (j * 3) mv) := fun ty dc sc =>
    run_copy3 W2.drew _ _ ty 72 w.heap.size (j * 3) (n + 1 - j) dc ⟨g, i * 3, none⟩ (n - i) sc (n - i) mv Try.underlying79 info_lock (by simp only [Nat.min_def]; split <;> omega) hl2
      (fun t u hu => by
        have ht : t < (n - i) * 3 := by have := (List.getElem?_eq_some_iff.1 hu).1; omega
        rw [Go.WideShapes.add_plain, World.cell?_drew, cell_of_heap hg2, hval _ (by omega), hsplit, List.getElem?_append_right (by omega), hl1, ← hmv, show i * 3 + t - i * 3 = t by omega]
        exact hu)
      (fun t ht => by rw [World.cell?_drew, cell_of_heap hh2, Array.getElem?_eq_getElem (by omega)]; rfl) (fun t _ => frozen_of_heap (w := W2) hh2 _) (by rw [hmv]; exact lockVals_one _ _)
  have HEnd : Hid ((W2.drew.setCells w.heap.size (j * 3) mv).ownsRow B 72 3 (.slice (some ⟨w.heap.size, 0, none⟩) (n + 1) G) (n + 1) (lockVals ad (L.take i ++ x :: L.drop i)) ∧ Below B w (W2.drew.setCells w.heap.size (j * 3) mv)) := by
    refine ⟨⟨?_, .inr ⟨w.heap.size, G, _, rfl, hB, heap_setCells_in _ _ _ _ W2.drew _ hh2, by omega, hGm, by rw [layL_size]; exact hsz2, ?_⟩⟩, below_setCells B _ hB _ _ w W2.drew hb2.drew⟩
    · rw [lockVals_len, List.length_append, List.length_cons, List.length_take, List.length_drop]; omega
    · rw [hnw, hmv, hj]; exact insert_cells_new hn hi (by omega) hRv
  have hz2 : ¬ ((i : Int) = (n : Int)) := by omega
  have hi1 : i ≤ n := by omega
  have hi2 : (i : Int) ≤ (n : Int) := by omega
  have hc1 : ¬ cap = i := by omega
  have hic : i ≤ cap := by omega
  have hic2 : (i : Int) ≤ (cap : Int) := by omega
  have hr1 : (cap : Int) < (n : Int) + 1 := by omega
  have hG1 : ¬ G = i := by omega
  have hG2 : ¬ G = j := by omega
  have hj1 : (i : Int) + 1 = (j : Int) := by omega
  have hj2 : IntKind.i64.wrap ((i : Int) + 1) = (j : Int) := by rw [IntKind.wrap_i64]; omega
  have hj6 : IntKind.i64.wrap (j : Int) = (j : Int) := by rw [IntKind.wrap_i64]; omega
  have hj7 : (0 : Int) ≤ (j : Int) := by omega
  have hj3 : j ≤ n + 1 := by omega
  have hj4 : (j : Int) ≤ (n : Int) + 1 := by omega
  have hi5 : i ≤ n + 1 := by omega
  have hi6 : (i : Int) ≤ (n : Int) + 1 := by omega
  rw [← hW2] at hcp1
  clear hval hmv hnw hj hW1 hW2 hh1 hh2 hb1 hb2 hg2 hsz2 hv hh htk hlen hn hl1 hl2 hl3 hsplit hik hkk hG hold hROW hRs hRv hold1
  go_enter Try.func70, Try.ntmps70
  go_wp2_with (first
    | (at_builtin; refine Lib.wpList_append_run _ rfl _ _ _ _ rfl _ _ rfl rfl _ _ (hrz _) ?_)
    | (at_builtin; refine wpList_copy_runI _ rfl _ _ 79 79 rfl _ _ rfl rfl (hcp1 _ _) ?_))
  go_region_law (refine step_copy_runI rfl _ _ 79 79 rfl _ _ (by simp [Act.eval, Act.put]; done) (by simp [Act.eval, Act.put]; done) (hcp2 _ _ _) ?_)
  go_wp2_with fail
  go_ret
  exact ⟨_, rfl, HEnd.out.1, HEnd.out.2⟩
end Go.Proofs.Ytfjhpfgffbghdaa
