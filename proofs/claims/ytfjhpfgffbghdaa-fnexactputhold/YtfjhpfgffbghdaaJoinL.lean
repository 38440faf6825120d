/-
  Lists of locks in memory, cell by cell.
  slices.Delete of one lock out of a list that a call owns.
-/
import Derived.Test.YtfjhpfgffbghdaaJoinH
import Derived.Test.YtfjhpfgffbghdaaLocksOfJ
import Derived.Lib.SliceRun
import Derived.Deep.RegionLaw
namespace Go.Proofs.Ytfjhpfgffbghdaa
open Go.RowKit

theorem lockVals_app (ad : Int → Nat) (L K : List PHold) : lockVals ad (L ++ K) = lockVals ad L ++ lockVals ad K := by simp [lockVals]
theorem lockVals_len (ad : Int → Nat) : ∀ L : List PHold, (lockVals ad L).length = L.length * 3
  | [] => rfl
  | x :: L => by rw [lockVals_cons, List.length_append, lockVals_len ad L]; simp [lockCells]; omega
theorem lockCells_one (ad : Int → Nat) (x : PHold) : ∀ u ∈ lockCells ad x, u.oneCell' = true := by
  intro u hu
  simp only [lockCells, List.mem_cons, List.not_mem_nil, or_false] at hu
  rcases hu with rfl | rfl | rfl <;> rfl
theorem lockVals_one (ad : Int → Nat) (L : List PHold) : ∀ u ∈ lockVals ad L, u.oneCell' = true := by
  intro u hu
  obtain ⟨x, _, hx⟩ := List.mem_flatMap.1 hu
  exact lockCells_one ad x u hx
end Go.Proofs.Ytfjhpfgffbghdaa

namespace Go.Proofs.Ytfjhpfgffbghdaa
open Go.RowKit

/-- Values laid into an array from a place on. -/
def layL (cs : Array Value) (o : Nat) : List Value → Array Value
  | [] => cs
  | v :: vs => layL (cs.setIfInBounds o v) (o + 1) vs
theorem layL_size : ∀ (vs : List Value) (cs : Array Value) (o : Nat), (layL cs o vs).size = cs.size
  | [], _, _ => rfl
  | v :: vs, cs, o => by rw [layL, layL_size vs]; simp
theorem layL_out : ∀ (vs : List Value) (cs : Array Value) (o j : Nat), (j < o ∨ o + vs.length ≤ j) → (layL cs o vs)[j]? = cs[j]?
  | [], _, _, _, _ => rfl
  | v :: vs, cs, o, j, h => by
    simp only [List.length_cons] at h
    rw [layL, layL_out vs _ _ _ (by omega), Array.getElem?_setIfInBounds, if_neg (by omega)]
theorem layL_in : ∀ (vs : List Value) (cs : Array Value) (o j : Nat), o + vs.length ≤ cs.size → o ≤ j → j < o + vs.length → (layL cs o vs)[j]? = vs[j - o]?
  | [], _, o, j, _, h1, h2 => by simp at h2; omega
  | v :: vs, cs, o, j, hs, h1, h2 => by
    simp only [List.length_cons] at hs h2
    rw [layL]
    by_cases e : j = o
    · subst e
      rw [layL_out vs _ _ _ (by omega), Array.getElem?_setIfInBounds, if_pos rfl, if_pos (by omega), Nat.sub_self]; rfl
    · rw [layL_in vs _ _ _ (by simp; omega) (by omega) (by omega), show j - o = (j - (o + 1)) + 1 by omega]; rfl

theorem heap_setCells_in (g : Nat) (T : TypeId) : ∀ (vs : List Value) (o : Nat) (w : World) (cs : Array Value), w.heap[g]? = some (.cells cs T (0, 0)) → (w.setCells g o vs).heap[g]? = some (.cells (layL cs o vs) T (0, 0))
  | [], _, _, _, h => h
  | v :: vs, o, w, _, h => heap_setCells_in g T vs (o + 1) (w.setCell ⟨g, o, none⟩ v) _ (heap_setCell_same w g o _ _ v h)
theorem below_setCells (B g : Nat) (hg : B ≤ g) : ∀ (vs : List Value) (o : Nat) (W w : World), Below B W w → Below B W (w.setCells g o vs)
  | [], _, _, _, h => h
  | v :: vs, o, W, _, h => below_setCells B g hg vs (o + 1) W _ (h.setCell (p := ⟨g, o, none⟩) hg v)

theorem run_clear_lock (w : World) (ty : TypeId) (b o c : Nat) (hc : ∀ j, j < 3 → (w.cell? ⟨b, o + j, none⟩).isSome = true) (hf : ∀ j, j < 3 → w.frozen? ⟨b, o + j, none⟩ = false) :
    (Builtin.clear_ #[79] ty #[.slice (some ⟨b, o, none⟩) 1 c]).run Try.prog w = .ok (.tuple #[]) (w.setCells b o [.int .i64 0, .int .i64 0, .pointer none]) := by
  have hst := run_storeCells_cells (P := Try.prog) b o [.int .i64 0, .int .i64 0, .pointer none] 0 w (by simpa using hc) (by simpa using hf) (by intro v hv; simp at hv; rcases hv with rfl | rfl <;> rfl)
  simp only [Nat.add_zero] at hst
  have hv : ∀ w, (zeroValue 72).run Try.prog w = .ok (.agg #[.int .i64 0, .int .i64 0, .pointer none]) w := fun w => by kernel_rfl
  have hz : (Builtin.zeroCells (Value.agg #[.int .i64 0, .int .i64 0, .pointer none]).cells 1).toList = [.int .i64 0, .int .i64 0, .pointer none] := by kernel_rfl
  simp [Builtin.clear_, run_underlying Try.underlying79, hv, hz, hst]

/-- The cells behind the deletion. -/
theorem delete_cells {ad : Int → Nat} {L : List PHold} {cur : Array Value} {p j n cap : Nat} (hn : n = L.length) (hj : j = p + 1) (hp : p < n) (hnc : n ≤ cap) (hcs : cur.size = cap * 3) (htk : cur.toList.take (n * 3) = lockVals ad L) (zs : List Value) :
    (layL (layL cur (p * 3) (lockVals ad (L.drop j))) ((n - 1) * 3) zs).toList.take ((n - 1) * 3) = lockVals ad (L.take p ++ L.drop j) := by
  have hval : ∀ t, t < n * 3 → cur[t]? = (lockVals ad L)[t]? := fun t ht => by rw [← htk, List.getElem?_take, if_pos ht, Array.getElem?_toList]
  have hl1 : (lockVals ad (L.take p)).length = p * 3 := by rw [lockVals_len, List.length_take]; omega
  have hl2 : (lockVals ad (L.drop j)).length = (n - j) * 3 := by rw [lockVals_len, List.length_drop]; omega
  rw [lockVals_app]
  apply List.ext_getElem?
  intro t
  by_cases ht : t < (n - 1) * 3
  · rw [List.getElem?_take, if_pos ht, Array.getElem?_toList, layL_out _ _ _ _ (.inl (by omega))]
    by_cases h2 : t < p * 3
    · rw [layL_out _ _ _ _ (.inl h2), hval t (by omega), List.getElem?_append_left (by omega)]
      have e : lockVals ad L = lockVals ad (L.take p) ++ lockVals ad (L.drop p) := by rw [← lockVals_app, List.take_append_drop]
      rw [e, List.getElem?_append_left (by omega)]
    · rw [layL_in _ _ _ _ (by omega) (by omega) (by omega), List.getElem?_append_right (by omega), hl1]
  · rw [List.getElem?_eq_none (by rw [List.length_take]; omega), List.getElem?_eq_none (by rw [List.length_append]; omega)]

set_option maxHeartbeats 4000000 in
set_option maxRecDepth 100000 in
theorem deleteLock_any (ad : Int → Nat) (B g cap p j : Nat) (hj : j = p + 1) (L : List PHold) (w : World) (hrow : w.ownsRow B 72 3 (.slice (some ⟨g, 0, none⟩) L.length cap) L.length (lockVals ad L)) (hp : p < L.length) (hL : L.length ≤ 1048576) :
    Calls Try.prog 74 #[.slice (some ⟨g, 0, none⟩) L.length cap, .int .i64 p, .int .i64 j] w fun e w' => e = .returned (.slice (some ⟨g, 0, none⟩) (L.length - 1) cap) ∧ w'.ownsRow B 72 3 (.slice (some ⟨g, 0, none⟩) (L.length - 1) cap) (L.length - 1) (lockVals ad (L.take p ++ L.drop j)) ∧ Below B w w' := by
  obtain ⟨i0, hinf, hq0, hq1, hq2⟩ := info_parts lockInfo
  obtain ⟨hlen, ⟨e0, _⟩ | ⟨g', cap', cur, e0, hg, hh, hnc, hcm, hcs, htk⟩⟩ := hrow
  · cases e0
  simp only [Value.slice.injEq, Option.some.injEq, Addr.mk.injEq, and_true, true_and] at e0
  obtain ⟨rfl, rfl⟩ := e0
  obtain ⟨n, hn⟩ : ∃ n, n = L.length := ⟨_, rfl⟩
  have HN := hide hn
  have HJ := hide hj
  rw [← hn] at hlen hnc htk hp hL ⊢
  have hpn : j ≤ n := by omega
  have hpj : p ≤ j := by omega
  have hpc : p ≤ cap := by omega
  have hjc : j ≤ cap := by omega
  have hne : ((p : Int) == (j : Int)) = false := by simp; omega
  have hcap : cap ≤ 9223372036854775807 := by have := hcm; simp only [maxLen] at this; omega
  have hl2 : (lockVals ad (L.drop j)).length = (n - j) * 3 := by rw [lockVals_len, List.length_drop, hn]
  have hval : ∀ t, t < n * 3 → cur[t]? = (lockVals ad L)[t]? := fun t ht => by rw [← htk, List.getElem?_take, if_pos ht, Array.getElem?_toList]
  obtain ⟨news, hnews⟩ : ∃ news, news = lockVals ad (L.drop j) := ⟨_, rfl⟩
  rw [← hnews] at hl2
  have hsrc0 : ∀ t u, news[t]? = some u → w.drew.cell? ⟨g, j * 3 + t, none⟩ = some u := fun t u hu => by
    have ht : t < (n - j) * 3 := by have := (List.getElem?_eq_some_iff.1 hu).1; omega
    show w.cell? _ = _
    rw [cell_of_heap hh, hval _ (by omega)]
    have e : lockVals ad L = lockVals ad (L.take j) ++ lockVals ad (L.drop j) := by rw [← lockVals_app, List.take_append_drop]
    have hl1 : (lockVals ad (L.take j)).length = j * 3 := by rw [lockVals_len, List.length_take]; omega
    rw [e, List.getElem?_append_right (by omega), hl1, ← hnews, show j * 3 + t - j * 3 = t by omega]
    exact hu
  obtain ⟨A, hA, hsrc⟩ : ∃ A : Addr, (if cap = j then (some (⟨g, 0, none⟩ : Addr)) else some ⟨g, j * 3, none⟩) = some A ∧ Hid (∀ t u, news[t]? = some u → w.drew.cell? (A.add t) = some u) := by
    by_cases h : cap = j
    · refine ⟨⟨g, 0, none⟩, by simp [h], fun t u hu => ?_⟩
      have h0 : news.length = 0 := by rw [hl2]; omega
      rw [List.length_eq_zero_iff.1 h0] at hu
      simp at hu
    · refine ⟨⟨g, j * 3, none⟩, by simp [h], fun t u hu => ?_⟩
      rw [Go.WideShapes.add_plain]
      exact hsrc0 t u hu
  have s1 : Hid (news.length = (n - j) * 3) := hl2
  have s2 : Hid (∀ u ∈ news, u.oneCell' = true) := by rw [Hid, hnews]; exact lockVals_one _ _
  have s3 : Hid (∀ t, t < news.length → (w.drew.cell? ⟨g, 0 + p * 3 + t, none⟩).isSome = true ∧ w.drew.frozen? ⟨g, 0 + p * 3 + t, none⟩ = false) := fun t ht => by
    rw [hl2] at ht
    refine ⟨?_, frozen_of_heap (w := w) hh _⟩
    show (w.cell? _).isSome = true
    rw [cell_of_heap hh, Array.getElem?_eq_getElem (by omega)]; rfl
  obtain ⟨W1, hW1⟩ : ∃ W1, W1 = w.drew.setCells g (0 + p * 3) news := ⟨_, rfl⟩
  have hh1 : W1.heap[g]? = some (.cells (layL cur (p * 3) news) 72 (0, 0)) := by
    rw [hW1, Nat.zero_add]; exact heap_setCells_in g _ news (p * 3) w.drew cur hh
  have hb1 : Below B w W1 := by rw [hW1]; exact below_setCells B g hg news _ w w.drew (Below.refl _ _).drew
  have hsz1 : (layL cur (p * 3) news).size = cap * 3 := by rw [layL_size]; exact hcs
  have hcl : ∀ ty, (Builtin.clear_ #[79] ty #[.slice (some ⟨g, (p + (n - j)) * 3, none⟩) (n - (p + (n - j))) (cap - (p + (n - j)))]).run Try.prog W1 = .ok (.tuple #[]) (W1.setCells g ((p + (n - j)) * 3) [.int .i64 0, .int .i64 0, .pointer none]) := fun ty => by
    rw [show n - (p + (n - j)) = 1 by omega]
    exact run_clear_lock W1 ty g _ _ (fun t ht => by rw [cell_of_heap hh1, Array.getElem?_eq_getElem (by omega)]; rfl) (fun t ht => frozen_of_heap hh1 _)
  have hW : Hid (W1 = w.drew.setCells g (0 + p * 3) news) := hW1
  have HEnd : Hid ((W1.setCells g ((p + (n - j)) * 3) [.int .i64 0, .int .i64 0, .pointer none]).ownsRow B 72 3 (.slice (some ⟨g, 0, none⟩) (n - 1) cap) (n - 1) (lockVals ad (L.take p ++ L.drop j)) ∧ Below B w (W1.setCells g ((p + (n - j)) * 3) [.int .i64 0, .int .i64 0, .pointer none])) := by
    refine ⟨⟨?_, .inr ⟨g, cap, _, rfl, hg, heap_setCells_in g _ _ _ W1 _ hh1, by omega, hcm, by rw [layL_size]; exact hsz1, ?_⟩⟩, below_setCells B g hg _ _ w W1 hb1⟩
    · rw [lockVals_len, List.length_append, List.length_take, List.length_drop]; omega
    · rw [show p + (n - j) = n - 1 by omega, hnews]
      exact delete_cells hn hj hp hnc hcs htk _
  have HLen : Hid (p + (n - j) = n - 1) := by show p + (n - j) = n - 1; omega
  have hcn1 : ¬ cap = p + (n - j) := by omega
  have hcn2 : p + (n - j) < cap := by omega
  clear hn hj hnews hsrc0 hval htk hW1 hh1 hb1 hsz1 hh hl2 hlen
  go_enter Try.func74, Try.ntmps74
  go_wp2_with fail
  go_region_law (refine step_append_room rfl (.tmp 22) (.tmp 25) 79 rfl 72 i0 3 Try.underlying79 hinf hq1 g 0 p cap (by simp [Act.eval, Act.put]) A (n - j) (cap - j) news (by simp [Act.eval, Act.put]) s1.out hsrc.out s2.out (by omega) s3.out ?_; rw [← hW.out])
  go_wp2_with fail
  go_ret
  exact ⟨by rw [HLen.out]; rfl, HEnd.out.1, HEnd.out.2⟩
end Go.Proofs.Ytfjhpfgffbghdaa
