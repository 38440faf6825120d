/-
  slices.Clone of a list of holds: a list of its own.
  slices.Delete of one hold out of a list that a call owns.
  A list of holds without a session's lock on a node, as the program makes it.
-/
import Derived.Test.YtahdgbfcaclflaaJoinK
import Derived.Test.YtahdgbfcaclflaaHoldToJ
import Derived.Lib.SliceRun
import Derived.Deep.RegionLaw
namespace Go.Proofs.Ytahdgbfcaclflaa
open Go.RowKit

set_option maxHeartbeats 2000000 in
set_option maxRecDepth 100000 in
theorem cloneHolds_any (n₀ : Nat) (p : Addr) (cap : Nat) (L : List PHold) (w : World) (hV : HoldsAt n₀ w (.slice (some p) L.length cap) L) (hn : n₀ ≤ w.heap.size) (hL : L.length ≤ 1048576) :
    Calls Try.prog 60 #[.slice (some p) L.length cap] w fun e w' => ∃ u, e = .returned u ∧ w'.ownsRow w.heap.size 45 3 u L.length (holdVals L) ∧ Below w.heap.size w w' := by
  obtain ⟨i0, hinf, hq0, hq1, hq2⟩ := info_parts holdInfo
  have HNone := hide (hrow_none w w.heap.size (Nat.le_refl _))
  have HNews : Hid (∀ j u, (holdVals L)[j]? = some u → (w.alloc (.cells #[] 45)).cell? (p.add j) = some u) := by
    by_cases hl0 : L = []
    · subst hl0; intro j u hu; simp [holdVals] at hu
    · obtain ⟨a', c', e', h'⟩ := id hV
      obtain ⟨b, off, e, hb, _⟩ := h'.resolve_left hl0
      simp only [Value.slice.injEq] at e'
      obtain ⟨rfl, _, rfl⟩ := e'
      cases e
      exact (hV.below (n₁ := n₀) (Nat.le_refl _) (((Below.refl w.heap.size w).alloc (Nat.le_refl _) (.cells #[] 45)).mono hn)).news
  have hnil := fun w => Go.Lib.run_eql_slice_nil (P := Try.prog) w 36 45 (some p) L.length cap 0 0 Try.underlying36
  clear hV
  go_enter Try.func60, Try.ntmps60
  go_wp2_with (at_builtin; refine wpList_append_own _ rfl _ _ 36 rfl w.heap.size 45 i0 (.agg #[.int .i64 0, .int .i64 0, .int .i64 0]) 3 24 Try.underlying36 hinf hq0 hq1 hq2 rfl (by decide) _ _ _ rfl HNone.out p L.length cap (holdVals L) rfl (holdVals_len L) HNews.out (holdVals_one L) (by unfold maxLen; omega) (by omega) (by simp) ?_)
  intro v' w3 hown' hgrow _
  have hb3 := ((Below.refl w.heap.size w).alloc (Nat.le_refl _) (.cells #[] 45)).grown hgrow (by simp) (fun g' hg' => by have := (HNone.out.lt g' hg').1; omega)
  have HRow3 : Hid (w3.ownsRow w.heap.size 45 3 v' L.length (holdVals L)) := by
    unfold Hid; simpa using hown'
  clear hown' hgrow
  go_wp2_with fail
  go_ret
  exact ⟨_, rfl, HRow3.out, hb3⟩
end Go.Proofs.Ytahdgbfcaclflaa

namespace Go.Proofs.Ytahdgbfcaclflaa
open Go.RowKit

/-- Values laid into an array from a place on. -/
def putL (cs : Array Value) (o : Nat) : List Value → Array Value
  | [] => cs
  | v :: vs => putL (cs.setIfInBounds o v) (o + 1) vs
theorem putL_size : ∀ (vs : List Value) (cs : Array Value) (o : Nat), (putL cs o vs).size = cs.size
  | [], _, _ => rfl
  | v :: vs, cs, o => by rw [putL, putL_size vs]; simp
theorem putL_out : ∀ (vs : List Value) (cs : Array Value) (o j : Nat), (j < o ∨ o + vs.length ≤ j) → (putL cs o vs)[j]? = cs[j]?
  | [], _, _, _, _ => rfl
  | v :: vs, cs, o, j, h => by
    simp only [List.length_cons] at h
    rw [putL, putL_out vs _ _ _ (by omega), Array.getElem?_setIfInBounds, if_neg (by omega)]
theorem putL_in : ∀ (vs : List Value) (cs : Array Value) (o j : Nat), o + vs.length ≤ cs.size → o ≤ j → j < o + vs.length → (putL cs o vs)[j]? = vs[j - o]?
  | [], _, o, j, _, h1, h2 => by simp at h2; omega
  | v :: vs, cs, o, j, hs, h1, h2 => by
    simp only [List.length_cons] at hs h2
    rw [putL]
    by_cases e : j = o
    · subst e
      rw [putL_out vs _ _ _ (by omega), Array.getElem?_setIfInBounds, if_pos rfl, if_pos (by omega), Nat.sub_self]; rfl
    · rw [putL_in vs _ _ _ (by simp; omega) (by omega) (by omega), show j - o = (j - (o + 1)) + 1 by omega]; rfl

theorem heap_setCells_in (g : Nat) (T : TypeId) : ∀ (vs : List Value) (o : Nat) (w : World) (cs : Array Value), w.heap[g]? = some (.cells cs T (0, 0)) → (w.setCells g o vs).heap[g]? = some (.cells (putL cs o vs) T (0, 0))
  | [], _, _, _, h => h
  | v :: vs, o, w, _, h => heap_setCells_in g T vs (o + 1) (w.setCell ⟨g, o, none⟩ v) _ (heap_setCell_same w g o _ _ v h)
theorem below_setCells (B g : Nat) (hg : B ≤ g) : ∀ (vs : List Value) (o : Nat) (W w : World), Below B W w → Below B W (w.setCells g o vs)
  | [], _, _, _, h => h
  | v :: vs, o, W, _, h => below_setCells B g hg vs (o + 1) W _ (h.setCell (p := ⟨g, o, none⟩) hg v)

theorem run_clear_hold (w : World) (ty : TypeId) (b o c : Nat) (hc : ∀ j, j < 3 → (w.cell? ⟨b, o + j, none⟩).isSome = true) (hf : ∀ j, j < 3 → w.frozen? ⟨b, o + j, none⟩ = false) :
    (Builtin.clear_ #[36] ty #[.slice (some ⟨b, o, none⟩) 1 c]).run Try.prog w = .ok (.tuple #[]) (w.setCells b o [.int .i64 0, .int .i64 0, .int .i64 0]) := by
  have hst := run_storeCells_cells (P := Try.prog) b o [.int .i64 0, .int .i64 0, .int .i64 0] 0 w (by simpa using hc) (by simpa using hf) (by intro v hv; simp at hv; subst hv; rfl)
  simp only [Nat.add_zero] at hst
  have hv : ∀ w, (zeroValue 45).run Try.prog w = .ok (.agg #[.int .i64 0, .int .i64 0, .int .i64 0]) w := fun w => by kernel_rfl
  have hz : (Builtin.zeroCells (Value.agg #[.int .i64 0, .int .i64 0, .int .i64 0]).cells 1).toList = [.int .i64 0, .int .i64 0, .int .i64 0] := by kernel_rfl
  simp [Builtin.clear_, run_underlying Try.underlying36, hv, hz, hst]

/-- The cells behind the deletion. -/
theorem delete_cells {L : List PHold} {cur : Array Value} {p j n cap : Nat} (hn : n = L.length) (hj : j = p + 1) (hp : p < n) (hnc : n ≤ cap) (hcs : cur.size = cap * 3) (htk : cur.toList.take (n * 3) = holdVals L) (zs : List Value) :
    (putL (putL cur (p * 3) (holdVals (L.drop j))) ((n - 1) * 3) zs).toList.take ((n - 1) * 3) = holdVals (L.take p ++ L.drop j) := by
  have hval : ∀ t, t < n * 3 → cur[t]? = (holdVals L)[t]? := fun t ht => by rw [← htk, List.getElem?_take, if_pos ht, Array.getElem?_toList]
  have hl1 : (holdVals (L.take p)).length = p * 3 := by rw [holdVals_len, List.length_take]; omega
  have hl2 : (holdVals (L.drop j)).length = (n - j) * 3 := by rw [holdVals_len, List.length_drop]; omega
  rw [holdVals_app]
  apply List.ext_getElem?
  intro t
  by_cases ht : t < (n - 1) * 3
  · rw [List.getElem?_take, if_pos ht, Array.getElem?_toList, putL_out _ _ _ _ (.inl (by omega))]
    by_cases h2 : t < p * 3
    · rw [putL_out _ _ _ _ (.inl h2), hval t (by omega), List.getElem?_append_left (by omega)]
      have e : holdVals L = holdVals (L.take p) ++ holdVals (L.drop p) := by rw [← holdVals_app, List.take_append_drop]
      rw [e, List.getElem?_append_left (by omega)]
    · rw [putL_in _ _ _ _ (by omega) (by omega) (by omega), List.getElem?_append_right (by omega), hl1]
  · rw [List.getElem?_eq_none (by rw [List.length_take]; omega), List.getElem?_eq_none (by rw [List.length_append]; omega)]

set_option maxHeartbeats 4000000 in
set_option maxRecDepth 100000 in
theorem deleteHold_any (B g cap p j : Nat) (hj : j = p + 1) (L : List PHold) (w : World) (hrow : w.ownsRow B 45 3 (.slice (some ⟨g, 0, none⟩) L.length cap) L.length (holdVals L)) (hp : p < L.length) (hL : L.length ≤ 1048576) :
    Calls Try.prog 65 #[.slice (some ⟨g, 0, none⟩) L.length cap, .int .i64 p, .int .i64 j] w fun e w' => e = .returned (.slice (some ⟨g, 0, none⟩) (L.length - 1) cap) ∧ w'.ownsRow B 45 3 (.slice (some ⟨g, 0, none⟩) (L.length - 1) cap) (L.length - 1) (holdVals (L.take p ++ L.drop j)) ∧ Below B w w' := by
  obtain ⟨i0, hinf, hq0, hq1, hq2⟩ := info_parts holdInfo
  obtain ⟨hlen, ⟨e0, _⟩ | ⟨g', cap', cur, e0, hg, hh, hnc, hcm, hcs, htk⟩⟩ := hrow
  · cases e0
  simp only [Value.slice.injEq, Option.some.injEq, Addr.mk.injEq, and_true, true_and] at e0
  obtain ⟨rfl, rfl⟩ := e0
  obtain ⟨n, hn⟩ : ∃ n, n = L.length := ⟨_, rfl⟩
  have HN := hide hn
  have HJ := hide hj
  rw [← hn] at hlen hnc htk hp hL ⊢
  have hpn : j ≤ n := by omega
  have hpj : p ≤ j := by omega
  have hpc : p ≤ cap := by omega
  have hjc : j ≤ cap := by omega
  have hne : ((p : Int) == (j : Int)) = false := by simp; omega
  have hcap : cap ≤ 9223372036854775807 := by have := hcm; simp only [maxLen] at this; omega
  have hl2 : (holdVals (L.drop j)).length = (n - j) * 3 := by rw [holdVals_len, List.length_drop, hn]
  have hval : ∀ t, t < n * 3 → cur[t]? = (holdVals L)[t]? := fun t ht => by rw [← htk, List.getElem?_take, if_pos ht, Array.getElem?_toList]
  obtain ⟨news, hnews⟩ : ∃ news, news = holdVals (L.drop j) := ⟨_, rfl⟩
  rw [← hnews] at hl2
  have hsrc0 : ∀ t u, news[t]? = some u → w.drew.cell? ⟨g, j * 3 + t, none⟩ = some u := fun t u hu => by
    have ht : t < (n - j) * 3 := by have := (List.getElem?_eq_some_iff.1 hu).1; omega
    show w.cell? _ = _
    rw [cell_of_heap hh, hval _ (by omega)]
    have e : holdVals L = holdVals (L.take j) ++ holdVals (L.drop j) := by rw [← holdVals_app, List.take_append_drop]
    have hl1 : (holdVals (L.take j)).length = j * 3 := by rw [holdVals_len, List.length_take]; omega
    rw [e, List.getElem?_append_right (by omega), hl1, ← hnews, show j * 3 + t - j * 3 = t by omega]
    exact hu
  obtain ⟨A, hA, hsrc⟩ : ∃ A : Addr, (if cap = j then (some (⟨g, 0, none⟩ : Addr)) else some ⟨g, j * 3, none⟩) = some A ∧ Hid (∀ t u, news[t]? = some u → w.drew.cell? (A.add t) = some u) := by
    by_cases h : cap = j
    · refine ⟨⟨g, 0, none⟩, by simp [h], fun t u hu => ?_⟩
      have h0 : news.length = 0 := by rw [hl2]; omega
      rw [List.length_eq_zero_iff.1 h0] at hu
      simp at hu
    · refine ⟨⟨g, j * 3, none⟩, by simp [h], fun t u hu => ?_⟩
      rw [Go.WideShapes.add_plain]
      exact hsrc0 t u hu
  have s1 : Hid (news.length = (n - j) * 3) := hl2
  have s2 : Hid (∀ u ∈ news, u.oneCell' = true) := by rw [Hid, hnews]; exact holdVals_one _
  have s3 : Hid (∀ t, t < news.length → (w.drew.cell? ⟨g, 0 + p * 3 + t, none⟩).isSome = true ∧ w.drew.frozen? ⟨g, 0 + p * 3 + t, none⟩ = false) := fun t ht => by
    rw [hl2] at ht
    refine ⟨?_, frozen_of_heap (w := w) hh _⟩
    show (w.cell? _).isSome = true
    rw [cell_of_heap hh, Array.getElem?_eq_getElem (by omega)]; rfl
  obtain ⟨W1, hW1⟩ : ∃ W1, W1 = w.drew.setCells g (0 + p * 3) news := ⟨_, rfl⟩
  have hh1 : W1.heap[g]? = some (.cells (putL cur (p * 3) news) 45 (0, 0)) := by
    rw [hW1, Nat.zero_add]; exact heap_setCells_in g _ news (p * 3) w.drew cur hh
  have hb1 : Below B w W1 := by rw [hW1]; exact below_setCells B g hg news _ w w.drew (Below.refl _ _).drew
  have hsz1 : (putL cur (p * 3) news).size = cap * 3 := by rw [putL_size]; exact hcs
  have hcl : ∀ ty, (Builtin.clear_ #[36] ty #[.slice (some ⟨g, (p + (n - j)) * 3, none⟩) (n - (p + (n - j))) (cap - (p + (n - j)))]).run Try.prog W1 = .ok (.tuple #[]) (W1.setCells g ((p + (n - j)) * 3) [.int .i64 0, .int .i64 0, .int .i64 0]) := fun ty => by
    rw [show n - (p + (n - j)) = 1 by omega]
    exact run_clear_hold W1 ty g _ _ (fun t ht => by rw [cell_of_heap hh1, Array.getElem?_eq_getElem (by omega)]; rfl) (fun t ht => frozen_of_heap hh1 _)
  have hW : Hid (W1 = w.drew.setCells g (0 + p * 3) news) := hW1
  have HEnd : Hid ((W1.setCells g ((p + (n - j)) * 3) [.int .i64 0, .int .i64 0, .int .i64 0]).ownsRow B 45 3 (.slice (some ⟨g, 0, none⟩) (n - 1) cap) (n - 1) (holdVals (L.take p ++ L.drop j)) ∧ Below B w (W1.setCells g ((p + (n - j)) * 3) [.int .i64 0, .int .i64 0, .int .i64 0])) := by
    refine ⟨⟨?_, .inr ⟨g, cap, _, rfl, hg, heap_setCells_in g _ _ _ W1 _ hh1, by omega, hcm, by rw [putL_size]; exact hsz1, ?_⟩⟩, below_setCells B g hg _ _ w W1 hb1⟩
    · rw [holdVals_len, List.length_append, List.length_take, List.length_drop]; omega
    · rw [show p + (n - j) = n - 1 by omega, hnews]
      exact delete_cells hn hj hp hnc hcs htk _
  have HLen : Hid (p + (n - j) = n - 1) := by show p + (n - j) = n - 1; omega
  have hcn1 : ¬ cap = p + (n - j) := by omega
  have hcn2 : p + (n - j) < cap := by omega
  clear hn hj hnews hsrc0 hval htk hW1 hh1 hb1 hsz1 hh hl2 hlen
  go_enter Try.func65, Try.ntmps65
  go_wp2_with fail
  go_region_law (refine step_append_room rfl (.tmp 22) (.tmp 25) 36 rfl 45 i0 3 Try.underlying36 hinf hq1 g 0 p cap (by simp [Act.eval, Act.put]) A (n - j) (cap - j) news (by simp [Act.eval, Act.put]) s1.out hsrc.out s2.out (by omega) s3.out ?_; rw [← hW.out])
  go_wp2_with fail
  go_ret
  exact ⟨by rw [HLen.out]; rfl, HEnd.out.1, HEnd.out.2⟩
end Go.Proofs.Ytahdgbfcaclflaa

namespace Go.Proofs.Ytahdgbfcaclflaa
open Go.RowKit

theorem at_memH {L : List PHold} {k : Nat} (h : k < L.length) : L[k]?.getD holdNil ∈ L := by
  rw [List.getElem?_eq_getElem h, Option.getD_some]; exact List.getElem_mem _

theorem ownsRow_base3 {w : World} {b b' : Nat} {e : TypeId} {size : Nat} {v : Value} {n : Nat} {xs : List Value} (h : w.ownsRow b e size v n xs) (hb : b' ≤ b) : w.ownsRow b' e size v n xs := by
  obtain ⟨hl, h | ⟨g, cap, cur, rfl, hg, hh, h1⟩⟩ := h
  · exact ⟨hl, .inl h⟩
  · exact ⟨hl, .inr ⟨g, cap, cur, rfl, by omega, hh, h1⟩⟩

theorem lessB_no {x y : PHold} {s i : Int} (h : lessB x y = true) (hy : isAt s i y = true) : isAt s i x = false := by
  cases hx : isAt s i x with
  | false => rfl
  | true =>
    obtain ⟨a, b⟩ := isAt_iff.1 hx
    obtain ⟨c, d⟩ := isAt_iff.1 hy
    rw [lessB_iff] at h
    omega

theorem lessB_no' {x y : PHold} {s i : Int} (h : lessB x y = true) (hx : isAt s i x = true) : isAt s i y = false := by
  cases hy : isAt s i y with
  | false => rfl
  | true => rw [lessB_no h hy] at hx; cases hx

theorem dropL_at {L : List PHold} {s i : Int} {p : Nat} (hs : SortedH L) (hp : p < L.length) (hat : isAt s i (L[p]?.getD holdNil) = true) : dropL L s i = L.take p ++ L.drop (p + 1) := by
  have h1 : (L.take p).filter (fun x => !isAt s i x) = L.take p := List.filter_eq_self.2 fun x hx => by
    obtain ⟨j, hj, rfl⟩ := List.getElem_of_mem hx
    rw [List.length_take] at hj
    have := lessB_no (hs j p (by omega) hp) hat
    rw [List.getElem?_eq_getElem (by omega), Option.getD_some] at this
    simp [this]
  have h2 : (L.drop (p + 1)).filter (fun x => !isAt s i x) = L.drop (p + 1) := List.filter_eq_self.2 fun x hx => by
    obtain ⟨j, hj, rfl⟩ := List.getElem_of_mem hx
    rw [List.length_drop] at hj
    have := lessB_no' (hs p (p + 1 + j) (by omega) (by omega)) hat
    rw [List.getElem?_eq_getElem (by omega), Option.getD_some] at this
    simp [this]
  have e : L = L.take p ++ (L[p]?.getD holdNil :: L.drop (p + 1)) := by
    rw [List.getElem?_eq_getElem hp, Option.getD_some, ← List.drop_eq_getElem_cons hp, List.take_append_drop]
  have : dropL L s i = (L.take p ++ (L[p]?.getD holdNil :: L.drop (p + 1))).filter (fun x => !isAt s i x) := by rw [← e]; rfl
  rw [this, List.filter_append, h1, List.filter_cons, hat]
  simp [h2]

set_option maxHeartbeats 2000000 in
set_option maxRecDepth 100000 in
theorem dropHold_any (n₀ : Nat) (p0 : Addr) (cap : Nat) (L : List PHold) (s i : Int) (w : World) (hV : HoldsAt n₀ w (.slice (some p0) L.length cap) L) (hn : n₀ ≤ w.heap.size) (hL : L.length ≤ 1048576) (hs : SortedH L) :
    Calls Try.prog 45 #[.slice (some p0) L.length cap, .int .i64 s, .int .i64 i] w fun e w' => ∃ (u : Value) (c : Int) (K : List PHold), e = .returned (.tuple #[u, .int .i64 c]) ∧ Hid (((∃ x ∈ L, isAt s i x = true) ∧ c = 0 ∧ K = dropL L s i) ∨ ((∀ x ∈ L, isAt s i x = false) ∧ c = 17 ∧ K = [])) ∧ w'.ownsRow w.heap.size 45 3 u K.length (holdVals K) ∧ Below w.heap.size w w' := by
  have HPl := hide (placeOfHold_any n₀ _ L s i w hV hn hL hs)
  have HCl : Hid (∀ wx, Below w.heap.size w wx → Calls Try.prog 60 #[.slice (some p0) L.length cap] wx fun e w' => ∃ u, e = .returned u ∧ w'.ownsRow wx.heap.size 45 3 u L.length (holdVals L) ∧ Below wx.heap.size wx w') := fun wx hb =>
    cloneHolds_any n₀ p0 cap L wx (hV.below (Nat.le_refl _) (hb.mono hn)) (by have := hb.size; omega) hL
  have HS := hide hs
  clear hV hs
  go_enter Try.func45, Try.ntmps45
  go_wp2_with fail
  refine HPl.out.mono ?_
  rintro e w1 ⟨p, r, rfl, hp, hb1⟩
  have hs1 := hb1.size
  cases r
  · have HE : Hid (∀ x ∈ L, isAt s i x = false) := fun x hx => by
      cases hat : isAt s i x with
      | false => rfl
      | true =>
        exfalso
        obtain ⟨⟨h1, h2, h3⟩, h4⟩ := hp.out
        obtain ⟨j, hj, rfl⟩ := List.getElem_of_mem hx
        have hjx : L[j]?.getD holdNil = L[j] := by rw [List.getElem?_eq_getElem hj, Option.getD_some]
        obtain ⟨ha, hb⟩ := isAt_iff.1 hat
        have hpj : p ≤ j := by
          rcases Nat.lt_or_ge j p with h | h
          · have := h2 j h
            rw [hjx, lessB_iff] at this
            simp only at this
            omega
          · exact h
        have hpl : p < L.length := by omega
        have hno : ¬ isAt s i (L[p]?.getD holdNil) = true := fun h => by have := h4.2 ⟨hpl, h⟩; cases this
        have hne : p ≠ j := fun e => hno (by rw [e, hjx]; exact hat)
        have hl := HS.out p j (by omega) hj
        have h5 := h3 p (Nat.le_refl _) hpl
        rw [hjx, lessB_iff] at hl
        rw [← Bool.not_eq_true, lessB_iff] at h5
        rw [isAt_iff] at hno
        simp only at h5
        omega
    go_wp2_with fail
    go_ret2
    exact ⟨.slice none 0 0, 17, [], rfl, .inr ⟨HE.out, rfl, rfl⟩, World.ownsRow_nil _ _ _ _, hb1⟩
  · have hpl : p < L.length := (hp.out.2.1 rfl).1
    have hat := (hp.out.2.1 rfl).2
    have HE : Hid ((∃ x ∈ L, isAt s i x = true) ∧ L.take p ++ L.drop (p + 1) = dropL L s i) := ⟨⟨L[p]?.getD holdNil, at_memH hpl, hat⟩, (dropL_at HS.out hpl hat).symm⟩
    obtain ⟨j, hj⟩ : ∃ j, j = p + 1 := ⟨_, rfl⟩
    have hpj : (p : Int) + 1 = (j : Int) := by omega
    have HJ := hide hj
    have HLe : Hid ((dropL L s i).length = L.length - 1) := by rw [Hid, ← HE.out.2]; simp; omega
    clear hp hat hj
    go_wp2_with fail
    refine (HCl.out _ hb1).mono ?_
    rintro e w2 ⟨u, rfl, hrow, hb2⟩
    have hs2 := hb2.size
    obtain ⟨g, capu, rfl⟩ : ∃ g c, u = .slice (some ⟨g, 0, none⟩) L.length c := by
      obtain ⟨_, ⟨rfl, h0⟩ | ⟨g, cap, cur, rfl, _⟩⟩ := hrow
      · omega
      · exact ⟨g, cap, rfl⟩
    have HDe := hide (deleteHold_any w1.heap.size g capu p j HJ.out L w2 hrow hpl hL)
    clear hrow
    go_wp2_with (go_at_call 65; refine HDe.out.mono ?_; rintro e w3 ⟨rfl, hrow3, hb3⟩)
    have HRow3 := hide hrow3
    clear hrow3
    go_wp2_with fail
    go_ret2
    refine ⟨_, 0, dropL L s i, rfl, .inl ⟨HE.out.1, rfl, rfl⟩, ?_, hb1.trans ((hb2.mono (by omega)).trans (hb3.mono (by omega)))⟩
    have h3 := HRow3.out
    rw [HJ.out, HE.out.2] at h3
    rw [HLe.out]
    exact ownsRow_base3 h3 (by omega)
end Go.Proofs.Ytahdgbfcaclflaa
