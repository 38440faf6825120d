/-
  The path of a node, as the program reckons it: up by the pointers, then turned round.
-/
import Derived.Test.YtkfklaapoaocdabSpecPath
import Derived.Deep.RegionWith
namespace Go.Proofs.Ytkfklaapoaocdab
open Go.RowKit

/-- A row that has been turned round from both ends, so far. -/
def Turned (xs : List Value) (i : Nat) (cs : Array Value) : Prop := cs.size ≥ xs.length ∧ ∀ p, p < xs.length → cs[p]? = if p < i ∨ xs.length - 1 - i < p then xs[xs.length - 1 - p]? else xs[p]?

theorem Turned.step {xs : List Value} {i : Nat} {cs : Array Value} (h : Turned xs i cs) (hi : i < xs.length - 1 - i) :
    Turned xs (i + 1) ((cs.setIfInBounds i (xs[xs.length - 1 - i]'(by omega))).setIfInBounds (xs.length - 1 - i) (xs[i]'(by omega))) := by
  obtain ⟨h1, h2⟩ := h
  refine ⟨by simpa using h1, fun p hp => ?_⟩
  rw [Array.getElem?_setIfInBounds, Array.getElem?_setIfInBounds]
  by_cases e1 : xs.length - 1 - i = p
  · rw [if_pos e1]
    simp only [Array.size_setIfInBounds]
    rw [if_pos (by omega), if_pos (by omega)]
    rw [List.getElem?_eq_getElem (by omega)]
    congr 1
    congr 1
    omega
  · rw [if_neg e1]
    by_cases e2 : i = p
    · rw [if_pos e2, if_pos (by omega), if_pos (by omega), List.getElem?_eq_getElem (by omega)]
      subst e2
      rfl
    · rw [if_neg e2, h2 p hp]
      by_cases c : p < i ∨ xs.length - 1 - i < p
      · rw [if_pos c, if_pos (by omega)]
      · rw [if_neg c, if_neg (by omega)]

theorem Turned.done {xs : List Value} {i : Nat} {cs : Array Value} (h : Turned xs i cs) (hi : xs.length ≤ 2 * i + 1) : ∀ p, p < xs.length → cs[p]? = xs.reverse[p]? := by
  intro p hp
  rw [h.2 p hp, List.getElem?_reverse hp]
  by_cases c : p < i ∨ xs.length - 1 - i < p
  · rw [if_pos c]
  · rw [if_neg c]
    have : p = xs.length - 1 - p := by omega
    rw [← this]

set_option maxHeartbeats 4000000 in
set_option maxRecDepth 100000 in
theorem reverse_any (g n c : Nat) (xs : List Value) (hx : xs.length = n) (hp : ∀ v ∈ xs, ∃ p, v = .pointer p) (hn : n ≤ 1048576) (cs : Array Value) (w : World) (hh : w.heap[g]? = some (.cells cs 54 (0, 0))) (hcs : Turned xs 0 cs) :
    Calls Try.prog 55 #[.slice (some ⟨g, 0, none⟩) n c] w fun e w' => e = .returned (.tuple #[]) ∧ (∃ cs', w'.heap[g]? = some (.cells cs' 54 (0, 0)) ∧ cs'.size = cs.size ∧ ∀ p, p < n → cs'[p]? = xs.reverse[p]?) ∧ w'.heap.size = w.heap.size ∧ Below g w w' := by
  have HX := hide hx
  have HP := hide hp
  clear hx hp
  have HC0 := hide hcs
  clear hcs
  have HH0 := hide hh
  have hg := (Array.getElem?_eq_some_iff.1 hh).1
  clear hh
  go_enter Try.func55, Try.ntmps55
  go_wp2_with fail
  go_loopw [2, 3] (fun iv jv wr => ∃ (i : Nat) (cs' : Array Value), i ≤ n ∧ iv = .int .i64 i ∧ jv = .int .i64 ((n : Int) - 1 - i) ∧ Hid (wr.heap[g]? = some (.cells cs' 54 (0, 0))) ∧ Hid (Turned xs i cs') ∧ Hid (cs'.size = cs.size) ∧ wr.heap.size = w.heap.size ∧ Below g w wr) (fun iv _ _ => n - (intOf iv).toNat)
  case atStart => exact ⟨0, cs, Nat.zero_le _, rfl, by simp, HH0, HC0, rfl, rfl, Below.refl _ _⟩
  case round =>
    obtain ⟨i, cs', hin, rfl, rfl, hh', hcs', hsz, hws, hbr⟩ := hrel
    by_cases hlt : (i : Int) < (n : Int) - 1 - i
    · have hxl := HX.out
      obtain ⟨j, hj⟩ : ∃ j : Nat, (n : Int) - 1 - i = j := ⟨n - 1 - i, by omega⟩
      have hj2 : j = xs.length - 1 - i := by omega
      have hij : i < j := by omega
      have hjn : j < n := by omega
      have h1 := hcs'.out.2 i (by omega)
      have h2 := hcs'.out.2 j (by omega)
      rw [if_neg (by omega), List.getElem?_eq_getElem (by omega)] at h1
      rw [if_neg (by omega), List.getElem?_eq_getElem (by omega)] at h2
      obtain ⟨vi, hvi⟩ : ∃ vi, vi = xs[i]'(by omega) := ⟨_, rfl⟩
      obtain ⟨vj, hvj⟩ : ∃ vj, vj = xs[j]'(by omega) := ⟨_, rfl⟩
      rw [← hvi] at h1
      rw [← hvj] at h2
      have k1 : wr.cell? ⟨g, i, none⟩ = some vi := by rw [cell_of_heap hh'.out, h1]
      have k2 : wr.cell? ⟨g, j, none⟩ = some vj := by rw [cell_of_heap hh'.out, h2]
      have f1 := frozen_of_heap hh'.out i
      have f2 := frozen_of_heap hh'.out j
      obtain ⟨pi, hpi⟩ := HP.out vi (by rw [hvi]; exact List.getElem_mem _)
      obtain ⟨pj, hpj⟩ := HP.out vj (by rw [hvj]; exact List.getElem_mem _)
      have HT : Hid (Turned xs (i + 1) ((cs'.setIfInBounds i vj).setIfInBounds j vi)) := by
        have := hcs'.out.step (by omega)
        subst hj2
        rw [Hid, hvi, hvj]
        exact this
      have HH2 : ∀ u : World, u.heap = wr.heap → ((u.setCell ⟨g, i, none⟩ vj).setCell ⟨g, j, none⟩ vi).heap[g]? = some (.cells ((cs'.setIfInBounds i vj).setIfInBounds j vi) 54 (0, 0)) := fun u hu =>
        heap_setCell_same _ _ _ _ _ _ (heap_setCell_same _ _ _ _ _ _ (by rw [hu]; exact hh'.out))
      have HSz : Hid (((cs'.setIfInBounds i vj).setIfInBounds j vi).size = cs.size) := by rw [Hid]; simp [hsz.out]
      rw [hj]
      have hlt1 : (i : Int) < (j : Int) := by omega
      have hlt2 : (i : Int) < (n : Int) := by omega
      have hlt3 : (j : Int) < (n : Int) := by omega
      have hij2 : ¬ i = j := by omega
      have hji : ¬ j = i := by omega
      clear hlt hvi hvj h1 h2 hj2 hxl
      subst hpi hpj
      have HH3 := hide HH2
      clear HH2
      go_wp2_with fail
      go_region
      all_goals
        go_wp2_with fail
        exact ⟨⟨i + 1, _, by omega, by go_num, congrArg (Value.int .i64) (by omega), HH3.out wr rfl, HT, HSz, by simp; omega, ((hbr.setCell (p := ⟨g, i, none⟩) (Nat.le_refl _) _).setCell (p := ⟨g, j, none⟩) (Nat.le_refl _) _).drew⟩, by simp [intOf]; omega⟩
    · have HD : Hid (∀ p, p < n → cs'[p]? = xs.reverse[p]?) := fun p hp => hcs'.out.done (by rw [HX.out]; omega) p (by rw [HX.out]; exact hp)
      have hlt1 : decide ((i : Int) < (n : Int) - 1 - i) = false := by simpa using hlt
      go_wp2_with fail
      go_end0
      exact ⟨rfl, ⟨cs', hh'.out, hsz.out, HD.out⟩, hws, hbr⟩

def curPtr (ad : Int → Nat) (cur : Int) : Value := .pointer (if cur = 0 then none else some ⟨ad cur, 0, none⟩)
theorem curPtr_none (ad : Int → Nat) : curPtr ad 0 = .pointer none := by simp [curPtr]
theorem curPtr_some {ad : Int → Nat} {cur : Int} (h : cur ≠ 0) : curPtr ad cur = .pointer (some ⟨ad cur, 0, none⟩) := by simp [curPtr, h]

theorem up_ptr {n₀ : Nat} {W : World} {d : PDoc} {tb : Nat} {ad : Int → Nat} {up : Int → Option Int} {kv : Int → Value} (hgr : Grown n₀ W d tb ad up kv) (G : Good d) (i : Int) : ptrTo ((up i).map ad) = curPtr ad (parentOf d.nodes i) := by
  cases hup : up i with
  | none =>
    rw [parentOf_none ((hgr.upNone _).1 hup), curPtr_none]
    rfl
  | some p =>
    have hk := hgr.upKid _ _ hup
    have e : parentOf d.nodes i = p := one_parent G.once (parentOf_up G.rise (kidsAt_all hk)) hk
    obtain ⟨y, hy, hyp, -⟩ := mem_kidsAt hk
    have h1 : 1 ≤ p := (G.toFlat.ids_pos (by rw [← hyp]; exact List.mem_map.2 ⟨y, hy, rfl⟩)).1
    rw [e, curPtr_some (by omega)]
    rfl

theorem ptrs_all (ad : Int → Nat) (ks : List Int) : ∀ v ∈ ks.map (fun j => Value.pointer (some ⟨ad j, 0, none⟩)), ∃ p, v = .pointer p := by
  intro v hv
  obtain ⟨j, _, rfl⟩ := List.mem_map.1 hv
  exact ⟨_, rfl⟩

theorem row_turned {w w' : World} {base g n c : Nat} {e : TypeId} {xs : List Value} {cs cs' : Array Value} (h : w.ownsRow base e 1 (.slice (some ⟨g, 0, none⟩) n c) n xs) (hh : w.heap[g]? = some (.cells cs e (0, 0))) (hh' : w'.heap[g]? = some (.cells cs' e (0, 0))) (hs : cs'.size = cs.size) (hr : ∀ p, p < n → cs'[p]? = xs.reverse[p]?) :
    w'.ownsRow base e 1 (.slice (some ⟨g, 0, none⟩) n c) n xs.reverse := by
  obtain ⟨hl, ⟨h1, _⟩ | ⟨g', cap, cur, h1, hg, h2, h3, h4, h5, h6⟩⟩ := h
  · cases h1
  · simp only [Value.slice.injEq, Option.some.injEq, Addr.mk.injEq, and_true, true_and] at h1
    obtain ⟨rfl, rfl⟩ := h1
    rw [h2] at hh
    simp only [Option.some.injEq, Obj.cells.injEq, and_true] at hh
    obtain rfl := hh
    refine ⟨by simpa using hl, .inr ⟨g, c, cs', rfl, hg, hh', h3, h4, by rw [hs, h5], ?_⟩⟩
    apply List.ext_getElem?
    intro p
    rw [List.getElem?_take, Nat.mul_one]
    by_cases hp : p < n
    · rw [if_pos hp, Array.getElem?_toList, hr p hp]
    · rw [if_neg hp, List.getElem?_eq_none]
      simp at hl ⊢; omega

theorem turned_start {w : World} {base g n c : Nat} {e : TypeId} {xs : List Value} (h : w.ownsRow base e 1 (.slice (some ⟨g, 0, none⟩) n c) n xs) : ∃ cs, w.heap[g]? = some (.cells cs e (0, 0)) ∧ Turned xs 0 cs := by
  obtain ⟨hl, ⟨h1, _⟩ | ⟨g', cap, cur, h1, hg, h2, h3, h4, h5, h6⟩⟩ := h
  · cases h1
  · simp only [Value.slice.injEq, Option.some.injEq, Addr.mk.injEq, and_true, true_and] at h1
    obtain ⟨rfl, rfl⟩ := h1
    refine ⟨cur, h2, by omega, fun p hp => ?_⟩
    rw [if_neg (by omega), ← h6, List.getElem?_take, if_pos (by omega), Array.getElem?_toList]

set_option maxHeartbeats 4000000 in
set_option maxRecDepth 100000 in
theorem implPath_any (d : PDoc) (G : Good d) (n₀ tb : Nat) (ad : Int → Nat) (up : Int → Option Int) (kv : Int → Value) (id : Int) (q : Nat) (hq : Dep d.nodes d.root q id) (w : World) (hgr : Grown n₀ w d tb ad up kv) :
    Calls Try.prog 39 #[.pointer (some ⟨ad id, 0, none⟩)] w (RowPost w (ups d.nodes q id).reverse ad) := by
  obtain ⟨i0, hinf, hz0, hz1, hz2⟩ := info_parts infoPtr
  have HG := hide G
  have HGr := hide hgr
  have HT := hide (hgr.tree G)
  have hq40 := G.dep_le hq
  obtain ⟨ch, hch⟩ : ∃ ch, ch = ups d.nodes q id := ⟨_, rfl⟩
  have hchl : ch.length = q + 1 := by rw [hch, ups_len]
  have HLf : Hid (Left d id ch) := .inl ⟨q, hq, hch⟩
  have HId : Hid (id ≠ 0) := by have := (G.toFlat.ids_pos (G.dep_in hq)).1; unfold Hid; omega
  rw [← hch]
  have HChl := hide hchl
  clear hq hch G hgr hchl
  rw [← curPtr_some HId.out]
  go_enter Try.func39, Try.ntmps39
  go_wp2_with fail
  go_loopw [0, 3] (fun pv ov wr => ∃ (pre rest : List Int) (cur : Int), pv = curPtr ad cur ∧ Hid (pre ++ rest = ch ∧ Left d cur rest) ∧ pre.length ≤ q + 1 ∧ (∃ a c, ov = .slice a pre.length c) ∧ Hid (wr.ownsRow w.heap.size 54 1 ov pre.length (pre.map fun j => Value.pointer (some ⟨ad j, 0, none⟩))) ∧ Below w.heap.size w wr) (fun _ ov _ => q + 2 - lenOf ov)
  case atStart => exact ⟨[], ch, id, rfl, ⟨rfl, HLf.out⟩, by simp, ⟨none, 0, rfl⟩, World.ownsRow_nil _ _ _ _, Below.refl _ _⟩
  case round =>
    obtain ⟨pre, rest, cur, rfl, hinv, hpl, ⟨ao, co, rfl⟩, hrow, hbr⟩ := hrel
    have hsz := hbr.size
    by_cases hc0 : cur = 0
    · subst hc0
      have hd := hinv.out.2.done HG.out
      have HE : Hid (pre = ch) := by have := hinv.out.1; rw [hd, List.append_nil] at this; exact this
      have hrow2 := hrow.out
      rw [HE.out, HChl.out] at hrow2
      have hpl2 : pre.length = q + 1 := by rw [HE.out]; exact HChl.out
      have hrow3 : wr.ownsRow w.heap.size 54 1 (.slice ao (q + 1) co) (q + 1) (ch.map fun j => Value.pointer (some ⟨ad j, 0, none⟩)) := by
        exact hrow2
      obtain ⟨g, c, hgc⟩ := row_some hrow3 (by omega)
      simp only [Value.slice.injEq] at hgc
      obtain ⟨rfl, -, rfl⟩ := hgc
      obtain ⟨cs, hh, hts⟩ := turned_start hrow3
      have hglo := (hrow3.lt g rfl).1
      have HRv := hide (reverse_any g (q + 1) co (ch.map fun j => Value.pointer (some ⟨ad j, 0, none⟩)) (by rw [List.length_map]; exact HChl.out) (ptrs_all ad ch) (by omega) cs wr hh hts)
      have HRow3 := hide hrow3
      have HH := hide hh
      rw [curPtr_none, hpl2]
      clear hd hinv hrow hrow2 hrow3 hh hts hpl2
      go_wp2_with fail
      refine HRv.out.mono ?_
      rintro e w1 ⟨rfl, ⟨cs', hh', hs', hr'⟩, hws, hb1⟩
      have HRow4 : Hid (w1.ownsRow w.heap.size 54 1 (.slice (some ⟨g, 0, none⟩) (q + 1) co) (q + 1) (ch.map fun j => Value.pointer (some ⟨ad j, 0, none⟩)).reverse) := row_turned HRow3.out HH.out hh' hs' hr'
      clear hh' hs' hr'
      go_wp2_with fail
      go_ret
      refine ⟨_, rfl, ?_, hbr.trans (hb1.mono hglo)⟩
      have := HRow4.out
      rw [List.length_reverse, HChl.out, List.map_reverse]
      exact this
    · obtain ⟨rest', hr1, hr2, hr3⟩ := hinv.out.2.next HG.out hc0
      have HInv : Hid ((pre ++ [cur]) ++ rest' = ch ∧ Left d (parentOf d.nodes cur) rest') := ⟨by rw [List.append_assoc, List.singleton_append, ← hr1]; exact hinv.out.1, hr2⟩
      have hpl2 : pre.length + 1 ≤ q + 1 := by
        have := congrArg List.length HInv.out.1
        rw [HChl.out] at this
        simp at this; omega
      obtain ⟨x, hx, hxc⟩ := node_of hr3
      have hB := HT.out x hx
      have hxl := hB.lt
      have c4 := hB.c4
      rw [up_ptr HGr.out HG.out] at c4
      rw [hxc] at hxl c4
      have c4' := (hbr.cell (p := ⟨ad cur, 4, none⟩) hxl).trans c4
      rw [curPtr_some hc0]
      have hcp : ∃ pp, curPtr ad (parentOf d.nodes cur) = .pointer pp := ⟨_, rfl⟩
      clear hr1 hr2 hr3 c4 hB hinv hx hxc
      generalize parentOf d.nodes cur = nxt at *
      have HOwn := hide hrow.out
      obtain ⟨pp, hpp⟩ := hcp
      have HPP := hide hpp
      rw [hpp] at c4'
      clear hpp
      have hxl2 : ad cur < wr.heap.size := by omega
      go_wp2_with (at_builtin; refine wpList_append_own _ rfl _ _ 62 rfl w.heap.size 54 i0 (.pointer none) 1 8 Try.underlying62 hinf hz0 hz1 hz2 rfl (by decide) _ _ _ rfl (HOwn.out.alloc _) ⟨wr.heap.size, 0, none⟩ 1 1 [.pointer (some ⟨ad cur, 0, none⟩)] rfl rfl (cell_one_new _ _ _) (one_ptr _) (by unfold maxLen; omega) (by omega) (by simp; omega) ?_)
      intro v' w1 hown' hgrow _
      have hb3 := (hbr.alloc (by omega) (.cells #[.pointer (some ⟨ad cur, 0, none⟩)] 54)).grown hgrow (by simp; omega) (fun g hg => (HOwn.out.lt g hg).1)
      have HRow3 : Hid (w1.ownsRow w.heap.size 54 1 v' (pre ++ [cur]).length ((pre ++ [cur]).map fun j => Value.pointer (some ⟨ad j, 0, none⟩))) := by
        unfold Hid; simpa using hown'
      obtain ⟨g3, c3, rfl⟩ := row_some HRow3.out (by simp)
      have hs3 := hb3.size
      have e4 : w1.cell? ⟨ad cur, 4, none⟩ = some (.pointer pp) := (hb3.cell (p := ⟨ad cur, 4, none⟩) hxl).trans (((hbr.cell (p := ⟨ad cur, 4, none⟩) hxl).symm).trans c4')
      clear hown' hgrow hrow HOwn c4'
      go_wp2_with fail
      exact ⟨⟨pre ++ [cur], rest', nxt, HPP.out.symm, HInv, by simp; omega, ⟨_, c3, by simp; rfl⟩, HRow3, hb3⟩, by simp [lenOf]; omega⟩

set_option maxHeartbeats 1000000 in
set_option maxRecDepth 100000 in
theorem implPathOf_any (n₀ : Nat) (d : PDoc) (s : Value) (id : Int) (w : World) (hN : NodesAt n₀ w s d.nodes) (hn : n₀ ≤ w.heap.size) (hl : d.nodes.length ≤ 1048576) (hwf : WfDoc d) (c : Int) (ks : List Int) (hc : c = askOf d id) (hks : ks = pathAns d id) :
    Calls Try.prog 17 #[.agg #[.int .i64 d.root, .int .i64 d.next, s], .int .i64 id] w (ListPost w ks c) := by
  have hW := (Below.refl w.heap.size w).alloc (Nat.le_refl _) (.cells #[.int .i64 d.root, .int .i64 d.next, s] 33)
  have HA : Hid (Calls Try.prog 33 #[.agg #[.int .i64 d.root, .int .i64 d.next, s], .int .i64 id] (w.alloc (.cells #[.int .i64 d.root, .int .i64 d.next, s] 33)) (AtPost (w.alloc (.cells #[.int .i64 d.root, .int .i64 d.next, s] 33)) d id)) :=
    branchAt_any n₀ d s id _ (hN.below (Nat.le_refl _) (hW.mono hn)) (by simp; omega) hl hwf
  have HC := hide hc
  have HK := hide hks
  have hkl : ks.length ≤ 1048576 := by rw [hks]; exact pathAns_len d id
  obtain ⟨a, cap, rfl, -⟩ := hN
  clear hc hks hwf
  go_enter Try.func17, Try.ntmps17
  go_wp2_with fail
  refine HA.out.mono ?_
  rintro e w1 (⟨rfl, hno, hb1⟩ | ⟨rfl, ⟨hg, hin⟩, hb1⟩ | ⟨tb, ad, up, kv, rfl, ⟨hg, hin⟩, hgr, hb1⟩)
  · simp only [World.size_alloc] at hb1
    have h1 : Hid (c = 1) := HC.out.trans (askOf_bad hno)
    have h2 : Hid (ks = []) := HK.out.trans (pathAns_no (by rw [← HC.out, h1.out]; decide))
    clear hno
    go_wp2_with fail
    go_ret2
    exact ⟨.slice none 0 0, ret_vc h1.out.symm, by rw [h2.out]; exact World.ownsRow_nil _ _ _ _, hW.trans (hb1.mono (by omega))⟩
  · simp only [World.size_alloc] at hb1
    have h1 : Hid (c = 5) := HC.out.trans (askOf_none hg hin)
    have h2 : Hid (ks = []) := HK.out.trans (pathAns_no (by rw [← HC.out, h1.out]; decide))
    clear hg hin
    go_wp2_with fail
    go_ret2
    exact ⟨.slice none 0 0, ret_vc h1.out.symm, by rw [h2.out]; exact World.ownsRow_nil _ _ _ _, hW.trans (hb1.mono (by omega))⟩
  · simp only [World.size_alloc] at hb1
    have hs1 := hb1.size
    simp only [World.size_alloc] at hs1
    have h1 : Hid (c = 0) := HC.out.trans (askOf_ok hg hin)
    obtain ⟨q, hq, hpa⟩ := pathAns_ok (d := d) (id := id) (by rw [← HC.out, h1.out])
    have h2 : ks = (ups d.nodes q id).reverse := HK.out.trans hpa
    have HT := hide (hgr.tree hg)
    have HIn : Hid (∀ k ∈ ks, k ∈ idsOf d.nodes) := by rw [Hid, h2]; intro k hk; exact hg.ups_in hq k (List.mem_reverse.1 hk)
    have HPt := hide (implPath_any d hg _ tb ad up kv id q hq w1 hgr)
    rw [← h2] at HPt
    clear hg hin hgr hq hpa h2
    go_wp2_with fail
    refine HPt.out.mono ?_
    rintro e w3 ⟨v3, rfl, hrow3, hb3⟩
    have hs3 := hb3.size
    have HIds := hide (idsOf_any d.nodes ad up w3.heap.size ks HIn.out v3 w3 (HT.out.below (by omega) hb3) (ptrs_of_row hrow3) (Nat.le_refl _) hkl)
    obtain ⟨ar, cr, rfl⟩ := row_shape hrow3
    clear hrow3
    go_wp2_with fail
    refine HIds.out.mono ?_
    rintro e w4 ⟨v4, rfl, hrow4, hb4⟩
    have HRow := hide hrow4
    obtain ⟨ar4, cr4, rfl⟩ := row_shape hrow4
    clear hrow4
    go_wp2_with fail
    go_ret2
    exact ⟨_, ret_vc h1.out.symm, ownsRow_base HRow.out (by omega), hW.trans (((hb1.trans (hb3.mono (by omega))).trans (hb4.mono (by omega))).mono (by omega))⟩
end Go.Proofs.Ytkfklaapoaocdab
