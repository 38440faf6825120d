/-
  What the program's hangUp answers: all nodes hung up on their parents; or that a kid is not there, or hangs twice.
-/
import Derived.Test.YtfjhpfgffbghdaaGreatDoorHungJ
namespace Go.Proofs.YtfjhpfgffbghdaaGreatDoor
open Go.RowKit

/-- What holds when so many nodes are hung with all their kids, and the next one with so many of its own. -/
structure HangInv (l : List PNode) (k m : Nat) (up : Int → Option Int) (kd : Int → List Int) : Prop where
  there : ∀ j ∈ allKids (l.take k) ++ (l[k]?.getD nodeNil).kids.take m, j ∈ idsOf l
  once : (allKids (l.take k) ++ (l[k]?.getD nodeNil).kids.take m).Nodup
  done : ∀ j, j < k → kd (l[j]?.getD nodeNil).id = (l[j]?.getD nodeNil).kids
  cur : k < l.length → kd (l[k]?.getD nodeNil).id = (l[k]?.getD nodeNil).kids.take m
  rest : ∀ j, k < j → j < l.length → kd (l[j]?.getD nodeNil).id = []
  upNone : ∀ i, up i = none ↔ i ∉ allKids (l.take k) ++ (l[k]?.getD nodeNil).kids.take m
  upKid : ∀ i p, up i = some p → i ∈ kidsAt l p

theorem HangInv.start (l : List PNode) : HangInv l 0 0 (fun _ => none) (fun _ => []) :=
  ⟨by simp [allKids], by simp [allKids], fun _ h => by omega, by simp, by simp, by simp [allKids], by simp⟩

theorem id_inj {l : List PNode} (hr : (idsOf l).Pairwise (· < ·)) {i j : Nat} (hi : i < l.length) (hj : j < l.length) (he : (l[i]?.getD nodeNil).id = (l[j]?.getD nodeNil).id) : i = j := by
  rcases Nat.lt_trichotomy i j with h | h | h
  · have := pw_at hr h (by rw [idsOf_len]; exact hj); simp [idsOf] at this; simp [hi, hj] at he; omega
  · exact h
  · have := pw_at hr h (by rw [idsOf_len]; exact hi); simp [idsOf] at this; simp [hi, hj] at he; omega

theorem HangInv.kid {l : List PNode} {k m : Nat} {up : Int → Option Int} {kd : Int → List Int} (h : HangInv l k m up kd) (hr : (idsOf l).Pairwise (· < ·)) (hk : k < l.length) (hm : m < (l[k]?.getD nodeNil).kids.length)
    (h1 : (l[k]?.getD nodeNil).kids[m]?.getD 0 ∈ idsOf l) (h2 : up ((l[k]?.getD nodeNil).kids[m]?.getD 0) = none) :
    HangInv l k (m + 1) (fun j => if j = (l[k]?.getD nodeNil).kids[m]?.getD 0 then some (l[k]?.getD nodeNil).id else up j) (fun j => if j = (l[k]?.getD nodeNil).id then kd j ++ [(l[k]?.getD nodeNil).kids[m]?.getD 0] else kd j) := by
  have hno := (h.upNone _).1 h2
  have hx : l[k]?.getD nodeNil ∈ l := by simp [hk]
  have hin : (l[k]?.getD nodeNil).kids[m]?.getD 0 ∈ kidsAt l (l[k]?.getD nodeNil).id := by
    rw [kidsAt_of hr hx, List.getElem?_eq_getElem hm]; exact List.getElem_mem hm
  have hsn := int_snoc hm
  generalize hy : (l[k]?.getD nodeNil).kids[m]?.getD 0 = y at *
  have e1 : allKids (l.take k) ++ (l[k]?.getD nodeNil).kids.take (m + 1) = (allKids (l.take k) ++ (l[k]?.getD nodeNil).kids.take m) ++ [y] := by rw [hsn, List.append_assoc]
  refine ⟨?_, ?_, fun j hj => ?_, fun _ => ?_, fun j h3 h4 => ?_, fun i => ?_, fun i p hp => ?_⟩
  · rw [e1]; intro j hj; rcases List.mem_append.1 hj with hj | hj
    · exact h.there j hj
    · simp at hj; subst hj; exact h1
  · rw [e1, List.nodup_append]; exact ⟨h.once, by simp, by intro a ha b hb e; simp at hb; subst hb; subst e; exact hno ha⟩
  · have := fun e => id_inj hr (by omega) hk e (i := j)
    rw [if_neg (fun e => by have := this e; omega)]; exact h.done j hj
  · rw [if_pos rfl, h.cur hk, hsn]
  · have := fun e => id_inj hr h4 hk e
    rw [if_neg (fun e => by have := this e; omega)]; exact h.rest j h3 h4
  · rw [e1]
    by_cases e : i = y
    · subst e; simp
    · rw [if_neg e, h.upNone]; simp [e]
  · by_cases e : i = y
    · subst e; rw [if_pos rfl] at hp; cases hp; exact hin
    · rw [if_neg e] at hp; exact h.upKid i p hp

theorem HangInv.next {l : List PNode} {k m : Nat} {up : Int → Option Int} {kd : Int → List Int} (h : HangInv l k m up kd) (hk : k < l.length) (hm : (l[k]?.getD nodeNil).kids.length ≤ m) : HangInv l (k + 1) 0 up kd := by
  have e1 : allKids (l.take (k + 1)) ++ (l[k + 1]?.getD nodeNil).kids.take 0 = allKids (l.take k) ++ (l[k]?.getD nodeNil).kids.take m := by
    rw [kids_snoc hk, List.take_of_length_le (l := (l[k]?.getD nodeNil).kids) hm]; simp
  refine ⟨by rw [e1]; exact h.there, by rw [e1]; exact h.once, fun j hj => ?_, fun hlt => ?_, fun j h3 h4 => h.rest j (by omega) h4, by rw [e1]; exact h.upNone, h.upKid⟩
  · rcases Nat.lt_succ_iff_lt_or_eq.1 hj with hlt | rfl
    · exact h.done j hlt
    · rw [h.cur hk, List.take_of_length_le hm]
  · rw [h.rest (k + 1) (by omega) hlt]; simp

theorem kid_new {l : List PNode} (hn : (allKids l).Nodup) {k m : Nat} (hk : k < l.length) (hm : m < (l[k]?.getD nodeNil).kids.length) :
    (l[k]?.getD nodeNil).kids[m]?.getD 0 ∉ allKids (l.take k) ++ (l[k]?.getD nodeNil).kids.take m := by
  have e1 : l = l.take k ++ (l[k]?.getD nodeNil) :: l.drop (k + 1) := by simp [hk]
  have e2 : (l[k]?.getD nodeNil).kids = (l[k]?.getD nodeNil).kids.take m ++ (l[k]?.getD nodeNil).kids[m]?.getD 0 :: (l[k]?.getD nodeNil).kids.drop (m + 1) := by
    rw [List.getElem?_eq_getElem hm]; simp
  have e3 : allKids l = allKids (l.take k) ++ ((l[k]?.getD nodeNil).kids ++ allKids (l.drop (k + 1))) := by
    conv => lhs; rw [e1]
    simp [allKids]
  have e : allKids l = (allKids (l.take k) ++ (l[k]?.getD nodeNil).kids.take m) ++ ((l[k]?.getD nodeNil).kids[m]?.getD 0 :: ((l[k]?.getD nodeNil).kids.drop (m + 1) ++ allKids (l.drop (k + 1)))) := by
    rw [e3]
    conv => lhs; rw [e2]
    simp
  rw [e, List.nodup_append] at hn
  intro hmem
  exact hn.2.2 _ hmem _ (List.mem_cons_self) rfl

theorem row_cells {w : World} {base : Nat} {e : TypeId} {size : Nat} {v : Value} {n : Nat} {xs : List Value} (h : w.ownsRow base e size v n xs) {g : Nat} (hg : v.ownBlock = some g) : ∃ (c : Nat) (cur : Array Value) (u : Nat), w.heap[g]? = some (.cells cur e (0, 0)) ∧ c = u := by
  obtain ⟨_, ⟨rfl, _⟩ | ⟨g', cap, cur, rfl, _, hh, _⟩⟩ := h
  · cases hg
  · simp only [Value.ownBlock, Option.some.injEq] at hg
    subst hg
    exact ⟨0, cur, 0, hh, rfl⟩

def HangPost (base mb n : Nat) (w : World) (l : List PNode) (ad : Int → Nat) (e : Ending) (w' : World) : Prop :=
  (∃ (up : Int → Option Int) (kv : Int → Value), e = .returned (.bool true) ∧ (∀ j ∈ allKids l, j ∈ idsOf l) ∧ (allKids l).Nodup ∧ Hung base w' l ad up (kidsAt l) kv ∧ (∀ i, up i = none ↔ i ∉ allKids l) ∧ (∀ i p, up i = some p → i ∈ kidsAt l p) ∧ PtrMap w' mb n (idMap l ad) ∧ Below base w w') ∨
  (e = .returned (.bool false) ∧ ¬ ((∀ j ∈ allKids l, j ∈ idsOf l) ∧ (allKids l).Nodup) ∧ Below base w w')

theorem Hung.kids {n₀ : Nat} {W : World} {l : List PNode} {ad : Int → Nat} {up : Int → Option Int} {kd kd' : Int → List Int} {kv : Int → Value} (h : Hung n₀ W l ad up kd kv) (he : ∀ x ∈ l, kd x.id = kd' x.id) : Hung n₀ W l ad up kd' kv :=
  ⟨h.base, h.node, fun x hx => by rw [← he x hx]; exact h.row x hx, h.inj, h.apart⟩

theorem hangInfo : (Tryz.prog.info? 93).map (fun i => (i.zero, i.size, i.bytes)) = some (some (.pointer none), 1, 8) := by kernel_rfl

set_option maxHeartbeats 1000000 in
set_option maxRecDepth 100000 in
theorem hangUp_any (n₀ base mb n : Nat) (s : Value) (l : List PNode) (ad : Int → Nat) (w : World) (hN : NodesAt n₀ w s l) (hn : n₀ ≤ base) (hbase : base ≤ w.heap.size) (hl : l.length ≤ 40) (hkl : ∀ x ∈ l, x.kids.length ≤ 12) (hid : ∀ x ∈ l, Wf64 x.id) (hwf : ∀ x ∈ l, ∀ k ∈ x.kids, Wf64 k) (hr : (idsOf l).Pairwise (· < ·))
    (hH : Hung base w l ad (fun _ => none) (fun _ => []) (fun _ => .slice none 0 0)) (hM : PtrMap w mb n (idMap l ad)) :
    Calls Tryz.prog 130 #[.map (some mb), s] w (HangPost base mb n w l ad) := by
  obtain ⟨i0, hi, hz0, hz1, hz2⟩ := info_parts hangInfo
  have HKL := hide hkl
  have HWF := hide hwf
  have HID := hide hid
  have HRise := hide hr
  clear hkl hwf hr hid
  obtain ⟨a, cap, rfl, hk'⟩ := hN
  go_enter Tryz.func130, Tryz.ntmps130
  go_wp2_with fail
  go_loopw [13] (fun i' wr => ∃ (k : Nat) (up : Int → Option Int) (kd : Int → List Int) (kv : Int → Value), k ≤ l.length ∧ i' = .int .i64 k ∧ Hid (HangInv l k 0 up kd) ∧ Hid (Hung base wr l ad up kd kv) ∧ Hid (PtrMap wr mb n (idMap l ad)) ∧ Below base w wr) (fun i' _ => l.length - (intOf i').toNat)
  case atStart => exact ⟨0, _, _, _, Nat.zero_le _, rfl, HangInv.start l, hH, hM, Below.refl _ _⟩
  case round =>
    obtain ⟨wo, hwo⟩ : ∃ wo, wo = wr := ⟨_, rfl⟩
    subst hwo
    obtain ⟨k, up, kd, kv, hkl', rfl, hinv, hhg, hpm, hbr⟩ := hrel
    clear hH hM
    have hsz := hbr.size
    by_cases hlt : k < l.length
    · obtain ⟨b, off, rfl, hb, hc⟩ := hk'.resolve_left (by intro e; simp [e] at hlt)
      have hAt := (hc k hlt).below hb hn (hbr.mono hn)
      have g0 := hAt.c0
      have g1 := hAt.c1
      have g2 := hAt.c2
      have g3 := hAt.c3
      obtain ⟨vk, g4, hik⟩ := hAt.c4
      obtain ⟨ak, ck, rfl, hka⟩ := hik
      have HX : Hid ((l[k]?.getD nodeNil) ∈ l) := by simp [Hid, hlt]
      have hkx := HKL.out _ HX.out
      have hix : idMap l ad (l[k]?.getD nodeNil).id = some (ad (l[k]?.getD nodeNil).id) := by unfold idMap; rw [if_pos (show (l[k]?.getD nodeNil).id ∈ idsOf l from List.mem_map_of_mem HX.out)]
      have hlook := fun o => ((hpm.out.alloc o).look (HID.out _ HX.out))
      rw [hix] at hlook
      simp only [ptrTo, Option.map_some] at hlook
      have HWx := hide (HWF.out _ HX.out)
      clear hAt hc hk' HKL HWF hix
      generalize hxe : l[k]?.getD nodeNil = x at *
      have HXe := hide hxe
      clear hxe
      go_wp2_with fail
      go_loopw [24] (fun i' wq => ∃ (m : Nat) (up : Int → Option Int) (kd : Int → List Int) (kv : Int → Value), m ≤ x.kids.length ∧ i' = .int .i64 m ∧ Hid (HangInv l k m up kd) ∧ Hid (Hung base wq l ad up kd kv) ∧ Hid (PtrMap wq mb n (idMap l ad)) ∧ Below base w wq) (fun i' _ => x.kids.length - (intOf i').toNat)
      case atStart => exact ⟨0, up, kd, kv, Nat.zero_le _, rfl, hinv, hhg.out.below ((Below.refl _ _).alloc (Nat.le_refl _) _), hpm.out.alloc _, hbr.alloc (by omega) _⟩
      case round =>
        clear hlook hinv hhg hpm
        obtain ⟨m, up, kd, kv, hm, rfl, hinv, hhg, hpm, hbq⟩ := hrel
        have hszq := hbq.size
        by_cases hlm : m < x.kids.length
        · obtain ⟨bk, offk, rfl, hbk, hck⟩ := hka.resolve_left (by intro e; simp [e] at hlm)
          have hcm0 : w.cell? ⟨bk, offk + m, none⟩ = some (.int .i64 (x.kids[m]?.getD 0)) := (hbr.cell (p := ⟨bk, offk + m, none⟩) hbk).symm.trans (hck m hlm)
          have hcm := (hbq.cell (p := ⟨bk, offk + m, none⟩) hbk).trans hcm0
          have hbkr : bk < wr.heap.size := by omega
          have hwy : Wf64 (x.kids[m]?.getD 0) := HWx.out _ (by rw [List.getElem?_eq_getElem hlm]; exact List.getElem_mem hlm)
          have hlook := hpm.out.look hwy
          have HMy : Hid (x.kids[m]?.getD 0 ∈ allKids l) := List.mem_flatMap.2 ⟨x, HX.out, by rw [List.getElem?_eq_getElem hlm]; exact List.getElem_mem hlm⟩
          have HKid : Hid (x.kids[m]?.getD 0 ∈ idsOf l → up (x.kids[m]?.getD 0) = none → HangInv l k (m + 1) (fun j => if j = x.kids[m]?.getD 0 then some x.id else up j) (fun j => if j = x.id then kd j ++ [x.kids[m]?.getD 0] else kd j)) := by
            intro h1 h2
            have h := HangInv.kid hinv.out HRise.out hlt (by rw [HXe.out]; exact hlm) (by rw [HXe.out]; exact h1) (by rw [HXe.out]; exact h2)
            rw [HXe.out] at h; exact h
          have HNew : Hid ((allKids l).Nodup → up (x.kids[m]?.getD 0) = none) := by
            intro h
            have h2 := kid_new h hlt (m := m) (by rw [HXe.out]; exact hlm)
            refine (hinv.out.upNone _).2 ?_
            rw [HXe.out] at h2 ⊢; exact h2
          clear hck hka hcm0 hwy
          generalize x.kids[m]?.getD 0 = y at *
          by_cases hin : y ∈ idsOf l
          · rw [show idMap l ad y = some (ad y) from if_pos hin] at hlook
            simp only [ptrTo, Option.map_some] at hlook
            obtain ⟨z, hz, hzy⟩ := List.mem_map.1 hin
            have hnz := hhg.out.node z hz
            rw [hzy] at hnz
            have h4 := cell_of_heap hnz 4
            have hf4 := frozen_of_heap hnz 4
            simp only [List.getElem?_toArray, List.getElem?_cons_succ, List.getElem?_cons_zero] at h4
            have hyl : ad y < wr.heap.size := (Array.getElem?_eq_some_iff.1 hnz).1
            cases hup : up y with
            | some p =>
              rw [hup] at h4
              simp only [Option.map_some, ptrTo] at h4
              have hf : Hid (¬ ((∀ j ∈ allKids l, j ∈ idsOf l) ∧ (allKids l).Nodup)) := fun h => by have := HNew.out h.2; rw [hup] at this; cases this
              clear hup hzy hin
              go_wp2_with fail
              go_ret
              exact .inr ⟨rfl, hf.out, hbq⟩
            | none =>
              rw [hup] at h4
              simp only [Option.map_none, ptrTo] at h4
              have HInv2 := hide (HKid.out hin hup)
              have HUp := hide hup
              have hh1 := hhg.out.setUp x.id hin
              have hn1 := hh1.node x HX.out
              have hx5 := cell_of_heap hn1 5
              have hx6 := cell_of_heap (hhg.out.node x HX.out) 5
              simp only [List.getElem?_toArray, List.getElem?_cons_succ, List.getElem?_cons_zero, ptrTo, Option.map_some] at hx5 hx6
              have hxl := hhg.out.lt HX.out
              have hkl2 : (kd x.id).length ≤ 12 := by
                have := hinv.out.cur hlt
                rw [HXe.out] at this; rw [this, List.length_take]; omega
              have HH1 := hide hh1
              have HPM1 : Hid (PtrMap (wr.setCell ⟨ad y, 4, none⟩ (.pointer (some ⟨ad x.id, 0, none⟩))) mb n (idMap l ad)) := hpm.out.heap (heap_setCell_other _ _ _ _ (fun e => by
                obtain ⟨D, hD, _⟩ := hpm.out
                exact ownsMap_far hD hnz e.symm))
              have hrow := hh1.row x HX.out
              simp only [ptrTo, Option.map_some] at hrow
              clear hh1 hn1 hup hzy hnz HKid HNew
              go_wp2_with (at_builtin; refine wpList_append_lies _ rfl _ _ 141 rfl base 93 i0 (.pointer none) 1 8 Tryz.underlying141 hi hz0 hz1 hz2 rfl (by decide) _ _ _ rfl (hrow.alloc _) ⟨wr.heap.size, 0, none⟩ 1 1 [Value.pointer (some ⟨ad y, 0, none⟩)] rfl rfl ?c1 ?c2 (by decide) (by unfold maxLen; omega) (by omega) (by simp; omega) _ rfl ?_)
              case c1 => have hc1 := cell_one_new (wr.setCell ⟨ad y, 4, none⟩ (.pointer (some ⟨ad x.id, 0, none⟩))) (.pointer (some ⟨ad y, 0, none⟩)) 93; simpa using hc1
              case c2 => intro u hu; simp at hu; subst hu; rfl
              intro g cap2 w1 hown' hgrow hat hltg
              have hA1 := HH1.out.below ((Below.refl _ _).alloc (Nat.le_refl _) (.cells #[.pointer (some ⟨ad y, 0, none⟩)] 93))
              have HH2 : Hid (Hung base (w1.setCell ⟨ad x.id, 5, none⟩ (.slice (some ⟨g, 0, none⟩) ((kd x.id).length + 1) cap2)) l ad (fun j => if j = y then some x.id else up j) (fun j => if j = x.id then kd j ++ [y] else kd j) (fun j => if j = x.id then .slice (some ⟨g, 0, none⟩) ((kd x.id).length + 1) cap2 else kv j)) :=
                hA1.append HX.out hown' hgrow (by simpa using hat)
              have hn2 : w1.heap[ad x.id]? = _ := (hgrow.block _ (by simp; omega) (fun e => own_other (hA1.row x HX.out) (hA1.node x HX.out) (by decide) e.symm)).trans (hA1.node x HX.out)
              have hx7 := cell_of_heap hn2 5
              have hf7 := frozen_of_heap hn2 5
              simp only [List.getElem?_toArray, List.getElem?_cons_succ, List.getElem?_cons_zero] at hx7
              have hs1 := hgrow.size
              simp only [World.size_alloc, World.size_setCell] at hs1
              have hby : base ≤ ad y := by obtain ⟨z, hz, rfl⟩ := List.mem_map.1 hin; exact hhg.out.base z hz
              have hbx := hhg.out.base x HX.out
              have HB2 : Hid (Below base w (w1.setCell ⟨ad x.id, 5, none⟩ (.slice (some ⟨g, 0, none⟩) ((kd x.id).length + 1) cap2))) :=
                (((((hbq.setCell (p := ⟨ad y, 4, none⟩) hby _).alloc (by simp; omega) _).grown hgrow (by simp; omega) (fun g hg => (hrow.lt g hg).1))).setCell (p := ⟨ad x.id, 5, none⟩) hbx _)
              have HPM2 : Hid (PtrMap (w1.setCell ⟨ad x.id, 5, none⟩ (.slice (some ⟨g, 0, none⟩) ((kd x.id).length + 1) cap2)) mb n (idMap l ad)) := by
                obtain ⟨D, hD, _⟩ := HPM1.out
                refine ((HPM1.out.alloc _).kept hgrow ?_).heap (heap_setCell_other _ _ _ _ ?_)
                · intro e
                  obtain ⟨_, cur, _, hcur, _⟩ := row_cells hrow e.symm
                  exact ownsMap_far hD hcur rfl
                · intro e
                  exact ownsMap_far hD (HH1.out.node x HX.out) e.symm
              clear hown' hgrow hat hA1 hn2 HH1 HPM1 hrow hhg hpm hinv
              go_wp2_with fail
              go_roundw
              case rel => exact ⟨m + 1, _, _, _, by omega, by go_num, HInv2, HH2, HPM2, HB2.out⟩
              case measure => simp [intOf]; omega
          · rw [show idMap l ad y = none from if_neg hin] at hlook
            simp only [ptrTo, Option.map_none] at hlook
            have hf : Hid (¬ ((∀ j ∈ allKids l, j ∈ idsOf l) ∧ (allKids l).Nodup)) := fun h => hin (h.1 y HMy.out)
            clear hin
            go_wp2_with fail
            go_ret
            exact .inr ⟨rfl, hf.out, hbq⟩
        · have HInv2 : Hid (HangInv l (k + 1) 0 up kd) := hinv.out.next hlt (by rw [HXe.out]; omega)
          clear hka hinv
          go_wp2_with fail
          exact ⟨⟨k + 1, up, kd, kv, by omega, by go_num, HInv2, hhg, hpm, hbq⟩, by simp [intOf]; omega⟩
    · have HInv := hinv.out
      have hkn : k = l.length := by omega
      have e1 : allKids (l.take k) ++ (l[k]?.getD nodeNil).kids.take 0 = allKids l := by rw [List.take_of_length_le (by omega)]; simp
      have h1 := HInv.there
      have h2 := HInv.once
      have h3 := HInv.upNone
      rw [e1] at h1 h2
      have h3' : ∀ i, up i = none ↔ i ∉ allKids l := fun i => by have := h3 i; rwa [e1] at this
      have hk2 : Hung base wo l ad up (kidsAt l) kv := hhg.out.kids fun x hx => by
        obtain ⟨j, hj, rfl⟩ := List.mem_iff_getElem.1 hx
        have := HInv.done j (by omega)
        rw [List.getElem?_eq_getElem hj] at this
        rw [kidsAt_of HRise.out (List.getElem_mem hj)]; exact this
      have HAll : Hid (HangPost base mb n w l ad (.returned (.bool true)) wo) := .inl ⟨up, kv, rfl, h1, h2, hk2, h3', HInv.upKid, hpm.out, hbr⟩
      clear h1 h2 h3 h3' hk2 HInv hinv hhg hpm e1 hk' hkn
      go_wp2_with fail
      go_ret
      exact HAll.out
end Go.Proofs.YtfjhpfgffbghdaaGreatDoor
