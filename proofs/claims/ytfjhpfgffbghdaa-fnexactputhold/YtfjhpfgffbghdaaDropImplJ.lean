/-
  A list of locks without a session's lock on a node, as the program makes it.
-/
import Derived.Test.YtfjhpfgffbghdaaPlaceImplJ
import Derived.Test.YtfjhpfgffbghdaaJoinL
import Derived.Test.YtfjhpfgffbghdaaHoldRowsJ
namespace Go.Proofs.Ytfjhpfgffbghdaa
open Go.RowKit

theorem dropL_at {L : List PHold} {s i : Int} {p : Nat} (hs : SortedH L) (hp : p < L.length) (hat : isAt s i (L[p]?.getD holdNil) = true) : dropL L s i = L.take p ++ L.drop (p + 1) := by
  have h1 : (L.take p).filter (fun x => !isAt s i x) = L.take p := List.filter_eq_self.2 fun x hx => by
    obtain ⟨j, hj, rfl⟩ := List.getElem_of_mem hx
    rw [List.length_take] at hj
    have := lessB_no (hs j p (by omega) hp) hat
    rw [List.getElem?_eq_getElem (by omega), Option.getD_some] at this
    simp [this]
  have h2 : (L.drop (p + 1)).filter (fun x => !isAt s i x) = L.drop (p + 1) := List.filter_eq_self.2 fun x hx => by
    obtain ⟨j, hj, rfl⟩ := List.getElem_of_mem hx
    rw [List.length_drop] at hj
    have := lessB_no' (hs p (p + 1 + j) (by omega) (by omega)) hat
    rw [List.getElem?_eq_getElem (by omega), Option.getD_some] at this
    simp [this]
  have e : L = L.take p ++ (L[p]?.getD holdNil :: L.drop (p + 1)) := by
    rw [List.getElem?_eq_getElem hp, Option.getD_some, ← List.drop_eq_getElem_cons hp, List.take_append_drop]
  have : dropL L s i = (L.take p ++ (L[p]?.getD holdNil :: L.drop (p + 1))).filter (fun x => !isAt s i x) := by rw [← e]; rfl
  rw [this, List.filter_append, h1, List.filter_cons, hat]
  simp [h2]


/-- The box of locks with another list, made in the row's own memory or behind it. -/
theorem LocksOwn.put {lo lb tb : Nat} {w w2 : World} {ad : Int → Nat} {K : List PHold} {u u' : Value} (hl : lo ≤ lb) (hbox : w.heap[lb]? = some (.cells #[.pointer (some ⟨tb, 0, none⟩), u] 81 (0, 0))) (hb : Below (lb + 1) w w2) (hrow : w2.ownsRow (lb + 1) 72 3 u' K.length (lockVals ad K)) : LocksOwn lo (w2.setCell ⟨lb, 1, none⟩ u') lb tb ad K := by
  refine ⟨hl, u', ?_, ownsRow_setCell_below hrow (by simp) _⟩
  rw [heap_setCell_same _ _ _ _ _ _ ((hb.block lb (by omega)).trans hbox)]; rfl

set_option maxHeartbeats 2000000 in
set_option maxRecDepth 100000 in
theorem drop_any (lo lb tb : Nat) (d : PDoc) (ad : Int → Nat) (up : Int → Option Int) (kv : Int → Value) (L : List PHold) (s i : Int) (w : World) (hown : LocksOwn lo w lb tb ad L) (hgr : GrownIn lo lb w d tb ad up kv) (hin : ∀ j, j < L.length → (L[j]?.getD holdNil).node ∈ idsOf d.nodes) (hi : i ∈ idsOf d.nodes) (hL : L.length ≤ 1048576) (hs : SortedH L) :
    Calls Try.prog 49 #[.pointer (some ⟨lb, 0, none⟩), .int .i64 s, .pointer (some ⟨ad i, 0, none⟩)] w fun e w' => ∃ (r : Bool) (K : List PHold), e = .returned (.bool r) ∧ Hid ((HasAt L s i ∧ r = true ∧ K = dropL L s i) ∨ (¬ HasAt L s i ∧ r = false ∧ K = L)) ∧ LocksOwn lo w' lb tb ad K ∧ Below lb w w' := by
  have HPl := hide (placeOf_any lo lo lb tb d ad up kv L s i w hown hgr.out hin hi hL hs)
  have HOwn := hide hown
  have HS := hide hs
  have hlt := hown.lt
  clear hown hgr hin hi hs
  go_enter Try.func49, Try.ntmps49
  go_wp2_with fail
  refine HPl.out.mono ?_
  rintro e w1 ⟨p, r, rfl, hp, hb1⟩
  have hs1 := hb1.size
  have HHas := hide (place_has HS.out hp.out.1)
  have HO1 := hide (HOwn.out.below (Nat.le_refl _) hb1)
  have hbw1 : Below lb w w1 := hb1.mono (by omega)
  cases r
  · have HE : Hid (¬ HasAt L s i) := fun h => by have := hp.out.2.2 (HHas.out.2 h); cases this
    go_wp2_with fail
    go_ret
    exact ⟨false, L, rfl, .inr ⟨HE.out, rfl, rfl⟩, HO1.out, hbw1⟩
  · have hpp := hp.out.2.1 rfl
    have hpl : p < L.length := hpp.1
    have HE : Hid (HasAt L s i) := HHas.out.1 hpp
    have HDr : Hid (L.take p ++ L.drop (p + 1) = dropL L s i) := (dropL_at HS.out hpl hpp.2).symm
    have HLe : Hid ((dropL L s i).length = L.length - 1) := by rw [Hid, ← HDr.out]; simp; omega
    obtain ⟨hl, u, hbox, hrow⟩ := HO1.out
    obtain ⟨g, cap, rfl, hgz, hgb⟩ := row_block hrow (by omega)
    obtain ⟨j, hj⟩ : ∃ j, j = p + 1 := ⟨_, rfl⟩
    have hpj : (p : Int) + 1 = (j : Int) := by omega
    have HJ := hide hj
    have HDe := hide (deleteLock_any ad (lb + 1) g cap p j hj L w1 hrow hpl hL)
    have HBox := hide hbox
    have b1 := cell_of_heap hbox 1
    simp only [List.getElem?_toArray, List.getElem?_cons_succ, List.getElem?_cons_zero] at b1
    have hz1 : lb < w1.heap.size := by omega
    clear hp hpp hrow hj hbox
    go_wp2_with fail
    refine HDe.out.mono ?_
    rintro e w2 ⟨rfl, hrow2, hb2⟩
    have hbx2 := (hb2.block lb (by omega)).trans HBox.out
    have c1 := cell_of_heap hbx2 1
    simp only [List.getElem?_toArray, List.getElem?_cons_succ, List.getElem?_cons_zero] at c1
    have cf := fun o => frozen_of_heap hbx2 o
    have hz2 : lb < w2.heap.size := by have := hb2.size; omega
    have HEnd : Hid (LocksOwn lo (w2.setCell ⟨lb, 1, none⟩ (.slice (some ⟨g, 0, none⟩) (L.length - 1) cap)) lb tb ad (dropL L s i)) := by
      refine LocksOwn.put hl HBox.out hb2 ?_
      rw [HJ.out, HDr.out] at hrow2
      rw [HLe.out]; exact hrow2
    have HB3 : Hid (Below lb w (w2.setCell ⟨lb, 1, none⟩ (.slice (some ⟨g, 0, none⟩) (L.length - 1) cap))) := (hbw1.trans (hb2.mono (by omega))).setCell (p := ⟨lb, 1, none⟩) (Nat.le_refl _) _
    clear hrow2 hbx2
    go_wp2_with fail
    go_ret
    exact ⟨true, dropL L s i, rfl, .inl ⟨HE.out, rfl, rfl⟩, HEnd.out, HB3.out⟩
end Go.Proofs.Ytfjhpfgffbghdaa
