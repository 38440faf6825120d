/-
  What locks make of a tree, plainly: the nodes above a node, what a session has on a node, what it may do with it.
-/
import Derived.Test.YtahdgbfcaclflaaDoorUpsPlain
import Derived.Test.YtahdgbfcaclflaaDoorLockDoc
import Derived.Test.YtahdgbfcaclflaaDoorLockPlain
namespace Go.Proofs.YtahdgbfcaclflaaDoor

/-- A node and those above it. -/
noncomputable def upsOf (d : PDoc) (i : Int) : List Int := (pathAns d i).reverse

theorem upsOf_eq {d : PDoc} (G : Good d) {i : Int} {q : Nat} (hq : Dep d.nodes d.root q i) : upsOf d i = ups d.nodes q i := by
  obtain ⟨q', hq', e⟩ := pathAns_ok (askOf_ok G (G.dep_in hq))
  rw [upsOf, e, List.reverse_reverse, dep_one G.once G.rootNo hq hq']

theorem upsOf_self {d : PDoc} (G : Good d) {i : Int} (hi : i ∈ idsOf d.nodes) : i ∈ upsOf d i := by
  obtain ⟨q, hq⟩ := G.dep hi
  rw [upsOf_eq G hq]
  cases q <;> simp [ups]

theorem upsOf_in {d : PDoc} (G : Good d) {i : Int} (hi : i ∈ idsOf d.nodes) : ∀ k ∈ upsOf d i, k ∈ idsOf d.nodes := by
  obtain ⟨q, hq⟩ := G.dep hi
  rw [upsOf_eq G hq]
  exact G.ups_in hq

/-- What a lock has to do with a node: its mode there, its intention above. -/
noncomputable def partI (d : PDoc) (i : Int) (x : PHold) : Int := if x.node = i then x.mode else if i ∈ upsOf d x.node then intentI x.mode else 0

theorem partI_on {d : PDoc} {i : Int} {x : PHold} (h : x.node = i) : partI d i x = x.mode := by unfold partI; rw [if_pos h]
theorem partI_above {d : PDoc} {i : Int} {x : PHold} (h : x.node ≠ i) (h' : i ∈ upsOf d x.node) : partI d i x = intentI x.mode := by unfold partI; rw [if_neg h, if_pos h']
theorem partI_off {d : PDoc} {i : Int} {x : PHold} (h : x.node ≠ i) (h' : i ∉ upsOf d x.node) : partI d i x = 0 := by unfold partI; rw [if_neg h, if_neg h']
theorem partI_mode {d : PDoc} {i : Int} {x : PHold} (h : ModeP x.mode) : ModeP (partI d i x) := by
  unfold partI
  split
  · exact h
  · split
    · exact intentI_mode _
    · exact ⟨by omega, by omega⟩

/-- What a lock covers a node with. -/
noncomputable def coverOn (d : PDoc) (i : Int) (x : PHold) : Int := if x.node = i then x.mode else if x.node ∈ upsOf d i then coverI x.mode else 0
theorem coverOn_on {d : PDoc} {i : Int} {x : PHold} (h : x.node = i) : coverOn d i x = x.mode := by unfold coverOn; rw [if_pos h]
theorem coverOn_below {d : PDoc} {i : Int} {x : PHold} (h : x.node ≠ i) (h' : x.node ∈ upsOf d i) : coverOn d i x = coverI x.mode := by unfold coverOn; rw [if_neg h, if_pos h']
theorem coverOn_off {d : PDoc} {i : Int} {x : PHold} (h : x.node ≠ i) (h' : x.node ∉ upsOf d i) : coverOn d i x = 0 := by unfold coverOn; rw [if_neg h, if_neg h']
theorem coverOn_mode {d : PDoc} {i : Int} {x : PHold} (h : ModeP x.mode) : ModeP (coverOn d i x) := by
  unfold coverOn
  split
  · exact h
  · split
    · exact coverI_mode _
    · exact ⟨by omega, by omega⟩

/-- The parts of a session's locks. -/
def partsOf (f : PHold → Int) (L : List PHold) (s : Int) : List Int := (L.filter (fun x => x.session == s)).map f
theorem partsOf_hit {f : PHold → Int} {L : List PHold} {s : Int} {k : Nat} (h : k < L.length) (hs : (L[k]?.getD holdNil).session = s) : partsOf f (L.take (k + 1)) s = partsOf f (L.take k) s ++ [f (L[k]?.getD holdNil)] := by
  rw [List.getElem?_eq_getElem h, Option.getD_some] at hs ⊢
  rw [List.take_succ_eq_append_getElem h, partsOf, List.filter_append, List.map_append, partsOf]
  simp [hs]
theorem partsOf_miss {f : PHold → Int} {L : List PHold} {s : Int} {k : Nat} (h : k < L.length) (hs : (L[k]?.getD holdNil).session ≠ s) : partsOf f (L.take (k + 1)) s = partsOf f (L.take k) s := by
  rw [List.getElem?_eq_getElem h, Option.getD_some] at hs
  rw [List.take_succ_eq_append_getElem h, partsOf, List.filter_append, List.map_append, partsOf]
  simp [hs]

/-- The join of the parts of a session's locks. -/
def joinedOf (f : PHold → Int) (L : List PHold) (s : Int) : Int := joinL 0 (partsOf f L s)
theorem joinedOf_hit {f : PHold → Int} {L : List PHold} {s : Int} {k : Nat} (h : k < L.length) (hs : (L[k]?.getD holdNil).session = s) : joinedOf f (L.take (k + 1)) s = joinI (joinedOf f (L.take k) s) (f (L[k]?.getD holdNil)) := by
  unfold joinedOf; rw [partsOf_hit h hs, joinL_snoc]
theorem joinedOf_miss {f : PHold → Int} {L : List PHold} {s : Int} {k : Nat} (h : k < L.length) (hs : (L[k]?.getD holdNil).session ≠ s) : joinedOf f (L.take (k + 1)) s = joinedOf f (L.take k) s := by
  unfold joinedOf; rw [partsOf_miss h hs]
theorem joinedOf_mode {f : PHold → Int} {L : List PHold} {s : Int} (h : ∀ x ∈ L, ModeP (f x)) : ModeP (joinedOf f L s) := by
  refine joinL_mode ⟨by omega, by omega⟩ fun x hx => ?_
  obtain ⟨y, hy, rfl⟩ := List.mem_map.1 hx
  exact h y (List.mem_filter.1 hy).1
theorem take_mem {L : List PHold} {k : Nat} {P : PHold → Prop} (h : ∀ x ∈ L, P x) : ∀ x ∈ L.take k, P x := fun x hx => h x (List.mem_of_mem_take hx)
theorem at_mem {L : List PHold} {k : Nat} (h : k < L.length) : L[k]?.getD holdNil ∈ L := by
  rw [List.getElem?_eq_getElem h, Option.getD_some]; exact List.getElem_mem h

/-- What a session has on a node. -/
noncomputable def modeAtP (d : PDoc) (L : List PHold) (s i : Int) : Int := joinedOf (partI d i) L s
/-- What a session may do with a node. -/
noncomputable def coverP (d : PDoc) (L : List PHold) (s i : Int) : Int := joinedOf (coverOn d i) L s

theorem HoldsP.mode {d : PDoc} {L : List PHold} (h : HoldsP d L) : ∀ x ∈ L, HoldP d x := fun x hx => by
  obtain ⟨k, hk, rfl⟩ := List.getElem_of_mem hx
  have := (h.ok k hk).1
  rwa [List.getElem?_eq_getElem hk, Option.getD_some] at this
theorem HoldP.modeP {d : PDoc} {x : PHold} (h : HoldP d x) : ModeP x.mode := ⟨by have := h.2.2.1; omega, h.2.2.2⟩

theorem modeAtP_mode {d : PDoc} {L : List PHold} (h : ∀ x ∈ L, ModeP x.mode) (s i : Int) : ModeP (modeAtP d L s i) := joinedOf_mode fun x hx => partI_mode (h x hx)
theorem coverP_mode {d : PDoc} {L : List PHold} (h : ∀ x ∈ L, ModeP x.mode) (s i : Int) : ModeP (coverP d L s i) := joinedOf_mode fun x hx => coverOn_mode (h x hx)
end Go.Proofs.YtahdgbfcaclflaaDoor
