/-
  A node and those above it, plainly.
  Modes of locks, plainly: what fits, the join of two, what is needed above, what is covered below. No program is named here.
  What locks make of a tree, plainly: the nodes above a node, what a session has on a node, what it may do with it.
-/
import Derived.Test.YtfjhpfgffbghdaaOrderPlainJ
import Derived.Test.YtfjhpfgffbghdaaSpecReachJ
import Derived.Below
import Derived.Test.YtfjhpfgffbghdaaJoinF
namespace Go.Proofs.Ytfjhpfgffbghdaa
open Go.RowKit

/-- A node and those above it, so many of them. -/
def ups (l : List PNode) : Nat → Int → List Int
  | 0, i => [i]
  | q + 1, i => i :: ups l q (parentOf l i)

theorem ups_len (l : List PNode) : ∀ (q : Nat) (i : Int), (ups l q i).length = q + 1
  | 0, _ => rfl
  | q + 1, i => by simp [ups, ups_len l q]

section
variable {d : PDoc}

theorem Good.up_root (G : Good d) : parentOf d.nodes d.root = 0 := parentOf_none G.rootNo

theorem Good.up_dep (G : Good d) {q : Nat} {i : Int} (h : Dep d.nodes d.root (q + 1) i) : Dep d.nodes d.root q (parentOf d.nodes i) := by
  obtain ⟨k, hk, hi⟩ := h
  rw [one_parent G.once (parentOf_up G.rise (kidsAt_all hi)) hi]
  exact hk

theorem Good.dep_in (G : Good d) {q : Nat} {i : Int} (h : Dep d.nodes d.root q i) : i ∈ idsOf d.nodes := Go.Proofs.Ytfjhpfgffbghdaa.dep_in G.there G.rootIn h

theorem Good.ups_in (G : Good d) : ∀ {q : Nat} {i : Int}, Dep d.nodes d.root q i → ∀ k ∈ ups d.nodes q i, k ∈ idsOf d.nodes
  | 0, i, h, k, hk => by simp [ups] at hk; subst hk; exact G.dep_in h
  | q + 1, i, h, k, hk => by
    rcases List.mem_cons.1 hk with rfl | hk
    · exact G.dep_in h
    · exact G.ups_in (G.up_dep h) k hk

theorem Good.dep_le (G : Good d) {q : Nat} {i : Int} (h : Dep d.nodes d.root q i) : q ≤ 40 := by
  have h4 := low_desc G.toFlat.low (dep_iff.1 h)
  have := G.n40
  omega
end

/-- Where going up stands: what is left to go. -/
def Left (d : PDoc) (cur : Int) (rest : List Int) : Prop := (∃ r, Dep d.nodes d.root r cur ∧ rest = ups d.nodes r cur) ∨ (cur = 0 ∧ rest = [])

theorem Left.next {d : PDoc} (G : Good d) {cur : Int} {rest : List Int} (h : Left d cur rest) (hc : cur ≠ 0) : ∃ rest', rest = cur :: rest' ∧ Left d (parentOf d.nodes cur) rest' ∧ cur ∈ idsOf d.nodes := by
  rcases h with ⟨r, hr, rfl⟩ | ⟨h, -⟩
  · cases r with
    | zero =>
      have : cur = d.root := hr
      subst this
      exact ⟨[], rfl, .inr ⟨G.up_root, rfl⟩, G.rootIn⟩
    | succ r => exact ⟨_, rfl, .inl ⟨r, G.up_dep hr, rfl⟩, G.dep_in hr⟩
  · exact absurd h hc

theorem Left.done {d : PDoc} (G : Good d) {rest : List Int} (h : Left d 0 rest) : rest = [] := by
  rcases h with ⟨r, hr, rfl⟩ | ⟨-, h⟩
  · have := (G.toFlat.ids_pos (G.dep_in hr)).1
    omega
  · exact h

theorem Left.pos {d : PDoc} (G : Good d) {cur : Int} {rest : List Int} (h : Left d cur rest) : 0 ≤ cur := by
  rcases h with ⟨r, hr, rfl⟩ | ⟨h, -⟩
  · have := (G.toFlat.ids_pos (G.dep_in hr)).1; omega
  · omega

noncomputable def pathAns (d : PDoc) (id : Int) : List Int := by
  classical exact if h : askOf d id = 0 then (ups d.nodes (Classical.choose ((askOf_zero h).1.dep (askOf_zero h).2)) id).reverse else []

theorem pathAns_no {d : PDoc} {id : Int} (h : askOf d id ≠ 0) : pathAns d id = [] := by unfold pathAns; rw [dif_neg h]
theorem pathAns_ok {d : PDoc} {id : Int} (h : askOf d id = 0) : ∃ q, Dep d.nodes d.root q id ∧ pathAns d id = (ups d.nodes q id).reverse :=
  ⟨_, Classical.choose_spec ((askOf_zero h).1.dep (askOf_zero h).2), by unfold pathAns; rw [dif_pos h]⟩

theorem pathAns_len (d : PDoc) (id : Int) : (pathAns d id).length ≤ 1048576 := by
  by_cases h : askOf d id = 0
  · obtain ⟨q, hq, e⟩ := pathAns_ok h
    have := (askOf_zero h).1.dep_le hq
    rw [e, List.length_reverse, ups_len]
    omega
  · rw [pathAns_no h]; simp
end Go.Proofs.Ytfjhpfgffbghdaa

namespace Go.Proofs.Ytfjhpfgffbghdaa

def fitsB (a b : Int) : Bool := decide (a = 0) || decide (b = 0) || (decide (a = 1) && decide (b ≠ 5)) || (decide (b = 1) && decide (a ≠ 5)) || (decide (a = 2) && decide (b = 2)) || (decide (a = 3) && decide (b = 3))
def joinI (a b : Int) : Int := if (a = 2 ∧ b = 3) ∨ (a = 3 ∧ b = 2) then 4 else max a b
def intentI (m : Int) : Int := if m = 0 then 0 else if m = 1 ∨ m = 3 then 1 else 2
def coverI (m : Int) : Int := if m = 3 ∨ m = 4 then 3 else if m = 5 then 5 else 0

/-- A mode. -/
def ModeP (m : Int) : Prop := 0 ≤ m ∧ m ≤ 5

theorem ModeP.ind {p : Int → Prop} {m : Int} (h : ModeP m) (h0 : p 0) (h1 : p 1) (h2 : p 2) (h3 : p 3) (h4 : p 4) (h5 : p 5) : p m := by
  obtain ⟨a, b⟩ := h
  rcases (by omega : m = 0 ∨ m = 1 ∨ m = 2 ∨ m = 3 ∨ m = 4 ∨ m = 5) with rfl | rfl | rfl | rfl | rfl | rfl <;> assumption

theorem fitsB_comm (a b : Int) : fitsB a b = fitsB b a := by
  rw [Bool.eq_iff_iff]
  simp only [fitsB, Bool.or_eq_true, Bool.and_eq_true, decide_eq_true_eq]
  omega

theorem joinI_comm (a b : Int) : joinI a b = joinI b a := by unfold joinI; split <;> split <;> omega
theorem joinI_mode {a b : Int} (ha : ModeP a) (hb : ModeP b) : ModeP (joinI a b) := by
  obtain ⟨a0, a1⟩ := ha; obtain ⟨b0, b1⟩ := hb
  unfold joinI ModeP; split <;> omega
theorem joinI_le {a b c : Int} (h : a ≤ b) (hn : ¬ (a = 2 ∧ b = 3)) (hc : c = b) : joinI a b = c := by unfold joinI; rw [if_neg (by omega)]; omega
theorem joinI_zero {a : Int} (h : 0 ≤ a) : joinI a 0 = a := by unfold joinI; rw [if_neg (by omega)]; omega
theorem joinI_zero' {a : Int} (h : 0 ≤ a) : joinI 0 a = a := by rw [joinI_comm]; exact joinI_zero h
theorem joinI_self {a : Int} : joinI a a = a := by unfold joinI; rw [if_neg (by omega)]; omega
theorem ModeP.cases {m : Int} (h : ModeP m) : m = 0 ∨ m = 1 ∨ m = 2 ∨ m = 3 ∨ m = 4 ∨ m = 5 := by
  obtain ⟨a, b⟩ := h
  omega

theorem joinI_assoc {a b c : Int} (ha : ModeP a) (hb : ModeP b) (hc : ModeP c) : joinI (joinI a b) c = joinI a (joinI b c) := by
  rcases ha.cases with rfl | rfl | rfl | rfl | rfl | rfl <;> rcases hb.cases with rfl | rfl | rfl | rfl | rfl | rfl <;> rcases hc.cases with rfl | rfl | rfl | rfl | rfl | rfl <;> decide

/-- a is no more than b. -/
def LeM (a b : Int) : Prop := joinI a b = b

theorem LeM.anti {a b : Int} (h : LeM a b) (k : LeM b a) : a = b := by unfold LeM at *; rw [joinI_comm] at k; omega
theorem leM_join_left {a b : Int} (ha : ModeP a) (hb : ModeP b) : LeM a (joinI a b) := by unfold LeM; rw [← joinI_assoc ha ha hb, joinI_self]
theorem leM_join_right {a b : Int} (ha : ModeP a) (hb : ModeP b) : LeM b (joinI a b) := by rw [joinI_comm]; exact leM_join_left hb ha
theorem leM_zero {a : Int} (h : 0 ≤ a) : LeM 0 a := joinI_zero' h
theorem leM_refl (a : Int) : LeM a a := joinI_self
theorem LeM.trans {a b c : Int} (ha : ModeP a) (hb : ModeP b) (hc : ModeP c) (h : LeM a b) (k : LeM b c) : LeM a c := by
  unfold LeM at *
  rw [← k, ← joinI_assoc ha hb hc, h]
theorem joinI_least {a b c : Int} (ha : ModeP a) (hb : ModeP b) (hc : ModeP c) (h : LeM a c) (k : LeM b c) : LeM (joinI a b) c := by
  unfold LeM at *
  rw [joinI_assoc ha hb hc, k, h]

/-- The join of a list of modes with one. -/
def joinL (m : Int) (l : List Int) : Int := l.foldl joinI m

theorem joinL_cons (m x : Int) (l : List Int) : joinL m (x :: l) = joinL (joinI m x) l := rfl

theorem joinL_mode : ∀ {l : List Int} {m : Int}, ModeP m → (∀ x ∈ l, ModeP x) → ModeP (joinL m l)
  | [], _, hm, _ => hm
  | x :: l, _, hm, h => joinL_mode (l := l) (joinI_mode hm (h x List.mem_cons_self)) (fun y hy => h y (List.mem_cons_of_mem _ hy))

theorem joinL_start : ∀ {l : List Int} {m : Int}, ModeP m → (∀ x ∈ l, ModeP x) → LeM m (joinL m l)
  | [], m, _, _ => leM_refl m
  | x :: l, _, hm, h => by
    have hx := h x List.mem_cons_self
    have hl := fun y hy => h y (List.mem_cons_of_mem x hy)
    rw [joinL_cons]
    exact LeM.trans hm (joinI_mode hm hx) (joinL_mode (joinI_mode hm hx) hl) (leM_join_left hm hx) (joinL_start (joinI_mode hm hx) hl)

theorem joinL_ge : ∀ {l : List Int} {m : Int}, ModeP m → (∀ x ∈ l, ModeP x) → ∀ x ∈ l, LeM x (joinL m l)
  | [], _, _, _, x, hx => by cases hx
  | y :: l, m, hm, h, x, hx => by
    have hy := h y List.mem_cons_self
    have hl := fun z hz => h z (List.mem_cons_of_mem y hz)
    rw [joinL_cons]
    rcases List.mem_cons.1 hx with rfl | hx
    · exact LeM.trans hy (joinI_mode hm hy) (joinL_mode (joinI_mode hm hy) hl) (leM_join_right hm hy) (joinL_start (joinI_mode hm hy) hl)
    · exact joinL_ge (joinI_mode hm hy) hl x hx

theorem joinL_least : ∀ {l : List Int} {m c : Int}, ModeP m → ModeP c → (∀ x ∈ l, ModeP x) → LeM m c → (∀ x ∈ l, LeM x c) → LeM (joinL m l) c
  | [], _, _, _, _, _, h, _ => h
  | x :: l, _, _, hm, hc, hl, h, k => by
    have hx := hl x List.mem_cons_self
    exact joinL_least (l := l) (joinI_mode hm hx) hc (fun y hy => hl y (List.mem_cons_of_mem _ hy)) (joinI_least hm hx hc h (k x List.mem_cons_self)) (fun y hy => k y (List.mem_cons_of_mem _ hy))

theorem joinL_snoc (m : Int) (l : List Int) (x : Int) : joinL m (l ++ [x]) = joinI (joinL m l) x := by simp [joinL]

/-- Two joins of which each has what the other has are one. -/
theorem joinL_same {m m' : Int} {l l' : List Int} (hm : ModeP m) (hm' : ModeP m') (hl : ∀ x ∈ l, ModeP x) (hl' : ∀ x ∈ l', ModeP x)
    (h1 : LeM m (joinL m' l')) (h2 : ∀ x ∈ l, LeM x (joinL m' l')) (h3 : LeM m' (joinL m l)) (h4 : ∀ x ∈ l', LeM x (joinL m l)) : joinL m l = joinL m' l' :=
  (joinL_least hm (joinL_mode hm' hl') hl h1 h2).anti (joinL_least hm' (joinL_mode hm hl) hl' h3 h4)

theorem intentI_mode (m : Int) : ModeP (intentI m) := by unfold intentI ModeP; split <;> try split
                                                         all_goals omega
theorem coverI_mode (m : Int) : ModeP (coverI m) := by unfold coverI ModeP; split <;> try split
                                                       all_goals omega
end Go.Proofs.Ytfjhpfgffbghdaa

namespace Go.Proofs.Ytfjhpfgffbghdaa

/-- A node and those above it. -/
noncomputable def upsOf (d : PDoc) (i : Int) : List Int := (pathAns d i).reverse

theorem upsOf_eq {d : PDoc} (G : Good d) {i : Int} {q : Nat} (hq : Dep d.nodes d.root q i) : upsOf d i = ups d.nodes q i := by
  obtain ⟨q', hq', e⟩ := pathAns_ok (askOf_ok G (G.dep_in hq))
  rw [upsOf, e, List.reverse_reverse, dep_one G.once G.rootNo hq hq']

theorem upsOf_self {d : PDoc} (G : Good d) {i : Int} (hi : i ∈ idsOf d.nodes) : i ∈ upsOf d i := by
  obtain ⟨q, hq⟩ := G.dep hi
  rw [upsOf_eq G hq]
  cases q <;> simp [ups]

theorem upsOf_in {d : PDoc} (G : Good d) {i : Int} (hi : i ∈ idsOf d.nodes) : ∀ k ∈ upsOf d i, k ∈ idsOf d.nodes := by
  obtain ⟨q, hq⟩ := G.dep hi
  rw [upsOf_eq G hq]
  exact G.ups_in hq

/-- What a lock has to do with a node: its mode there, its intention above. -/
noncomputable def partI (d : PDoc) (i : Int) (x : PHold) : Int := if x.node = i then x.mode else if i ∈ upsOf d x.node then intentI x.mode else 0

theorem partI_on {d : PDoc} {i : Int} {x : PHold} (h : x.node = i) : partI d i x = x.mode := by unfold partI; rw [if_pos h]
theorem partI_above {d : PDoc} {i : Int} {x : PHold} (h : x.node ≠ i) (h' : i ∈ upsOf d x.node) : partI d i x = intentI x.mode := by unfold partI; rw [if_neg h, if_pos h']
theorem partI_off {d : PDoc} {i : Int} {x : PHold} (h : x.node ≠ i) (h' : i ∉ upsOf d x.node) : partI d i x = 0 := by unfold partI; rw [if_neg h, if_neg h']
theorem partI_mode {d : PDoc} {i : Int} {x : PHold} (h : ModeP x.mode) : ModeP (partI d i x) := by
  unfold partI
  split
  · exact h
  · split
    · exact intentI_mode _
    · exact ⟨by omega, by omega⟩

/-- What a lock covers a node with. -/
noncomputable def coverOn (d : PDoc) (i : Int) (x : PHold) : Int := if x.node = i then x.mode else if x.node ∈ upsOf d i then coverI x.mode else 0
theorem coverOn_on {d : PDoc} {i : Int} {x : PHold} (h : x.node = i) : coverOn d i x = x.mode := by unfold coverOn; rw [if_pos h]
theorem coverOn_below {d : PDoc} {i : Int} {x : PHold} (h : x.node ≠ i) (h' : x.node ∈ upsOf d i) : coverOn d i x = coverI x.mode := by unfold coverOn; rw [if_neg h, if_pos h']
theorem coverOn_off {d : PDoc} {i : Int} {x : PHold} (h : x.node ≠ i) (h' : x.node ∉ upsOf d i) : coverOn d i x = 0 := by unfold coverOn; rw [if_neg h, if_neg h']
theorem coverOn_mode {d : PDoc} {i : Int} {x : PHold} (h : ModeP x.mode) : ModeP (coverOn d i x) := by
  unfold coverOn
  split
  · exact h
  · split
    · exact coverI_mode _
    · exact ⟨by omega, by omega⟩

/-- The parts of a session's locks. -/
def partsOf (f : PHold → Int) (L : List PHold) (s : Int) : List Int := (L.filter (fun x => x.session == s)).map f
theorem partsOf_hit {f : PHold → Int} {L : List PHold} {s : Int} {k : Nat} (h : k < L.length) (hs : (L[k]?.getD holdNil).session = s) : partsOf f (L.take (k + 1)) s = partsOf f (L.take k) s ++ [f (L[k]?.getD holdNil)] := by
  rw [List.getElem?_eq_getElem h, Option.getD_some] at hs ⊢
  rw [List.take_succ_eq_append_getElem h, partsOf, List.filter_append, List.map_append, partsOf]
  simp [hs]
theorem partsOf_miss {f : PHold → Int} {L : List PHold} {s : Int} {k : Nat} (h : k < L.length) (hs : (L[k]?.getD holdNil).session ≠ s) : partsOf f (L.take (k + 1)) s = partsOf f (L.take k) s := by
  rw [List.getElem?_eq_getElem h, Option.getD_some] at hs
  rw [List.take_succ_eq_append_getElem h, partsOf, List.filter_append, List.map_append, partsOf]
  simp [hs]

/-- The join of the parts of a session's locks. -/
def joinedOf (f : PHold → Int) (L : List PHold) (s : Int) : Int := joinL 0 (partsOf f L s)
theorem joinedOf_hit {f : PHold → Int} {L : List PHold} {s : Int} {k : Nat} (h : k < L.length) (hs : (L[k]?.getD holdNil).session = s) : joinedOf f (L.take (k + 1)) s = joinI (joinedOf f (L.take k) s) (f (L[k]?.getD holdNil)) := by
  unfold joinedOf; rw [partsOf_hit h hs, joinL_snoc]
theorem joinedOf_miss {f : PHold → Int} {L : List PHold} {s : Int} {k : Nat} (h : k < L.length) (hs : (L[k]?.getD holdNil).session ≠ s) : joinedOf f (L.take (k + 1)) s = joinedOf f (L.take k) s := by
  unfold joinedOf; rw [partsOf_miss h hs]
theorem joinedOf_mode {f : PHold → Int} {L : List PHold} {s : Int} (h : ∀ x ∈ L, ModeP (f x)) : ModeP (joinedOf f L s) := by
  refine joinL_mode ⟨by omega, by omega⟩ fun x hx => ?_
  obtain ⟨y, hy, rfl⟩ := List.mem_map.1 hx
  exact h y (List.mem_filter.1 hy).1
theorem take_mem {L : List PHold} {k : Nat} {P : PHold → Prop} (h : ∀ x ∈ L, P x) : ∀ x ∈ L.take k, P x := fun x hx => h x (List.mem_of_mem_take hx)
theorem at_mem {L : List PHold} {k : Nat} (h : k < L.length) : L[k]?.getD holdNil ∈ L := by
  rw [List.getElem?_eq_getElem h, Option.getD_some]; exact List.getElem_mem h

/-- What a session has on a node. -/
noncomputable def modeAtP (d : PDoc) (L : List PHold) (s i : Int) : Int := joinedOf (partI d i) L s
/-- What a session may do with a node. -/
noncomputable def coverP (d : PDoc) (L : List PHold) (s i : Int) : Int := joinedOf (coverOn d i) L s

theorem HoldsP.mode {d : PDoc} {L : List PHold} (h : HoldsP d L) : ∀ x ∈ L, HoldP d x := fun x hx => by
  obtain ⟨k, hk, rfl⟩ := List.getElem_of_mem hx
  have := (h.ok k hk).1
  rwa [List.getElem?_eq_getElem hk, Option.getD_some] at this
theorem HoldP.modeP {d : PDoc} {x : PHold} (h : HoldP d x) : ModeP x.mode := ⟨by have := h.2.2.1; omega, h.2.2.2⟩

theorem modeAtP_mode {d : PDoc} {L : List PHold} (h : ∀ x ∈ L, ModeP x.mode) (s i : Int) : ModeP (modeAtP d L s i) := joinedOf_mode fun x hx => partI_mode (h x hx)
theorem coverP_mode {d : PDoc} {L : List PHold} (h : ∀ x ∈ L, ModeP x.mode) (s i : Int) : ModeP (coverP d L s i) := joinedOf_mode fun x hx => coverOn_mode (h x hx)
end Go.Proofs.Ytfjhpfgffbghdaa
