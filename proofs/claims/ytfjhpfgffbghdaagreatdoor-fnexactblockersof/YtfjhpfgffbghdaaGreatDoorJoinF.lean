/-
  The node of an Id; lists of pointers to the nodes of a tree.
  The Ids of a node and of all below it, plain; what a right document says of them.
  A node and those above it, plainly.
  Modes of locks, plainly: what fits, the join of two, what is needed above, what is covered below. No program is named here.
  What locks make of a tree, plainly: the nodes above a node, what a session has on a node, what it may do with it.
  Which sessions stand against a lock, plainly.
  Which waits rival each other, plainly: on the nodes of both paths.
-/
import Derived.Test.YtfjhpfgffbghdaaGreatDoorImplTreeJ
import Derived.Test.YtfjhpfgffbghdaaGreatDoorJoinC
import Derived.Test.YtfjhpfgffbghdaaGreatDoorJoinE
import Derived.Test.YtfjhpfgffbghdaaGreatDoorJoinD
import Derived.Below
namespace Go.Proofs.YtfjhpfgffbghdaaGreatDoor
open Go.RowKit

/-- The node of an Id. -/
def nodeOf (l : List PNode) (i : Int) : PNode := (l.find? (fun x => x.id == i)).getD nodeNil

theorem nodeOf_of {l : List PNode} (hr : (idsOf l).Pairwise (· < ·)) {x : PNode} (hx : x ∈ l) : nodeOf l x.id = x := by
  unfold nodeOf; rw [find_id hr hx]; rfl

/-- The value is a list of pointers to the nodes of a tree. -/
def PtrsAt (n₁ : Nat) (W : World) (v : Value) (ks : List Int) (ad : Int → Nat) : Prop :=
  ∃ g cap, v = .slice g ks.length cap ∧ (ks = [] ∨ ∃ b, g = some ⟨b, 0, none⟩ ∧ b < n₁ ∧ ∀ j, j < ks.length → W.cell? ⟨b, j, none⟩ = some (.pointer (some ⟨ad (ks[j]?.getD 0), 0, none⟩)))

theorem PtrsAt.below {n₁ n₂ : Nat} {W W' : World} {v : Value} {ks : List Int} {ad : Int → Nat} (h : PtrsAt n₁ W v ks ad) (hn : n₁ ≤ n₂) (hb : Below n₁ W W') : PtrsAt n₂ W' v ks ad := by
  obtain ⟨g, cap, rfl, h⟩ := h
  refine ⟨g, cap, rfl, h.imp id ?_⟩
  rintro ⟨b, rfl, hlt, hc⟩
  exact ⟨b, rfl, by omega, fun j hj => (hb.cell (p := ⟨b, j, none⟩) hlt).trans (hc j hj)⟩
end Go.Proofs.YtfjhpfgffbghdaaGreatDoor

namespace Go.Proofs.YtfjhpfgffbghdaaGreatDoor
open Go.RowKit Go.Shelf

/-- The Ids in order; none where nothing is asked. -/
noncomputable def orderAns (d : PDoc) (id : Int) : List Int := by
  classical exact if askOf d id = 0 then order d.nodes d.nodes.length id else []

theorem orderAns_no {d : PDoc} {id : Int} (h : askOf d id ≠ 0) : orderAns d id = [] := by unfold orderAns; rw [if_neg h]
theorem orderAns_ok {d : PDoc} {id : Int} (h : askOf d id = 0) : orderAns d id = order d.nodes d.nodes.length id := by unfold orderAns; rw [if_pos h]

theorem Good.dep {d : PDoc} (G : Good d) {id : Int} (h : id ∈ idsOf d.nodes) : ∃ q, Dep d.nodes d.root q id := (G.toFlat.whole_iff.1 G.whole).2 id h
theorem Good.lowAt {d : PDoc} (G : Good d) {id : Int} (h : id ∈ idsOf d.nodes) : Low d.nodes d.nodes.length id := by
  obtain ⟨q, hq⟩ := G.dep h
  exact G.toFlat.low_dep hq
theorem Good.orderIn {d : PDoc} (G : Good d) {id : Int} (h : id ∈ idsOf d.nodes) : ∀ k ∈ order d.nodes d.nodes.length id, k ∈ idsOf d.nodes := by
  obtain ⟨q, hq⟩ := G.dep h
  exact order_in G.there G.rootIn hq
theorem Good.orderLen {d : PDoc} (G : Good d) {id : Int} (h : id ∈ idsOf d.nodes) : (order d.nodes d.nodes.length id).length ≤ 40 := by
  obtain ⟨q, hq⟩ := G.dep h
  have := nodup_sub_len (order_nodup G.rise G.once G.rootNo (h := d.nodes.length) hq) (G.orderIn h)
  rw [idsOf_len] at this
  have := G.n40
  omega

theorem ptrs_of_row {w : World} {base : Nat} {e : TypeId} {v : Value} {ks : List Int} {ad : Int → Nat} (h : w.ownsRow base e 1 v ks.length (ks.map fun j => Value.pointer (some ⟨ad j, 0, none⟩))) : PtrsAt w.heap.size w v ks ad := by
  have h' := h
  obtain ⟨_, ⟨rfl, h0⟩ | ⟨g, cap, cur, rfl, hg, hh, h1, h2, h3, h4⟩⟩ := h
  · have : ks = [] := List.eq_nil_of_length_eq_zero h0
    subst this
    exact ⟨none, 0, rfl, .inl rfl⟩
  · refine ⟨_, cap, rfl, .inr ⟨g, rfl, (Array.getElem?_eq_some_iff.1 hh).1, fun j hj => ?_⟩⟩
    have := h'.cells (g := g) rfl j (.pointer (some ⟨ad (ks[j]?.getD 0), 0, none⟩)) (by simp [hj])
    unfold Addr.add at this; split at this <;> simp_all

theorem orderAns_len (d : PDoc) (id : Int) : (orderAns d id).length ≤ 1048576 := by
  by_cases h : askOf d id = 0
  · rw [orderAns_ok h]
    obtain ⟨G, hi⟩ := askOf_zero h
    have := G.orderLen hi
    omega
  · rw [orderAns_no h]; simp

set_option maxHeartbeats 400000 in
theorem inOrder_plain (p : Option Addr) (w : World) :
    Calls Tryz.prog 113 #[.pointer p] w fun e w' => e = .returned (.func (.func 135) #[] #[.pointer (some ⟨w.heap.size, 0, none⟩)]) ∧ w' = w.alloc (.cells #[.pointer p] 93) :=
  (callsIn_wide (n := 3)).1 (inOrder_in 3 p w)

end Go.Proofs.YtfjhpfgffbghdaaGreatDoor

namespace Go.Proofs.YtfjhpfgffbghdaaGreatDoor
open Go.RowKit

/-- A node and those above it, so many of them. -/
def ups (l : List PNode) : Nat → Int → List Int
  | 0, i => [i]
  | q + 1, i => i :: ups l q (parentOf l i)

theorem ups_len (l : List PNode) : ∀ (q : Nat) (i : Int), (ups l q i).length = q + 1
  | 0, _ => rfl
  | q + 1, i => by simp [ups, ups_len l q]

section
variable {d : PDoc}

theorem Good.up_root (G : Good d) : parentOf d.nodes d.root = 0 := parentOf_none G.rootNo

theorem Good.up_dep (G : Good d) {q : Nat} {i : Int} (h : Dep d.nodes d.root (q + 1) i) : Dep d.nodes d.root q (parentOf d.nodes i) := by
  obtain ⟨k, hk, hi⟩ := h
  rw [one_parent G.once (parentOf_up G.rise (kidsAt_all hi)) hi]
  exact hk

theorem Good.dep_in (G : Good d) {q : Nat} {i : Int} (h : Dep d.nodes d.root q i) : i ∈ idsOf d.nodes := Go.Proofs.YtfjhpfgffbghdaaGreatDoor.dep_in G.there G.rootIn h

theorem Good.ups_in (G : Good d) : ∀ {q : Nat} {i : Int}, Dep d.nodes d.root q i → ∀ k ∈ ups d.nodes q i, k ∈ idsOf d.nodes
  | 0, i, h, k, hk => by simp [ups] at hk; subst hk; exact G.dep_in h
  | q + 1, i, h, k, hk => by
    rcases List.mem_cons.1 hk with rfl | hk
    · exact G.dep_in h
    · exact G.ups_in (G.up_dep h) k hk

theorem Good.dep_le (G : Good d) {q : Nat} {i : Int} (h : Dep d.nodes d.root q i) : q ≤ 40 := by
  have h4 := low_desc G.toFlat.low (dep_iff.1 h)
  have := G.n40
  omega
end

/-- Where going up stands: what is left to go. -/
def Left (d : PDoc) (cur : Int) (rest : List Int) : Prop := (∃ r, Dep d.nodes d.root r cur ∧ rest = ups d.nodes r cur) ∨ (cur = 0 ∧ rest = [])

theorem Left.next {d : PDoc} (G : Good d) {cur : Int} {rest : List Int} (h : Left d cur rest) (hc : cur ≠ 0) : ∃ rest', rest = cur :: rest' ∧ Left d (parentOf d.nodes cur) rest' ∧ cur ∈ idsOf d.nodes := by
  rcases h with ⟨r, hr, rfl⟩ | ⟨h, -⟩
  · cases r with
    | zero =>
      have : cur = d.root := hr
      subst this
      exact ⟨[], rfl, .inr ⟨G.up_root, rfl⟩, G.rootIn⟩
    | succ r => exact ⟨_, rfl, .inl ⟨r, G.up_dep hr, rfl⟩, G.dep_in hr⟩
  · exact absurd h hc

theorem Left.done {d : PDoc} (G : Good d) {rest : List Int} (h : Left d 0 rest) : rest = [] := by
  rcases h with ⟨r, hr, rfl⟩ | ⟨-, h⟩
  · have := (G.toFlat.ids_pos (G.dep_in hr)).1
    omega
  · exact h

theorem Left.pos {d : PDoc} (G : Good d) {cur : Int} {rest : List Int} (h : Left d cur rest) : 0 ≤ cur := by
  rcases h with ⟨r, hr, rfl⟩ | ⟨h, -⟩
  · have := (G.toFlat.ids_pos (G.dep_in hr)).1; omega
  · omega

noncomputable def pathAns (d : PDoc) (id : Int) : List Int := by
  classical exact if h : askOf d id = 0 then (ups d.nodes (Classical.choose ((askOf_zero h).1.dep (askOf_zero h).2)) id).reverse else []

theorem pathAns_no {d : PDoc} {id : Int} (h : askOf d id ≠ 0) : pathAns d id = [] := by unfold pathAns; rw [dif_neg h]
theorem pathAns_ok {d : PDoc} {id : Int} (h : askOf d id = 0) : ∃ q, Dep d.nodes d.root q id ∧ pathAns d id = (ups d.nodes q id).reverse :=
  ⟨_, Classical.choose_spec ((askOf_zero h).1.dep (askOf_zero h).2), by unfold pathAns; rw [dif_pos h]⟩

theorem pathAns_len (d : PDoc) (id : Int) : (pathAns d id).length ≤ 1048576 := by
  by_cases h : askOf d id = 0
  · obtain ⟨q, hq, e⟩ := pathAns_ok h
    have := (askOf_zero h).1.dep_le hq
    rw [e, List.length_reverse, ups_len]
    omega
  · rw [pathAns_no h]; simp
end Go.Proofs.YtfjhpfgffbghdaaGreatDoor

namespace Go.Proofs.YtfjhpfgffbghdaaGreatDoor

def fitsB (a b : Int) : Bool := decide (a = 0) || decide (b = 0) || (decide (a = 1) && decide (b ≠ 5)) || (decide (b = 1) && decide (a ≠ 5)) || (decide (a = 2) && decide (b = 2)) || (decide (a = 3) && decide (b = 3))
def joinI (a b : Int) : Int := if (a = 2 ∧ b = 3) ∨ (a = 3 ∧ b = 2) then 4 else max a b
def intentI (m : Int) : Int := if m = 0 then 0 else if m = 1 ∨ m = 3 then 1 else 2
def coverI (m : Int) : Int := if m = 3 ∨ m = 4 then 3 else if m = 5 then 5 else 0

/-- A mode. -/
def ModeP (m : Int) : Prop := 0 ≤ m ∧ m ≤ 5

theorem ModeP.ind {p : Int → Prop} {m : Int} (h : ModeP m) (h0 : p 0) (h1 : p 1) (h2 : p 2) (h3 : p 3) (h4 : p 4) (h5 : p 5) : p m := by
  obtain ⟨a, b⟩ := h
  rcases (by omega : m = 0 ∨ m = 1 ∨ m = 2 ∨ m = 3 ∨ m = 4 ∨ m = 5) with rfl | rfl | rfl | rfl | rfl | rfl <;> assumption

theorem fitsB_comm (a b : Int) : fitsB a b = fitsB b a := by
  rw [Bool.eq_iff_iff]
  simp only [fitsB, Bool.or_eq_true, Bool.and_eq_true, decide_eq_true_eq]
  omega

theorem joinI_comm (a b : Int) : joinI a b = joinI b a := by unfold joinI; split <;> split <;> omega
theorem joinI_mode {a b : Int} (ha : ModeP a) (hb : ModeP b) : ModeP (joinI a b) := by
  obtain ⟨a0, a1⟩ := ha; obtain ⟨b0, b1⟩ := hb
  unfold joinI ModeP; split <;> omega
theorem joinI_le {a b c : Int} (h : a ≤ b) (hn : ¬ (a = 2 ∧ b = 3)) (hc : c = b) : joinI a b = c := by unfold joinI; rw [if_neg (by omega)]; omega
theorem joinI_zero {a : Int} (h : 0 ≤ a) : joinI a 0 = a := by unfold joinI; rw [if_neg (by omega)]; omega
theorem joinI_zero' {a : Int} (h : 0 ≤ a) : joinI 0 a = a := by rw [joinI_comm]; exact joinI_zero h
theorem joinI_self {a : Int} : joinI a a = a := by unfold joinI; rw [if_neg (by omega)]; omega
theorem ModeP.cases {m : Int} (h : ModeP m) : m = 0 ∨ m = 1 ∨ m = 2 ∨ m = 3 ∨ m = 4 ∨ m = 5 := by
  obtain ⟨a, b⟩ := h
  omega

theorem joinI_assoc {a b c : Int} (ha : ModeP a) (hb : ModeP b) (hc : ModeP c) : joinI (joinI a b) c = joinI a (joinI b c) := by
  rcases ha.cases with rfl | rfl | rfl | rfl | rfl | rfl <;> rcases hb.cases with rfl | rfl | rfl | rfl | rfl | rfl <;> rcases hc.cases with rfl | rfl | rfl | rfl | rfl | rfl <;> decide

/-- a is no more than b. -/
def LeM (a b : Int) : Prop := joinI a b = b

theorem LeM.anti {a b : Int} (h : LeM a b) (k : LeM b a) : a = b := by unfold LeM at *; rw [joinI_comm] at k; omega
theorem leM_join_left {a b : Int} (ha : ModeP a) (hb : ModeP b) : LeM a (joinI a b) := by unfold LeM; rw [← joinI_assoc ha ha hb, joinI_self]
theorem leM_join_right {a b : Int} (ha : ModeP a) (hb : ModeP b) : LeM b (joinI a b) := by rw [joinI_comm]; exact leM_join_left hb ha
theorem leM_zero {a : Int} (h : 0 ≤ a) : LeM 0 a := joinI_zero' h
theorem leM_refl (a : Int) : LeM a a := joinI_self
theorem LeM.trans {a b c : Int} (ha : ModeP a) (hb : ModeP b) (hc : ModeP c) (h : LeM a b) (k : LeM b c) : LeM a c := by
  unfold LeM at *
  rw [← k, ← joinI_assoc ha hb hc, h]
theorem joinI_least {a b c : Int} (ha : ModeP a) (hb : ModeP b) (hc : ModeP c) (h : LeM a c) (k : LeM b c) : LeM (joinI a b) c := by
  unfold LeM at *
  rw [joinI_assoc ha hb hc, k, h]

/-- The join of a list of modes with one. -/
def joinL (m : Int) (l : List Int) : Int := l.foldl joinI m

theorem joinL_cons (m x : Int) (l : List Int) : joinL m (x :: l) = joinL (joinI m x) l := rfl

theorem joinL_mode : ∀ {l : List Int} {m : Int}, ModeP m → (∀ x ∈ l, ModeP x) → ModeP (joinL m l)
  | [], _, hm, _ => hm
  | x :: l, _, hm, h => joinL_mode (l := l) (joinI_mode hm (h x List.mem_cons_self)) (fun y hy => h y (List.mem_cons_of_mem _ hy))

theorem joinL_start : ∀ {l : List Int} {m : Int}, ModeP m → (∀ x ∈ l, ModeP x) → LeM m (joinL m l)
  | [], m, _, _ => leM_refl m
  | x :: l, _, hm, h => by
    have hx := h x List.mem_cons_self
    have hl := fun y hy => h y (List.mem_cons_of_mem x hy)
    rw [joinL_cons]
    exact LeM.trans hm (joinI_mode hm hx) (joinL_mode (joinI_mode hm hx) hl) (leM_join_left hm hx) (joinL_start (joinI_mode hm hx) hl)

theorem joinL_ge : ∀ {l : List Int} {m : Int}, ModeP m → (∀ x ∈ l, ModeP x) → ∀ x ∈ l, LeM x (joinL m l)
  | [], _, _, _, x, hx => by cases hx
  | y :: l, m, hm, h, x, hx => by
    have hy := h y List.mem_cons_self
    have hl := fun z hz => h z (List.mem_cons_of_mem y hz)
    rw [joinL_cons]
    rcases List.mem_cons.1 hx with rfl | hx
    · exact LeM.trans hy (joinI_mode hm hy) (joinL_mode (joinI_mode hm hy) hl) (leM_join_right hm hy) (joinL_start (joinI_mode hm hy) hl)
    · exact joinL_ge (joinI_mode hm hy) hl x hx

theorem joinL_least : ∀ {l : List Int} {m c : Int}, ModeP m → ModeP c → (∀ x ∈ l, ModeP x) → LeM m c → (∀ x ∈ l, LeM x c) → LeM (joinL m l) c
  | [], _, _, _, _, _, h, _ => h
  | x :: l, _, _, hm, hc, hl, h, k => by
    have hx := hl x List.mem_cons_self
    exact joinL_least (l := l) (joinI_mode hm hx) hc (fun y hy => hl y (List.mem_cons_of_mem _ hy)) (joinI_least hm hx hc h (k x List.mem_cons_self)) (fun y hy => k y (List.mem_cons_of_mem _ hy))

theorem joinL_snoc (m : Int) (l : List Int) (x : Int) : joinL m (l ++ [x]) = joinI (joinL m l) x := by simp [joinL]

/-- Two joins of which each has what the other has are one. -/
theorem joinL_same {m m' : Int} {l l' : List Int} (hm : ModeP m) (hm' : ModeP m') (hl : ∀ x ∈ l, ModeP x) (hl' : ∀ x ∈ l', ModeP x)
    (h1 : LeM m (joinL m' l')) (h2 : ∀ x ∈ l, LeM x (joinL m' l')) (h3 : LeM m' (joinL m l)) (h4 : ∀ x ∈ l', LeM x (joinL m l)) : joinL m l = joinL m' l' :=
  (joinL_least hm (joinL_mode hm' hl') hl h1 h2).anti (joinL_least hm' (joinL_mode hm hl) hl' h3 h4)

theorem intentI_mode (m : Int) : ModeP (intentI m) := by unfold intentI ModeP; split <;> try split
                                                         all_goals omega
theorem coverI_mode (m : Int) : ModeP (coverI m) := by unfold coverI ModeP; split <;> try split
                                                       all_goals omega
end Go.Proofs.YtfjhpfgffbghdaaGreatDoor

namespace Go.Proofs.YtfjhpfgffbghdaaGreatDoor

/-- A node and those above it. -/
noncomputable def upsOf (d : PDoc) (i : Int) : List Int := (pathAns d i).reverse

theorem upsOf_eq {d : PDoc} (G : Good d) {i : Int} {q : Nat} (hq : Dep d.nodes d.root q i) : upsOf d i = ups d.nodes q i := by
  obtain ⟨q', hq', e⟩ := pathAns_ok (askOf_ok G (G.dep_in hq))
  rw [upsOf, e, List.reverse_reverse, dep_one G.once G.rootNo hq hq']

theorem upsOf_self {d : PDoc} (G : Good d) {i : Int} (hi : i ∈ idsOf d.nodes) : i ∈ upsOf d i := by
  obtain ⟨q, hq⟩ := G.dep hi
  rw [upsOf_eq G hq]
  cases q <;> simp [ups]

theorem upsOf_in {d : PDoc} (G : Good d) {i : Int} (hi : i ∈ idsOf d.nodes) : ∀ k ∈ upsOf d i, k ∈ idsOf d.nodes := by
  obtain ⟨q, hq⟩ := G.dep hi
  rw [upsOf_eq G hq]
  exact G.ups_in hq

/-- What a lock has to do with a node: its mode there, its intention above. -/
noncomputable def partI (d : PDoc) (i : Int) (x : PHold) : Int := if x.node = i then x.mode else if i ∈ upsOf d x.node then intentI x.mode else 0

theorem partI_on {d : PDoc} {i : Int} {x : PHold} (h : x.node = i) : partI d i x = x.mode := by unfold partI; rw [if_pos h]
theorem partI_above {d : PDoc} {i : Int} {x : PHold} (h : x.node ≠ i) (h' : i ∈ upsOf d x.node) : partI d i x = intentI x.mode := by unfold partI; rw [if_neg h, if_pos h']
theorem partI_off {d : PDoc} {i : Int} {x : PHold} (h : x.node ≠ i) (h' : i ∉ upsOf d x.node) : partI d i x = 0 := by unfold partI; rw [if_neg h, if_neg h']
theorem partI_mode {d : PDoc} {i : Int} {x : PHold} (h : ModeP x.mode) : ModeP (partI d i x) := by
  unfold partI
  split
  · exact h
  · split
    · exact intentI_mode _
    · exact ⟨by omega, by omega⟩

/-- What a lock covers a node with. -/
noncomputable def coverOn (d : PDoc) (i : Int) (x : PHold) : Int := if x.node = i then x.mode else if x.node ∈ upsOf d i then coverI x.mode else 0
theorem coverOn_on {d : PDoc} {i : Int} {x : PHold} (h : x.node = i) : coverOn d i x = x.mode := by unfold coverOn; rw [if_pos h]
theorem coverOn_below {d : PDoc} {i : Int} {x : PHold} (h : x.node ≠ i) (h' : x.node ∈ upsOf d i) : coverOn d i x = coverI x.mode := by unfold coverOn; rw [if_neg h, if_pos h']
theorem coverOn_off {d : PDoc} {i : Int} {x : PHold} (h : x.node ≠ i) (h' : x.node ∉ upsOf d i) : coverOn d i x = 0 := by unfold coverOn; rw [if_neg h, if_neg h']
theorem coverOn_mode {d : PDoc} {i : Int} {x : PHold} (h : ModeP x.mode) : ModeP (coverOn d i x) := by
  unfold coverOn
  split
  · exact h
  · split
    · exact coverI_mode _
    · exact ⟨by omega, by omega⟩

/-- The parts of a session's locks. -/
def partsOf (f : PHold → Int) (L : List PHold) (s : Int) : List Int := (L.filter (fun x => x.session == s)).map f
theorem partsOf_hit {f : PHold → Int} {L : List PHold} {s : Int} {k : Nat} (h : k < L.length) (hs : (L[k]?.getD holdNil).session = s) : partsOf f (L.take (k + 1)) s = partsOf f (L.take k) s ++ [f (L[k]?.getD holdNil)] := by
  rw [List.getElem?_eq_getElem h, Option.getD_some] at hs ⊢
  rw [List.take_succ_eq_append_getElem h, partsOf, List.filter_append, List.map_append, partsOf]
  simp [hs]
theorem partsOf_miss {f : PHold → Int} {L : List PHold} {s : Int} {k : Nat} (h : k < L.length) (hs : (L[k]?.getD holdNil).session ≠ s) : partsOf f (L.take (k + 1)) s = partsOf f (L.take k) s := by
  rw [List.getElem?_eq_getElem h, Option.getD_some] at hs
  rw [List.take_succ_eq_append_getElem h, partsOf, List.filter_append, List.map_append, partsOf]
  simp [hs]

/-- The join of the parts of a session's locks. -/
def joinedOf (f : PHold → Int) (L : List PHold) (s : Int) : Int := joinL 0 (partsOf f L s)
theorem joinedOf_hit {f : PHold → Int} {L : List PHold} {s : Int} {k : Nat} (h : k < L.length) (hs : (L[k]?.getD holdNil).session = s) : joinedOf f (L.take (k + 1)) s = joinI (joinedOf f (L.take k) s) (f (L[k]?.getD holdNil)) := by
  unfold joinedOf; rw [partsOf_hit h hs, joinL_snoc]
theorem joinedOf_miss {f : PHold → Int} {L : List PHold} {s : Int} {k : Nat} (h : k < L.length) (hs : (L[k]?.getD holdNil).session ≠ s) : joinedOf f (L.take (k + 1)) s = joinedOf f (L.take k) s := by
  unfold joinedOf; rw [partsOf_miss h hs]
theorem joinedOf_mode {f : PHold → Int} {L : List PHold} {s : Int} (h : ∀ x ∈ L, ModeP (f x)) : ModeP (joinedOf f L s) := by
  refine joinL_mode ⟨by omega, by omega⟩ fun x hx => ?_
  obtain ⟨y, hy, rfl⟩ := List.mem_map.1 hx
  exact h y (List.mem_filter.1 hy).1
theorem take_mem {L : List PHold} {k : Nat} {P : PHold → Prop} (h : ∀ x ∈ L, P x) : ∀ x ∈ L.take k, P x := fun x hx => h x (List.mem_of_mem_take hx)
theorem at_mem {L : List PHold} {k : Nat} (h : k < L.length) : L[k]?.getD holdNil ∈ L := by
  rw [List.getElem?_eq_getElem h, Option.getD_some]; exact List.getElem_mem h

/-- What a session has on a node. -/
noncomputable def modeAtP (d : PDoc) (L : List PHold) (s i : Int) : Int := joinedOf (partI d i) L s
/-- What a session may do with a node. -/
noncomputable def coverP (d : PDoc) (L : List PHold) (s i : Int) : Int := joinedOf (coverOn d i) L s

theorem HoldsP.mode {d : PDoc} {L : List PHold} (h : HoldsP d L) : ∀ x ∈ L, HoldP d x := fun x hx => by
  obtain ⟨k, hk, rfl⟩ := List.getElem_of_mem hx
  have := (h.ok k hk).1
  rwa [List.getElem?_eq_getElem hk, Option.getD_some] at this
theorem HoldP.modeP {d : PDoc} {x : PHold} (h : HoldP d x) : ModeP x.mode := ⟨by have := h.2.2.1; omega, h.2.2.2⟩

theorem modeAtP_mode {d : PDoc} {L : List PHold} (h : ∀ x ∈ L, ModeP x.mode) (s i : Int) : ModeP (modeAtP d L s i) := joinedOf_mode fun x hx => partI_mode (h x hx)
theorem coverP_mode {d : PDoc} {L : List PHold} (h : ∀ x ∈ L, ModeP x.mode) (s i : Int) : ModeP (coverP d L s i) := joinedOf_mode fun x hx => coverOn_mode (h x hx)
end Go.Proofs.YtfjhpfgffbghdaaGreatDoor

namespace Go.Proofs.YtfjhpfgffbghdaaGreatDoor

/-- What a lock needs on a node of its path. -/
def needI (x : PHold) (i : Int) : Int := if i = x.node then x.mode else intentI x.mode
theorem needI_mode {x : PHold} (h : ModeP x.mode) (i : Int) : ModeP (needI x i) := by
  unfold needI; split
  · exact h
  · exact intentI_mode _
theorem needI_part {d : PDoc} {x : PHold} {i : Int} (h : i ∈ upsOf d x.node) : partI d i x = needI x i := by
  unfold partI needI
  by_cases e : x.node = i
  · rw [if_pos e, if_pos e.symm]
  · rw [if_neg e, if_pos h, if_neg (fun e' => e e'.symm)]

/-- Whether another session's locks clash with a lock on a node. -/
noncomputable def clashAt (d : PDoc) (L : List PHold) (x : PHold) (o i : Int) : Bool := !fitsB (joinI (modeAtP d L x.session i) (needI x i)) (modeAtP d L o i)
def ClashP (d : PDoc) (L : List PHold) (x : PHold) (o : Int) : Prop := ∃ i ∈ upsOf d x.node, clashAt d L x o i = true
noncomputable def againstB (d : PDoc) (L : List PHold) (x : PHold) (s : Int) : Bool := (s != x.session) && dec (ClashP d L x s)

/-- The sessions that stand against a lock. -/
noncomputable def confL (d : PDoc) (L : List PHold) (x : PHold) (S : List Int) : List Int := S.filter (againstB d L x)
theorem confL_hit {d : PDoc} {L : List PHold} {x : PHold} {S : List Int} {k : Nat} (h : k < S.length) (hs : againstB d L x (S[k]?.getD 0) = true) : confL d L x (S.take (k + 1)) = confL d L x (S.take k) ++ [S[k]?.getD 0] := by
  rw [List.getElem?_eq_getElem h, Option.getD_some] at hs ⊢
  rw [List.take_succ_eq_append_getElem h, confL, List.filter_append, confL]
  simp [hs]
theorem confL_miss {d : PDoc} {L : List PHold} {x : PHold} {S : List Int} {k : Nat} (h : k < S.length) (hs : againstB d L x (S[k]?.getD 0) = false) : confL d L x (S.take (k + 1)) = confL d L x (S.take k) := by
  rw [List.getElem?_eq_getElem h, Option.getD_some] at hs
  rw [List.take_succ_eq_append_getElem h, confL, List.filter_append, confL]
  simp [hs]
theorem confL_len (d : PDoc) (L : List PHold) (x : PHold) (S : List Int) : (confL d L x S).length ≤ S.length := List.length_filter_le _ _

noncomputable def confAns (d : PDoc) (L : List PHold) (x : PHold) : List Int := if holdAsk d L x = 0 then confL d L x (sessP L) else []
theorem confAns_no {d : PDoc} {L : List PHold} {x : PHold} (h : holdAsk d L x ≠ 0) : confAns d L x = [] := by unfold confAns; rw [if_neg h]
theorem confAns_ok {d : PDoc} {L : List PHold} {x : PHold} (h : holdAsk d L x = 0) : confAns d L x = confL d L x (sessP L) := by unfold confAns; rw [if_pos h]
theorem confAns_len (d : PDoc) (L : List PHold) (x : PHold) : (confAns d L x).length ≤ 1048576 := by
  by_cases h : holdAsk d L x = 0
  · rw [confAns_ok h]
    have h1 := confL_len d L x (sessP L)
    have h2 := sessP_len L
    have h3 := (holdAsk_zero h).1.holds.len
    omega
  · rw [confAns_no h]; simp
end Go.Proofs.YtfjhpfgffbghdaaGreatDoor

namespace Go.Proofs.YtfjhpfgffbghdaaGreatDoor

noncomputable def withI (d : PDoc) (L : List PHold) (x : PHold) (i : Int) : Int := joinI (modeAtP d L x.session i) (needI x i)
noncomputable def rivalAt (d : PDoc) (L : List PHold) (a b : PHold) (i : Int) : Bool := !fitsB (withI d L a i) (withI d L b i)
def RivalP (d : PDoc) (L : List PHold) (a b : PHold) : Prop := ∃ i, i ∈ upsOf d a.node ∧ i ∈ upsOf d b.node ∧ rivalAt d L a b i = true

theorem rivalAt_comm (d : PDoc) (L : List PHold) (a b : PHold) (i : Int) : rivalAt d L a b i = rivalAt d L b a i := by unfold rivalAt; rw [fitsB_comm]
theorem rival_comm {d : PDoc} {L : List PHold} {a b : PHold} : RivalP d L a b ↔ RivalP d L b a :=
  ⟨fun ⟨i, h1, h2, h3⟩ => ⟨i, h2, h1, by rw [rivalAt_comm]; exact h3⟩, fun ⟨i, h1, h2, h3⟩ => ⟨i, h2, h1, by rw [rivalAt_comm]; exact h3⟩⟩

/-- From a node of a path on the way up is that node's own way. -/
theorem ups_suffix {d : PDoc} (G : Good d) : ∀ {q : Nat} {a i : Int}, Dep d.nodes d.root q a → i ∈ ups d.nodes q a → ∃ r pre, Dep d.nodes d.root r i ∧ ups d.nodes q a = pre ++ ups d.nodes r i
  | 0, a, i, h, hi => by
    simp only [ups, List.mem_singleton] at hi
    subst hi
    exact ⟨0, [], h, rfl⟩
  | q + 1, a, i, h, hi => by
    rcases List.mem_cons.1 hi with rfl | hi
    · exact ⟨q + 1, [], h, rfl⟩
    · obtain ⟨r, pre, h1, h2⟩ := ups_suffix G (G.up_dep h) hi
      exact ⟨r, a :: pre, h1, by show a :: ups d.nodes q (parentOf d.nodes a) = _; rw [h2]; rfl⟩

/-- What stands on both paths stands on both at one place, and all ahead of it is the same. -/
theorem common_place {d : PDoc} (G : Good d) {a b i : Int} (ha : a ∈ idsOf d.nodes) (hb : b ∈ idsOf d.nodes) (h1 : i ∈ upsOf d a) (h2 : i ∈ upsOf d b) :
    ∃ r, r < (upsOf d a).reverse.length ∧ r < (upsOf d b).reverse.length ∧ (upsOf d a).reverse[r]?.getD 0 = i ∧ ∀ m, m ≤ r → (upsOf d a).reverse[m]?.getD 0 = (upsOf d b).reverse[m]?.getD 0 := by
  obtain ⟨qa, hqa⟩ := G.dep ha
  obtain ⟨qb, hqb⟩ := G.dep hb
  rw [upsOf_eq G hqa] at h1 ⊢
  rw [upsOf_eq G hqb] at h2 ⊢
  obtain ⟨r, p1, d1, e1⟩ := ups_suffix G hqa h1
  obtain ⟨r', p2, d2, e2⟩ := ups_suffix G hqb h2
  obtain rfl := dep_one G.once G.rootNo d1 d2
  rw [e1, e2, List.reverse_append, List.reverse_append]
  have hl : (ups d.nodes r i).reverse.length = r + 1 := by rw [List.length_reverse, ups_len]
  refine ⟨r, by rw [List.length_append]; omega, by rw [List.length_append]; omega, ?_, fun m hm => ?_⟩
  · rw [List.getElem?_append_left (by omega)]
    have : (ups d.nodes r i).reverse[r]? = some i := by
      rw [List.getElem?_reverse (by rw [ups_len]; omega), ups_len, show r + 1 - 1 - r = 0 by omega]
      cases r <;> simp [ups]
    rw [this]; rfl
  · rw [List.getElem?_append_left (by omega), List.getElem?_append_left (by omega)]

theorem ups_mem_at {d : PDoc} {a : Int} {m : Nat} (hm : m < (upsOf d a).reverse.length) : (upsOf d a).reverse[m]?.getD 0 ∈ upsOf d a := by
  rw [List.getElem?_eq_getElem hm, Option.getD_some]
  exact List.mem_reverse.1 (List.getElem_mem hm)
end Go.Proofs.YtfjhpfgffbghdaaGreatDoor
