/-
  Documents as plain data, and when one is right: the conditions that need no walk (Flat), and the walk from the root (order, Low, Dep). No program is named here.
  How a document lies in memory: lists of numbers, lists of nodes, documents as values; and that they stay where only new memory is written.
-/
import Derived.Below
import Derived.Test.YtihoihlkkhndhaaDoorProg
import Derived.WalkKit
import Derived.WalkSpells
import Derived.OwnWalk
import Derived.Maps.Own
namespace Go.Proofs.YtihoihlkkhndhaaDoor

structure PNode where
  id : Int
  kind : Int
  attr : Int
  text : ByteArray
  kids : List Int

structure PDoc where
  root : Int
  next : Int
  nodes : List PNode

def idsOf (l : List PNode) : List Int := l.map PNode.id
def allKids (l : List PNode) : List Int := l.flatMap PNode.kids
def kidsAt (l : List PNode) (i : Int) : List Int := match l.find? (fun x => x.id == i) with | some x => x.kids | none => []

def NodeFine (next : Int) (x : PNode) : Prop :=
  1 ≤ x.id ∧ x.id ≤ next - 1 ∧ 1 ≤ x.kind ∧ x.kind ≤ 8 ∧ 0 ≤ x.attr ∧ x.attr ≤ 99 ∧ x.text.size ≤ 20 ∧ x.kids.length ≤ 12

/-- All that a right document has, but for the walk from its root. -/
structure Flat (d : PDoc) : Prop where
  n1 : 1 ≤ d.nodes.length
  n40 : d.nodes.length ≤ 40
  nx2 : 2 ≤ d.next
  nxm : d.next ≤ 999999
  fine : ∀ x ∈ d.nodes, NodeFine d.next x
  rise : (idsOf d.nodes).Pairwise (· < ·)
  there : ∀ k ∈ allKids d.nodes, k ∈ idsOf d.nodes
  once : (allKids d.nodes).Nodup
  rootNo : d.root ∉ allKids d.nodes
  rootIn : d.root ∈ idsOf d.nodes

/-- A node and what is below it, so many levels of it. -/
def order (l : List PNode) : Nat → Int → List Int
  | 0, _ => []
  | h + 1, i => i :: (kidsAt l i).flatMap (order l h)

/-- There are at most so many levels from a node on, itself with them. -/
def Low (l : List PNode) : Nat → Int → Prop
  | 0, _ => False
  | h + 1, i => ∀ k ∈ kidsAt l i, Low l h k

/-- The node is so many steps below the root. -/
def Dep (l : List PNode) (root : Int) : Nat → Int → Prop
  | 0, i => i = root
  | q + 1, i => ∃ k, Dep l root q k ∧ i ∈ kidsAt l k

structure Good (d : PDoc) : Prop extends Flat d where
  whole : (order d.nodes d.nodes.length d.root).length = d.nodes.length
  low : Low d.nodes 6 d.root

/-! lists -/

theorem nodup_sub_len {α : Type} [DecidableEq α] : ∀ {l m : List α}, l.Nodup → (∀ x ∈ l, x ∈ m) → l.length ≤ m.length
  | [], _, _, _ => Nat.zero_le _
  | x :: l, m, hn, hs => by
    obtain ⟨hx, hn'⟩ := List.nodup_cons.1 hn
    have h1 : l.length ≤ (m.erase x).length := nodup_sub_len hn' (fun y hy => (List.mem_erase_of_ne (fun e => hx (by rw [← e]; exact hy))).2 (hs y (List.mem_cons_of_mem _ hy)))
    have h2 : x ∈ m := hs x List.mem_cons_self
    rw [List.length_erase_of_mem h2] at h1
    have h3 : 0 < m.length := List.length_pos_of_mem h2
    simp only [List.length_cons]; omega

theorem nodup_full {α : Type} [DecidableEq α] {l m : List α} (hn : l.Nodup) (hs : ∀ x ∈ l, x ∈ m) (hl : m.length ≤ l.length) : ∀ x ∈ m, x ∈ l := by
  intro x hx
  by_cases h : x ∈ l
  · exact h
  · have := nodup_sub_len (List.nodup_cons.2 ⟨h, hn⟩) (m := m) (by intro y hy; rcases List.mem_cons.1 hy with rfl | hy; exact hx; exact hs y hy)
    simp only [List.length_cons] at this; omega

theorem pw_nodup {l : List Int} (h : l.Pairwise (· < ·)) : l.Nodup := h.imp (fun h e => by omega)

/-! nodes by their ids -/

theorem find_id : ∀ {l : List PNode} (_ : (idsOf l).Pairwise (· < ·)) {x : PNode}, x ∈ l → l.find? (fun y => y.id == x.id) = some x
  | [], _, x, hx => by cases hx
  | y :: l, hr, x, hx => by
    simp only [idsOf, List.map_cons, List.pairwise_cons] at hr
    rcases List.mem_cons.1 hx with rfl | hx
    · simp
    · have hlt := hr.1 x.id (List.mem_map_of_mem hx)
      rw [List.find?_cons, show (y.id == x.id) = false by simp; omega]
      exact find_id hr.2 hx

theorem find_no {l : List PNode} {i : Int} (h : i ∉ idsOf l) : l.find? (fun y => y.id == i) = none := by
  rw [List.find?_eq_none]; intro x hx he
  exact h (by simp at he; exact he ▸ List.mem_map_of_mem hx)

theorem kidsAt_of {l : List PNode} (hr : (idsOf l).Pairwise (· < ·)) {x : PNode} (hx : x ∈ l) : kidsAt l x.id = x.kids := by
  unfold kidsAt; rw [find_id hr hx]

theorem mem_kidsAt {l : List PNode} {i k : Int} (h : k ∈ kidsAt l i) : ∃ x ∈ l, x.id = i ∧ k ∈ x.kids := by
  unfold kidsAt at h
  split at h
  · rename_i x hx
    exact ⟨x, List.mem_of_find?_eq_some hx, by have := List.find?_some hx; simpa using this, h⟩
  · cases h

theorem kidsAt_all {l : List PNode} {i k : Int} (h : k ∈ kidsAt l i) : k ∈ allKids l := by
  obtain ⟨x, hx, _, hk⟩ := mem_kidsAt h
  exact List.mem_flatMap.2 ⟨x, hx, hk⟩

theorem all_parent {l : List PNode} (hr : (idsOf l).Pairwise (· < ·)) {k : Int} (h : k ∈ allKids l) : ∃ x ∈ l, k ∈ kidsAt l x.id := by
  obtain ⟨x, hx, hk⟩ := List.mem_flatMap.1 h
  exact ⟨x, hx, by rw [kidsAt_of hr hx]; exact hk⟩

/-- In a list whose kids come once, a kid has one parent. -/
theorem one_parent_mem : ∀ {l : List PNode} (_ : (allKids l).Nodup) {x y : PNode}, x ∈ l → y ∈ l → ∀ {k : Int}, k ∈ x.kids → k ∈ y.kids → x = y ∨ False
  | [], _, x, _, hx, _, _, _, _ => by cases hx
  | z :: l, hn, x, y, hx, hy, k, hkx, hky => by
    have e : allKids (z :: l) = z.kids ++ allKids l := by simp [allKids]
    rw [e, List.nodup_append] at hn
    obtain ⟨_, hn2, hd⟩ := hn
    rcases List.mem_cons.1 hx with rfl | hx' <;> rcases List.mem_cons.1 hy with rfl | hy'
    · exact .inl rfl
    · exact absurd rfl (hd k hkx k (List.mem_flatMap.2 ⟨y, hy', hky⟩))
    · exact absurd rfl (hd k hky k (List.mem_flatMap.2 ⟨x, hx', hkx⟩))
    · exact one_parent_mem hn2 hx' hy' hkx hky

section
variable {l : List PNode} {root : Int}

theorem one_parent (hn : (allKids l).Nodup) {i j k : Int} (h1 : k ∈ kidsAt l i) (h2 : k ∈ kidsAt l j) : i = j := by
  obtain ⟨x, hx, rfl, hkx⟩ := mem_kidsAt h1
  obtain ⟨y, hy, rfl, hky⟩ := mem_kidsAt h2
  rcases one_parent_mem hn hx hy hkx hky with h | h
  · rw [h]
  · exact h.elim

/-! the walk -/

/-- k is so many steps below i. -/
def Desc (l : List PNode) : Nat → Int → Int → Prop
  | 0, i, k => k = i
  | m + 1, i, k => ∃ j, j ∈ kidsAt l i ∧ Desc l m j k

theorem mem_order : ∀ {h : Nat} {i k : Int}, k ∈ order l h i ↔ ∃ m, m < h ∧ Desc l m i k
  | 0, i, k => by simp [order]
  | h + 1, i, k => by
    simp only [order, List.mem_cons, List.mem_flatMap]
    constructor
    · rintro (rfl | ⟨j, hj, hk⟩)
      · exact ⟨0, by omega, rfl⟩
      · obtain ⟨m, hm, hd⟩ := mem_order.1 hk
        exact ⟨m + 1, by omega, j, hj, hd⟩
    · rintro ⟨m, hm, hd⟩
      cases m with
      | zero => exact .inl hd
      | succ m =>
        obtain ⟨j, hj, hd⟩ := hd
        exact .inr ⟨j, hj, mem_order.2 ⟨m, by omega, hd⟩⟩

theorem desc_snoc : ∀ {m : Nat} {i j k : Int}, Desc l m i j → k ∈ kidsAt l j → Desc l (m + 1) i k
  | 0, i, j, k, h, hk => ⟨k, by cases h; exact hk, rfl⟩
  | m + 1, i, j, k, ⟨a, ha, h⟩, hk => ⟨a, ha, desc_snoc h hk⟩

theorem desc_last : ∀ {m : Nat} {i k : Int}, Desc l (m + 1) i k → ∃ j, Desc l m i j ∧ k ∈ kidsAt l j
  | 0, i, k, ⟨a, ha, h⟩ => ⟨i, rfl, by cases h; exact ha⟩
  | m + 1, i, k, ⟨a, ha, h⟩ => by
    obtain ⟨j, hj, hk⟩ := desc_last h
    exact ⟨j, ⟨a, ha, hj⟩, hk⟩

theorem dep_iff : ∀ {q : Nat} {k : Int}, Dep l root q k ↔ Desc l q root k
  | 0, k => Iff.rfl
  | q + 1, k => by
    constructor
    · rintro ⟨j, hj, hk⟩; exact desc_snoc (dep_iff.1 hj) hk
    · intro h
      obtain ⟨j, hj, hk⟩ := desc_last h
      exact ⟨j, dep_iff.2 hj, hk⟩

theorem dep_desc : ∀ {m q : Nat} {i k : Int}, Dep l root q i → Desc l m i k → Dep l root (q + m) k
  | 0, q, i, k, hd, h => by cases h; exact hd
  | m + 1, q, i, k, hd, ⟨j, hj, h⟩ => by
    have := dep_desc (q := q + 1) ⟨i, hd, hj⟩ h
    rwa [show q + (m + 1) = q + 1 + m by omega]

theorem dep_one (hn : (allKids l).Nodup) (hr : root ∉ allKids l) : ∀ {q q' : Nat} {i : Int}, Dep l root q i → Dep l root q' i → q = q'
  | 0, 0, i, _, _ => rfl
  | 0, q' + 1, i, h, ⟨k, _, hk⟩ => by cases h; exact absurd (kidsAt_all hk) hr
  | q + 1, 0, i, ⟨k, _, hk⟩, h => by cases h; exact absurd (kidsAt_all hk) hr
  | q + 1, q' + 1, i, ⟨k, hd, hk⟩, ⟨k', hd', hk'⟩ => by
    obtain rfl := one_parent hn hk hk'
    rw [dep_one hn hr hd hd']

theorem desc_same (hn : (allKids l).Nodup) : ∀ {m : Nat} {i j k : Int}, Desc l m i k → Desc l m j k → i = j
  | 0, i, j, k, h1, h2 => by cases h1; cases h2; rfl
  | m + 1, i, j, k, h1, h2 => by
    obtain ⟨a, ha, hk⟩ := desc_last h1
    obtain ⟨b, hb, hk'⟩ := desc_last h2
    obtain rfl := one_parent hn hk hk'
    exact desc_same hn ha hb

theorem kidsAt_nodup (hn : (allKids l).Nodup) (i : Int) : (kidsAt l i).Nodup := by
  unfold kidsAt
  split
  · rename_i x hx
    have := List.mem_of_find?_eq_some hx
    unfold allKids at hn
    rw [List.nodup_iff_pairwise_ne, List.pairwise_flatMap] at hn
    exact List.nodup_iff_pairwise_ne.2 (hn.1 x this)
  · exact List.nodup_nil

theorem order_nodup (hr : (idsOf l).Pairwise (· < ·)) (hn : (allKids l).Nodup) (hno : root ∉ allKids l) : ∀ {h q : Nat} {i : Int}, Dep l root q i → (order l h i).Nodup
  | 0, _, _, _ => List.nodup_nil
  | h + 1, q, i, hd => by
    rw [order, List.nodup_cons]
    constructor
    · intro hm
      obtain ⟨k, hk, hm⟩ := List.mem_flatMap.1 hm
      obtain ⟨m, _, hm⟩ := mem_order.1 hm
      have := dep_one hn hno hd (dep_desc (q := q + 1) ⟨i, hd, hk⟩ hm)
      omega
    · rw [List.nodup_iff_pairwise_ne, List.pairwise_flatMap]
      refine ⟨fun k hk => List.nodup_iff_pairwise_ne.1 (order_nodup hr hn hno (q := q + 1) ⟨i, hd, hk⟩), ?_⟩
      have hk := List.nodup_iff_pairwise_ne.1 (kidsAt_nodup hn i)
      refine hk.imp_of_mem ?_
      intro a b ha hb hab x hx y hy hxy
      subst hxy
      obtain ⟨m, _, hm⟩ := mem_order.1 hx
      obtain ⟨m', _, hm'⟩ := mem_order.1 hy
      have e := dep_one hn hno (dep_desc (q := q + 1) ⟨i, hd, ha⟩ hm) (dep_desc (q := q + 1) ⟨i, hd, hb⟩ hm')
      have e' : m = m' := by omega
      subst e'
      exact hab (desc_same hn hm hm')

theorem dep_in (hth : ∀ k ∈ allKids l, k ∈ idsOf l) (hin : root ∈ idsOf l) : ∀ {q : Nat} {i : Int}, Dep l root q i → i ∈ idsOf l
  | 0, i, h => by cases h; exact hin
  | q + 1, i, ⟨k, _, hk⟩ => hth _ (kidsAt_all hk)

theorem order_in (hth : ∀ k ∈ allKids l, k ∈ idsOf l) (hin : root ∈ idsOf l) {h q : Nat} {i : Int} (hd : Dep l root q i) : ∀ k ∈ order l h i, k ∈ idsOf l := by
  intro k hk
  obtain ⟨m, _, hm⟩ := mem_order.1 hk
  exact dep_in hth hin (dep_desc hd hm)

theorem notLow : ∀ {h : Nat} {i : Int}, ¬ Low l h i → ∃ k, Desc l h i k
  | 0, i, _ => ⟨i, rfl⟩
  | h + 1, i, hn => by
    simp only [Low, Classical.not_forall] at hn
    obtain ⟨k, hk, hn⟩ := hn
    obtain ⟨j, hj⟩ := notLow hn
    exact ⟨j, k, hk, hj⟩

theorem low_desc : ∀ {h m : Nat} {i k : Int}, Low l h i → Desc l m i k → m < h
  | 0, _, _, _, hl, _ => hl.elim
  | h + 1, 0, _, _, _, _ => by omega
  | h + 1, m + 1, i, k, hl, ⟨j, hj, hd⟩ => by have := low_desc (hl j hj) hd; omega

theorem low_iff {h : Nat} {i : Int} : Low l h i ↔ ∀ m k, Desc l m i k → m < h :=
  ⟨fun hl _ _ hd => low_desc hl hd, fun H => Classical.byContradiction fun hn => by obtain ⟨k, hk⟩ := notLow hn; exact absurd (H h k hk) (by omega)⟩

theorem low_mono {h h' : Nat} {i : Int} (hl : Low l h i) (hh : h ≤ h') : Low l h' i := low_iff.2 fun m k hd => by have := low_desc hl hd; omega

theorem order_low : ∀ {h h' : Nat} {i : Int}, Low l h i → h ≤ h' → order l h' i = order l h i
  | 0, _, _, hl, _ => hl.elim
  | h + 1, 0, _, _, hh => by omega
  | h + 1, h' + 1, i, hl, hh => by
    simp only [order]
    congr 1
    rw [List.flatMap_def, List.flatMap_def, List.map_congr_left fun k hk => order_low (hl k hk) (by omega)]

/-- A chain of so many steps has as many nodes, all of them in the order. -/
theorem desc_len : ∀ {m : Nat} {i k : Int}, Desc l m i k → ∀ h, m < h → m < (order l h i).length
  | 0, i, k, _, h + 1, _ => by simp [order]
  | m + 1, i, k, ⟨j, hj, hd⟩, h + 1, hh => by
    have h1 := desc_len hd h (by omega)
    have h2 : (order l h j).length ≤ ((kidsAt l i).flatMap (order l h)).length := by
      rw [List.length_flatMap]
      exact le_sum_of_mem (List.mem_map_of_mem (f := fun a => (order l h a).length) hj)
    simp only [order, List.length_cons]; omega
where
  le_sum_of_mem : ∀ {xs : List Nat} {x : Nat}, x ∈ xs → x ≤ xs.sum
    | [], _, h => by cases h
    | y :: ys, x, h => by
      rcases List.mem_cons.1 h with rfl | h
      · simp
      · have := le_sum_of_mem h; simp; omega
end

section
variable {d : PDoc}

theorem Flat.nodup (F : Flat d) : (idsOf d.nodes).Nodup := pw_nodup F.rise
theorem idsOf_len (l : List PNode) : (idsOf l).length = l.length := by simp [idsOf]

theorem Flat.order_le (F : Flat d) (h : Nat) : (order d.nodes h d.root).length ≤ d.nodes.length := by
  have := nodup_sub_len (order_nodup F.rise F.once F.rootNo (h := h) (q := 0) (i := d.root) rfl) (order_in F.there F.rootIn (h := h) (q := 0) (i := d.root) rfl)
  rwa [idsOf_len] at this

/-- In a flat document no walk from the root goes on for ever. -/
theorem Flat.low (F : Flat d) : Low d.nodes d.nodes.length d.root := by
  refine low_iff.2 fun m k hd => ?_
  have h1 := desc_len hd (m + 1) (by omega)
  have h2 := F.order_le (m + 1)
  omega

theorem Flat.low_dep (F : Flat d) {q : Nat} {i : Int} (h : Dep d.nodes d.root q i) : Low d.nodes d.nodes.length i :=
  low_iff.2 fun m k hd => by
    have := low_desc F.low (dep_iff.1 (dep_desc h hd)); omega

/-- All nodes come in the order just if each is below the root; then all but the root are kids. -/
theorem Flat.whole_iff (F : Flat d) : (order d.nodes d.nodes.length d.root).length = d.nodes.length ↔ ((allKids d.nodes).length + 1 = d.nodes.length ∧ ∀ i ∈ idsOf d.nodes, ∃ q, Dep d.nodes d.root q i) := by
  have hd0 : Dep d.nodes d.root 0 d.root := rfl
  have hnd := order_nodup F.rise F.once F.rootNo (h := d.nodes.length) hd0
  have hin := order_in F.there F.rootIn (h := d.nodes.length) hd0
  constructor
  · intro hl
    have hall := nodup_full hnd hin (by rw [idsOf_len]; omega)
    have hdep : ∀ i ∈ idsOf d.nodes, ∃ q, Dep d.nodes d.root q i := fun i hi => by
      obtain ⟨m, _, hm⟩ := mem_order.1 (hall i hi)
      exact ⟨m, dep_iff.2 hm⟩
    refine ⟨?_, hdep⟩
    have hnd2 : (d.root :: allKids d.nodes).Nodup := List.nodup_cons.2 ⟨F.rootNo, F.once⟩
    have a := nodup_sub_len hnd2 (m := idsOf d.nodes) (by intro x hx; rcases List.mem_cons.1 hx with rfl | hx; exact F.rootIn; exact F.there x hx)
    have b := nodup_sub_len F.nodup (m := d.root :: allKids d.nodes) (by
      intro x hx
      obtain ⟨q, hq⟩ := hdep x hx
      cases q with
      | zero => cases hq; exact List.mem_cons_self
      | succ q => obtain ⟨k, _, hk⟩ := hq; exact List.mem_cons_of_mem _ (kidsAt_all hk))
    simp only [List.length_cons, idsOf_len] at a b; omega
  · rintro ⟨_, hdep⟩
    have a := nodup_sub_len F.nodup (m := order d.nodes d.nodes.length d.root) (by
      intro x hx
      obtain ⟨q, hq⟩ := hdep x hx
      have hq' := dep_iff.1 hq
      exact mem_order.2 ⟨q, low_desc F.low hq', hq'⟩)
    have b := F.order_le d.nodes.length
    rw [idsOf_len] at a; omega

/-! how deep -/

/-- The specification's own count of levels, as far as it looks. -/
def deep (l : List PNode) : Nat → Int → Nat
  | 0, _ => 1
  | k + 1, i => ((kidsAt l i).foldl (fun n j => max n (deep l k j)) 0) + 1

/-- The program's count of levels. -/
def hgt (l : List PNode) : Nat → Int → Nat
  | 0, _ => 0
  | k + 1, i => ((kidsAt l i).foldl (fun n j => max n (hgt l k j)) 0) + 1

theorem foldl_max_le (f : Int → Nat) (m : Nat) : ∀ (ks : List Int) (n : Nat), ks.foldl (fun n j => max n (f j)) n ≤ m ↔ n ≤ m ∧ ∀ k ∈ ks, f k ≤ m
  | [], n => by simp
  | k :: ks, n => by
    simp only [List.foldl_cons, foldl_max_le f m ks, List.mem_cons, forall_eq_or_imp, Nat.max_le, and_assoc]

theorem deep_low {l : List PNode} : ∀ {k : Nat} {i : Int}, deep l k i ≤ k ↔ Low l k i
  | 0, i => by simp [deep, Low]
  | k + 1, i => by
    simp only [deep, Low, Nat.add_le_add_iff_right, foldl_max_le, Nat.zero_le, true_and]
    exact forall_congr' fun j => forall_congr' fun _ => deep_low

theorem deep_le {l : List PNode} : ∀ {k : Nat} {i : Int}, deep l k i ≤ k + 1
  | 0, i => by simp [deep]
  | k + 1, i => by
    simp only [deep, Nat.add_le_add_iff_right, foldl_max_le, Nat.zero_le, true_and]
    exact fun j _ => deep_le

theorem hgt_low {l : List PNode} : ∀ {h m : Nat} {i : Int}, Low l h i → (hgt l h i ≤ m ↔ Low l m i)
  | 0, _, _, hl => hl.elim
  | h + 1, 0, i, _ => by simp [hgt, Low]
  | h + 1, m + 1, i, hl => by
    simp only [hgt, Low, Nat.add_le_add_iff_right, foldl_max_le, Nat.zero_le, true_and]
    exact forall_congr' fun j => forall_congr' fun hj => hgt_low (hl j hj)

theorem hgt_le {l : List PNode} : ∀ {h : Nat} {i : Int}, hgt l h i ≤ h
  | 0, i => by simp [hgt]
  | h + 1, i => by
    simp only [hgt, Nat.add_le_add_iff_right, foldl_max_le, Nat.zero_le, true_and]
    exact fun j _ => hgt_le

theorem Flat.good_iff (F : Flat d) : Good d ↔ ((order d.nodes d.nodes.length d.root).length = d.nodes.length ∧ hgt d.nodes d.nodes.length d.root ≤ 6) :=
  ⟨fun G => ⟨G.whole, (hgt_low F.low).2 G.low⟩, fun ⟨a, b⟩ => { F with whole := a, low := (hgt_low F.low).1 b }⟩

theorem Flat.good_spec (F : Flat d) : Good d ↔ ((allKids d.nodes).length + 1 = d.nodes.length ∧ (∀ i ∈ idsOf d.nodes, ∃ q, Dep d.nodes d.root q i) ∧ deep d.nodes 6 d.root ≤ 6) :=
  ⟨fun G => ⟨(F.whole_iff.1 G.whole).1, (F.whole_iff.1 G.whole).2, deep_low.2 G.low⟩, fun ⟨a, b, c⟩ => { F with whole := F.whole_iff.2 ⟨a, b⟩, low := deep_low.1 c }⟩
end

end Go.Proofs.YtihoihlkkhndhaaDoor

namespace Go.Proofs.YtihoihlkkhndhaaDoor
open Go.RowKit

theorem hide {p : Prop} (h : p) : Hid p := h

def Wf64 (i : Int) : Prop := (Lit.int .i64 i).wf = true

theorem wf64_of {i : Int} (h1 : -9223372036854775808 ≤ i) (h2 : i ≤ 9223372036854775807) : Wf64 i := by
  have e1 : IntKind.i64.min = -9223372036854775808 := by decide
  have e2 : IntKind.i64.max = 9223372036854775807 := by decide
  simp [Wf64, Lit.wf, e1, e2, h1, h2]

theorem bcell {W w1 : World} (hb : Below W.heap.size W w1) : (∀ b o, b < W.heap.size → w1.cell? ⟨b, o, none⟩ = W.cell? ⟨b, o, none⟩) ∧ (∀ b o, b < W.heap.size → w1.frozen? ⟨b, o, none⟩ = W.frozen? ⟨b, o, none⟩) :=
  ⟨fun b o h => hb.cell (p := ⟨b, o, none⟩) h, fun b o h => hb.frozen (p := ⟨b, o, none⟩) h⟩

/-- The value is a list of numbers, in blocks below n₀. -/
def IntsAt (n₀ : Nat) (w : World) (v : Value) (ks : List Int) : Prop :=
  ∃ (a : Option Addr) (cap : Nat), v = .slice a ks.length cap ∧ (ks = [] ∨ ∃ b off, a = some ⟨b, off, none⟩ ∧ b < n₀ ∧ ∀ j, j < ks.length → w.cell? ⟨b, off + j, none⟩ = some (.int .i64 (ks[j]?.getD 0)))

theorem IntsAt.below {n₀ n₁ : Nat} {w w' : World} {v : Value} {ks : List Int} (h : IntsAt n₀ w v ks) (hn : n₀ ≤ n₁) (hb : Below n₀ w w') : IntsAt n₁ w' v ks := by
  obtain ⟨a, cap, rfl, h⟩ := h
  refine ⟨a, cap, rfl, h.imp id ?_⟩
  rintro ⟨b, off, rfl, hlt, hc⟩
  exact ⟨b, off, rfl, by omega, fun j hj => (hb.cell (p := ⟨b, off + j, none⟩) hlt).trans (hc j hj)⟩

/-- Five cells are a node. -/
structure NodeAt (n₀ : Nat) (w : World) (b o : Nat) (x : PNode) : Prop where
  c0 : w.cell? ⟨b, o, none⟩ = some (.int .i64 x.id)
  c1 : w.cell? ⟨b, o + 1, none⟩ = some (.int .i64 x.kind)
  c2 : w.cell? ⟨b, o + 2, none⟩ = some (.int .i64 x.attr)
  c3 : w.cell? ⟨b, o + 3, none⟩ = some (.string x.text)
  c4 : ∃ v, w.cell? ⟨b, o + 4, none⟩ = some v ∧ IntsAt n₀ w v x.kids

def nodeNil : PNode := ⟨0, 0, 0, ByteArray.empty, []⟩

/-- The value is a list of nodes, in blocks below n₀. -/
def NodesAt (n₀ : Nat) (w : World) (v : Value) (l : List PNode) : Prop :=
  ∃ (a : Option Addr) (cap : Nat), v = .slice a l.length cap ∧ (l = [] ∨ ∃ b off, a = some ⟨b, off, none⟩ ∧ b < n₀ ∧ ∀ j, j < l.length → NodeAt n₀ w b (off + j * 5) (l[j]?.getD nodeNil))

theorem NodeAt.below {n₀ n₁ : Nat} {w w' : World} {b o : Nat} {x : PNode} (h : NodeAt n₀ w b o x) (hlt : b < n₀) (hn : n₀ ≤ n₁) (hb : Below n₀ w w') : NodeAt n₁ w' b o x where
  c0 := (hb.cell (p := ⟨b, o, none⟩) hlt).trans h.c0
  c1 := (hb.cell (p := ⟨b, o + 1, none⟩) hlt).trans h.c1
  c2 := (hb.cell (p := ⟨b, o + 2, none⟩) hlt).trans h.c2
  c3 := (hb.cell (p := ⟨b, o + 3, none⟩) hlt).trans h.c3
  c4 := by
    obtain ⟨v, hv, hi⟩ := h.c4
    exact ⟨v, (hb.cell (p := ⟨b, o + 4, none⟩) hlt).trans hv, hi.below hn hb⟩

theorem NodesAt.below {n₀ n₁ : Nat} {w w' : World} {v : Value} {l : List PNode} (h : NodesAt n₀ w v l) (hn : n₀ ≤ n₁) (hb : Below n₀ w w') : NodesAt n₁ w' v l := by
  obtain ⟨a, cap, rfl, h⟩ := h
  refine ⟨a, cap, rfl, h.imp id ?_⟩
  rintro ⟨b, off, rfl, hlt, hc⟩
  exact ⟨b, off, rfl, by omega, fun j hj => (hc j hj).below hlt hn hb⟩

/-- The value is a document. -/
def DocAt (n₀ : Nat) (w : World) (v : Value) (d : PDoc) : Prop :=
  ∃ s, v = .agg #[.int .i64 d.root, .int .i64 d.next, s] ∧ NodesAt n₀ w s d.nodes

theorem DocAt.below {n₀ n₁ : Nat} {w w' : World} {v : Value} {d : PDoc} (h : DocAt n₀ w v d) (hn : n₀ ≤ n₁) (hb : Below n₀ w w') : DocAt n₁ w' v d := by
  obtain ⟨s, rfl, h⟩ := h
  exact ⟨s, rfl, h.below hn hb⟩

theorem alloc_new (w : World) (o : Obj) : (w.alloc o).heap[w.heap.size]? = some o := (MapKept.heap_alloc w o).1

theorem cell_of_heap {w : World} {b : Nat} {cs : Array Value} {t : TypeId} (h : w.heap[b]? = some (.cells cs t (0, 0))) (j : Nat) : w.cell? ⟨b, j, none⟩ = cs[j]? := by simp [World.cell?, h]
theorem frozen_of_heap {w : World} {b : Nat} {cs : Array Value} {t : TypeId} (h : w.heap[b]? = some (.cells cs t (0, 0))) (j : Nat) : w.frozen? ⟨b, j, none⟩ = false := by simp [World.frozen?, h]

/-- What is owned stays so where only new memory is written. -/
theorem ownsRow_below {w w' : World} {base : Nat} {e : TypeId} {size : Nat} {v : Value} {n : Nat} {xs : List Value} (h : w.ownsRow base e size v n xs) (hb : Below w.heap.size w w') : w'.ownsRow base e size v n xs := by
  obtain ⟨hl, h | ⟨g, cap, cur, rfl, hg, hh, h1, h2, h3, h4⟩⟩ := h
  · exact ⟨hl, .inl h⟩
  · exact ⟨hl, .inr ⟨g, cap, cur, rfl, hg, (hb.block g (Array.getElem?_eq_some_iff.1 hh).1).trans hh, h1, h2, h3, h4⟩⟩

/-- A row that is owned is none of another type's blocks. -/
theorem own_other {w : World} {B : Nat} {e T : TypeId} {size : Nat} {v : Value} {n : Nat} {xs : List Value} {b : Nat} {cs : Array Value} {fr : Nat × Nat} (h : w.ownsRow B e size v n xs) (hb : w.heap[b]? = some (.cells cs T fr)) (hT : T ≠ e) : v.ownBlock ≠ some b := by
  obtain ⟨_, ⟨rfl, _⟩ | ⟨g, cap, cur, rfl, _, hh, _⟩⟩ := h
  · simp [Value.ownBlock]
  · intro he
    simp only [Value.ownBlock, Option.some.injEq] at he
    subst he
    rw [hh] at hb
    simp only [Option.some.injEq, Obj.cells.injEq] at hb
    exact hT hb.2.1.symm

theorem ints_of_row {w : World} {base : Nat} {e : TypeId} {v : Value} {ks : List Int} (h : w.ownsRow base e 1 v ks.length (ks.map (Value.int .i64))) : IntsAt w.heap.size w v ks := by
  have h' := h
  obtain ⟨_, ⟨rfl, h0⟩ | ⟨g, cap, cur, rfl, hg, hh, h1, h2, h3, h4⟩⟩ := h
  · have : ks = [] := List.eq_nil_of_length_eq_zero h0
    subst this
    exact ⟨none, 0, rfl, .inl rfl⟩
  · refine ⟨_, cap, rfl, .inr ⟨g, 0, rfl, (Array.getElem?_eq_some_iff.1 hh).1, fun j hj => ?_⟩⟩
    have := h'.cells (g := g) rfl j (.int .i64 (ks[j]?.getD 0)) (by simp [hj])
    rw [Nat.zero_add]; unfold Addr.add at this; split at this <;> simp_all

end Go.Proofs.YtihoihlkkhndhaaDoor
