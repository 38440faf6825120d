/-
  What the calls on one node ask first: the document, then the node; the codes, plainly.
  Holds of locks: how one lies as a value and a list of them in memory, to be read and as one's own.
  Lists of holds on a document, and when they are right; the codes of what the calls on locks ask first.
  Right lists of holds rise: each session and node comes once; the one lock that a session has on a node.
  The sessions that have locks, each once, plainly.
-/
import Derived.Test.YtfjhpfgffbghdaaGreatDoorImplFindJ
import Derived.Test.YtfjhpfgffbghdaaGreatDoorJoinA
import Derived.Lib.SlicesCompact
namespace Go.Proofs.YtfjhpfgffbghdaaGreatDoor
open Go.RowKit Go.Shelf

theorem box_doc' {w wc : World} {a0 a1 a2 : Value} {t : TypeId} (hb : Below (w.heap.size + 1) (w.alloc (.cells #[a0, a1, a2] t)) wc) :
    wc.cell? ⟨w.heap.size, 0, none⟩ = some a0 ∧ wc.cell? ⟨w.heap.size, 1, none⟩ = some a1 ∧ wc.cell? ⟨w.heap.size, 2, none⟩ = some a2 := by
  obtain ⟨hcx, -⟩ := bcell (W := w.alloc (.cells #[a0, a1, a2] t)) (by simpa using hb)
  refine ⟨?_, ?_, ?_⟩
  · rw [hcx _ _ (by simp)]; exact cell_of_heap (alloc_new _ _) 0
  · rw [hcx _ _ (by simp)]; exact cell_of_heap (alloc_new _ _) 1
  · rw [hcx _ _ (by simp)]; exact cell_of_heap (alloc_new _ _) 2

theorem Good.order_iff {d : PDoc} (G : Good d) (id : Int) : id ∈ order d.nodes d.nodes.length d.root ↔ id ∈ idsOf d.nodes := by
  have F := G.toFlat
  have hd0 : Dep d.nodes d.root 0 d.root := rfl
  refine ⟨fun h => order_in F.there F.rootIn hd0 id h, fun h => ?_⟩
  obtain ⟨q, hq⟩ := (F.whole_iff.1 G.whole).2 id h
  have hq' := dep_iff.1 hq
  exact mem_order.2 ⟨q, low_desc F.low hq', hq'⟩

/-- The code of what is asked first. -/
noncomputable def askOf (d : PDoc) (id : Int) : Int := by
  classical exact if Good d then if id ∈ idsOf d.nodes then 0 else 5 else 1

theorem askOf_bad {d : PDoc} {id : Int} (h : ¬ Good d) : askOf d id = 1 := by unfold askOf; rw [if_neg h]
theorem askOf_none {d : PDoc} {id : Int} (h : Good d) (hi : id ∉ idsOf d.nodes) : askOf d id = 5 := by unfold askOf; rw [if_pos h, if_neg hi]
theorem askOf_ok {d : PDoc} {id : Int} (h : Good d) (hi : id ∈ idsOf d.nodes) : askOf d id = 0 := by unfold askOf; rw [if_pos h, if_pos hi]

theorem askOf_zero {d : PDoc} {id : Int} (h : askOf d id = 0) : Good d ∧ id ∈ idsOf d.nodes := by
  by_cases hg : Good d
  · by_cases hi : id ∈ idsOf d.nodes
    · exact ⟨hg, hi⟩
    · rw [askOf_none hg hi] at h; cases h
  · rw [askOf_bad hg] at h; cases h

theorem Grown.tree {n₀ : Nat} {W : World} {d : PDoc} {tb : Nat} {ad : Int → Nat} {up : Int → Option Int} {kv : Int → Value} (h : Grown n₀ W d tb ad up kv) (G : Good d) : TreeAt W.heap.size W d.nodes ad up := h.hung.tree G.rise

theorem Grown.below {n₀ : Nat} {W W' : World} {d : PDoc} {tb : Nat} {ad : Int → Nat} {up : Int → Option Int} {kv : Int → Value} (h : Grown n₀ W d tb ad up kv) (hb : Below W.heap.size W W') : Grown n₀ W' d tb ad up kv :=
  ⟨h.hung.below hb, h.upNone, h.upKid, (hb.block _ (Array.getElem?_eq_some_iff.1 h.top).1).trans h.top⟩
end Go.Proofs.YtfjhpfgffbghdaaGreatDoor

namespace Go.Proofs.YtfjhpfgffbghdaaGreatDoor
open Go.RowKit

structure PHold where
  session : Int
  node : Int
  mode : Int

def holdNil : PHold := ⟨0, 0, 0⟩

@[reducible] def holdVal (x : PHold) : Value := .agg #[.int .i64 x.session, .int .i64 x.node, .int .i64 x.mode]

/-- Three cells are a hold. -/
structure HoldAt (w : World) (b o : Nat) (x : PHold) : Prop where
  c0 : w.cell? ⟨b, o, none⟩ = some (.int .i64 x.session)
  c1 : w.cell? ⟨b, o + 1, none⟩ = some (.int .i64 x.node)
  c2 : w.cell? ⟨b, o + 2, none⟩ = some (.int .i64 x.mode)

theorem HoldAt.below {n₀ : Nat} {w w' : World} {b o : Nat} {x : PHold} (h : HoldAt w b o x) (hlt : b < n₀) (hb : Below n₀ w w') : HoldAt w' b o x where
  c0 := (hb.cell (p := ⟨b, o, none⟩) hlt).trans h.c0
  c1 := (hb.cell (p := ⟨b, o + 1, none⟩) hlt).trans h.c1
  c2 := (hb.cell (p := ⟨b, o + 2, none⟩) hlt).trans h.c2

/-- The value is a list of holds, in a block below n₀. -/
def HoldsAt (n₀ : Nat) (w : World) (v : Value) (l : List PHold) : Prop :=
  ∃ (a : Option Addr) (cap : Nat), v = .slice a l.length cap ∧ (l = [] ∨ ∃ b off, a = some ⟨b, off, none⟩ ∧ b < n₀ ∧ ∀ j, j < l.length → HoldAt w b (off + j * 3) (l[j]?.getD holdNil))

theorem HoldsAt.below {n₀ n₁ : Nat} {w w' : World} {v : Value} {l : List PHold} (h : HoldsAt n₀ w v l) (hn : n₀ ≤ n₁) (hb : Below n₀ w w') : HoldsAt n₁ w' v l := by
  obtain ⟨a, cap, rfl, h⟩ := h
  refine ⟨a, cap, rfl, h.imp id ?_⟩
  rintro ⟨b, off, rfl, hlt, hc⟩
  exact ⟨b, off, rfl, by omega, fun j hj => (hc j hj).below hlt hb⟩

theorem HoldsAt.wide {n₀ n₁ : Nat} {w : World} {v : Value} {l : List PHold} (h : HoldsAt n₀ w v l) (hn : n₀ ≤ n₁) : HoldsAt n₁ w v l := h.below hn (Below.refl _ _)

theorem HoldsAt.form {n₀ : Nat} {w : World} {v : Value} {l : List PHold} (h : HoldsAt n₀ w v l) : ∃ a cap, v = .slice a l.length cap := by
  obtain ⟨a, cap, rfl, _⟩ := h
  exact ⟨a, cap, rfl⟩

/-- A list of holds in a block of its own. -/
def HoldsOwn (lo hi : Nat) (w : World) (v : Value) (l : List PHold) : Prop :=
  ∃ b cap cs, v = .slice (some ⟨b, 0, none⟩) l.length cap ∧ l.length ≤ cap ∧ lo ≤ b ∧ b < hi ∧ w.heap[b]? = some (.cells cs 86 (0, 0)) ∧ ∀ j, j < l.length → cs[j * 3]? = some (.int .i64 (l[j]?.getD holdNil).session) ∧ cs[j * 3 + 1]? = some (.int .i64 (l[j]?.getD holdNil).node) ∧ cs[j * 3 + 2]? = some (.int .i64 (l[j]?.getD holdNil).mode)

theorem HoldsOwn.at {lo hi : Nat} {w : World} {v : Value} {l : List PHold} (h : HoldsOwn lo hi w v l) : HoldsAt hi w v l := by
  obtain ⟨b, cap, cs, rfl, h0, h1, h2, h3, h4⟩ := h
  refine ⟨_, cap, rfl, .inr ⟨b, 0, rfl, h2, fun j hj => ?_⟩⟩
  obtain ⟨g0, g1, g2⟩ := h4 j hj
  rw [Nat.zero_add]
  exact ⟨by rw [cell_of_heap h3, g0], by rw [cell_of_heap h3, g1], by rw [cell_of_heap h3, g2]⟩

theorem HoldsOwn.heap {lo hi lo' hi' : Nat} {w w' : World} {v : Value} {l : List PHold} (h : HoldsOwn lo hi w v l) (hl : lo' ≤ lo) (hh : hi ≤ hi') (hb : ∀ b, lo ≤ b → b < hi → w'.heap[b]? = w.heap[b]?) : HoldsOwn lo' hi' w' v l := by
  obtain ⟨b, cap, cs, rfl, h0, h1, h2, h3, h4⟩ := h
  exact ⟨b, cap, cs, rfl, h0, by omega, by omega, (hb b h1 h2).trans h3, h4⟩

theorem HoldsOwn.below {lo hi : Nat} {w w' : World} {v : Value} {l : List PHold} (h : HoldsOwn lo hi w v l) (hb : Below hi w w') : HoldsOwn lo hi w' v l := h.heap (Nat.le_refl _) (Nat.le_refl _) fun b _ h2 => hb.block b h2

theorem HoldsOwn.form {lo hi : Nat} {w : World} {v : Value} {l : List PHold} (h : HoldsOwn lo hi w v l) : ∃ a cap, v = .slice a l.length cap := by
  obtain ⟨b, cap, _, rfl, _⟩ := h
  exact ⟨_, cap, rfl⟩
end Go.Proofs.YtfjhpfgffbghdaaGreatDoor

namespace Go.Proofs.YtfjhpfgffbghdaaGreatDoor

def lessB (a b : PHold) : Bool := decide (a.session < b.session) || (decide (a.session = b.session) && decide (a.node < b.node))
theorem lessB_iff {a b : PHold} : lessB a b = true ↔ a.session < b.session ∨ a.session = b.session ∧ a.node < b.node := by simp [lessB]

def HoldP (d : PDoc) (h : PHold) : Prop := (1 ≤ h.session ∧ h.session ≤ 999) ∧ h.node ∈ idsOf d.nodes ∧ (1 ≤ h.mode ∧ h.mode ≤ 5)

def OkAt (d : PDoc) (L : List PHold) (i : Nat) : Prop := HoldP d (L[i]?.getD holdNil) ∧ (0 < i → lessB (L[i - 1]?.getD holdNil) (L[i]?.getD holdNil) = true)

structure HoldsP (d : PDoc) (L : List PHold) : Prop where
  len : L.length ≤ 30
  ok : ∀ i, i < L.length → OkAt d L i

structure LocksP (d : PDoc) (L : List PHold) : Prop where
  good : Good d
  holds : HoldsP d L

/-- The code of what all calls on locks ask first. -/
noncomputable def heldAsk (d : PDoc) (L : List PHold) : Int := by
  classical exact if 4096 < L.length then 2 else if LocksP d L then 0 else 1

theorem heldAsk_long {d : PDoc} {L : List PHold} (h : 4096 < L.length) : heldAsk d L = 2 := by unfold heldAsk; rw [if_pos h]
theorem heldAsk_bad {d : PDoc} {L : List PHold} (h : ¬ 4096 < L.length) (hn : ¬ LocksP d L) : heldAsk d L = 1 := by unfold heldAsk; rw [if_neg h, if_neg hn]
theorem heldAsk_ok {d : PDoc} {L : List PHold} (h : LocksP d L) : heldAsk d L = 0 := by
  unfold heldAsk; rw [if_neg (by have := h.holds.len; omega), if_pos h]
theorem heldAsk_zero {d : PDoc} {L : List PHold} (h : heldAsk d L = 0) : LocksP d L := by
  unfold heldAsk at h
  split at h
  · cases h
  · split at h
    · assumption
    · cases h

/-- The code of what the calls on a session and a node ask first. -/
noncomputable def lockAsk (d : PDoc) (L : List PHold) (s i : Int) : Int := by
  classical exact if heldAsk d L = 0 then if 1 ≤ s ∧ s ≤ 999 then if i ∈ idsOf d.nodes then 0 else 5 else 4 else heldAsk d L

theorem lockAsk_bad {d : PDoc} {L : List PHold} {s i : Int} (h : heldAsk d L ≠ 0) : lockAsk d L s i = heldAsk d L := by unfold lockAsk; rw [if_neg h]
theorem lockAsk_range {d : PDoc} {L : List PHold} {s i : Int} (h : heldAsk d L = 0) (hs : ¬ (1 ≤ s ∧ s ≤ 999)) : lockAsk d L s i = 4 := by unfold lockAsk; rw [if_pos h, if_neg hs]
theorem lockAsk_none {d : PDoc} {L : List PHold} {s i : Int} (h : heldAsk d L = 0) (hs : 1 ≤ s ∧ s ≤ 999) (hi : i ∉ idsOf d.nodes) : lockAsk d L s i = 5 := by unfold lockAsk; rw [if_pos h, if_pos hs, if_neg hi]
theorem lockAsk_ok {d : PDoc} {L : List PHold} {s i : Int} (h : heldAsk d L = 0) (hs : 1 ≤ s ∧ s ≤ 999) (hi : i ∈ idsOf d.nodes) : lockAsk d L s i = 0 := by unfold lockAsk; rw [if_pos h, if_pos hs, if_pos hi]
theorem lockAsk_zero {d : PDoc} {L : List PHold} {s i : Int} (h : lockAsk d L s i = 0) : LocksP d L ∧ (1 ≤ s ∧ s ≤ 999) ∧ i ∈ idsOf d.nodes := by
  unfold lockAsk at h
  split at h
  · rename_i h0
    split at h
    · rename_i hs
      split at h
      · rename_i hi
        exact ⟨heldAsk_zero h0, hs, hi⟩
      · cases h
    · cases h
  · rename_i h0; exact absurd h h0

/-- The code of what the calls on a hold ask first. -/
noncomputable def holdAsk (d : PDoc) (L : List PHold) (x : PHold) : Int := if lockAsk d L x.session x.node = 0 then if 1 ≤ x.mode ∧ x.mode ≤ 5 then 0 else 19 else lockAsk d L x.session x.node

theorem holdAsk_bad {d : PDoc} {L : List PHold} {x : PHold} (h : lockAsk d L x.session x.node ≠ 0) : holdAsk d L x = lockAsk d L x.session x.node := by unfold holdAsk; rw [if_neg h]
theorem holdAsk_mode {d : PDoc} {L : List PHold} {x : PHold} (h : lockAsk d L x.session x.node = 0) (hm : ¬ (1 ≤ x.mode ∧ x.mode ≤ 5)) : holdAsk d L x = 19 := by unfold holdAsk; rw [if_pos h, if_neg hm]
theorem holdAsk_ok {d : PDoc} {L : List PHold} {x : PHold} (h : lockAsk d L x.session x.node = 0) (hm : 1 ≤ x.mode ∧ x.mode ≤ 5) : holdAsk d L x = 0 := by unfold holdAsk; rw [if_pos h, if_pos hm]
theorem holdAsk_zero {d : PDoc} {L : List PHold} {x : PHold} (h : holdAsk d L x = 0) : LocksP d L ∧ HoldP d x := by
  unfold holdAsk at h
  split at h
  · rename_i h0
    obtain ⟨a, b, c⟩ := lockAsk_zero h0
    split at h
    · rename_i hm; exact ⟨a, b, c, hm⟩
    · cases h
  · rename_i h0; exact absurd h h0
end Go.Proofs.YtfjhpfgffbghdaaGreatDoor

namespace Go.Proofs.YtfjhpfgffbghdaaGreatDoor

theorem lessB_trans {a b c : PHold} (h : lessB a b = true) (k : lessB b c = true) : lessB a c = true := by
  rw [lessB_iff] at *; omega

theorem HoldsP.less {d : PDoc} {L : List PHold} (h : HoldsP d L) : ∀ {i j : Nat}, i < j → j < L.length → lessB (L[i]?.getD holdNil) (L[j]?.getD holdNil) = true
  | i, 0, hij, _ => absurd hij (by omega)
  | i, j + 1, hij, hj => by
    have h1 := (h.ok (j + 1) hj).2 (by omega)
    rw [Nat.add_sub_cancel] at h1
    by_cases e : i = j
    · subst e; exact h1
    · exact lessB_trans (h.less (i := i) (j := j) (by omega) (by omega)) h1

theorem HoldsP.once {d : PDoc} {L : List PHold} (h : HoldsP d L) {x y : PHold} (hx : x ∈ L) (hy : y ∈ L) (hs : x.session = y.session) (hn : x.node = y.node) : x = y := by
  obtain ⟨i, hi, rfl⟩ := List.getElem_of_mem hx
  obtain ⟨j, hj, rfl⟩ := List.getElem_of_mem hy
  have key : ∀ {a b : Nat} (ha : a < L.length) (hb : b < L.length), a < b → L[a].session = L[b].session → L[a].node = L[b].node → False := fun ha hb hab e1 e2 => by
    have := h.less hab hb
    rw [List.getElem?_eq_getElem ha, List.getElem?_eq_getElem hb, Option.getD_some, Option.getD_some, lessB_iff] at this
    omega
  rcases Nat.lt_trichotomy i j with hlt | rfl | hgt
  · exact (key hi hj hlt hs hn).elim
  · rfl
  · exact (key hj hi hgt hs.symm hn.symm).elim

def isAt (s i : Int) (x : PHold) : Bool := x.session == s && x.node == i
theorem isAt_iff {s i : Int} {x : PHold} : isAt s i x = true ↔ x.session = s ∧ x.node = i := by simp [isAt]

/-- The mode of a session's own lock on a node, 0 of none. -/
def ownI (L : List PHold) (s i : Int) : Int := match L.find? (isAt s i) with | some x => x.mode | none => 0

theorem ownI_none {L : List PHold} {s i : Int} (h : ∀ x ∈ L, isAt s i x = false) : ownI L s i = 0 := by
  unfold ownI
  rw [List.find?_eq_none.2 (fun x hx => by rw [h x hx]; simp)]
theorem ownI_some {L : List PHold} {s i : Int} {k : Nat} (hk : k < L.length) (h : ∀ j, j < k → isAt s i (L[j]?.getD holdNil) = false) (h1 : isAt s i (L[k]?.getD holdNil) = true) : ownI L s i = (L[k]?.getD holdNil).mode := by
  unfold ownI
  rw [List.getElem?_eq_getElem hk, Option.getD_some] at *
  have : L.find? (isAt s i) = some L[k] := by
    rw [List.find?_eq_some_iff_getElem]
    refine ⟨h1, k, hk, rfl, fun j hj => ?_⟩
    have := h j hj
    rw [List.getElem?_eq_getElem (by omega), Option.getD_some] at this
    rw [this]; rfl
  rw [this]
theorem ownI_cases (L : List PHold) (s i : Int) : ownI L s i = 0 ∨ ∃ x ∈ L, x.session = s ∧ x.node = i ∧ ownI L s i = x.mode := by
  unfold ownI
  cases h : L.find? (isAt s i) with
  | none => exact .inl rfl
  | some x =>
    obtain ⟨a, b⟩ := isAt_iff.1 (List.find?_some h)
    exact .inr ⟨x, List.mem_of_find?_eq_some h, a, b, rfl⟩
theorem HoldsP.own {d : PDoc} {L : List PHold} (h : HoldsP d L) {x : PHold} (hx : x ∈ L) : ownI L x.session x.node = x.mode := by
  unfold ownI
  cases hf : L.find? (isAt x.session x.node) with
  | none => have := List.find?_eq_none.1 hf x hx; simp [isAt] at this
  | some y =>
    obtain ⟨a, b⟩ := isAt_iff.1 (List.find?_some hf)
    have : y = x := h.once (List.mem_of_find?_eq_some hf) hx a b
    rw [this]
end Go.Proofs.YtfjhpfgffbghdaaGreatDoor

namespace Go.Proofs.YtfjhpfgffbghdaaGreatDoor

def addS (out : List Int) (s : Int) : List Int := if out.getLast? = some s then out else out ++ [s]
def sessL (zs : List Int) : List Int := zs.foldl addS []
def sessP (L : List PHold) : List Int := sessL (L.map PHold.session)

theorem addS_last (out : List Int) (s : Int) : (addS out s).getLast? = some s := by
  unfold addS; split
  · assumption
  · simp
theorem sessL_snoc (zs : List Int) (z : Int) : sessL (zs ++ [z]) = addS (sessL zs) z := by simp [sessL]
theorem sessL_last : ∀ (zs : List Int), (sessL zs).getLast? = zs.getLast? := by
  intro zs
  rcases List.eq_nil_or_concat zs with rfl | ⟨l, z, rfl⟩
  · rfl
  · rw [List.concat_eq_append, sessL_snoc, addS_last]; simp

theorem sessL_take (zs : List Int) : ∀ m, m ≤ zs.length → Lib.compactUpTo zs.toArray m = sessL (zs.take m)
  | 0, _ => by simp [Lib.compactUpTo, sessL]
  | m + 1, h => by
    rw [Lib.compactUpTo_succ, sessL_take zs m (by omega), List.take_succ_eq_append_getElem (by omega), sessL_snoc]
    have hm : (zs.toArray)[m]! = zs[m] := by simp [getElem!_pos, show m < zs.length by omega]
    unfold addS
    rw [sessL_last, hm]
    by_cases h0 : m = 0
    · subst h0; simp [Lib.keeps]
    · have hl : (zs.take m).getLast? = some (zs[m - 1]'(by omega)) := by
        rw [List.getLast?_eq_getElem?, List.length_take, Nat.min_eq_left (by omega), List.getElem?_take, if_pos (by omega), List.getElem?_eq_getElem (by omega)]
      have hm1 : (zs.toArray)[m - 1]! = zs[m - 1]'(by omega) := by simp [getElem!_pos, show m - 1 < zs.length by omega]
      rw [hl]
      by_cases he : zs[m - 1]'(by omega) = zs[m]
      · rw [Lib.keeps_neg (by omega) (by rw [hm, hm1, he])]; simp [he]
      · rw [Lib.keeps_pos (by rw [hm, hm1]; exact fun e => he e.symm)]; simp [he]

theorem compact_sess (zs : List Int) : Lib.compact zs = sessL zs := by
  unfold Lib.compact; rw [sessL_take zs _ (Nat.le_refl _), List.take_length]

theorem addS_len (out : List Int) (s : Int) : (addS out s).length ≤ out.length + 1 := by
  unfold addS; split <;> simp
theorem sessL_len : ∀ (zs : List Int), (sessL zs).length ≤ zs.length := by
  intro zs
  have : ∀ m, m ≤ zs.length → (sessL (zs.take m)).length ≤ m := by
    intro m
    induction m with
    | zero => intro _; simp [sessL]
    | succ m ih =>
      intro h
      rw [List.take_succ_eq_append_getElem (by omega), sessL_snoc]
      have h1 := addS_len (sessL (zs.take m)) (zs[m]'(by omega))
      have h2 := ih (by omega)
      omega
  have h := this zs.length (Nat.le_refl _)
  rwa [List.take_length] at h

theorem sessP_take {L : List PHold} {k : Nat} (h : k < L.length) : sessP (L.take (k + 1)) = addS (sessP (L.take k)) (L[k]?.getD holdNil).session := by
  unfold sessP
  rw [List.take_succ_eq_append_getElem h, List.map_append, List.map_singleton, sessL_snoc, List.getElem?_eq_getElem h, Option.getD_some]
theorem sessP_len (L : List PHold) : (sessP L).length ≤ L.length := by
  have := sessL_len (L.map PHold.session)
  simpa [sessP] using this
end Go.Proofs.YtfjhpfgffbghdaaGreatDoor
