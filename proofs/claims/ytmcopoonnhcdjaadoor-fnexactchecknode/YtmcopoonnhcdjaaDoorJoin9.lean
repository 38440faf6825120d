/-
  The Ids of a node and of all below it, plain; what a right document says of them.
  The kinds of a node's kids, plain.
  Terms and rules as plain data, and how lists of them lie in memory; they stay where only new memory is written.
-/
import Derived.Test.YtmcopoonnhcdjaaDoorJoin2
import Derived.Test.YtmcopoonnhcdjaaDoorJoin8
import Derived.Test.YtmcopoonnhcdjaaDoorJoin4
import Derived.Test.YtmcopoonnhcdjaaDoorJoin1
namespace Go.Proofs.YtmcopoonnhcdjaaDoor
open Go.RowKit Go.Shelf

/-- The Ids in order; none where nothing is asked. -/
noncomputable def orderAns (d : PDoc) (id : Int) : List Int := by
  classical exact if askOf d id = 0 then order d.nodes d.nodes.length id else []

theorem orderAns_no {d : PDoc} {id : Int} (h : askOf d id ≠ 0) : orderAns d id = [] := by unfold orderAns; rw [if_neg h]
theorem orderAns_ok {d : PDoc} {id : Int} (h : askOf d id = 0) : orderAns d id = order d.nodes d.nodes.length id := by unfold orderAns; rw [if_pos h]

theorem Good.dep {d : PDoc} (G : Good d) {id : Int} (h : id ∈ idsOf d.nodes) : ∃ q, Dep d.nodes d.root q id := (G.toFlat.whole_iff.1 G.whole).2 id h
theorem Good.lowAt {d : PDoc} (G : Good d) {id : Int} (h : id ∈ idsOf d.nodes) : Low d.nodes d.nodes.length id := by
  obtain ⟨q, hq⟩ := G.dep h
  exact G.toFlat.low_dep hq
theorem Good.orderIn {d : PDoc} (G : Good d) {id : Int} (h : id ∈ idsOf d.nodes) : ∀ k ∈ order d.nodes d.nodes.length id, k ∈ idsOf d.nodes := by
  obtain ⟨q, hq⟩ := G.dep h
  exact order_in G.there G.rootIn hq
theorem Good.orderLen {d : PDoc} (G : Good d) {id : Int} (h : id ∈ idsOf d.nodes) : (order d.nodes d.nodes.length id).length ≤ 40 := by
  obtain ⟨q, hq⟩ := G.dep h
  have := nodup_sub_len (order_nodup G.rise G.once G.rootNo (h := d.nodes.length) hq) (G.orderIn h)
  rw [idsOf_len] at this
  have := G.n40
  omega

theorem ptrs_of_row {w : World} {base : Nat} {e : TypeId} {v : Value} {ks : List Int} {ad : Int → Nat} (h : w.ownsRow base e 1 v ks.length (ks.map fun j => Value.pointer (some ⟨ad j, 0, none⟩))) : PtrsAt w.heap.size w v ks ad := by
  have h' := h
  obtain ⟨_, ⟨rfl, h0⟩ | ⟨g, cap, cur, rfl, hg, hh, h1, h2, h3, h4⟩⟩ := h
  · have : ks = [] := List.eq_nil_of_length_eq_zero h0
    subst this
    exact ⟨none, 0, rfl, .inl rfl⟩
  · refine ⟨_, cap, rfl, .inr ⟨g, rfl, (Array.getElem?_eq_some_iff.1 hh).1, fun j hj => ?_⟩⟩
    have := h'.cells (g := g) rfl j (.pointer (some ⟨ad (ks[j]?.getD 0), 0, none⟩)) (by simp [hj])
    unfold Addr.add at this; split at this <;> simp_all

theorem askOf_zero {d : PDoc} {id : Int} (h : askOf d id = 0) : Good d ∧ id ∈ idsOf d.nodes := by
  by_cases hg : Good d
  · by_cases hi : id ∈ idsOf d.nodes
    · exact ⟨hg, hi⟩
    · rw [askOf_none hg hi] at h; cases h
  · rw [askOf_bad hg] at h; cases h

theorem orderAns_len (d : PDoc) (id : Int) : (orderAns d id).length ≤ 1048576 := by
  by_cases h : askOf d id = 0
  · rw [orderAns_ok h]
    obtain ⟨G, hi⟩ := askOf_zero h
    have := G.orderLen hi
    omega
  · rw [orderAns_no h]; simp

set_option maxHeartbeats 400000 in
theorem inOrder_plain (p : Option Addr) (w : World) :
    Calls Tryd.prog 50 #[.pointer p] w fun e w' => e = .returned (.func (.func 80) #[] #[.pointer (some ⟨w.heap.size, 0, none⟩)]) ∧ w' = w.alloc (.cells #[.pointer p] 75) :=
  (callsIn_wide (n := 3)).1 (inOrder_in 3 p w)

end Go.Proofs.YtmcopoonnhcdjaaDoor

namespace Go.Proofs.YtmcopoonnhcdjaaDoor
open Go.RowKit Go.Shelf

/-- The kinds of some nodes. -/
def kindsFor (l : List PNode) (ks : List Int) : List Int := ks.map fun k => (nodeOf l k).kind

theorem kindsFor_len (l : List PNode) (ks : List Int) : (kindsFor l ks).length = ks.length := by simp [kindsFor]

/-- The kinds of a node's kids; none where nothing is asked. -/
noncomputable def kidsAns (d : PDoc) (id : Int) : List Int := by
  classical exact if askOf d id = 0 then kindsFor d.nodes (kidsAt d.nodes id) else []

theorem kidsAns_no {d : PDoc} {id : Int} (h : askOf d id ≠ 0) : kidsAns d id = [] := by unfold kidsAns; rw [if_neg h]
theorem kidsAns_ok {d : PDoc} {id : Int} (h : askOf d id = 0) : kidsAns d id = kindsFor d.nodes (kidsAt d.nodes id) := by unfold kidsAns; rw [if_pos h]

theorem Good.kidsLen {d : PDoc} (G : Good d) (id : Int) : (kidsAt d.nodes id).length ≤ 12 := by
  unfold kidsAt
  split
  · rename_i x hx
    exact (G.fine x (List.mem_of_find?_eq_some hx)).2.2.2.2.2.2.2
  · simp

theorem kidsAns_len (d : PDoc) (id : Int) : (kidsAns d id).length ≤ 1048576 := by
  by_cases h : askOf d id = 0
  · rw [kidsAns_ok h, kindsFor_len]
    have := (askOf_zero h).1.kidsLen id
    omega
  · rw [kidsAns_no h]; simp

theorem BranchAt.ptrs {n₁ : Nat} {W : World} {ad : Int → Nat} {up : Int → Option Int} {x : PNode} (h : BranchAt n₁ W ad up x) : ∃ v, W.cell? ⟨ad x.id, 5, none⟩ = some v ∧ PtrsAt n₁ W v x.kids ad := by
  obtain ⟨g, cap, h1, h2⟩ := h.c5
  exact ⟨_, h1, g, cap, rfl, h2⟩

end Go.Proofs.YtmcopoonnhcdjaaDoor

namespace Go.Proofs.YtmcopoonnhcdjaaDoor
open Go.RowKit

theorem take_snoc_all {α : Type} {l : List α} {d : α} {k : Nat} (hk : k < l.length) {p : α → Prop} (h : ∀ x ∈ l.take k, p x) (h1 : p (l[k]?.getD d)) : ∀ x ∈ l.take (k + 1), p x := by
  intro x hx
  rw [List.take_succ_eq_append_getElem hk, List.mem_append] at hx
  rcases hx with hx | hx
  · exact h x hx
  · simp at hx; subst hx; simpa [hk] using h1

structure PTerm where
  kinds : List Int
  many : Int

structure PRule where
  name : ByteArray
  leaf : Bool
  terms : List PTerm

def termNil : PTerm := ⟨[], 0⟩
def ruleNil : PRule := ⟨ByteArray.empty, false, []⟩

/-- Two cells are a term. -/
structure TermAt (n₀ : Nat) (w : World) (b o : Nat) (x : PTerm) : Prop where
  c0 : ∃ v, w.cell? ⟨b, o, none⟩ = some v ∧ IntsAt n₀ w v x.kinds
  c1 : w.cell? ⟨b, o + 1, none⟩ = some (.int .i64 x.many)

/-- The value is a list of terms, in blocks below n₀. -/
def TermsAt (n₀ : Nat) (w : World) (v : Value) (l : List PTerm) : Prop :=
  ∃ (a : Option Addr) (cap : Nat), v = .slice a l.length cap ∧ (l = [] ∨ ∃ b off, a = some ⟨b, off, none⟩ ∧ b < n₀ ∧ ∀ j, j < l.length → TermAt n₀ w b (off + j * 2) (l[j]?.getD termNil))

theorem TermAt.below {n₀ n₁ : Nat} {w w' : World} {b o : Nat} {x : PTerm} (h : TermAt n₀ w b o x) (hlt : b < n₀) (hn : n₀ ≤ n₁) (hb : Below n₀ w w') : TermAt n₁ w' b o x where
  c0 := by
    obtain ⟨v, hv, hi⟩ := h.c0
    exact ⟨v, (hb.cell (p := ⟨b, o, none⟩) hlt).trans hv, hi.below hn hb⟩
  c1 := (hb.cell (p := ⟨b, o + 1, none⟩) hlt).trans h.c1

theorem TermsAt.below {n₀ n₁ : Nat} {w w' : World} {v : Value} {l : List PTerm} (h : TermsAt n₀ w v l) (hn : n₀ ≤ n₁) (hb : Below n₀ w w') : TermsAt n₁ w' v l := by
  obtain ⟨a, cap, rfl, h⟩ := h
  refine ⟨a, cap, rfl, h.imp id ?_⟩
  rintro ⟨b, off, rfl, hlt, hc⟩
  exact ⟨b, off, rfl, by omega, fun j hj => (hc j hj).below hlt hn hb⟩

/-- The value is a term. -/
def TermVal (n₀ : Nat) (w : World) (v : Value) (x : PTerm) : Prop :=
  ∃ kv, v = .agg #[kv, .int .i64 x.many] ∧ IntsAt n₀ w kv x.kinds

theorem TermVal.below {n₀ n₁ : Nat} {w w' : World} {v : Value} {x : PTerm} (h : TermVal n₀ w v x) (hn : n₀ ≤ n₁) (hb : Below n₀ w w') : TermVal n₁ w' v x := by
  obtain ⟨kv, rfl, h⟩ := h
  exact ⟨kv, rfl, h.below hn hb⟩

/-- Three cells are a rule. -/
structure RuleAt (n₀ : Nat) (w : World) (b o : Nat) (x : PRule) : Prop where
  c0 : w.cell? ⟨b, o, none⟩ = some (.string x.name)
  c1 : w.cell? ⟨b, o + 1, none⟩ = some (.bool x.leaf)
  c2 : ∃ v, w.cell? ⟨b, o + 2, none⟩ = some v ∧ TermsAt n₀ w v x.terms

/-- The value is a list of rules, in blocks below n₀. -/
def RulesAt (n₀ : Nat) (w : World) (v : Value) (l : List PRule) : Prop :=
  ∃ (a : Option Addr) (cap : Nat), v = .slice a l.length cap ∧ (l = [] ∨ ∃ b off, a = some ⟨b, off, none⟩ ∧ b < n₀ ∧ ∀ j, j < l.length → RuleAt n₀ w b (off + j * 3) (l[j]?.getD ruleNil))

theorem RuleAt.below {n₀ n₁ : Nat} {w w' : World} {b o : Nat} {x : PRule} (h : RuleAt n₀ w b o x) (hlt : b < n₀) (hn : n₀ ≤ n₁) (hb : Below n₀ w w') : RuleAt n₁ w' b o x where
  c0 := (hb.cell (p := ⟨b, o, none⟩) hlt).trans h.c0
  c1 := (hb.cell (p := ⟨b, o + 1, none⟩) hlt).trans h.c1
  c2 := by
    obtain ⟨v, hv, hi⟩ := h.c2
    exact ⟨v, (hb.cell (p := ⟨b, o + 2, none⟩) hlt).trans hv, hi.below hn hb⟩

theorem RulesAt.below {n₀ n₁ : Nat} {w w' : World} {v : Value} {l : List PRule} (h : RulesAt n₀ w v l) (hn : n₀ ≤ n₁) (hb : Below n₀ w w') : RulesAt n₁ w' v l := by
  obtain ⟨a, cap, rfl, h⟩ := h
  refine ⟨a, cap, rfl, h.imp id ?_⟩
  rintro ⟨b, off, rfl, hlt, hc⟩
  exact ⟨b, off, rfl, by omega, fun j hj => (hc j hj).below hlt hn hb⟩

/-- The value is a rule. -/
def RuleVal (n₀ : Nat) (w : World) (v : Value) (x : PRule) : Prop :=
  ∃ kv, v = .agg #[.string x.name, .bool x.leaf, kv] ∧ TermsAt n₀ w kv x.terms

theorem RuleVal.below {n₀ n₁ : Nat} {w w' : World} {v : Value} {x : PRule} (h : RuleVal n₀ w v x) (hn : n₀ ≤ n₁) (hb : Below n₀ w w') : RuleVal n₁ w' v x := by
  obtain ⟨kv, rfl, h⟩ := h
  exact ⟨kv, rfl, h.below hn hb⟩

theorem TermsAt.form {n₀ : Nat} {w : World} {v : Value} {l : List PTerm} (h : TermsAt n₀ w v l) : ∃ a cap, v = .slice a l.length cap ∧ TermsAt n₀ w (.slice a l.length cap) l := by
  have h' := h
  obtain ⟨a, cap, rfl, -⟩ := h
  exact ⟨a, cap, rfl, h'⟩
theorem RulesAt.form {n₀ : Nat} {w : World} {v : Value} {l : List PRule} (h : RulesAt n₀ w v l) : ∃ a cap, v = .slice a l.length cap ∧ RulesAt n₀ w (.slice a l.length cap) l := by
  have h' := h
  obtain ⟨a, cap, rfl, -⟩ := h
  exact ⟨a, cap, rfl, h'⟩
theorem IntsAt.form {n₀ : Nat} {w : World} {v : Value} {l : List Int} (h : IntsAt n₀ w v l) : ∃ a cap, v = .slice a l.length cap ∧ IntsAt n₀ w (.slice a l.length cap) l := by
  have h' := h
  obtain ⟨a, cap, rfl, -⟩ := h
  exact ⟨a, cap, rfl, h'⟩

/-- A slice of n elements with room for them. -/
def Roomy (v : Value) (n : Nat) : Prop := ∃ a c, v = .slice a n c ∧ n ≤ c

/-- Kinds rise, within 1 to rules. -/
def KindsUp (rules : Int) (ks : List Int) (n : Nat) : Prop := ∀ j, j < n → 1 ≤ ks[j]?.getD 0 ∧ ks[j]?.getD 0 ≤ rules ∧ (0 < j → ks[j - 1]?.getD 0 < ks[j]?.getD 0)

theorem KindsUp.ge {rules : Int} {ks : List Int} {n : Nat} (h : KindsUp rules ks n) : ∀ j, j < n → (j : Int) + 1 ≤ ks[j]?.getD 0 := by
  intro j
  induction j with
  | zero => intro hj; have := (h 0 hj).1; omega
  | succ j ih =>
    intro hj
    have h1 := ih (by omega)
    have h2 := (h (j + 1) hj).2.2 (by omega)
    simp only [Nat.add_sub_cancel] at h2
    omega

theorem KindsUp.len {rules : Int} {ks : List Int} (h : KindsUp rules ks ks.length) (h1 : ks ≠ []) : (ks.length : Int) ≤ rules := by
  have hp : 0 < ks.length := List.length_pos_iff.2 h1
  have := h.ge (ks.length - 1) (by omega)
  have := (h (ks.length - 1) (by omega)).2.1
  omega

theorem KindsUp.next {rules : Int} {ks : List Int} {n : Nat} (h : KindsUp rules ks n) (h1 : 1 ≤ ks[n]?.getD 0 ∧ ks[n]?.getD 0 ≤ rules ∧ (0 < n → ks[n - 1]?.getD 0 < ks[n]?.getD 0)) : KindsUp rules ks (n + 1) := by
  intro j hj
  by_cases e : j = n
  · rw [e]; exact h1
  · exact h j (by omega)

structure TermP (rules : Int) (t : PTerm) : Prop where
  some : t.kinds ≠ []
  up : KindsUp rules t.kinds t.kinds.length
  many0 : 0 ≤ t.many
  many3 : t.many ≤ 3

end Go.Proofs.YtmcopoonnhcdjaaDoor
