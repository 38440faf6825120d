/-
  Terms and rules as plain data, and how lists of them lie in memory; they stay where only new memory is written.
-/
import Derived.Test.YtpkblnponeonkaaDoorTreeRep
namespace Go.Proofs.YtpkblnponeonkaaDoor
open Go.RowKit

theorem take_snoc_all {α : Type} {l : List α} {d : α} {k : Nat} (hk : k < l.length) {p : α → Prop} (h : ∀ x ∈ l.take k, p x) (h1 : p (l[k]?.getD d)) : ∀ x ∈ l.take (k + 1), p x := by
  intro x hx
  rw [List.take_succ_eq_append_getElem hk, List.mem_append] at hx
  rcases hx with hx | hx
  · exact h x hx
  · simp at hx; subst hx; simpa [hk] using h1

structure PTerm where
  kinds : List Int
  many : Int

structure PRule where
  name : ByteArray
  leaf : Bool
  terms : List PTerm

def termNil : PTerm := ⟨[], 0⟩
def ruleNil : PRule := ⟨ByteArray.empty, false, []⟩

/-- Two cells are a term. -/
structure TermAt (n₀ : Nat) (w : World) (b o : Nat) (x : PTerm) : Prop where
  c0 : ∃ v, w.cell? ⟨b, o, none⟩ = some v ∧ IntsAt n₀ w v x.kinds
  c1 : w.cell? ⟨b, o + 1, none⟩ = some (.int .i64 x.many)

/-- The value is a list of terms, in blocks below n₀. -/
def TermsAt (n₀ : Nat) (w : World) (v : Value) (l : List PTerm) : Prop :=
  ∃ (a : Option Addr) (cap : Nat), v = .slice a l.length cap ∧ (l = [] ∨ ∃ b off, a = some ⟨b, off, none⟩ ∧ b < n₀ ∧ ∀ j, j < l.length → TermAt n₀ w b (off + j * 2) (l[j]?.getD termNil))

theorem TermAt.below {n₀ n₁ : Nat} {w w' : World} {b o : Nat} {x : PTerm} (h : TermAt n₀ w b o x) (hlt : b < n₀) (hn : n₀ ≤ n₁) (hb : Below n₀ w w') : TermAt n₁ w' b o x where
  c0 := by
    obtain ⟨v, hv, hi⟩ := h.c0
    exact ⟨v, (hb.cell (p := ⟨b, o, none⟩) hlt).trans hv, hi.below hn hb⟩
  c1 := (hb.cell (p := ⟨b, o + 1, none⟩) hlt).trans h.c1

theorem TermsAt.below {n₀ n₁ : Nat} {w w' : World} {v : Value} {l : List PTerm} (h : TermsAt n₀ w v l) (hn : n₀ ≤ n₁) (hb : Below n₀ w w') : TermsAt n₁ w' v l := by
  obtain ⟨a, cap, rfl, h⟩ := h
  refine ⟨a, cap, rfl, h.imp id ?_⟩
  rintro ⟨b, off, rfl, hlt, hc⟩
  exact ⟨b, off, rfl, by omega, fun j hj => (hc j hj).below hlt hn hb⟩

/-- The value is a term. -/
def TermVal (n₀ : Nat) (w : World) (v : Value) (x : PTerm) : Prop :=
  ∃ kv, v = .agg #[kv, .int .i64 x.many] ∧ IntsAt n₀ w kv x.kinds

theorem TermVal.below {n₀ n₁ : Nat} {w w' : World} {v : Value} {x : PTerm} (h : TermVal n₀ w v x) (hn : n₀ ≤ n₁) (hb : Below n₀ w w') : TermVal n₁ w' v x := by
  obtain ⟨kv, rfl, h⟩ := h
  exact ⟨kv, rfl, h.below hn hb⟩

/-- Three cells are a rule. -/
structure RuleAt (n₀ : Nat) (w : World) (b o : Nat) (x : PRule) : Prop where
  c0 : w.cell? ⟨b, o, none⟩ = some (.string x.name)
  c1 : w.cell? ⟨b, o + 1, none⟩ = some (.bool x.leaf)
  c2 : ∃ v, w.cell? ⟨b, o + 2, none⟩ = some v ∧ TermsAt n₀ w v x.terms

/-- The value is a list of rules, in blocks below n₀. -/
def RulesAt (n₀ : Nat) (w : World) (v : Value) (l : List PRule) : Prop :=
  ∃ (a : Option Addr) (cap : Nat), v = .slice a l.length cap ∧ (l = [] ∨ ∃ b off, a = some ⟨b, off, none⟩ ∧ b < n₀ ∧ ∀ j, j < l.length → RuleAt n₀ w b (off + j * 3) (l[j]?.getD ruleNil))

theorem RuleAt.below {n₀ n₁ : Nat} {w w' : World} {b o : Nat} {x : PRule} (h : RuleAt n₀ w b o x) (hlt : b < n₀) (hn : n₀ ≤ n₁) (hb : Below n₀ w w') : RuleAt n₁ w' b o x where
  c0 := (hb.cell (p := ⟨b, o, none⟩) hlt).trans h.c0
  c1 := (hb.cell (p := ⟨b, o + 1, none⟩) hlt).trans h.c1
  c2 := by
    obtain ⟨v, hv, hi⟩ := h.c2
    exact ⟨v, (hb.cell (p := ⟨b, o + 2, none⟩) hlt).trans hv, hi.below hn hb⟩

theorem RulesAt.below {n₀ n₁ : Nat} {w w' : World} {v : Value} {l : List PRule} (h : RulesAt n₀ w v l) (hn : n₀ ≤ n₁) (hb : Below n₀ w w') : RulesAt n₁ w' v l := by
  obtain ⟨a, cap, rfl, h⟩ := h
  refine ⟨a, cap, rfl, h.imp id ?_⟩
  rintro ⟨b, off, rfl, hlt, hc⟩
  exact ⟨b, off, rfl, by omega, fun j hj => (hc j hj).below hlt hn hb⟩

/-- The value is a rule. -/
def RuleVal (n₀ : Nat) (w : World) (v : Value) (x : PRule) : Prop :=
  ∃ kv, v = .agg #[.string x.name, .bool x.leaf, kv] ∧ TermsAt n₀ w kv x.terms

theorem RuleVal.below {n₀ n₁ : Nat} {w w' : World} {v : Value} {x : PRule} (h : RuleVal n₀ w v x) (hn : n₀ ≤ n₁) (hb : Below n₀ w w') : RuleVal n₁ w' v x := by
  obtain ⟨kv, rfl, h⟩ := h
  exact ⟨kv, rfl, h.below hn hb⟩

theorem TermsAt.form {n₀ : Nat} {w : World} {v : Value} {l : List PTerm} (h : TermsAt n₀ w v l) : ∃ a cap, v = .slice a l.length cap ∧ TermsAt n₀ w (.slice a l.length cap) l := by
  have h' := h
  obtain ⟨a, cap, rfl, -⟩ := h
  exact ⟨a, cap, rfl, h'⟩
theorem RulesAt.form {n₀ : Nat} {w : World} {v : Value} {l : List PRule} (h : RulesAt n₀ w v l) : ∃ a cap, v = .slice a l.length cap ∧ RulesAt n₀ w (.slice a l.length cap) l := by
  have h' := h
  obtain ⟨a, cap, rfl, -⟩ := h
  exact ⟨a, cap, rfl, h'⟩
theorem IntsAt.form {n₀ : Nat} {w : World} {v : Value} {l : List Int} (h : IntsAt n₀ w v l) : ∃ a cap, v = .slice a l.length cap ∧ IntsAt n₀ w (.slice a l.length cap) l := by
  have h' := h
  obtain ⟨a, cap, rfl, -⟩ := h
  exact ⟨a, cap, rfl, h'⟩

/-- A slice of n elements with room for them. -/
def Roomy (v : Value) (n : Nat) : Prop := ∃ a c, v = .slice a n c ∧ n ≤ c

/-- Kinds rise, within 1 to rules. -/
def KindsUp (rules : Int) (ks : List Int) (n : Nat) : Prop := ∀ j, j < n → 1 ≤ ks[j]?.getD 0 ∧ ks[j]?.getD 0 ≤ rules ∧ (0 < j → ks[j - 1]?.getD 0 < ks[j]?.getD 0)

theorem KindsUp.ge {rules : Int} {ks : List Int} {n : Nat} (h : KindsUp rules ks n) : ∀ j, j < n → (j : Int) + 1 ≤ ks[j]?.getD 0 := by
  intro j
  induction j with
  | zero => intro hj; have := (h 0 hj).1; omega
  | succ j ih =>
    intro hj
    have h1 := ih (by omega)
    have h2 := (h (j + 1) hj).2.2 (by omega)
    simp only [Nat.add_sub_cancel] at h2
    omega

theorem KindsUp.len {rules : Int} {ks : List Int} (h : KindsUp rules ks ks.length) (h1 : ks ≠ []) : (ks.length : Int) ≤ rules := by
  have hp : 0 < ks.length := List.length_pos_iff.2 h1
  have := h.ge (ks.length - 1) (by omega)
  have := (h (ks.length - 1) (by omega)).2.1
  omega

theorem KindsUp.next {rules : Int} {ks : List Int} {n : Nat} (h : KindsUp rules ks n) (h1 : 1 ≤ ks[n]?.getD 0 ∧ ks[n]?.getD 0 ≤ rules ∧ (0 < n → ks[n - 1]?.getD 0 < ks[n]?.getD 0)) : KindsUp rules ks (n + 1) := by
  intro j hj
  by_cases e : j = n
  · rw [e]; exact h1
  · exact h j (by omega)

structure TermP (rules : Int) (t : PTerm) : Prop where
  some : t.kinds ≠ []
  up : KindsUp rules t.kinds t.kinds.length
  many0 : 0 ≤ t.many
  many3 : t.many ≤ 3

end Go.Proofs.YtpkblnponeonkaaDoor
