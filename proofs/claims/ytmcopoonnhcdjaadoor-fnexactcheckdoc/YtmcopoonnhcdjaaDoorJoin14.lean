/-
  Terms and rules as plain data, and how lists of them lie in memory; they stay where only new memory is written.
  When kids are taken by terms, stretch by stretch: plain facts.
-/
import Derived.Test.YtmcopoonnhcdjaaDoorJoin1
namespace Go.Proofs.YtmcopoonnhcdjaaDoor
open Go.RowKit

theorem take_snoc_all {α : Type} {l : List α} {d : α} {k : Nat} (hk : k < l.length) {p : α → Prop} (h : ∀ x ∈ l.take k, p x) (h1 : p (l[k]?.getD d)) : ∀ x ∈ l.take (k + 1), p x := by
  intro x hx
  rw [List.take_succ_eq_append_getElem hk, List.mem_append] at hx
  rcases hx with hx | hx
  · exact h x hx
  · simp at hx; subst hx; simpa [hk] using h1

structure PTerm where
  kinds : List Int
  many : Int

structure PRule where
  name : ByteArray
  leaf : Bool
  terms : List PTerm

def termNil : PTerm := ⟨[], 0⟩
def ruleNil : PRule := ⟨ByteArray.empty, false, []⟩

/-- Two cells are a term. -/
structure TermAt (n₀ : Nat) (w : World) (b o : Nat) (x : PTerm) : Prop where
  c0 : ∃ v, w.cell? ⟨b, o, none⟩ = some v ∧ IntsAt n₀ w v x.kinds
  c1 : w.cell? ⟨b, o + 1, none⟩ = some (.int .i64 x.many)

/-- The value is a list of terms, in blocks below n₀. -/
def TermsAt (n₀ : Nat) (w : World) (v : Value) (l : List PTerm) : Prop :=
  ∃ (a : Option Addr) (cap : Nat), v = .slice a l.length cap ∧ (l = [] ∨ ∃ b off, a = some ⟨b, off, none⟩ ∧ b < n₀ ∧ ∀ j, j < l.length → TermAt n₀ w b (off + j * 2) (l[j]?.getD termNil))

theorem TermAt.below {n₀ n₁ : Nat} {w w' : World} {b o : Nat} {x : PTerm} (h : TermAt n₀ w b o x) (hlt : b < n₀) (hn : n₀ ≤ n₁) (hb : Below n₀ w w') : TermAt n₁ w' b o x where
  c0 := by
    obtain ⟨v, hv, hi⟩ := h.c0
    exact ⟨v, (hb.cell (p := ⟨b, o, none⟩) hlt).trans hv, hi.below hn hb⟩
  c1 := (hb.cell (p := ⟨b, o + 1, none⟩) hlt).trans h.c1

theorem TermsAt.below {n₀ n₁ : Nat} {w w' : World} {v : Value} {l : List PTerm} (h : TermsAt n₀ w v l) (hn : n₀ ≤ n₁) (hb : Below n₀ w w') : TermsAt n₁ w' v l := by
  obtain ⟨a, cap, rfl, h⟩ := h
  refine ⟨a, cap, rfl, h.imp id ?_⟩
  rintro ⟨b, off, rfl, hlt, hc⟩
  exact ⟨b, off, rfl, by omega, fun j hj => (hc j hj).below hlt hn hb⟩

/-- The value is a term. -/
def TermVal (n₀ : Nat) (w : World) (v : Value) (x : PTerm) : Prop :=
  ∃ kv, v = .agg #[kv, .int .i64 x.many] ∧ IntsAt n₀ w kv x.kinds

theorem TermVal.below {n₀ n₁ : Nat} {w w' : World} {v : Value} {x : PTerm} (h : TermVal n₀ w v x) (hn : n₀ ≤ n₁) (hb : Below n₀ w w') : TermVal n₁ w' v x := by
  obtain ⟨kv, rfl, h⟩ := h
  exact ⟨kv, rfl, h.below hn hb⟩

/-- Three cells are a rule. -/
structure RuleAt (n₀ : Nat) (w : World) (b o : Nat) (x : PRule) : Prop where
  c0 : w.cell? ⟨b, o, none⟩ = some (.string x.name)
  c1 : w.cell? ⟨b, o + 1, none⟩ = some (.bool x.leaf)
  c2 : ∃ v, w.cell? ⟨b, o + 2, none⟩ = some v ∧ TermsAt n₀ w v x.terms

/-- The value is a list of rules, in blocks below n₀. -/
def RulesAt (n₀ : Nat) (w : World) (v : Value) (l : List PRule) : Prop :=
  ∃ (a : Option Addr) (cap : Nat), v = .slice a l.length cap ∧ (l = [] ∨ ∃ b off, a = some ⟨b, off, none⟩ ∧ b < n₀ ∧ ∀ j, j < l.length → RuleAt n₀ w b (off + j * 3) (l[j]?.getD ruleNil))

theorem RuleAt.below {n₀ n₁ : Nat} {w w' : World} {b o : Nat} {x : PRule} (h : RuleAt n₀ w b o x) (hlt : b < n₀) (hn : n₀ ≤ n₁) (hb : Below n₀ w w') : RuleAt n₁ w' b o x where
  c0 := (hb.cell (p := ⟨b, o, none⟩) hlt).trans h.c0
  c1 := (hb.cell (p := ⟨b, o + 1, none⟩) hlt).trans h.c1
  c2 := by
    obtain ⟨v, hv, hi⟩ := h.c2
    exact ⟨v, (hb.cell (p := ⟨b, o + 2, none⟩) hlt).trans hv, hi.below hn hb⟩

theorem RulesAt.below {n₀ n₁ : Nat} {w w' : World} {v : Value} {l : List PRule} (h : RulesAt n₀ w v l) (hn : n₀ ≤ n₁) (hb : Below n₀ w w') : RulesAt n₁ w' v l := by
  obtain ⟨a, cap, rfl, h⟩ := h
  refine ⟨a, cap, rfl, h.imp id ?_⟩
  rintro ⟨b, off, rfl, hlt, hc⟩
  exact ⟨b, off, rfl, by omega, fun j hj => (hc j hj).below hlt hn hb⟩

/-- The value is a rule. -/
def RuleVal (n₀ : Nat) (w : World) (v : Value) (x : PRule) : Prop :=
  ∃ kv, v = .agg #[.string x.name, .bool x.leaf, kv] ∧ TermsAt n₀ w kv x.terms

theorem RuleVal.below {n₀ n₁ : Nat} {w w' : World} {v : Value} {x : PRule} (h : RuleVal n₀ w v x) (hn : n₀ ≤ n₁) (hb : Below n₀ w w') : RuleVal n₁ w' v x := by
  obtain ⟨kv, rfl, h⟩ := h
  exact ⟨kv, rfl, h.below hn hb⟩

theorem TermsAt.form {n₀ : Nat} {w : World} {v : Value} {l : List PTerm} (h : TermsAt n₀ w v l) : ∃ a cap, v = .slice a l.length cap ∧ TermsAt n₀ w (.slice a l.length cap) l := by
  have h' := h
  obtain ⟨a, cap, rfl, -⟩ := h
  exact ⟨a, cap, rfl, h'⟩
theorem RulesAt.form {n₀ : Nat} {w : World} {v : Value} {l : List PRule} (h : RulesAt n₀ w v l) : ∃ a cap, v = .slice a l.length cap ∧ RulesAt n₀ w (.slice a l.length cap) l := by
  have h' := h
  obtain ⟨a, cap, rfl, -⟩ := h
  exact ⟨a, cap, rfl, h'⟩
theorem IntsAt.form {n₀ : Nat} {w : World} {v : Value} {l : List Int} (h : IntsAt n₀ w v l) : ∃ a cap, v = .slice a l.length cap ∧ IntsAt n₀ w (.slice a l.length cap) l := by
  have h' := h
  obtain ⟨a, cap, rfl, -⟩ := h
  exact ⟨a, cap, rfl, h'⟩

/-- A slice of n elements with room for them. -/
def Roomy (v : Value) (n : Nat) : Prop := ∃ a c, v = .slice a n c ∧ n ≤ c

/-- Kinds rise, within 1 to rules. -/
def KindsUp (rules : Int) (ks : List Int) (n : Nat) : Prop := ∀ j, j < n → 1 ≤ ks[j]?.getD 0 ∧ ks[j]?.getD 0 ≤ rules ∧ (0 < j → ks[j - 1]?.getD 0 < ks[j]?.getD 0)

theorem KindsUp.ge {rules : Int} {ks : List Int} {n : Nat} (h : KindsUp rules ks n) : ∀ j, j < n → (j : Int) + 1 ≤ ks[j]?.getD 0 := by
  intro j
  induction j with
  | zero => intro hj; have := (h 0 hj).1; omega
  | succ j ih =>
    intro hj
    have h1 := ih (by omega)
    have h2 := (h (j + 1) hj).2.2 (by omega)
    simp only [Nat.add_sub_cancel] at h2
    omega

theorem KindsUp.len {rules : Int} {ks : List Int} (h : KindsUp rules ks ks.length) (h1 : ks ≠ []) : (ks.length : Int) ≤ rules := by
  have hp : 0 < ks.length := List.length_pos_iff.2 h1
  have := h.ge (ks.length - 1) (by omega)
  have := (h (ks.length - 1) (by omega)).2.1
  omega

theorem KindsUp.next {rules : Int} {ks : List Int} {n : Nat} (h : KindsUp rules ks n) (h1 : 1 ≤ ks[n]?.getD 0 ∧ ks[n]?.getD 0 ≤ rules ∧ (0 < n → ks[n - 1]?.getD 0 < ks[n]?.getD 0)) : KindsUp rules ks (n + 1) := by
  intro j hj
  by_cases e : j = n
  · rw [e]; exact h1
  · exact h j (by omega)

structure TermP (rules : Int) (t : PTerm) : Prop where
  some : t.kinds ≠ []
  up : KindsUp rules t.kinds t.kinds.length
  many0 : 0 ≤ t.many
  many3 : t.many ≤ 3

end Go.Proofs.YtmcopoonnhcdjaaDoor

namespace Go.Proofs.YtmcopoonnhcdjaaDoor

def leastOf (m : Int) : Nat := if m = 0 ∨ m = 3 then 1 else 0
def mostOf (m : Int) (n : Nat) : Nat := if m < 2 then min n 1 else n

/-- A term takes these kids. -/
structure Takes (t : PTerm) (xs : List Int) : Prop where
  least : leastOf t.many ≤ xs.length
  most : t.many < 2 → xs.length ≤ 1
  kinds : ∀ x ∈ xs, x ∈ t.kinds

/-- Kids are parted into stretches, each of which its term takes. -/
def MatchP : List PTerm → List Int → Prop
  | [], ks => ks = []
  | t :: ts, ks => ∃ n, n ≤ ks.length ∧ Takes t (ks.take n) ∧ MatchP ts (ks.drop n)

theorem match_cons {t : PTerm} {ts : List PTerm} {ks : List Int} : MatchP (t :: ts) ks ↔ ∃ n, n ≤ mostOf t.many ks.length ∧ leastOf t.many ≤ n ∧ (∀ j, j < n → ks[j]?.getD 0 ∈ t.kinds) ∧ MatchP ts (ks.drop n) := by
  constructor
  · rintro ⟨n, hn, hT, hM⟩
    have h1 := hT.least
    have h2 := hT.most
    rw [List.length_take, Nat.min_eq_left hn] at h1 h2
    refine ⟨n, by unfold mostOf; split <;> omega, h1, fun j hj => ?_, hM⟩
    have : ks[j]?.getD 0 ∈ ks.take n := by
      rw [List.getElem?_eq_getElem (by omega), Option.getD_some]
      exact List.mem_take_iff_getElem.2 ⟨j, by omega, rfl⟩
    exact hT.kinds _ this
  · rintro ⟨n, hn, h1, hk, hM⟩
    have hle : n ≤ ks.length := by unfold mostOf at hn; split at hn <;> omega
    refine ⟨n, hle, ⟨?_, ?_, ?_⟩, hM⟩
    · rw [List.length_take, Nat.min_eq_left hle]; exact h1
    · intro h; rw [List.length_take, Nat.min_eq_left hle]; unfold mostOf at hn; rw [if_pos h] at hn; omega
    · intro x hx
      obtain ⟨j, hj, rfl⟩ := List.mem_take_iff_getElem.1 hx
      have := hk j (by omega)
      rwa [List.getElem?_eq_getElem (by omega), Option.getD_some] at this

theorem match_snoc {ts : List PTerm} {t : PTerm} {ks : List Int} : MatchP (ts ++ [t]) ks ↔ ∃ m, m ≤ ks.length ∧ MatchP ts (ks.take m) ∧ Takes t (ks.drop m) := by
  induction ts generalizing ks with
  | nil =>
    simp only [List.nil_append, MatchP]
    constructor
    · rintro ⟨n, hn, hT, hd⟩
      have : n = ks.length := by have := congrArg List.length hd; simp at this; omega
      subst this
      rw [List.take_length] at hT
      exact ⟨0, by omega, by simp, by simpa using hT⟩
    · rintro ⟨m, hm, h1, hT⟩
      have h0 : ks.take m = [] := h1
      by_cases e : m = 0
      · subst e; exact ⟨ks.length, by omega, by simpa using hT, by simp⟩
      · have hk : ks = [] := by
          have := congrArg List.length h0
          simp at this
          rcases this with h | h
          · exact absurd h e
          · exact h
        subst hk
        exact ⟨0, by simp, by simpa using hT, by simp⟩
  | cons s ts ih =>
    simp only [List.cons_append, MatchP]
    constructor
    · rintro ⟨n, hn, hT, hM⟩
      obtain ⟨m, hm, h1, h2⟩ := ih.1 hM
      rw [List.length_drop] at hm
      refine ⟨n + m, by omega, ⟨n, by rw [List.length_take]; omega, ?_, ?_⟩, ?_⟩
      · rw [List.take_take, Nat.min_eq_left (by omega)]; exact hT
      · rw [List.drop_take, Nat.add_sub_cancel_left]; exact h1
      · rwa [List.drop_drop] at h2
    · rintro ⟨m, hm, ⟨n, hn, hT, hM⟩, h2⟩
      rw [List.length_take, Nat.min_eq_left hm] at hn
      refine ⟨n, by omega, ?_, ih.2 ⟨m - n, by rw [List.length_drop]; omega, ?_, ?_⟩⟩
      · rw [List.take_take, Nat.min_eq_left (by omega)] at hT; exact hT
      · rw [List.drop_take] at hM; exact hM
      · rw [List.drop_drop, show n + (m - n) = m by omega]; exact h2

/-- How many kids are of these kinds ahead of one that is not. -/
def FirstP (kinds ks : List Int) (n : Nat) : Prop := n ≤ ks.length ∧ (∀ j, j < n → ks[j]?.getD 0 ∈ kinds) ∧ (n < ks.length → ks[n]?.getD 0 ∉ kinds)

theorem FirstP.uniq {kinds ks : List Int} {m n : Nat} (h : FirstP kinds ks m) (h' : FirstP kinds ks n) : m = n := by
  rcases Nat.lt_trichotomy m n with hlt | e | hlt
  · exact absurd (h'.2.1 m hlt) (h.2.2 (by have := h'.1; omega))
  · exact e
  · exact absurd (h.2.1 n hlt) (h'.2.2 (by have := h.1; omega))

theorem FirstP.ex (kinds : List Int) : ∀ ks : List Int, ∃ n, FirstP kinds ks n
  | [] => ⟨0, by simp, by simp, by simp⟩
  | x :: ks => by
    by_cases h : x ∈ kinds
    · obtain ⟨n, h1, h2, h3⟩ := FirstP.ex kinds ks
      refine ⟨n + 1, by simp; omega, fun j hj => ?_, fun hj => by simpa using h3 (by simpa using hj)⟩
      cases j with
      | zero => simpa using h
      | succ j => simpa using h2 j (by omega)
    · exact ⟨0, by simp, by simp, fun _ => by simpa using h⟩

theorem FirstP.le_iff {kinds ks : List Int} {q n : Nat} (h : FirstP kinds ks q) : n ≤ q ↔ n ≤ ks.length ∧ ∀ j, j < n → ks[j]?.getD 0 ∈ kinds := by
  refine ⟨fun hn => ⟨by have := h.1; omega, fun j hj => h.2.1 j (by omega)⟩, fun ⟨h1, h2⟩ => ?_⟩
  rcases Nat.lt_or_ge q n with hlt | hge
  · exact absurd (h2 q hlt) (h.2.2 (by omega))
  · exact hge

/-- The places that can be come to behind a term. -/
theorem reach_step {ts : List PTerm} {t : PTerm} {ks : List Int} {p : Nat} (hp : p ≤ ks.length) :
    MatchP (ts ++ [t]) (ks.take p) ↔ ∃ m, m ≤ p ∧ MatchP ts (ks.take m) ∧ leastOf t.many ≤ p - m ∧ p - m ≤ mostOf t.many (p - m) ∧ ∀ j, j < p - m → (ks.drop m)[j]?.getD 0 ∈ t.kinds := by
  rw [match_snoc, List.length_take, Nat.min_eq_left hp]
  constructor
  · rintro ⟨m, hm, h1, h2⟩
    rw [List.take_take, Nat.min_eq_left hm] at h1
    have hl : ((ks.take p).drop m).length = p - m := by simp; omega
    have a := h2.least
    have b := h2.most
    rw [hl] at a b
    refine ⟨m, hm, h1, a, by unfold mostOf; split <;> omega, fun j hj => h2.kinds _ ?_⟩
    rw [List.drop_take]
    rw [List.getElem?_eq_getElem (by simp; omega), Option.getD_some]
    exact List.mem_take_iff_getElem.2 ⟨j, by simp; omega, rfl⟩
  · rintro ⟨m, hm, h1, h2, h3, h4⟩
    have hl : ((ks.take p).drop m).length = p - m := by simp; omega
    refine ⟨m, hm, by rw [List.take_take, Nat.min_eq_left hm]; exact h1, ⟨by rw [hl]; exact h2, fun h => by rw [hl]; unfold mostOf at h3; rw [if_pos h] at h3; omega, fun x hx => ?_⟩⟩
    rw [List.drop_take] at hx
    obtain ⟨j, hj, rfl⟩ := List.mem_take_iff_getElem.1 hx
    have := h4 j (by omega)
    rwa [List.getElem?_eq_getElem (by simp at hj ⊢; omega), Option.getD_some] at this
end Go.Proofs.YtmcopoonnhcdjaaDoor
