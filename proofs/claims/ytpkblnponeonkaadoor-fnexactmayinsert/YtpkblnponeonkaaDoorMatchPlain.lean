/-
  When kids are taken by terms, stretch by stretch: plain facts.
-/
import Derived.Test.YtpkblnponeonkaaDoorSchRep
namespace Go.Proofs.YtpkblnponeonkaaDoor

def leastOf (m : Int) : Nat := if m = 0 ∨ m = 3 then 1 else 0
def mostOf (m : Int) (n : Nat) : Nat := if m < 2 then min n 1 else n

/-- A term takes these kids. -/
structure Takes (t : PTerm) (xs : List Int) : Prop where
  least : leastOf t.many ≤ xs.length
  most : t.many < 2 → xs.length ≤ 1
  kinds : ∀ x ∈ xs, x ∈ t.kinds

/-- Kids are parted into stretches, each of which its term takes. -/
def MatchP : List PTerm → List Int → Prop
  | [], ks => ks = []
  | t :: ts, ks => ∃ n, n ≤ ks.length ∧ Takes t (ks.take n) ∧ MatchP ts (ks.drop n)

theorem match_cons {t : PTerm} {ts : List PTerm} {ks : List Int} : MatchP (t :: ts) ks ↔ ∃ n, n ≤ mostOf t.many ks.length ∧ leastOf t.many ≤ n ∧ (∀ j, j < n → ks[j]?.getD 0 ∈ t.kinds) ∧ MatchP ts (ks.drop n) := by
  constructor
  · rintro ⟨n, hn, hT, hM⟩
    have h1 := hT.least
    have h2 := hT.most
    rw [List.length_take, Nat.min_eq_left hn] at h1 h2
    refine ⟨n, by unfold mostOf; split <;> omega, h1, fun j hj => ?_, hM⟩
    have : ks[j]?.getD 0 ∈ ks.take n := by
      rw [List.getElem?_eq_getElem (by omega), Option.getD_some]
      exact List.mem_take_iff_getElem.2 ⟨j, by omega, rfl⟩
    exact hT.kinds _ this
  · rintro ⟨n, hn, h1, hk, hM⟩
    have hle : n ≤ ks.length := by unfold mostOf at hn; split at hn <;> omega
    refine ⟨n, hle, ⟨?_, ?_, ?_⟩, hM⟩
    · rw [List.length_take, Nat.min_eq_left hle]; exact h1
    · intro h; rw [List.length_take, Nat.min_eq_left hle]; unfold mostOf at hn; rw [if_pos h] at hn; omega
    · intro x hx
      obtain ⟨j, hj, rfl⟩ := List.mem_take_iff_getElem.1 hx
      have := hk j (by omega)
      rwa [List.getElem?_eq_getElem (by omega), Option.getD_some] at this

theorem match_snoc {ts : List PTerm} {t : PTerm} {ks : List Int} : MatchP (ts ++ [t]) ks ↔ ∃ m, m ≤ ks.length ∧ MatchP ts (ks.take m) ∧ Takes t (ks.drop m) := by
  induction ts generalizing ks with
  | nil =>
    simp only [List.nil_append, MatchP]
    constructor
    · rintro ⟨n, hn, hT, hd⟩
      have : n = ks.length := by have := congrArg List.length hd; simp at this; omega
      subst this
      rw [List.take_length] at hT
      exact ⟨0, by omega, by simp, by simpa using hT⟩
    · rintro ⟨m, hm, h1, hT⟩
      have h0 : ks.take m = [] := h1
      by_cases e : m = 0
      · subst e; exact ⟨ks.length, by omega, by simpa using hT, by simp⟩
      · have hk : ks = [] := by
          have := congrArg List.length h0
          simp at this
          rcases this with h | h
          · exact absurd h e
          · exact h
        subst hk
        exact ⟨0, by simp, by simpa using hT, by simp⟩
  | cons s ts ih =>
    simp only [List.cons_append, MatchP]
    constructor
    · rintro ⟨n, hn, hT, hM⟩
      obtain ⟨m, hm, h1, h2⟩ := ih.1 hM
      rw [List.length_drop] at hm
      refine ⟨n + m, by omega, ⟨n, by rw [List.length_take]; omega, ?_, ?_⟩, ?_⟩
      · rw [List.take_take, Nat.min_eq_left (by omega)]; exact hT
      · rw [List.drop_take, Nat.add_sub_cancel_left]; exact h1
      · rwa [List.drop_drop] at h2
    · rintro ⟨m, hm, ⟨n, hn, hT, hM⟩, h2⟩
      rw [List.length_take, Nat.min_eq_left hm] at hn
      refine ⟨n, by omega, ?_, ih.2 ⟨m - n, by rw [List.length_drop]; omega, ?_, ?_⟩⟩
      · rw [List.take_take, Nat.min_eq_left (by omega)] at hT; exact hT
      · rw [List.drop_take] at hM; exact hM
      · rw [List.drop_drop, show n + (m - n) = m by omega]; exact h2

/-- How many kids are of these kinds ahead of one that is not. -/
def FirstP (kinds ks : List Int) (n : Nat) : Prop := n ≤ ks.length ∧ (∀ j, j < n → ks[j]?.getD 0 ∈ kinds) ∧ (n < ks.length → ks[n]?.getD 0 ∉ kinds)

theorem FirstP.uniq {kinds ks : List Int} {m n : Nat} (h : FirstP kinds ks m) (h' : FirstP kinds ks n) : m = n := by
  rcases Nat.lt_trichotomy m n with hlt | e | hlt
  · exact absurd (h'.2.1 m hlt) (h.2.2 (by have := h'.1; omega))
  · exact e
  · exact absurd (h.2.1 n hlt) (h'.2.2 (by have := h.1; omega))

theorem FirstP.ex (kinds : List Int) : ∀ ks : List Int, ∃ n, FirstP kinds ks n
  | [] => ⟨0, by simp, by simp, by simp⟩
  | x :: ks => by
    by_cases h : x ∈ kinds
    · obtain ⟨n, h1, h2, h3⟩ := FirstP.ex kinds ks
      refine ⟨n + 1, by simp; omega, fun j hj => ?_, fun hj => by simpa using h3 (by simpa using hj)⟩
      cases j with
      | zero => simpa using h
      | succ j => simpa using h2 j (by omega)
    · exact ⟨0, by simp, by simp, fun _ => by simpa using h⟩

theorem FirstP.le_iff {kinds ks : List Int} {q n : Nat} (h : FirstP kinds ks q) : n ≤ q ↔ n ≤ ks.length ∧ ∀ j, j < n → ks[j]?.getD 0 ∈ kinds := by
  refine ⟨fun hn => ⟨by have := h.1; omega, fun j hj => h.2.1 j (by omega)⟩, fun ⟨h1, h2⟩ => ?_⟩
  rcases Nat.lt_or_ge q n with hlt | hge
  · exact absurd (h2 q hlt) (h.2.2 (by omega))
  · exact hge

/-- The places that can be come to behind a term. -/
theorem reach_step {ts : List PTerm} {t : PTerm} {ks : List Int} {p : Nat} (hp : p ≤ ks.length) :
    MatchP (ts ++ [t]) (ks.take p) ↔ ∃ m, m ≤ p ∧ MatchP ts (ks.take m) ∧ leastOf t.many ≤ p - m ∧ p - m ≤ mostOf t.many (p - m) ∧ ∀ j, j < p - m → (ks.drop m)[j]?.getD 0 ∈ t.kinds := by
  rw [match_snoc, List.length_take, Nat.min_eq_left hp]
  constructor
  · rintro ⟨m, hm, h1, h2⟩
    rw [List.take_take, Nat.min_eq_left hm] at h1
    have hl : ((ks.take p).drop m).length = p - m := by simp; omega
    have a := h2.least
    have b := h2.most
    rw [hl] at a b
    refine ⟨m, hm, h1, a, by unfold mostOf; split <;> omega, fun j hj => h2.kinds _ ?_⟩
    rw [List.drop_take]
    rw [List.getElem?_eq_getElem (by simp; omega), Option.getD_some]
    exact List.mem_take_iff_getElem.2 ⟨j, by simp; omega, rfl⟩
  · rintro ⟨m, hm, h1, h2, h3, h4⟩
    have hl : ((ks.take p).drop m).length = p - m := by simp; omega
    refine ⟨m, hm, by rw [List.take_take, Nat.min_eq_left hm]; exact h1, ⟨by rw [hl]; exact h2, fun h => by rw [hl]; unfold mostOf at h3; rw [if_pos h] at h3; omega, fun x hx => ?_⟩⟩
    rw [List.drop_take] at hx
    obtain ⟨j, hj, rfl⟩ := List.mem_take_iff_getElem.1 hx
    have := h4 j (by omega)
    rwa [List.getElem?_eq_getElem (by simp at hj ⊢; omega), Option.getD_some] at this
end Go.Proofs.YtpkblnponeonkaaDoor
