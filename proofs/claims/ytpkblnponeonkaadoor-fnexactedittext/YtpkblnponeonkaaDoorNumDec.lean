/-
  Numbers' texts, plainly: the digits of a number, and what text is the text of a number (at most 18 digits).
-/
import Derived.Lib.ItoaMem
import Derived.Lib.ItoaLen
import Derived.Lib.AtoiAll
namespace Go.Proofs.YtpkblnponeonkaaDoor

def isDig (c : UInt8) : Prop := 48 ≤ c.toNat ∧ c.toNat ≤ 57
instance (c : UInt8) : Decidable (isDig c) := inferInstanceAs (Decidable (_ ∧ _))

/-- What digits say. -/
def decV (l : List UInt8) : Nat := l.foldl (fun n c => n * 10 + (c.toNat - 48)) 0

theorem decV_snoc (l : List UInt8) (c : UInt8) : decV (l ++ [c]) = decV l * 10 + (c.toNat - 48) := by simp [decV]

theorem digB {d : Nat} (h : d < 10) : (UInt8.ofNat (48 + d)).toNat = 48 + d := by rw [UInt8.toNat_ofNat']; omega

theorem last_of {α : Type} {l : List α} {n : Nat} (h : l.length = n + 1) : ∃ r c, l = r ++ [c] :=
  by
  have hne : l ≠ [] := by intro e; rw [e] at h; cases h
  exact ⟨l.dropLast, l.getLast hne, (List.dropLast_concat_getLast hne).symm⟩

theorem dec_digs : ∀ (u : Nat), ∀ c ∈ Lib.decDigits u, isDig c := by
  intro u
  induction u using Nat.strongRecOn with
  | _ u ih =>
    intro c hc
    rw [Lib.decDigits] at hc
    split at hc
    · rename_i h
      rw [List.mem_singleton] at hc; subst hc
      unfold isDig; rw [digB h]; omega
    · rcases List.mem_append.1 hc with hc | hc
      · exact ih _ (by omega) c hc
      · rw [List.mem_singleton] at hc; subst hc
        unfold isDig; rw [digB (Nat.mod_lt _ (by decide))]; omega

theorem dec_val : ∀ (u : Nat), decV (Lib.decDigits u) = u := by
  intro u
  induction u using Nat.strongRecOn with
  | _ u ih =>
    rw [Lib.decDigits]
    split
    · rename_i h
      show 0 * 10 + ((UInt8.ofNat (48 + u)).toNat - 48) = u
      rw [digB h]; omega
    · rw [decV_snoc, ih _ (by omega), digB (Nat.mod_lt _ (by decide))]
      omega

theorem dec_ne (u : Nat) : Lib.decDigits u ≠ [] := by
  rw [Lib.decDigits]; split <;> simp

/-- No nought ahead of another digit. -/
theorem dec_head : ∀ (u : Nat), 0 < u → ∃ c r, Lib.decDigits u = c :: r ∧ c ≠ 48 := by
  intro u
  induction u using Nat.strongRecOn with
  | _ u ih =>
    intro h0
    rw [Lib.decDigits]
    split
    · rename_i h
      refine ⟨_, [], rfl, fun e => ?_⟩
      have := congrArg UInt8.toNat e
      rw [digB h] at this
      simp at this
      omega
    · obtain ⟨c, r, e, hc⟩ := ih (u / 10) (by omega) (by omega)
      rw [e]
      exact ⟨c, r ++ [_], rfl, hc⟩

theorem decV_lt : ∀ (n : Nat) (l : List UInt8), l.length = n → (∀ c ∈ l, isDig c) → decV l < 10 ^ n := by
  intro n
  induction n with
  | zero => intro l hl _; rw [List.length_eq_zero_iff.1 hl]; decide
  | succ n ih =>
    intro l hl hd
    obtain ⟨r, c, rfl⟩ : ∃ r c, l = r ++ [c] := last_of hl
    rw [List.length_append, List.length_singleton] at hl
    replace hl := Nat.succ.inj hl
    have h1 := ih r hl (fun c hc => hd c (by simp [hc]))
    have h2 := hd c (by simp)
    unfold isDig at h2
    rw [decV_snoc, Nat.pow_succ]
    omega

theorem decV_ge : ∀ (n : Nat) (l : List UInt8), l.length = n + 1 → (∀ c ∈ l, isDig c) → (∀ c r, l = c :: r → c ≠ 48) → 10 ^ n ≤ decV l := by
  intro n
  induction n with
  | zero =>
    intro l hl hd hh
    match l, hl with
    | [c], _ =>
      have h1 := hd c (by simp)
      have h2 := hh c [] rfl
      have h3 : c.toNat ≠ 48 := fun e => h2 (UInt8.toNat_inj.1 (by rw [e]; rfl))
      unfold isDig at h1
      simp [decV]; omega
  | succ n ih =>
    intro l hl hd hh
    obtain ⟨r, c, rfl⟩ : ∃ r c, l = r ++ [c] := last_of hl
    rw [List.length_append, List.length_singleton] at hl
    replace hl := Nat.succ.inj hl
    have h1 := ih r hl (fun c hc => hd c (by simp [hc])) (fun a b e => hh a (b ++ [c]) (by rw [e]; rfl))
    rw [decV_snoc, Nat.pow_succ]
    omega

/-- Digits with none needless ahead are the digits of what they say. -/
theorem dec_of : ∀ (n : Nat) (l : List UInt8), l.length = n → l ≠ [] → (∀ c ∈ l, isDig c) → (∀ c r, l = c :: r → c = 48 → r = []) → Lib.decDigits (decV l) = l := by
  intro n
  induction n with
  | zero => intro l hl hne _ _; exact absurd (List.length_eq_zero_iff.1 hl) hne
  | succ n ih =>
    intro l hl hne hd hh
    obtain ⟨r, c, rfl⟩ : ∃ r c, l = r ++ [c] := last_of hl
    have hc := hd c (by simp)
    unfold isDig at hc
    have hcc : UInt8.ofNat (48 + (c.toNat - 48)) = c := by rw [show 48 + (c.toNat - 48) = c.toNat by omega]; simp
    rw [List.length_append, List.length_singleton] at hl
    replace hl := Nat.succ.inj hl
    by_cases hr : r = []
    · subst hr
      rw [Lib.decDigits, dif_pos (by simp [decV]; omega)]
      simp [decV, hcc]
    · have hh' : ∀ a b, r = a :: b → a = 48 → b = [] := fun a b e h48 => by
        have := hh a (b ++ [c]) (by rw [e]; rfl) h48
        simp at this
      have e1 := ih r hl hr (fun c hc => hd c (by simp [hc])) hh'
      have hpos : 1 ≤ decV r := by
        obtain ⟨a, b, e⟩ : ∃ a b, r = a :: b := by cases r with | nil => exact absurd rfl hr | cons a b => exact ⟨a, b, rfl⟩
        have h48 : a ≠ 48 := fun h => by
          have := hh a (b ++ [c]) (by rw [e]; rfl) h
          simp at this
        have := decV_ge b.length r (by rw [e]; rfl) (fun c hc => hd c (by simp [hc])) (fun a' b' e' => by rw [e] at e'; cases e'; exact h48)
        have h10 : 1 ≤ 10 ^ b.length := Nat.one_le_pow _ _ (by decide)
        omega
      rw [decV_snoc, Lib.decDigits, dif_neg (by omega), show (decV r * 10 + (c.toNat - 48)) / 10 = decV r by omega, show (decV r * 10 + (c.toNat - 48)) % 10 = c.toNat - 48 by omega, e1, hcc]

theorem dec_inj {u v : Nat} (h : Lib.decDigits u = Lib.decDigits v) : u = v := by rw [← dec_val u, ← dec_val v, h]

theorem dec_len_le {u : Nat} {k : Nat} (h : u < 10 ^ (k + 1)) : (Lib.decDigits u).length ≤ k + 1 := by
  by_cases h0 : u = 0
  · subst h0; rw [Lib.decDigits_one (by decide)]; simp
  · obtain ⟨c, r, e, hc⟩ := dec_head u (by omega)
    by_cases hl : (Lib.decDigits u).length ≤ k + 1
    · exact hl
    · have := decV_ge r.length (Lib.decDigits u) (by rw [e]; rfl) (dec_digs u) (fun a b e' => by rw [e] at e'; cases e'; exact hc)
      rw [dec_val] at this
      have hrl : k + 1 ≤ r.length := by rw [e] at hl; simp at hl; omega
      have := Nat.pow_le_pow_right (n := 10) (by decide) hrl
      omega

/-- What stands behind a sign. -/
def magP (neg : Bool) (r : List UInt8) : Bool := !(r.isEmpty || decide (18 < r.length) || (decide (r.head? = some 48) && (decide (1 < r.length) || neg)))

/-- A text that is the text of a number of at most 18 digits, and the number. -/
def numP (l : List UInt8) : Option Int :=
  if l.head? = some 45 then
    if magP true l.tail ∧ ∀ c ∈ l.tail, isDig c then some (-(decV l.tail : Int)) else none
  else if magP false l ∧ ∀ c ∈ l, isDig c then some (decV l : Int) else none

theorem itoa_inj {a b : Int} (h : Lib.itoa a = Lib.itoa b) : a = b := by
  have key : ∀ (u v : Nat), (45 : UInt8) :: Lib.decDigits u ≠ Lib.decDigits v := fun u v e => by
    have := dec_digs v 45 (by rw [← e]; simp)
    exact absurd this (by decide)
  unfold Lib.itoa at h
  split at h <;> split at h
  · have := dec_inj (List.cons.inj h).2; omega
  · exact absurd h (key _ _)
  · exact absurd h.symm (key _ _)
  · have := dec_inj h; omega

theorem magP_iff {neg : Bool} {r : List UInt8} : magP neg r = true ↔ r ≠ [] ∧ r.length ≤ 18 ∧ (r.head? = some 48 → r.length ≤ 1 ∧ neg = false) := by
  have e1 : r.isEmpty = true ↔ r = [] := List.isEmpty_iff
  unfold magP
  rw [Bool.not_eq_true', ← Bool.not_eq_true, Bool.or_eq_true, Bool.or_eq_true, Bool.and_eq_true, Bool.or_eq_true, e1, decide_eq_true_eq, decide_eq_true_eq, decide_eq_true_eq]
  constructor
  · intro h
    refine ⟨fun e => h (.inl (.inl e)), Nat.not_lt.1 fun e => h (.inl (.inr e)), fun h48 => ⟨Nat.not_lt.1 fun e => h (.inr ⟨h48, .inl e⟩), ?_⟩⟩
    cases neg
    · rfl
    · exact absurd (.inr ⟨h48, .inr rfl⟩) h
  · rintro ⟨h1, h2, h3⟩ ((h | h) | ⟨h, h'⟩)
    · exact h1 h
    · omega
    · obtain ⟨h4, h5⟩ := h3 h
      rcases h' with h' | h'
      · omega
      · rw [h5] at h'; cases h'

theorem numP_iff {l : List UInt8} {n : Int} : numP l = some n ↔ l = Lib.itoa n ∧ -1000000000000000000 < n ∧ n < 1000000000000000000 := by
  constructor
  · intro h
    unfold numP at h
    split at h
    · rename_i h45
      split at h
      · rename_i hm
        obtain ⟨hm, hd⟩ := hm
        obtain ⟨h1, h2, h3⟩ := magP_iff.1 hm
        cases l with
        | nil => simp at h45
        | cons c r =>
          simp only [List.head?_cons, Option.some.injEq] at h45
          subst h45
          simp only [List.tail_cons] at *
          have hlt := decV_lt _ r rfl hd
          have hlt' : decV r < 10 ^ 18 := Nat.lt_of_lt_of_le hlt (Nat.pow_le_pow_right (by decide) h2)
          have e := dec_of _ r rfl h1 hd (fun c b e hc => by subst e; subst hc; simp at h3)
          have hpos : 1 ≤ decV r := by
            cases r with
            | nil => exact absurd rfl h1
            | cons a b =>
              have h48 : a ≠ 48 := fun h => by subst h; simp at h3
              have := decV_ge b.length (a :: b) rfl hd (fun a' b' e' => by cases e'; exact h48)
              have h10 : 1 ≤ 10 ^ b.length := Nat.one_le_pow _ _ (by decide)
              omega
          have hn : n = -(decV r : Int) := (Option.some.inj h).symm
          subst hn
          refine ⟨?_, by omega, by omega⟩
          rw [Lib.itoa_neg _ hpos, e]
      · cases h
    · split at h
      · rename_i h45 hm
        obtain ⟨hm, hd⟩ := hm
        obtain ⟨h1, h2, h3⟩ := magP_iff.1 hm
        have hlt := decV_lt _ l rfl hd
        have hlt' : decV l < 10 ^ 18 := Nat.lt_of_lt_of_le hlt (Nat.pow_le_pow_right (by decide) h2)
        have e := dec_of _ l rfl h1 hd (fun c b e hc => by subst e; subst hc; simpa using h3)
        have hn : n = (decV l : Int) := (Option.some.inj h).symm
        subst hn
        refine ⟨?_, by omega, by omega⟩
        rw [Lib.itoa_nonneg, e]
      · cases h
  · rintro ⟨rfl, h1, h2⟩
    unfold numP Lib.itoa
    by_cases hn : n < 0
    · rw [if_pos hn]
      rw [if_pos (by rfl)]
      show (if magP true (Lib.decDigits n.natAbs) ∧ ∀ c ∈ Lib.decDigits n.natAbs, isDig c then some (-(decV (Lib.decDigits n.natAbs) : Int)) else none) = some n
      obtain ⟨c, r, e, hc⟩ := dec_head n.natAbs (by omega)
      have hl := dec_len_le (u := n.natAbs) (k := 17) (by omega)
      have hm : magP true (Lib.decDigits n.natAbs) = true := magP_iff.2 ⟨dec_ne _, hl, by rw [e]; simp; intro h; exact absurd h hc⟩
      rw [if_pos ⟨hm, dec_digs _⟩, dec_val]
      congr 1; omega
    · rw [if_neg hn]
      have hl := dec_len_le (u := n.toNat) (k := 17) (by omega)
      have h45 : ¬ (Lib.decDigits n.toNat).head? = some 45 := by
        intro h
        have := dec_digs n.toNat 45 (List.mem_of_head? h)
        exact absurd this (by decide)
      rw [if_neg h45]
      have hm : magP false (Lib.decDigits n.toNat) = true := magP_iff.2 ⟨dec_ne _, hl, by
        intro h
        refine ⟨?_, rfl⟩
        by_cases h0 : n.toNat = 0
        · rw [h0, Lib.decDigits_one (by decide)]; simp
        · obtain ⟨c, r, e, hc⟩ := dec_head n.toNat (by omega)
          rw [e] at h; simp at h; exact absurd h hc⟩
      rw [if_pos ⟨hm, dec_digs _⟩, dec_val]
      congr 1; omega

theorem parse_dec : ∀ (l : List UInt8) (acc : Nat), (∀ c ∈ l, isDig c) → l.foldl (fun n c => n * 10 + (c.toNat - 48)) acc < 10000000000000000000 → Lib.parseUint10 acc l = .ok (l.foldl (fun n c => n * 10 + (c.toNat - 48)) acc) := by
  intro l
  induction l with
  | nil => intro acc _ _; rfl
  | cons c r ih =>
    intro acc hd hlt
    have hc := hd c (by simp)
    have mono : ∀ (l : List UInt8) (x : Nat), x ≤ l.foldl (fun n c => n * 10 + (c.toNat - 48)) x := by
      intro l
      induction l with
      | nil => intro x; exact Nat.le_refl _
      | cons a b ih => intro x; exact Nat.le_trans (show x ≤ x * 10 + (a.toNat - 48) by omega) (ih _)
    have hm := mono r (acc * 10 + (c.toNat - 48))
    simp only [List.foldl_cons] at hlt ⊢
    unfold Lib.parseUint10
    unfold isDig at hc
    rw [if_pos hc, if_neg (by omega), if_neg (by omega)]
    exact ih _ (fun a ha => hd a (by simp [ha])) hlt

/-- The digits of a number are read as the number. -/
theorem atoi_itoa {n : Int} (h1 : -1000000000000000000 < n) (h2 : n < 1000000000000000000) : Lib.atoiAll (Lib.itoa n) = .ok n := by
  have P : ∀ u, u < 10000000000000000000 → Lib.parseMag (Lib.decDigits u) = .ok u := fun u hu => by
    unfold Lib.parseMag
    rw [if_neg (dec_ne u)]
    have := parse_dec (Lib.decDigits u) 0 (dec_digs u) (by show decV _ < _; rw [dec_val]; exact hu)
    rw [this]; show Lib.NumEnd.ok (decV _) = _; rw [dec_val]
  unfold Lib.itoa
  by_cases hn : n < 0
  · rw [if_pos hn]
    unfold Lib.atoiAll
    have e : (45 : UInt8).toNat = 45 := rfl
    simp only [e, or_true, if_true, P n.natAbs (by omega), not_true_eq_false, false_and, if_false, true_and]
    rw [if_neg (by omega)]
    congr 1; omega
  · rw [if_neg hn]
    cases hd : Lib.decDigits n.toNat with
    | nil => exact absurd hd (dec_ne _)
    | cons c r =>
      have hc := dec_digs n.toNat c (by rw [hd]; simp)
      unfold isDig at hc
      have hP := P n.toNat (by omega)
      rw [hd] at hP
      have e1 : ¬ (c.toNat = 43 ∨ c.toNat = 45) := by omega
      have e2 : ¬ c.toNat = 45 := by omega
      unfold Lib.atoiAll
      dsimp only
      rw [if_neg e1, hP]
      dsimp only
      rw [if_neg (by omega), if_neg (by omega), if_neg e2]
      congr 1; omega

theorem itoa_digs (n : Int) : ∀ c ∈ Lib.itoa n, c = 45 ∨ isDig c := by
  intro c hc
  unfold Lib.itoa at hc
  split at hc
  · rcases List.mem_cons.1 hc with h | h
    · exact .inl h
    · exact .inr (dec_digs _ c h)
  · exact .inr (dec_digs _ c hc)

theorem itoa_ne (n : Int) : Lib.itoa n ≠ [] := by
  unfold Lib.itoa
  split
  · simp
  · exact dec_ne _

theorem itoa_tight (n : Int) : ∀ c ∈ Lib.itoa n, c ≠ 32 := by
  intro c hc e
  subst e
  rcases itoa_digs n 32 hc with h | h
  · exact absurd h (by decide)
  · exact absurd h (by decide)
end Go.Proofs.YtpkblnponeonkaaDoor
