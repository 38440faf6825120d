/-
  The shortest kids that a machine takes, plainly: which states are come to, in which order, and by which kids.
-/
import Derived.Test.YtlbfjmfjakhmdaaMachRun
import Derived.Test.YtlbfjmfjakhmdaaBasicHas
namespace Go.Proofs.Ytlbfjmfjakhmdaa
open Go.RowKit

def entry (Q : List (Nat × List Int)) (i : Nat) : Nat × List Int := Q[i]?.getD (0, [])

/-- The state to which kind k + 1 leads from state s. -/
def nextOf (m : PMach) (s k : Nat) : Int := (m.next[s]?.getD [])[k]?.getD 0

def statesOf (Q : List (Nat × List Int)) : List Int := Q.map fun e => (e.1 : Int)
theorem statesOf_len (Q : List (Nat × List Int)) : (statesOf Q).length = Q.length := by simp [statesOf]
def seenIn (Q : List (Nat × List Int)) (n : Int) : Prop := ∃ j, j < Q.length ∧ ((entry Q j).1 : Int) = n
theorem seen_iff {Q : List (Nat × List Int)} {n : Int} : hasB (statesOf Q) n = true ↔ seenIn Q n := by
  rw [hasB_iff, statesOf, List.mem_map]
  constructor
  · rintro ⟨e, he, rfl⟩
    obtain ⟨j, hj, rfl⟩ := List.getElem_of_mem he
    exact ⟨j, hj, by simp [entry, hj]⟩
  · rintro ⟨j, hj, h⟩
    exact ⟨Q[j], List.getElem_mem hj, by rw [← h]; simp [entry, hj]⟩
theorem seen_no {Q : List (Nat × List Int)} {n : Int} : hasB (statesOf Q) n = false ↔ ¬ seenIn Q n := by rw [← seen_iff]; simp

/-- What kind k + 1 adds, from entry i. -/
def stepQ (m : PMach) (Q : List (Nat × List Int)) (i k : Nat) : List (Nat × List Int) :=
  if 0 ≤ nextOf m (entry Q i).1 k ∧ hasB (statesOf Q) (nextOf m (entry Q i).1 k) = false then Q ++ [((nextOf m (entry Q i).1 k).toNat, (entry Q i).2 ++ [(k : Int) + 1])] else Q

def runQ (m : PMach) : Nat → List (Nat × List Int)
  | 0 => [(0, [])]
  | t + 1 => if t / 8 < (runQ m t).length then stepQ m (runQ m t) (t / 8) (t % 8) else runQ m t

theorem entry_append {Q R : List (Nat × List Int)} {i : Nat} (h : i < Q.length) : entry (Q ++ R) i = entry Q i := by
  unfold entry; rw [List.getElem?_append_left h]

theorem entry_last {Q : List (Nat × List Int)} {e : Nat × List Int} : entry (Q ++ [e]) Q.length = e := by
  unfold entry; simp

theorem stepQ_new {m : PMach} {Q : List (Nat × List Int)} {i k : Nat} (h : 0 ≤ nextOf m (entry Q i).1 k) (h2 : ¬ seenIn Q (nextOf m (entry Q i).1 k)) : stepQ m Q i k = Q ++ [((nextOf m (entry Q i).1 k).toNat, (entry Q i).2 ++ [(k : Int) + 1])] := if_pos ⟨h, seen_no.2 h2⟩
theorem stepQ_old {m : PMach} {Q : List (Nat × List Int)} {i k : Nat} (h : ¬ (0 ≤ nextOf m (entry Q i).1 k ∧ ¬ seenIn Q (nextOf m (entry Q i).1 k))) : stepQ m Q i k = Q := if_neg fun e => h ⟨e.1, seen_no.1 e.2⟩

theorem stepQ_pre (m : PMach) (Q : List (Nat × List Int)) (i k : Nat) : ∃ R, stepQ m Q i k = Q ++ R := by
  unfold stepQ; split
  · exact ⟨_, rfl⟩
  · exact ⟨[], by simp⟩

theorem runQ_succ (m : PMach) (t : Nat) : ∃ R, runQ m (t + 1) = runQ m t ++ R := by
  rw [runQ]; split
  · exact stepQ_pre _ _ _ _
  · exact ⟨[], by simp⟩

theorem runQ_mono (m : PMach) (t d : Nat) : ∃ R, runQ m (t + d) = runQ m t ++ R := by
  induction d with
  | zero => exact ⟨[], by simp⟩
  | succ d ih =>
    obtain ⟨R, hR⟩ := ih
    obtain ⟨S, hS⟩ := runQ_succ m (t + d)
    exact ⟨R ++ S, by rw [Nat.add_succ, hS, hR, List.append_assoc]⟩

theorem runQ_stop {m : PMach} {t : Nat} (h : (runQ m t).length ≤ t / 8) (d : Nat) : runQ m (t + d) = runQ m t := by
  induction d with
  | zero => rfl
  | succ d ih =>
    rw [Nat.add_succ, runQ, if_neg (by rw [ih]; omega), ih]

def isFin (m : PMach) (e : Nat × List Int) : Bool := m.final[e.1]?.getD false

/-- What the search answers. -/
inductive FirstP (m : PMach) : Option (List Int) → Prop
  | hit (t j : Nat) (hj : j < (runQ m t).length) (hf : isFin m (entry (runQ m t) j) = true) (hn : ∀ i, i < j → isFin m (entry (runQ m t) i) = false) : FirstP m (some (entry (runQ m t) j).2)
  | no (t : Nat) (ht : (runQ m t).length ≤ t / 8) (hn : ∀ i, i < (runQ m t).length → isFin m (entry (runQ m t) i) = false) : FirstP m none

theorem first_hits {m : PMach} {t j t' j' : Nat} (hj : j < (runQ m t).length) (hf : isFin m (entry (runQ m t) j) = true) (hn : ∀ i, i < j → isFin m (entry (runQ m t) i) = false)
    (hj' : j' < (runQ m (t + t')).length) (hf' : isFin m (entry (runQ m (t + t')) j') = true) (hn' : ∀ i, i < j' → isFin m (entry (runQ m (t + t')) i) = false) : (entry (runQ m t) j).2 = (entry (runQ m (t + t')) j').2 := by
  obtain ⟨R, hR⟩ := runQ_mono m t t'
  have e : ∀ i, i < (runQ m t).length → entry (runQ m (t + t')) i = entry (runQ m t) i := fun i hi => by rw [hR]; exact entry_append hi
  rcases Nat.lt_trichotomy j j' with h | h | h
  · have := hn' j h; rw [e j hj, hf] at this; cases this
  · subst h; rw [e j hj]
  · have := hn j' h; rw [← e j' (by omega), hf'] at this; cases this

theorem first_hit_no {m : PMach} {t j t' : Nat} (hj : j < (runQ m t).length) (hf : isFin m (entry (runQ m t) j) = true) (ht : (runQ m t').length ≤ t' / 8) (hn : ∀ i, i < (runQ m t').length → isFin m (entry (runQ m t') i) = false) : False := by
  by_cases h : t ≤ t'
  · obtain ⟨d, rfl⟩ : ∃ d, t' = t + d := ⟨t' - t, by omega⟩
    obtain ⟨R, hR⟩ := runQ_mono m t d
    have := hn j (by rw [hR, List.length_append]; omega)
    rw [hR, entry_append hj, hf] at this
    cases this
  · obtain ⟨d, rfl⟩ : ∃ d, t = t' + d := ⟨t - t', by omega⟩
    rw [runQ_stop ht] at hj hf
    have := hn j hj
    rw [hf] at this; cases this

theorem FirstP.unique {m : PMach} {o o' : Option (List Int)} (h : FirstP m o) (h' : FirstP m o') : o = o' := by
  cases h with
  | hit t j hj hf hn =>
    cases h' with
    | hit t' j' hj' hf' hn' =>
      by_cases h : t ≤ t'
      · obtain ⟨d, rfl⟩ : ∃ d, t' = t + d := ⟨t' - t, by omega⟩
        rw [first_hits hj hf hn hj' hf' hn']
      · obtain ⟨d, rfl⟩ : ∃ d, t = t' + d := ⟨t - t', by omega⟩
        rw [first_hits hj' hf' hn' hj hf hn]
    | no t' ht' hn' => exact (first_hit_no hj hf ht' hn').elim
  | no t ht hn =>
    cases h' with
    | hit t' j' hj' hf' hn' => exact (first_hit_no hj' hf' ht hn).elim
    | no t' ht' hn' => rfl

noncomputable def firstOf (m : PMach) : Option (List Int) := Classical.epsilon (FirstP m)
theorem firstOf_eq {m : PMach} {o : Option (List Int)} (h : FirstP m o) : firstOf m = o := (Classical.epsilon_spec ⟨o, h⟩ : FirstP m (firstOf m)).unique h

/-- A list of states, each but once, each by fewer kids than its place. -/
structure QueP (m : PMach) (Q : List (Nat × List Int)) : Prop where
  pos : 0 < Q.length
  lt : ∀ j, j < Q.length → (entry Q j).1 < m.next.length
  once : ∀ i j, i < j → j < Q.length → (entry Q i).1 ≠ (entry Q j).1
  len : ∀ j, j < Q.length → (entry Q j).2.length ≤ j

theorem nodup_len : ∀ (n : Nat) (l : List Nat), l.Nodup → (∀ x ∈ l, x < n) → l.length ≤ n
  | 0, l, _, h => by
    cases l with
    | nil => simp
    | cons a l => exact absurd (h a (by simp)) (by omega)
  | n + 1, l, hd, h => by
    by_cases hn : n ∈ l
    · have h1 := nodup_len n (l.erase n) (hd.erase n) (fun x hx => by
        have h2 := (hd.mem_erase_iff).1 hx
        have h3 := h x h2.2
        have h4 := h2.1
        omega)
      rw [List.length_erase_of_mem hn] at h1
      omega
    · have h1 := nodup_len n l hd (fun x hx => by
        have h3 := h x hx
        have h4 : x ≠ n := fun e => hn (e ▸ hx)
        omega)
      omega

theorem QueP.length {m : PMach} {Q : List (Nat × List Int)} (h : QueP m Q) : Q.length ≤ m.next.length := by
  have := nodup_len m.next.length (Q.map Prod.fst) ?_ ?_
  · simpa using this
  · rw [List.nodup_iff_pairwise_ne, List.pairwise_iff_getElem]
    intro i j hi hj hij
    simp only [List.length_map] at hi hj
    have := h.once i j hij hj
    simpa [entry, hi, hj] using this
  · intro x hx
    obtain ⟨e, he, rfl⟩ := List.mem_map.1 hx
    obtain ⟨j, hj, rfl⟩ := List.getElem_of_mem he
    have := h.lt j hj
    simpa [entry, hj] using this

theorem nextOf_bounds {m : PMach} (h : MachP m) {s : Nat} (hs : s < m.next.length) {k : Nat} (hk : k < 8) : -1 ≤ nextOf m s k ∧ nextOf m s k ≤ (m.next.length : Int) - 1 := by
  have hr := h.row hs
  have h8 := hr.len
  unfold nextOf
  have hlt : k < (m.next[s]?.getD []).length := by omega
  rw [List.getElem?_eq_getElem hlt]
  exact hr.all _ (List.getElem_mem hlt)

theorem QueP.step {m : PMach} (hM : MachP m) {Q : List (Nat × List Int)} (h : QueP m Q) {i k : Nat} (hi : i < Q.length) (hk : k < 8) : QueP m (stepQ m Q i k) := by
  have hb := nextOf_bounds hM (h.lt i hi) hk
  by_cases hc : 0 ≤ nextOf m (entry Q i).1 k ∧ ¬ seenIn Q (nextOf m (entry Q i).1 k)
  · rw [stepQ_new hc.1 hc.2]
    generalize nextOf m (entry Q i).1 k = n at *
    have hlen : (Q ++ [(n.toNat, (entry Q i).2 ++ [(k : Int) + 1])]).length = Q.length + 1 := by simp
    have he : ∀ j, j < Q.length → entry (Q ++ [(n.toNat, (entry Q i).2 ++ [(k : Int) + 1])]) j = entry Q j := fun j hj => entry_append hj
    refine ⟨by omega, fun j hj => ?_, fun a b hab hbl => ?_, fun j hj => ?_⟩
    · rw [hlen] at hj
      by_cases e : j < Q.length
      · rw [he j e]; exact h.lt j e
      · obtain rfl : j = Q.length := by omega
        rw [entry_last]; show n.toNat < _; omega
    · rw [hlen] at hbl
      by_cases e : b < Q.length
      · rw [he a (by omega), he b e]; exact h.once a b hab e
      · obtain rfl : b = Q.length := by omega
        rw [entry_last, he a hab]
        intro e2
        exact hc.2 ⟨a, hab, by rw [e2]; show ((n.toNat : Nat) : Int) = n; omega⟩
    · rw [hlen] at hj
      by_cases e : j < Q.length
      · rw [he j e]; exact h.len j e
      · obtain rfl : j = Q.length := by omega
        rw [entry_last]
        have := h.len i hi
        show ((entry Q i).2 ++ [(k : Int) + 1]).length ≤ _
        simp; omega
  · rw [stepQ_old hc]; exact h

theorem runQ_ok {m : PMach} (hM : MachP m) (t : Nat) : QueP m (runQ m t) := by
  induction t with
  | zero => exact ⟨by simp [runQ], fun j hj => by simp [runQ] at hj; subst hj; simp [runQ, entry]; exact hM.one, fun i j h1 h2 => by simp [runQ] at h2; omega, fun j hj => by simp [runQ] at hj; subst hj; simp [runQ, entry]⟩
  | succ t ih =>
    rw [runQ]; split
    · rename_i h; exact ih.step hM h (Nat.mod_lt _ (by omega))
    · exact ih

/-- One step on, at entry i and kind k + 1. -/
theorem runQ_at {m : PMach} {i k : Nat} (hk : k < 8) (hi : i < (runQ m (8 * i + k)).length) : runQ m (8 * i + (k + 1)) = stepQ m (runQ m (8 * i + k)) i k := by
  have h1 : (8 * i + k) / 8 = i := by omega
  have h2 : (8 * i + k) % 8 = k := by omega
  rw [← Nat.add_assoc, runQ, h1, h2, if_pos hi]

theorem entry_run {m : PMach} {t d i : Nat} (hi : i < (runQ m t).length) : entry (runQ m (t + d)) i = entry (runQ m t) i ∧ i < (runQ m (t + d)).length := by
  obtain ⟨R, hR⟩ := runQ_mono m t d
  rw [hR]
  exact ⟨entry_append hi, by rw [List.length_append]; omega⟩

/-- The answer, and its code. -/
noncomputable def firstAns (r : Bool) (m : PMach) : List Int := if r = true then (firstOf m).getD [] else []
noncomputable def firstCode (r : Bool) (m : PMach) : Int := if r = true then (if firstOf m = none then 5 else 0) else 1
end Go.Proofs.Ytlbfjmfjakhmdaa
