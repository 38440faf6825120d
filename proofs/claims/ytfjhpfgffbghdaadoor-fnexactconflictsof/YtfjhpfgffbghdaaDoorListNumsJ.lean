/-
  A list of numbers in a block of its own, or none; what is written elsewhere leaves it.
-/
import Derived.Test.YtfjhpfgffbghdaaDoorJoinL
import Derived.Test.YtfjhpfgffbghdaaDoorRowFactsJ
namespace Go.Proofs.YtfjhpfgffbghdaaDoor
open Go.RowKit

def ListIn (lo hi : Nat) (w : World) (v : Value) (ks : List Int) : Prop :=
  ∃ a c, v = .slice a ks.length c ∧ ((a = none ∧ ks = []) ∨ ∃ g cs, a = some ⟨g, 0, none⟩ ∧ lo ≤ g ∧ g < hi ∧ w.heap[g]? = some (.cells cs 3 (0, 0)) ∧ ks.length ≤ cs.size ∧ ∀ j, j < ks.length → cs[j]? = some (.int .i64 (ks[j]?.getD 0)))

theorem ListIn.of_row {lo : Nat} {w : World} {v : Value} {ks : List Int} (h : w.ownsRow lo 3 1 v ks.length (ks.map (Value.int .i64))) : ListIn lo w.heap.size w v ks := by
  obtain ⟨_, ⟨rfl, h0⟩ | ⟨g, cap, cur, rfl, hg, hh, h1, h2, h3, h4⟩⟩ := h
  · have : ks = [] := List.eq_nil_of_length_eq_zero h0
    subst this
    exact ⟨none, 0, rfl, .inl ⟨rfl, rfl⟩⟩
  · refine ⟨_, cap, rfl, .inr ⟨g, cur, rfl, hg, (Array.getElem?_eq_some_iff.1 hh).1, hh, by omega, fun j hj => ?_⟩⟩
    have h5 : (cur.toList.take ks.length)[j]? = (ks.map (Value.int .i64))[j]? := by
      have := h4; simp only [Nat.mul_one] at this; rw [this]
    rw [List.getElem?_take, if_pos hj, Array.getElem?_toList] at h5
    rw [h5]; simp [hj]

theorem ListIn.at {lo hi : Nat} {w : World} {v : Value} {ks : List Int} (h : ListIn lo hi w v ks) : IntsAt hi w v ks := by
  obtain ⟨a, c, rfl, ⟨rfl, rfl⟩ | ⟨g, cs, rfl, h1, h2, h3, h4, h5⟩⟩ := h
  · exact ⟨none, c, rfl, .inl rfl⟩
  · exact ⟨_, c, rfl, .inr ⟨g, 0, rfl, h2, fun j hj => by rw [Nat.zero_add, cell_of_heap h3, h5 j hj]⟩⟩

theorem ListIn.heap {lo hi : Nat} {w w' : World} {v : Value} {ks : List Int} (h : ListIn lo hi w v ks) (hb : ∀ g, lo ≤ g → g < hi → w'.heap[g]? = w.heap[g]?) : ListIn lo hi w' v ks := by
  obtain ⟨a, c, rfl, h | ⟨g, cs, rfl, h1, h2, h3, h4, h5⟩⟩ := h
  · exact ⟨a, c, rfl, .inl h⟩
  · exact ⟨_, c, rfl, .inr ⟨g, cs, rfl, h1, h2, (hb g h1 h2).trans h3, h4, h5⟩⟩

theorem ListIn.below {lo hi : Nat} {w w' : World} {v : Value} {ks : List Int} (h : ListIn lo hi w v ks) (hb : Below hi w w') : ListIn lo hi w' v ks := h.heap fun g _ h2 => hb.block g h2

theorem ListIn.row {lo hi : Nat} {w : World} {v : Value} {ks : List Int} (h : ListIn lo hi w v ks) : ∃ a c, v = .slice a ks.length c ∧ RowIn w a ks.length 3 ∧ (∀ b, a = some ⟨b, 0, none⟩ → lo ≤ b ∧ b < hi) := by
  obtain ⟨a, c, rfl, ⟨rfl, rfl⟩ | ⟨g, cs, rfl, h1, h2, h3, h4, h5⟩⟩ := h
  · exact ⟨none, c, rfl, .inl rfl, fun b hb => by cases hb⟩
  · exact ⟨_, c, rfl, .inr ⟨g, cs, rfl, h3, h4⟩, fun b hb => by cases hb; exact ⟨h1, h2⟩⟩

theorem MarksIn.below {w w' : World} {a : Option Addr} {n : Nat} {k : Int} {T : TypeId} (h : MarksIn w a n k T) (hb : Below w.heap.size w w') : MarksIn w' a n k T := by
  rcases h with h | ⟨b, cs, rfl, h1, h2⟩
  · exact .inl h
  · exact .inr ⟨b, cs, rfl, (hb.block b (Array.getElem?_eq_some_iff.1 h1).1).trans h1, h2⟩
end Go.Proofs.YtfjhpfgffbghdaaDoor
