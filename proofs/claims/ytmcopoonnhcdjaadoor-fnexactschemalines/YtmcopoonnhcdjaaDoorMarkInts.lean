/-
  The law package's marks on a list of numbers: what markIntS writes and what heldIntS answers behind it.
-/
import Derived.Test.YtmcopoonnhcdjaaDoorLawInts
import Derived.Test.YtmcopoonnhcdjaaDoorBasicIn
namespace Go.Proofs.YtmcopoonnhcdjaaDoor
open Go.RowKit

/-- A list that lies at the start of a block of its own; or an empty one. -/
def RowIn (w : World) (a : Option Addr) (n : Nat) (T : TypeId) : Prop :=
  n = 0 ∨ ∃ b cs, a = some ⟨b, 0, none⟩ ∧ w.heap[b]? = some (.cells cs T (0, 0)) ∧ n ≤ cs.size

/-- The list's block is written, and nothing else. -/
structure OnlyRow (w w' : World) (a : Option Addr) : Prop where
  size : w'.heap.size = w.heap.size
  same : ∀ m, (∀ b, a = some ⟨b, 0, none⟩ → m ≠ b) → w'.heap[m]? = w.heap[m]?
  below : ∀ n, (∀ b, a = some ⟨b, 0, none⟩ → n ≤ b) → Below n w w'

/-- The numbers from k on lie in it. -/
def MarksIn (w : World) (a : Option Addr) (n : Nat) (k : Int) (T : TypeId) : Prop :=
  n = 0 ∨ ∃ b cs, a = some ⟨b, 0, none⟩ ∧ w.heap[b]? = some (.cells cs T (0, 0)) ∧ n ≤ cs.size ∧ ∀ j, j < n → cs[j]? = some (.int .i64 (k + j))

set_option maxHeartbeats 400000 in
theorem markInts_any (a : Option Addr) (n cap : Nat) (k : Int) (w : World) (h : RowIn w a n 3) (hn : n ≤ 1048576) (hk0 : 0 ≤ k) (hk : k ≤ 1000000000000) :
    Calls Tryd.prog 23 #[.slice a n cap, .int .i64 k] w fun e w' => e = .returned (.int .i64 (k + n)) ∧ OnlyRow w w' a ∧ MarksIn w' a n k 3 := by
  rcases h with rfl | ⟨b, cs, rfl, hh, hsz⟩
  · go_enter Tryd.func23, Tryd.ntmps23
    go_wp2_with fail
    go_loopw [1, 5] (fun kv i wr => kv = .int .i64 k ∧ i = .int .i64 0 ∧ wr = w) (fun _ _ _ => 0)
    case atStart => exact ⟨rfl, rfl, rfl⟩
    case round =>
      obtain ⟨rfl, rfl, rfl⟩ := hrel
      go_wp2_with fail
      go_ret
      exact ⟨ret_int (by simp), ⟨rfl, fun _ _ => rfl, fun _ _ => Below.refl _ _⟩, .inl rfl⟩
  · go_enter Tryd.func23, Tryd.ntmps23
    go_wp2_with fail
    go_loopw [1, 5] (fun kv i wr => ∃ (j : Nat) (cs' : Array Value), j ≤ n ∧ kv = .int .i64 (k + j) ∧ i = .int .i64 j ∧ wr.heap.size = w.heap.size ∧ Below b w wr ∧ Hid (∀ m, m ≠ b → wr.heap[m]? = w.heap[m]?) ∧ wr.heap[b]? = some (.cells cs' 3 (0, 0)) ∧ cs'.size = cs.size ∧ Hid (∀ i, i < j → cs'[i]? = some (.int .i64 (k + i)))) (fun _ i _ => n - (intOf i).toNat)
    case atStart => exact ⟨0, cs, Nat.zero_le _, by simp, rfl, rfl, Below.refl _ _, fun _ _ => rfl, hh, rfl, fun i hi => absurd hi (by omega)⟩
    case round =>
      obtain ⟨j, cs', hj, rfl, rfl, hsw, hbl0, hoth, hbl, hcs, hmk⟩ := hrel
      by_cases hlt : j < n
      · have hc : wr.cell? ⟨b, j, none⟩ = some (cs'[j]?.getD (.int .i64 0)) := by
          rw [cell_of_heap hbl j]
          have : j < cs'.size := by omega
          simp [this]
        have hfz := frozen_of_heap hbl j
        have hlt1 : (j : Int) < (n : Int) := by omega
        have HH := hide hbl
        have H1 := hide hh
        clear hbl hh
        generalize cs'[j]?.getD (.int .i64 0) = old at *
        go_wp2_with fail
        refine ⟨⟨j + 1, cs'.setIfInBounds j (.int .i64 (k + j)), by omega, by go_num, by go_num, by simp [hsw], hbl0.setCell (p := ⟨b, j, none⟩) (Nat.le_refl _) _, fun m hm => ?_, ?_, by simp [hcs], fun i hi => ?_⟩, by simp [intOf]; omega⟩
        · rw [heap_setCell_other _ _ _ _ (by exact hm)]; exact hoth.out m hm
        · exact heap_setCell_same _ _ _ _ _ _ HH.out
        · rw [Array.getElem?_setIfInBounds]
          rcases Nat.lt_succ_iff_lt_or_eq.1 hi with h | rfl
          · rw [if_neg (by omega)]; exact hmk.out i h
          · rw [if_pos rfl, if_pos (by omega)]
      · obtain rfl : j = n := by omega
        have HH := hide hbl
        have H1 := hide hh
        clear hbl hh
        go_wp2_with fail
        go_ret
        exact ⟨rfl, ⟨hsw, fun m hm => hoth.out m (hm b rfl), fun n hn => hbl0.mono (hn b rfl)⟩, .inr ⟨b, cs', rfl, HH.out, by omega, hmk.out⟩⟩

set_option maxHeartbeats 400000 in
theorem heldInts_any (a : Option Addr) (n cap : Nat) (k : Int) (w : World) (h : MarksIn w a n k 3) (hn : n ≤ 1048576) (hk0 : 0 ≤ k) (hk : k ≤ 1000000000000) :
    Calls Tryd.prog 24 #[.slice a n cap, .int .i64 k] w fun e w' => e = .returned (.int .i64 (k + n)) ∧ w' = w := by
  rcases h with rfl | ⟨b, cs, rfl, hh, hsz, hm⟩
  · go_enter Tryd.func24, Tryd.ntmps24
    go_wp2_with fail
    go_loopw [1, 5] (fun kv i wr => kv = .int .i64 k ∧ i = .int .i64 0 ∧ wr = w) (fun _ _ _ => 0)
    case atStart => exact ⟨rfl, rfl, rfl⟩
    case round =>
      obtain ⟨rfl, rfl, rfl⟩ := hrel
      go_wp2_with fail
      go_ret
      exact ⟨ret_int (by simp), rfl⟩
  · have HM := hide hm
    have HH := hide hh
    clear hm hh
    go_enter Tryd.func24, Tryd.ntmps24
    go_wp2_with fail
    go_loopw [1, 5] (fun kv i wr => ∃ j : Nat, j ≤ n ∧ kv = .int .i64 (k + j) ∧ i = .int .i64 j ∧ wr = w) (fun _ i _ => n - (intOf i).toNat)
    case atStart => exact ⟨0, Nat.zero_le _, by simp, rfl, rfl⟩
    case round =>
      obtain ⟨j, hj, rfl, rfl, rfl⟩ := hrel
      by_cases hlt : j < n
      · have hc : wr.cell? ⟨b, j, none⟩ = some (.int .i64 (k + j)) := by rw [cell_of_heap HH.out j]; exact HM.out j hlt
        have hlt1 : (j : Int) < (n : Int) := by omega
        go_wp2_with fail
        exact ⟨⟨j + 1, by omega, by go_num, by go_num, by trivial⟩, by simp [intOf]; omega⟩
      · obtain rfl : j = n := by omega
        go_wp2_with fail
        go_ret
        exact ⟨rfl, rfl⟩
end Go.Proofs.YtmcopoonnhcdjaaDoor
