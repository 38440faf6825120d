/-
  The law package's marks on a list of holds, to the number: what they answer, where they write and what lies there.
-/
import Derived.Test.YtfjhpfgffbghdaaHoldToJ
import Derived.Test.YtfjhpfgffbghdaaHoldRowsJ
import Derived.Test.YtfjhpfgffbghdaaJoinI
namespace Go.Proofs.Ytfjhpfgffbghdaa
open Go.RowKit

def RowIn3 (w : World) (a : Option Addr) (n : Nat) : Prop :=
  n = 0 ∨ ∃ b cs, a = some ⟨b, 0, none⟩ ∧ w.heap[b]? = some (.cells cs 42 (0, 0)) ∧ n * 3 ≤ cs.size

def Marks3 (w : World) (a : Option Addr) (n : Nat) (k : Int) : Prop :=
  n = 0 ∨ ∃ b cs, a = some ⟨b, 0, none⟩ ∧ w.heap[b]? = some (.cells cs 42 (0, 0)) ∧ n * 3 ≤ cs.size ∧ ∀ j, j < n → cs[j * 3]? = some (.int .i64 (k + (j : Int) * 3)) ∧ cs[j * 3 + 1]? = some (.int .i64 (k + (j : Int) * 3 + 1)) ∧ cs[j * 3 + 2]? = some (.int .i64 (k + (j : Int) * 3 + 1 + 1))

theorem Marks3.below {w w' : World} {a : Option Addr} {n : Nat} {k : Int} (h : Marks3 w a n k) (hb : Below w.heap.size w w') : Marks3 w' a n k := by
  rcases h with h | ⟨b, cs, rfl, hh, h1, h2⟩
  · exact .inl h
  · exact .inr ⟨b, cs, rfl, (hb.block b (Array.getElem?_eq_some_iff.1 hh).1).trans hh, h1, h2⟩

set_option maxHeartbeats 2000000 in
set_option maxRecDepth 100000 in
theorem markHoldsX_any (a : Option Addr) (n cap : Nat) (k : Int) (w : World) (h : RowIn3 w a n) (hn : n ≤ 1048576) (hk0 : 0 ≤ k) (hk : k ≤ 1000000000000) :
    Calls Try.prog 20 #[.slice a n cap, .int .i64 k] w fun e w' => e = .returned (.int .i64 (k + (n : Int) * 3)) ∧ OnlyRow w w' a ∧ Marks3 w' a n k := by
  rcases h with rfl | ⟨b, cs, rfl, hh, hsz⟩
  · go_enter Try.func20, Try.ntmps20
    go_wp2_with fail
    go_loopw [1, 5] (fun kv i wr => kv = .int .i64 k ∧ i = .int .i64 0 ∧ wr = w) (fun _ _ _ => 0)
    case atStart => exact ⟨rfl, rfl, rfl⟩
    case round =>
      obtain ⟨rfl, rfl, rfl⟩ := hrel
      go_wp2_with fail
      go_ret
      exact ⟨ret_int (by simp), ⟨rfl, fun _ _ => rfl, fun _ _ => Below.refl _ _⟩, .inl rfl⟩
  · have H0 := hide hh
    clear hh
    go_enter Try.func20, Try.ntmps20
    go_wp2_with fail
    go_loopw [1, 5] (fun kv i wr => ∃ (j : Nat) (cs' : Array Value), j ≤ n ∧ kv = .int .i64 (k + (j : Int) * 3) ∧ i = .int .i64 j ∧ wr.heap.size = w.heap.size ∧ Below b w wr ∧ Hid (∀ m, m ≠ b → wr.heap[m]? = w.heap[m]?) ∧ Hid (wr.heap[b]? = some (.cells cs' 42 (0, 0))) ∧ cs'.size = cs.size ∧ Hid (∀ i : Nat, i < j → cs'[i * 3]? = some (.int .i64 (k + (i : Int) * 3)) ∧ cs'[i * 3 + 1]? = some (.int .i64 (k + (i : Int) * 3 + 1)) ∧ cs'[i * 3 + 2]? = some (.int .i64 (k + (i : Int) * 3 + 1 + 1)))) (fun _ i _ => n - (intOf i).toNat)
    case atStart => exact ⟨0, cs, Nat.zero_le _, by simp, rfl, rfl, Below.refl _ _, fun _ _ => rfl, H0, rfl, fun i hi => absurd hi (by omega)⟩
    case round =>
      obtain ⟨j, cs', hj, rfl, rfl, hsw, hbl0, hoth, hbl, hcs, hmk⟩ := hrel
      by_cases hlt : j < n
      · have h3 : j * 3 + 2 < cs'.size := by omega
        have hcell : ∀ o, o < 3 → ∃ u, wr.cell? ⟨b, j * 3 + o, none⟩ = some u := fun o ho => by
          rw [cell_of_heap hbl.out (j * 3 + o)]
          exact ⟨_, Array.getElem?_eq_getElem (by omega)⟩
        obtain ⟨v0, d0⟩ := hcell 0 (by omega)
        obtain ⟨v1, d1⟩ := hcell 1 (by omega)
        obtain ⟨v2, d2⟩ := hcell 2 (by omega)
        have z0 := frozen_of_heap hbl.out (j * 3)
        have z1 := frozen_of_heap hbl.out (j * 3 + 1)
        have z2 := frozen_of_heap hbl.out (j * 3 + 2)
        rw [Nat.add_zero] at d0
        have hlt1 : (j : Int) < (n : Int) := by omega
        have HH3 := hide h3
        clear hcell
        go_wp2_with fail
        refine ⟨⟨j + 1, (((cs'.setIfInBounds (j * 3) (.int .i64 (k + (j : Int) * 3))).setIfInBounds (j * 3 + 1) (.int .i64 (k + (j : Int) * 3 + 1))).setIfInBounds (j * 3 + 2) (.int .i64 (k + (j : Int) * 3 + 1 + 1))), by omega, by go_num, by go_num, by simp [hsw], ((hbl0.setCell (p := ⟨b, j * 3, none⟩) (Nat.le_refl _) _).setCell (p := ⟨b, j * 3 + 1, none⟩) (Nat.le_refl _) _).setCell (p := ⟨b, j * 3 + 2, none⟩) (Nat.le_refl _) _, fun m hm => ?_, heap_setCell_same _ b _ _ _ _ (heap_setCell_same _ b _ _ _ _ (heap_setCell_same wr b _ _ _ _ hbl.out)), by simp [hcs], fun i hi => ?_⟩, by simp [intOf]; omega⟩
        · rw [heap_setCell_other _ _ _ _ (by exact hm), heap_setCell_other _ _ _ _ (by exact hm), heap_setCell_other _ _ _ _ (by exact hm)]; exact hoth.out m hm
        · obtain ⟨f1, f2⟩ := @set_three cs' j i (.int .i64 (k + (j : Int) * 3)) (.int .i64 (k + (j : Int) * 3 + 1)) (.int .i64 (k + (j : Int) * 3 + 1 + 1)) HH3.out
          by_cases e : i = j
          · subst e; exact f1 rfl
          · obtain ⟨b0, b1, b2⟩ := hmk.out i (by omega)
            have g := f2 e
            have g0 := g 0 (by omega)
            rw [Nat.add_zero] at g0
            exact ⟨g0.trans b0, (g 1 (by omega)).trans b1, (g 2 (by omega)).trans b2⟩
      · obtain rfl : j = n := by omega
        go_wp2_with fail
        go_ret
        exact ⟨rfl, ⟨hsw, fun m hm => hoth.out m (hm b rfl), fun n hn => hbl0.mono (hn b rfl)⟩, .inr ⟨b, cs', rfl, hbl.out, by omega, hmk.out⟩⟩

set_option maxHeartbeats 2000000 in
set_option maxRecDepth 100000 in
theorem heldHoldsX_any (a : Option Addr) (n cap : Nat) (k : Int) (w : World) (h : Marks3 w a n k) (hn : n ≤ 1048576) (hk0 : 0 ≤ k) (hk : k ≤ 1000000000000) :
    Calls Try.prog 21 #[.slice a n cap, .int .i64 k] w fun e w' => e = .returned (.int .i64 (k + (n : Int) * 3)) ∧ w' = w := by
  rcases h with rfl | ⟨b, cs, rfl, hh, hsz, hm⟩
  · go_enter Try.func21, Try.ntmps21
    go_wp2_with fail
    go_loopw [1, 5] (fun kv i wr => kv = .int .i64 k ∧ i = .int .i64 0 ∧ wr = w) (fun _ _ _ => 0)
    case atStart => exact ⟨rfl, rfl, rfl⟩
    case round =>
      obtain ⟨rfl, rfl, rfl⟩ := hrel
      go_wp2_with fail
      go_ret
      exact ⟨ret_int (by simp), rfl⟩
  · have HM := hide hm
    have HH := hide hh
    clear hm hh
    go_enter Try.func21, Try.ntmps21
    go_wp2_with fail
    go_loopw [1, 5] (fun kv i wr => ∃ j : Nat, j ≤ n ∧ kv = .int .i64 (k + (j : Int) * 3) ∧ i = .int .i64 j ∧ wr = w) (fun _ i _ => n - (intOf i).toNat)
    case atStart => exact ⟨0, Nat.zero_le _, by simp, rfl, rfl⟩
    case round =>
      obtain ⟨j, hj, rfl, rfl, rfl⟩ := hrel
      by_cases hlt : j < n
      · obtain ⟨m0, m1, m2⟩ := HM.out j hlt
        have hc0 := (cell_of_heap HH.out (j * 3)).trans m0
        have hc1 := (cell_of_heap HH.out (j * 3 + 1)).trans m1
        have hc2 := (cell_of_heap HH.out (j * 3 + 2)).trans m2
        have hlt1 : (j : Int) < (n : Int) := by omega
        clear m0 m1 m2
        go_wp2_with fail
        exact ⟨⟨j + 1, by omega, by go_num, by go_num, by trivial⟩, by simp [intOf]; omega⟩
      · obtain rfl : j = n := by omega
        go_wp2_with fail
        go_ret
        exact ⟨rfl, rfl⟩

/-- A list of holds in a block of its own, or none. -/
def HoldsIn (lo hi : Nat) (w : World) (v : Value) (K : List PHold) : Prop :=
  ∃ a c, v = .slice a K.length c ∧ ((a = none ∧ K = []) ∨ ∃ g cs, a = some ⟨g, 0, none⟩ ∧ lo ≤ g ∧ g < hi ∧ w.heap[g]? = some (.cells cs 42 (0, 0)) ∧ K.length * 3 ≤ cs.size ∧ ∀ j, j < K.length → cs[j * 3]? = some (.int .i64 (K[j]?.getD holdNil).session) ∧ cs[j * 3 + 1]? = some (.int .i64 (K[j]?.getD holdNil).node) ∧ cs[j * 3 + 2]? = some (.int .i64 (K[j]?.getD holdNil).mode))

theorem HoldsIn.of_row {lo : Nat} {w : World} {v : Value} {K : List PHold} (h : w.ownsRow lo 42 3 v K.length (holdVals K)) : HoldsIn lo w.heap.size w v K := by
  obtain ⟨_, ⟨rfl, h0⟩ | ⟨g, cap, cur, rfl, hg, hh, h1, h2, h3, h4⟩⟩ := h
  · have : K = [] := List.eq_nil_of_length_eq_zero h0
    subst this
    exact ⟨none, 0, rfl, .inl ⟨rfl, rfl⟩⟩
  · have G : ∀ j o u, j < K.length → o < 3 → (holdCells (K[j]?.getD holdNil))[o]? = some u → cur[j * 3 + o]? = some u := fun j o u hj ho hu => by
      have h5 : (cur.toList.take (K.length * 3))[j * 3 + o]? = (holdVals K)[j * 3 + o]? := by rw [h4]
      rw [List.getElem?_take, if_pos (by omega), Array.getElem?_toList] at h5
      exact h5.trans ((holdVals_get hj ho).trans hu)
    exact ⟨_, cap, rfl, .inr ⟨g, cur, rfl, hg, (Array.getElem?_eq_some_iff.1 hh).1, hh, by omega, fun j hj => ⟨by simpa using G j 0 _ hj (by decide) rfl, G j 1 _ hj (by decide) rfl, G j 2 _ hj (by decide) rfl⟩⟩⟩

theorem HoldsIn.at {lo hi : Nat} {w : World} {v : Value} {K : List PHold} (h : HoldsIn lo hi w v K) : HoldsAt hi w v K := by
  obtain ⟨a, c, rfl, ⟨rfl, rfl⟩ | ⟨g, cs, rfl, h1, h2, h3, h4, h5⟩⟩ := h
  · exact ⟨none, c, rfl, .inl rfl⟩
  · refine ⟨_, c, rfl, .inr ⟨g, 0, rfl, h2, fun j hj => ?_⟩⟩
    obtain ⟨g0, g1, g2⟩ := h5 j hj
    rw [Nat.zero_add]
    exact ⟨by rw [cell_of_heap h3, g0], by rw [cell_of_heap h3, g1], by rw [cell_of_heap h3, g2]⟩

theorem HoldsIn.heap {lo hi : Nat} {w w' : World} {v : Value} {K : List PHold} (h : HoldsIn lo hi w v K) (hb : ∀ g, lo ≤ g → g < hi → w'.heap[g]? = w.heap[g]?) : HoldsIn lo hi w' v K := by
  obtain ⟨a, c, rfl, h | ⟨g, cs, rfl, h1, h2, h3, h4⟩⟩ := h
  · exact ⟨_, c, rfl, .inl h⟩
  · exact ⟨_, c, rfl, .inr ⟨g, cs, rfl, h1, h2, (hb g h1 h2).trans h3, h4⟩⟩

theorem HoldsIn.below {lo hi : Nat} {w w' : World} {v : Value} {K : List PHold} (h : HoldsIn lo hi w v K) (hb : Below hi w w') : HoldsIn lo hi w' v K := h.heap fun g _ h2 => hb.block g h2

theorem HoldsIn.row {lo hi : Nat} {w : World} {v : Value} {K : List PHold} (h : HoldsIn lo hi w v K) : ∃ a c, v = .slice a K.length c ∧ RowIn3 w a K.length ∧ (∀ b, a = some ⟨b, 0, none⟩ → lo ≤ b ∧ b < hi) := by
  obtain ⟨a, c, rfl, ⟨rfl, rfl⟩ | ⟨g, cs, rfl, h1, h2, h3, h4, _⟩⟩ := h
  · exact ⟨none, c, rfl, .inl rfl, fun b e => by cases e⟩
  · exact ⟨_, c, rfl, .inr ⟨g, cs, rfl, h3, h4⟩, fun b e => by cases e; exact ⟨h1, h2⟩⟩
end Go.Proofs.Ytfjhpfgffbghdaa
