/-
  Marks on a list of numbers keep the sizes of all blocks; what is written within bounds.
-/
import Derived.Test.YtmcopoonnhcdjaaDoorMarkInts
namespace Go.Proofs.YtmcopoonnhcdjaaDoor
open Go.RowKit

/-- Each block of cells stays one, as long as it was. -/
def KeepsSizes (w w' : World) : Prop := ∀ (m : Nat) (cs : Array Value) (T : TypeId), w.heap[m]? = some (.cells cs T (0, 0)) → ∃ cs', w'.heap[m]? = some (.cells cs' T (0, 0)) ∧ cs'.size = cs.size

theorem keeps_of {w w' : World} {b : Nat} {cs cs' : Array Value} {T : TypeId} (h : w.heap[b]? = some (.cells cs T (0, 0))) (h' : w'.heap[b]? = some (.cells cs' T (0, 0))) (hs : cs'.size = cs.size) (ho : ∀ m, m ≠ b → w'.heap[m]? = w.heap[m]?) : KeepsSizes w w' := fun m c t hm => by
  by_cases e : m = b
  · subst e
    rw [h] at hm
    simp only [Option.some.injEq, Obj.cells.injEq] at hm
    obtain ⟨rfl, rfl, -⟩ := hm
    exact ⟨cs', h', hs⟩
  · exact ⟨c, (ho m e).trans hm, rfl⟩

set_option maxHeartbeats 400000 in
theorem markInts_keeps (a : Option Addr) (n cap : Nat) (k : Int) (w : World) (h : RowIn w a n 3) (hn : n ≤ 1048576) (hk0 : 0 ≤ k) (hk : k ≤ 2000000000000000000) :
    Calls Tryd.prog 23 #[.slice a n cap, .int .i64 k] w fun e w' => e = .returned (.int .i64 (k + n)) ∧ OnlyRow w w' a ∧ KeepsSizes w w' := by
  rcases h with rfl | ⟨b, cs, rfl, hh, hsz⟩
  · go_enter Tryd.func23, Tryd.ntmps23
    go_wp2_with fail
    go_loopw [1, 5] (fun kv i wr => kv = .int .i64 k ∧ i = .int .i64 0 ∧ wr = w) (fun _ _ _ => 0)
    case atStart => exact ⟨rfl, rfl, rfl⟩
    case round =>
      obtain ⟨rfl, rfl, rfl⟩ := hrel
      go_wp2_with fail
      go_ret
      exact ⟨ret_int (by simp), ⟨rfl, fun _ _ => rfl, fun _ _ => Below.refl _ _⟩, fun _ _ _ h => ⟨_, h, rfl⟩⟩
  · go_enter Tryd.func23, Tryd.ntmps23
    go_wp2_with fail
    go_loopw [1, 5] (fun kv i wr => ∃ (j : Nat) (cs' : Array Value), j ≤ n ∧ kv = .int .i64 (k + j) ∧ i = .int .i64 j ∧ wr.heap.size = w.heap.size ∧ Below b w wr ∧ Hid (∀ m, m ≠ b → wr.heap[m]? = w.heap[m]?) ∧ wr.heap[b]? = some (.cells cs' 3 (0, 0)) ∧ cs'.size = cs.size ∧ Hid (∀ i, i < j → cs'[i]? = some (.int .i64 (k + i)))) (fun _ i _ => n - (intOf i).toNat)
    case atStart => exact ⟨0, cs, Nat.zero_le _, by simp, rfl, rfl, Below.refl _ _, fun _ _ => rfl, hh, rfl, fun i hi => absurd hi (by omega)⟩
    case round =>
      obtain ⟨j, cs', hj, rfl, rfl, hsw, hbl0, hoth, hbl, hcs, hmk⟩ := hrel
      by_cases hlt : j < n
      · have hc : wr.cell? ⟨b, j, none⟩ = some (cs'[j]?.getD (.int .i64 0)) := by
          rw [cell_of_heap hbl j]
          have : j < cs'.size := by omega
          simp [this]
        have hfz := frozen_of_heap hbl j
        have hlt1 : (j : Int) < (n : Int) := by omega
        have HH := hide hbl
        have H1 := hide hh
        clear hbl hh
        generalize cs'[j]?.getD (.int .i64 0) = old at *
        go_wp2_with fail
        refine ⟨⟨j + 1, cs'.setIfInBounds j (.int .i64 (k + j)), by omega, by go_num, by go_num, by simp [hsw], hbl0.setCell (p := ⟨b, j, none⟩) (Nat.le_refl _) _, fun m hm => ?_, ?_, by simp [hcs], fun i hi => ?_⟩, by simp [intOf]; omega⟩
        · rw [heap_setCell_other _ _ _ _ (by exact hm)]; exact hoth.out m hm
        · exact heap_setCell_same _ _ _ _ _ _ HH.out
        · rw [Array.getElem?_setIfInBounds]
          rcases Nat.lt_succ_iff_lt_or_eq.1 hi with h | rfl
          · rw [if_neg (by omega)]; exact hmk.out i h
          · rw [if_pos rfl, if_pos (by omega)]
      · obtain rfl : j = n := by omega
        have HH := hide hbl
        have H1 := hide hh
        clear hbl hh
        go_wp2_with fail
        go_ret
        exact ⟨rfl, ⟨hsw, fun m hm => hoth.out m (hm b rfl), fun n hn => hbl0.mono (hn b rfl)⟩, keeps_of H1.out HH.out hcs hoth.out⟩

theorem KeepsSizes.trans {A B C : World} (h : KeepsSizes A B) (k : KeepsSizes B C) : KeepsSizes A C := fun m cs T hm => by
  obtain ⟨c1, h1, e1⟩ := h m cs T hm
  obtain ⟨c2, h2, e2⟩ := k m c1 T h1
  exact ⟨c2, h2, e2.trans e1⟩
theorem keeps_below {A B : World} (hb : Below A.heap.size A B) : KeepsSizes A B := fun m cs _ hm => ⟨cs, (hb.block m (Array.getElem?_eq_some_iff.1 hm).1).trans hm, rfl⟩
theorem keeps_set {A : World} {b i : Nat} {v : Value} : KeepsSizes A (A.setCell ⟨b, i, none⟩ v) := fun m cs T hm => by
  by_cases e : m = b
  · subst e; exact ⟨_, heap_setCell_same _ _ _ _ _ _ hm, by simp⟩
  · exact ⟨cs, (heap_setCell_other _ _ _ _ (by exact e)).trans hm, rfl⟩

/-- What is written lies from lo on, below hi. -/
structure Within (w w' : World) (lo hi : Nat) : Prop where
  below : Below lo w w'
  above : ∀ m, hi ≤ m → m < w.heap.size → w'.heap[m]? = w.heap[m]?
end Go.Proofs.YtmcopoonnhcdjaaDoor
