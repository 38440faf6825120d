/-
  The law package's comparison of lists of texts, and its marks on them.
-/
import Derived.Test.YtmcopoonnhcdjaaDoorMarkBig
import Derived.Test.YtmcopoonnhcdjaaDoorMarkKeeps
import Derived.Test.YtmcopoonnhcdjaaDoorSchLines
namespace Go.Proofs.YtmcopoonnhcdjaaDoor
open Go.RowKit

/-- A list of texts in a block of its own, or none. -/
def TextsIn (lo hi : Nat) (w : World) (v : Value) (ss : List ByteArray) : Prop :=
  ∃ a c, v = .slice a ss.length c ∧ ((a = none ∧ ss = []) ∨ ∃ g cs, a = some ⟨g, 0, none⟩ ∧ lo ≤ g ∧ g < hi ∧ w.heap[g]? = some (.cells cs 9 (0, 0)) ∧ ss.length ≤ cs.size ∧ ∀ j, j < ss.length → cs[j]? = some (.string (ss[j]?.getD ByteArray.empty)))

theorem TextsIn.of_row {lo : Nat} {w : World} {v : Value} {ss : List ByteArray} (h : w.ownsRow lo 9 1 v ss.length (ss.map Value.string)) : TextsIn lo w.heap.size w v ss := by
  obtain ⟨_, ⟨rfl, h0⟩ | ⟨g, cap, cur, rfl, hg, hh, h1, h2, h3, h4⟩⟩ := h
  · have : ss = [] := List.eq_nil_of_length_eq_zero h0
    subst this
    exact ⟨none, 0, rfl, .inl ⟨rfl, rfl⟩⟩
  · refine ⟨_, cap, rfl, .inr ⟨g, cur, rfl, hg, (Array.getElem?_eq_some_iff.1 hh).1, hh, by omega, fun j hj => ?_⟩⟩
    have h5 : (cur.toList.take ss.length)[j]? = (ss.map Value.string)[j]? := by
      have := h4; simp only [Nat.mul_one] at this; rw [this]
    rw [List.getElem?_take, if_pos hj, Array.getElem?_toList] at h5
    rw [h5]; simp [hj]

theorem TextsIn.at {lo hi : Nat} {w : World} {v : Value} {ss : List ByteArray} (h : TextsIn lo hi w v ss) : TextsAt hi w v ss := by
  obtain ⟨a, c, rfl, ⟨rfl, rfl⟩ | ⟨g, cs, rfl, h1, h2, h3, h4, h5⟩⟩ := h
  · exact ⟨none, c, rfl, .inl rfl⟩
  · exact ⟨_, c, rfl, .inr ⟨g, 0, rfl, h2, fun j hj => by rw [Nat.zero_add, cell_of_heap h3, h5 j hj]⟩⟩

theorem TextsIn.heap {lo hi : Nat} {w w' : World} {v : Value} {ss : List ByteArray} (h : TextsIn lo hi w v ss) (hb : ∀ g, lo ≤ g → g < hi → w'.heap[g]? = w.heap[g]?) : TextsIn lo hi w' v ss := by
  obtain ⟨a, c, rfl, h | ⟨g, cs, rfl, h1, h2, h3, h4, h5⟩⟩ := h
  · exact ⟨a, c, rfl, .inl h⟩
  · exact ⟨_, c, rfl, .inr ⟨g, cs, rfl, h1, h2, (hb g h1 h2).trans h3, h4, h5⟩⟩

theorem TextsIn.below {lo hi : Nat} {w w' : World} {v : Value} {ss : List ByteArray} (h : TextsIn lo hi w v ss) (hb : Below hi w w') : TextsIn lo hi w' v ss := h.heap fun g _ h2 => hb.block g h2

/-- The marks from 1 on lie in it. -/
def TextMarks (w : World) (a : Option Addr) (n : Nat) : Prop :=
  n = 0 ∨ ∃ b cs, a = some ⟨b, 0, none⟩ ∧ w.heap[b]? = some (.cells cs 9 (0, 0)) ∧ n ≤ cs.size ∧ ∀ j, j < n → cs[j]? = some (.string (markOf (1 + j)))

theorem TextMarks.below {w w' : World} {a : Option Addr} {n : Nat} (h : TextMarks w a n) (hb : Below w.heap.size w w') : TextMarks w' a n := by
  rcases h with h | ⟨b, cs, rfl, h1, h2⟩
  · exact .inl h
  · exact .inr ⟨b, cs, rfl, (hb.block b (Array.getElem?_eq_some_iff.1 h1).1).trans h1, h2⟩

set_option maxHeartbeats 400000 in
theorem eqTexts_any (n₀ : Nat) (v v' : Value) (ks : List ByteArray) (w : World) (h : TextsAt n₀ w v ks) (h' : TextsAt n₀ w v' ks) (hl : ks.length ≤ 1048576) :
    Calls Tryd.prog 31 #[v, v'] w fun e w' => e = .returned (.bool true) ∧ Below w.heap.size w w' := by
  obtain ⟨a, cap, rfl, hk⟩ := h
  obtain ⟨a', cap', rfl, hk'⟩ := h'
  go_enter Tryd.func31, Tryd.ntmps31
  go_wp2_with fail
  go_loopw [5] (fun i wr => ∃ k : Nat, k ≤ ks.length ∧ i = .int .i64 k ∧ ∃ q, wr = w.drewN q) (fun i _ => ks.length - (intOf i).toNat)
  case atStart => exact ⟨0, Nat.zero_le _, rfl, 0, rfl⟩
  case round =>
    obtain ⟨k, hkl, rfl, q, rfl⟩ := hrel
    by_cases hlt : k < ks.length
    · obtain ⟨b, off, rfl, hb, hc⟩ := hk.resolve_left (by intro e; simp [e] at hlt)
      obtain ⟨b', off', rfl, hb', hc'⟩ := hk'.resolve_left (by intro e; simp [e] at hlt)
      have hck := hc k hlt
      have hck' := hc' k hlt
      have hlt1 : (k : Int) < (ks.length : Int) := by omega
      clear hc hc' hk hk'
      generalize ks[k]?.getD ByteArray.empty = y at *
      have hsa : (y.toList == y.toList) = true := by simp
      have hsb : (y.toList != y.toList) = false := by simp
      go_wp2_with fail
      go_quiet (fail)
      go_wp2_with fail
      exact ⟨⟨k + 1, by omega, by go_num, _, rfl⟩, by simp [intOf]; omega⟩
    · clear hk hk'
      go_wp2_with fail
      go_ret
      exact ⟨rfl, below_drewN (Below.refl _ _) _⟩

set_option maxHeartbeats 1000000 in
theorem markTexts_any (lo hi : Nat) (a : Option Addr) (cap : Nat) (ss : List ByteArray) (w : World) (h : TextsIn lo hi w (.slice a ss.length cap) ss) (hn : ss.length ≤ 1048576) :
    Calls Tryd.prog 32 #[.slice a ss.length cap, .int .i64 1] w fun e w' => e = .returned (.int .i64 (1 + (ss.length : Int))) ∧ Within w w' lo hi ∧ TextMarks w' a ss.length := by
  obtain ⟨a', c', he, h⟩ := h
  cases he
  rcases h with ⟨rfl, h0⟩ | ⟨b, cs, rfl, hlo, hhi, hh, hsz, -⟩
  · subst h0
    go_enter Tryd.func32, Tryd.ntmps32
    go_wp2_with fail
    go_loopw [1, 5] (fun kv i wr => kv = .int .i64 1 ∧ i = .int .i64 0 ∧ wr = w) (fun _ _ _ => 0)
    case atStart => exact ⟨rfl, rfl, rfl⟩
    case round =>
      obtain ⟨rfl, rfl, rfl⟩ := hrel
      go_wp2_with fail
      go_ret
      exact ⟨rfl, ⟨Below.refl _ _, fun _ _ _ => rfl⟩, .inl rfl⟩
  · generalize ss.length = n at *
    have hb0 := (Array.getElem?_eq_some_iff.1 hh).1
    have H1 := hide hh
    clear hh
    go_enter Tryd.func32, Tryd.ntmps32
    go_wp2_with fail
    go_loopw [1, 5] (fun kv i wr => ∃ (j : Nat) (cs' : Array Value), j ≤ n ∧ kv = .int .i64 (1 + (j : Int)) ∧ i = .int .i64 j ∧ Hid (Within w wr lo hi) ∧ Hid (wr.heap[b]? = some (.cells cs' 9 (0, 0))) ∧ cs'.size = cs.size ∧ Hid (∀ i, i < j → cs'[i]? = some (.string (markOf (1 + i))))) (fun _ i _ => n - (intOf i).toNat)
    case atStart => exact ⟨0, cs, Nat.zero_le _, by simp, rfl, ⟨Below.refl _ _, fun _ _ _ => rfl⟩, H1, rfl, fun i hi => absurd hi (by omega)⟩
    case round =>
      obtain ⟨j, cs', hj, rfl, rfl, hwi, hbl, hcs, hmk⟩ := hrel
      by_cases hlt : j < n
      · have hlt1 : (j : Int) < (n : Int) := by omega
        have hsw := hwi.out.below.size
        have hbw : b < wr.heap.size := (Array.getElem?_eq_some_iff.1 hbl.out).1
        have HT := hide (markText_big (1 + j) (1 + (j : Int)) wr (by unfold Hid; omega) (by omega) (by omega))
        generalize hm : markOf (1 + j) = mk at *
        have HM := hide hm
        clear hm
        go_wp2_with fail
        refine HT.out.mono ?_
        rintro e w1 ⟨rfl, hb1⟩
        have hs1 := hb1.size
        have h1 := (hb1.block b hbw).trans hbl.out
        have hc1 : ∃ u, w1.cell? ⟨b, j, none⟩ = some u := by rw [cell_of_heap h1]; exact ⟨_, Array.getElem?_eq_getElem (by omega)⟩
        obtain ⟨u1, hc1⟩ := hc1
        have hfz := frozen_of_heap h1 j
        have H1' := hide h1
        clear h1
        go_wp2_with fail
        refine ⟨⟨j + 1, cs'.setIfInBounds j (.string mk), by omega, by go_num, by go_num, ⟨(hwi.out.below.trans (hb1.mono (by have := hwi.out.below.size; omega))).setCell (p := ⟨b, j, none⟩) hlo _, fun m hm hmw => ?_⟩, heap_setCell_same _ _ _ _ _ _ H1'.out, by simp [hcs], fun i hi => ?_⟩, by simp [intOf]; omega⟩
        · rw [heap_setCell_other _ _ _ _ (by show m ≠ b; omega), hb1.block m (by omega)]
          exact hwi.out.above m hm hmw
        · rw [Array.getElem?_setIfInBounds]
          rcases Nat.lt_succ_iff_lt_or_eq.1 hi with h | rfl
          · rw [if_neg (by omega)]; exact hmk.out i h
          · rw [if_pos rfl, if_pos (by omega), HM.out]
      · obtain rfl : j = n := by omega
        go_wp2_with fail
        go_ret
        exact ⟨rfl, hwi.out, .inr ⟨b, cs', rfl, hbl.out, by omega, hmk.out⟩⟩

set_option maxHeartbeats 1000000 in
theorem heldTexts_any (a : Option Addr) (n cap : Nat) (w : World) (h : TextMarks w a n) (hn : n ≤ 1048576) :
    Calls Tryd.prog 33 #[.slice a n cap, .int .i64 1] w fun e w' => e = .returned (.int .i64 (1 + (n : Int))) ∧ Below w.heap.size w w' := by
  rcases h with rfl | ⟨b, cs, rfl, hh, hsz, hm⟩
  · go_enter Tryd.func33, Tryd.ntmps33
    go_wp2_with fail
    go_loopw [1, 5] (fun kv i wr => kv = .int .i64 1 ∧ i = .int .i64 0 ∧ wr = w) (fun _ _ _ => 0)
    case atStart => exact ⟨rfl, rfl, rfl⟩
    case round =>
      obtain ⟨rfl, rfl, rfl⟩ := hrel
      go_wp2_with fail
      go_ret
      exact ⟨rfl, Below.refl _ _⟩
  · have hb0 := (Array.getElem?_eq_some_iff.1 hh).1
    have HM := hide hm
    have HH := hide hh
    clear hm hh
    go_enter Tryd.func33, Tryd.ntmps33
    go_wp2_with fail
    go_loopw [1, 5] (fun kv i wr => ∃ j : Nat, j ≤ n ∧ kv = .int .i64 (1 + (j : Int)) ∧ i = .int .i64 j ∧ Below w.heap.size w wr) (fun _ i _ => n - (intOf i).toNat)
    case atStart => exact ⟨0, Nat.zero_le _, by simp, rfl, Below.refl _ _⟩
    case round =>
      obtain ⟨j, hj, rfl, rfl, hbr⟩ := hrel
      have hsz2 := hbr.size
      by_cases hlt : j < n
      · have hc : wr.cell? ⟨b, j, none⟩ = some (.string (markOf (1 + j))) := by rw [hbr.cell (p := ⟨b, j, none⟩) hb0, cell_of_heap HH.out j]; exact HM.out j hlt
        have hlt1 : (j : Int) < (n : Int) := by omega
        have hbw : b < wr.heap.size := by omega
        have hcal := calm_cell wr
        have HE : Hid (∀ t : Calm wr, Calls Tryd.prog 54 #[.int .i64 (1 + (j : Int))] t.out fun e w' => e = .returned (.string (markOf (1 + j))) ∧ Below t.out.heap.size t.out w') := fun t =>
          markText_big (1 + j) (1 + (j : Int)) t.out (by unfold Hid; omega) (by omega) (by omega)
        generalize markOf (1 + j) = mk at *
        have hsa : (mk.toList == mk.toList) = true := by simp
        have hsb : (mk.toList != mk.toList) = false := by simp
        go_wp2_with fail
        refine wp_region_calm (by kernel_rfl) (by kernel_rfl) ?_
        repeat (go_big_quiet_step ((go_at_call 54; exact calm_of (HE.out _))))
        refine wpQuiet_nil ?_
        rintro _ ⟨t, rfl⟩
        have ht := t.below
        go_wp2_with fail
        exact ⟨⟨j + 1, by omega, by go_num, by go_num, hbr.trans (ht.mono hsz2)⟩, by simp [intOf]; omega⟩
      · obtain rfl : j = n := by omega
        go_wp2_with fail
        go_ret
        exact ⟨rfl, hbr⟩
end Go.Proofs.YtmcopoonnhcdjaaDoor
