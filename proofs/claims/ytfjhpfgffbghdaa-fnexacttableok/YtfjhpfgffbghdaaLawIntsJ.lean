/-
  The law package's copies of lists of numbers, how it compares them, and how long they may be.
-/
import Derived.Test.YtfjhpfgffbghdaaCalmJ
import Derived.Deep.DeepCutAuto
import Derived.WalkSmall
import Derived.WalkLawsBesides
import Derived.Laws.MakeOwn
import Derived.Laws.Rows
namespace Go.Proofs.Ytfjhpfgffbghdaa
open Go.RowKit

set_option maxHeartbeats 400000 in
theorem eqInts_any (n₀ : Nat) (v v' : Value) (ks : List Int) (w : World) (h : IntsAt n₀ w v ks) (h' : IntsAt n₀ w v' ks) (hl : ks.length ≤ 1048576) :
    Calls Try.prog 90 #[v, v'] w fun e w' => e = .returned (.bool true) ∧ Below w.heap.size w w' := by
  obtain ⟨a, cap, rfl, hk⟩ := h
  obtain ⟨a', cap', rfl, hk'⟩ := h'
  go_enter Try.func90, Try.ntmps90
  go_wp2_with fail
  go_loopw [5] (fun i wr => ∃ k : Nat, k ≤ ks.length ∧ i = .int .i64 k ∧ ∃ q, wr = w.drewN q) (fun i _ => ks.length - (intOf i).toNat)
  case atStart => exact ⟨0, Nat.zero_le _, rfl, 0, rfl⟩
  case round =>
    obtain ⟨k, hkl, rfl, q, rfl⟩ := hrel
    by_cases hlt : k < ks.length
    · obtain ⟨b, off, rfl, hb, hc⟩ := hk.resolve_left (by intro e; simp [e] at hlt)
      obtain ⟨b', off', rfl, hb', hc'⟩ := hk'.resolve_left (by intro e; simp [e] at hlt)
      have hck := hc k hlt
      have hck' := hc' k hlt
      have hlt1 : (k : Int) < (ks.length : Int) := by omega
      clear hc hc' hk hk'
      generalize ks[k]?.getD 0 = y at *
      go_wp2_with fail
      go_quiet (fail)
      go_wp2_with fail
      exact ⟨⟨k + 1, by omega, by go_num, _, rfl⟩, by simp [intOf]; omega⟩
    · clear hk hk'
      go_wp2_with fail
      go_ret
      exact ⟨rfl, below_drewN (Below.refl _ _) _⟩

/-- A list of numbers in a block of its own. -/
def IntsOwn (lo hi : Nat) (w : World) (v : Value) (ks : List Int) : Prop :=
  ∃ b cap cs, v = .slice (some ⟨b, 0, none⟩) ks.length cap ∧ lo ≤ b ∧ b < hi ∧ w.heap[b]? = some (.cells cs 3 (0, 0)) ∧ ∀ j, j < ks.length → cs[j]? = some (.int .i64 (ks[j]?.getD 0))

theorem IntsOwn.at {lo hi : Nat} {w : World} {v : Value} {ks : List Int} (h : IntsOwn lo hi w v ks) : IntsAt hi w v ks := by
  obtain ⟨b, cap, cs, rfl, h1, h2, h3, h4⟩ := h
  exact ⟨_, cap, rfl, .inr ⟨b, 0, rfl, h2, fun j hj => by rw [Nat.zero_add, cell_of_heap h3, h4 j hj]⟩⟩

theorem IntsOwn.heap {lo hi lo' hi' : Nat} {w w' : World} {v : Value} {ks : List Int} (h : IntsOwn lo hi w v ks) (hl : lo' ≤ lo) (hh : hi ≤ hi') (hb : ∀ b, lo ≤ b → b < hi → w'.heap[b]? = w.heap[b]?) : IntsOwn lo' hi' w' v ks := by
  obtain ⟨b, cap, cs, rfl, h1, h2, h3, h4⟩ := h
  exact ⟨b, cap, cs, rfl, by omega, by omega, (hb b h1 h2).trans h3, h4⟩

theorem IntsOwn.below {lo hi : Nat} {w w' : World} {v : Value} {ks : List Int} (h : IntsOwn lo hi w v ks) (hb : Below hi w w') : IntsOwn lo hi w' v ks := h.heap (Nat.le_refl _) (Nat.le_refl _) fun b _ h2 => hb.block b h2

theorem specInfoInt' : (Try.prog.info? 3).map (fun i => (i.zero, i.size, i.bytes)) = some (some (.int .i64 0), 1, 8) := by kernel_rfl

set_option maxHeartbeats 400000 in
theorem toInts_any (n₀ : Nat) (v : Value) (ks : List Int) (w : World) (h : IntsAt n₀ w v ks) (hn : n₀ ≤ w.heap.size) (hl : ks.length ≤ 1048576) :
    Calls Try.prog 82 #[v] w fun e w' => ∃ u, e = .returned u ∧ IntsOwn w.heap.size w'.heap.size w' u ks ∧ Below w.heap.size w w' ∧ w.heap.size < w'.heap.size := by
  obtain ⟨i0, hi, hz0, hz1, hz2⟩ := info_parts specInfoInt'
  have hmk : ∀ w, (Instr.makeSlice 92 (.int .i64 (ks.length : Int)) (.int .i64 (ks.length : Int))).run Try.prog w = .ok (.slice (some ⟨w.heap.size, 0, none⟩) ks.length ks.length) (w.alloc (.cells (madeCells #[.int .i64 0] ks.length) 3)) := fun w => by
    have := run_make (P := Try.prog) w 92 3 i0 (.int .i64 0) Try.underlying92 hi hz0 .i64 .i64 ks.length ks.length (by omega) (Int.le_refl _) (by rw [hz2]; omega) (by omega)
    simpa [hz1, Value.cells] using this
  obtain ⟨a, cap, rfl, hk⟩ := h
  clear hi hz0 hz1 hz2
  go_enter Try.func82, Try.ntmps82
  go_wp2_with fail
  go_loopw [4] (fun i wr => ∃ (k : Nat) (cs : Array Value), k ≤ ks.length ∧ i = .int .i64 k ∧ Hid (wr.heap[w.heap.size]? = some (.cells cs 3 (0, 0))) ∧ cs.size = ks.length ∧ Hid (∀ j, j < k → cs[j]? = some (.int .i64 (ks[j]?.getD 0))) ∧ Below w.heap.size w wr) (fun i _ => ks.length - (intOf i).toNat)
  case atStart => exact ⟨0, _, Nat.zero_le _, rfl, alloc_new w _, size_madeCells _ _, fun j hj => by omega, (Below.refl _ _).alloc (Nat.le_refl _) _⟩
  case round =>
    obtain ⟨k, cs, hkl, rfl, hh, hcs, hall, hbr⟩ := hrel
    have hlt2 : w.heap.size < wr.heap.size := (Array.getElem?_eq_some_iff.1 hh.out).1
    by_cases hlt : k < ks.length
    · obtain ⟨b, off, rfl, hb, hc⟩ := hk.resolve_left (by intro e; simp [e] at hlt)
      have hck := (hbr.cell (p := ⟨b, off + k, none⟩) (show b < w.heap.size by omega)).trans (hc k hlt)
      have hco : wr.cell? ⟨w.heap.size, k, none⟩ = some (cs[k]'(by omega)) := by rw [cell_of_heap hh.out]; simp [hcs, hlt]
      have hfo := frozen_of_heap hh.out k
      have HH2 : Hid ((wr.setCell ⟨w.heap.size, k, none⟩ (.int .i64 (ks[k]?.getD 0))).heap[w.heap.size]? = some (.cells (cs.setIfInBounds k (.int .i64 (ks[k]?.getD 0))) 3 (0, 0))) := heap_setCell_same _ _ _ _ _ _ hh.out
      have HAll2 : Hid (∀ j, j < k + 1 → (cs.setIfInBounds k (.int .i64 (ks[k]?.getD 0)))[j]? = some (.int .i64 (ks[j]?.getD 0))) := by
        intro j hj
        by_cases e : j = k
        · subst e; simp [hcs, hlt]
        · rw [Array.getElem?_setIfInBounds_ne (fun h => e h.symm)]; exact hall.out j (by omega)
      clear hc hk hall
      generalize cs[k]'(by omega) = old at *
      have hsz2 : ∀ u, (cs.setIfInBounds k u).size = ks.length := fun u => by simp [hcs]
      clear hcs
      generalize ks[k]?.getD 0 = y at *
      go_wp2_with fail
      go_roundw
      case rel => exact ⟨k + 1, _, by omega, by go_num, HH2, hsz2 _, HAll2, hbr.setCell (p := ⟨w.heap.size, k, none⟩) (Nat.le_refl _) _⟩
      case measure => simp [intOf]; omega
    · clear hk
      go_wp2_with fail
      go_ret
      exact ⟨_, rfl, ⟨w.heap.size, ks.length, cs, rfl, Nat.le_refl _, hlt2, hh.out, fun j hj => hall.out j (by omega)⟩, hbr, hlt2⟩

set_option maxHeartbeats 400000 in
theorem szInts_any (a : Option Addr) (n cap : Nat) (c : Int) (w : World) (h0 : 0 ≤ c) (h1 : c ≤ 1048576) (hl : n ≤ 9223372036854775807) :
    Calls Try.prog 78 #[.slice a n cap, .int .i64 c] w fun e w' => ∃ r, e = .returned (.int .i64 r) ∧ -1 ≤ r ∧ r ≤ c ∧ (0 ≤ r → n ≤ 1048576) ∧ w' = w := by
  by_cases h : c - n < 0
  · go_enter Try.func78, Try.ntmps78
    go_wp2
    go_ret
    exact ⟨_, rfl, by omega, by omega, by omega, rfl⟩
  · go_enter Try.func78, Try.ntmps78
    go_wp2
    go_ret
    exact ⟨_, rfl, by omega, by omega, by omega, rfl⟩
end Go.Proofs.Ytfjhpfgffbghdaa
