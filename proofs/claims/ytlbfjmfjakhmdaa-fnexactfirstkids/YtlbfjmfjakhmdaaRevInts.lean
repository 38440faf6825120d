/-
  slices.Reverse on lists of numbers.
-/
import Derived.Test.YtlbfjmfjakhmdaaRowTurned
import Derived.Test.YtlbfjmfjakhmdaaRowFacts
import Derived.Deep.RegionWith
namespace Go.Proofs.Ytlbfjmfjakhmdaa
open Go.RowKit

set_option maxHeartbeats 4000000 in
set_option maxRecDepth 100000 in
theorem reverseInts_any (g n c : Nat) (xs : List Value) (hx : xs.length = n) (hp : ∀ v ∈ xs, ∃ p, v = .int .i64 p) (hn : n ≤ 1048576) (cs : Array Value) (w : World) (hh : w.heap[g]? = some (.cells cs 3 (0, 0))) (hcs : Turned xs 0 cs) :
    Calls Try.prog 46 #[.slice (some ⟨g, 0, none⟩) n c] w fun e w' => e = .returned (.tuple #[]) ∧ (∃ cs', w'.heap[g]? = some (.cells cs' 3 (0, 0)) ∧ cs'.size = cs.size ∧ ∀ p, p < n → cs'[p]? = xs.reverse[p]?) ∧ w'.heap.size = w.heap.size ∧ Below g w w' := by
  have HX := hide hx
  have HP := hide hp
  clear hx hp
  have HC0 := hide hcs
  clear hcs
  have HH0 := hide hh
  have hg := (Array.getElem?_eq_some_iff.1 hh).1
  clear hh
  go_enter Try.func46, Try.ntmps46
  go_wp2_with fail
  go_loopw [2, 3] (fun iv jv wr => ∃ (i : Nat) (cs' : Array Value), i ≤ n ∧ iv = .int .i64 i ∧ jv = .int .i64 ((n : Int) - 1 - i) ∧ Hid (wr.heap[g]? = some (.cells cs' 3 (0, 0))) ∧ Hid (Turned xs i cs') ∧ Hid (cs'.size = cs.size) ∧ wr.heap.size = w.heap.size ∧ Below g w wr) (fun iv _ _ => n - (intOf iv).toNat)
  case atStart => exact ⟨0, cs, Nat.zero_le _, rfl, by simp, HH0, HC0, rfl, rfl, Below.refl _ _⟩
  case round =>
    obtain ⟨i, cs', hin, rfl, rfl, hh', hcs', hsz, hws, hbr⟩ := hrel
    by_cases hlt : (i : Int) < (n : Int) - 1 - i
    · have hxl := HX.out
      obtain ⟨j, hj⟩ : ∃ j : Nat, (n : Int) - 1 - i = j := ⟨n - 1 - i, by omega⟩
      have hj2 : j = xs.length - 1 - i := by omega
      have hij : i < j := by omega
      have hjn : j < n := by omega
      have h1 := hcs'.out.2 i (by omega)
      have h2 := hcs'.out.2 j (by omega)
      rw [if_neg (by omega), List.getElem?_eq_getElem (by omega)] at h1
      rw [if_neg (by omega), List.getElem?_eq_getElem (by omega)] at h2
      obtain ⟨vi, hvi⟩ : ∃ vi, vi = xs[i]'(by omega) := ⟨_, rfl⟩
      obtain ⟨vj, hvj⟩ : ∃ vj, vj = xs[j]'(by omega) := ⟨_, rfl⟩
      rw [← hvi] at h1
      rw [← hvj] at h2
      have k1 : wr.cell? ⟨g, i, none⟩ = some vi := by rw [cell_of_heap hh'.out, h1]
      have k2 : wr.cell? ⟨g, j, none⟩ = some vj := by rw [cell_of_heap hh'.out, h2]
      have f1 := frozen_of_heap hh'.out i
      have f2 := frozen_of_heap hh'.out j
      obtain ⟨pi, hpi⟩ := HP.out vi (by rw [hvi]; exact List.getElem_mem _)
      obtain ⟨pj, hpj⟩ := HP.out vj (by rw [hvj]; exact List.getElem_mem _)
      have HT : Hid (Turned xs (i + 1) ((cs'.setIfInBounds i vj).setIfInBounds j vi)) := by
        have := hcs'.out.step (by omega)
        subst hj2
        rw [Hid, hvi, hvj]
        exact this
      have HH2 : ∀ u : World, u.heap = wr.heap → ((u.setCell ⟨g, i, none⟩ vj).setCell ⟨g, j, none⟩ vi).heap[g]? = some (.cells ((cs'.setIfInBounds i vj).setIfInBounds j vi) 3 (0, 0)) := fun u hu =>
        heap_setCell_same _ _ _ _ _ _ (heap_setCell_same _ _ _ _ _ _ (by rw [hu]; exact hh'.out))
      have HSz : Hid (((cs'.setIfInBounds i vj).setIfInBounds j vi).size = cs.size) := by rw [Hid]; simp [hsz.out]
      rw [hj]
      have hlt1 : (i : Int) < (j : Int) := by omega
      have hlt2 : (i : Int) < (n : Int) := by omega
      have hlt3 : (j : Int) < (n : Int) := by omega
      have hij2 : ¬ i = j := by omega
      have hji : ¬ j = i := by omega
      clear hlt hvi hvj h1 h2 hj2 hxl
      subst hpi hpj
      have HH3 := hide HH2
      clear HH2
      go_wp2_with fail
      go_region
      all_goals
        go_wp2_with fail
        exact ⟨⟨i + 1, _, by omega, by go_num, congrArg (Value.int .i64) (by omega), HH3.out wr rfl, HT, HSz, by simp; omega, ((hbr.setCell (p := ⟨g, i, none⟩) (Nat.le_refl _) _).setCell (p := ⟨g, j, none⟩) (Nat.le_refl _) _).drew⟩, by simp [intOf]; omega⟩
    · have HD : Hid (∀ p, p < n → cs'[p]? = xs.reverse[p]?) := fun p hp => hcs'.out.done (by rw [HX.out]; omega) p (by rw [HX.out]; exact hp)
      have hlt1 : decide ((i : Int) < (n : Int) - 1 - i) = false := by simpa using hlt
      go_wp2_with fail
      go_end0
      exact ⟨rfl, ⟨cs', hh'.out, hsz.out, HD.out⟩, hws, hbr⟩

set_option maxHeartbeats 400000 in
theorem reverseNil_any (w : World) : Calls Try.prog 46 #[.slice none 0 0] w fun e w' => e = .returned (.tuple #[]) ∧ w' = w := by
  go_enter Try.func46, Try.ntmps46
  go_wp2_with fail
  go_loopw [2, 3] (fun iv jv wr => iv = .int .i64 0 ∧ jv = .int .i64 (-1) ∧ wr = w) (fun _ _ _ => 0)
  case atStart => exact ⟨rfl, rfl, rfl⟩
  case round =>
    obtain ⟨rfl, rfl, rfl⟩ := hrel
    go_wp2_with fail
    go_end0
    exact ⟨rfl, rfl⟩

/-- A list of numbers of its own, turned round. -/
theorem reverseRow_any (B : Nat) (v : Value) (ks : List Int) (hl : ks.length ≤ 1048576) (w : World) (h : w.ownsRow B 3 1 v ks.length (ks.map (Value.int .i64))) :
    Calls Try.prog 46 #[v] w fun e w' => e = .returned (.tuple #[]) ∧ w'.ownsRow B 3 1 v ks.reverse.length (ks.reverse.map (Value.int .i64)) ∧ w'.heap.size = w.heap.size ∧ Below B w w' := by
  obtain ⟨hlen, ⟨rfl, h0⟩ | ⟨g, cap, cur, rfl, hg, hh, h1, h2, h3, h4⟩⟩ := h
  · have : ks = [] := List.eq_nil_of_length_eq_zero h0
    subst this
    exact (reverseNil_any w).mono fun e w' ⟨he, hw⟩ => ⟨he, by rw [hw]; exact World.ownsRow_nil _ _ _ _, by rw [hw], by rw [hw]; exact Below.refl _ _⟩
  · simp only [Nat.mul_one] at h3 h4 hlen
    have hT : Turned (ks.map (Value.int .i64)) 0 cur := by
      refine ⟨by simp; omega, fun p hp => ?_⟩
      rw [if_neg (by omega), ← h4, List.getElem?_take, if_pos (by simpa using hp), Array.getElem?_toList]
    refine (reverseInts_any g ks.length cap (ks.map (Value.int .i64)) (by simp) (fun v hv => by obtain ⟨x, _, rfl⟩ := List.mem_map.1 hv; exact ⟨x, rfl⟩) hl cur w hh hT).mono ?_
    rintro e w' ⟨rfl, ⟨cs', hh', hsz, hall⟩, hs, hb⟩
    refine ⟨rfl, ⟨by simp, .inr ⟨g, cap, cs', by simp, hg, hh', by simpa using h1, h2, by omega, ?_⟩⟩, hs, hb.mono hg⟩
    rw [Nat.mul_one, List.length_reverse]
    apply List.ext_getElem?
    intro p
    by_cases hp : p < ks.length
    · rw [List.getElem?_take, if_pos hp, Array.getElem?_toList, hall p hp, List.map_reverse]
    · rw [List.getElem?_take, if_neg hp, List.getElem?_eq_none (by simp; omega)]
end Go.Proofs.Ytlbfjmfjakhmdaa
