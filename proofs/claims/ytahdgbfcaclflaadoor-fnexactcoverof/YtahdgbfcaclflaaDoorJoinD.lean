/-
  What a session may do with a node: the specification's way to reckon it, and the program's, give one.
  A session's own lock on a node, asked by the specification.
-/
import Derived.Test.YtahdgbfcaclflaaDoorLockSort
import Derived.Test.YtahdgbfcaclflaaDoorLockTree
namespace Go.Proofs.YtahdgbfcaclflaaDoor

/-- Those above a node, from the root down. -/
noncomputable def overs (d : PDoc) (i : Int) : List Int := (upsOf d i).tail.reverse

theorem path_overs {d : PDoc} (G : Good d) {i : Int} (hi : i ∈ idsOf d.nodes) : (upsOf d i).reverse = overs d i ++ [i] := by
  obtain ⟨q, hq⟩ := G.dep hi
  unfold overs
  rw [upsOf_eq G hq]
  cases q <;> simp [ups]

theorem mem_ups {d : PDoc} (G : Good d) {i k : Int} (hi : i ∈ idsOf d.nodes) : k ∈ upsOf d i ↔ k = i ∨ k ∈ overs d i := by
  have := path_overs G hi
  rw [← List.mem_reverse, this, List.mem_append, List.mem_singleton]
  exact Or.comm

theorem coverI_le {m : Int} (h : ModeP m) : LeM (coverI m) m := by
  unfold LeM
  rcases h.cases with rfl | rfl | rfl | rfl | rfl | rfl <;> decide

theorem own_mode {d : PDoc} {L : List PHold} (h : HoldsP d L) (s i : Int) : ModeP (ownI L s i) := by
  rcases ownI_cases L s i with h0 | ⟨x, hx, -, -, e⟩
  · rw [h0]; exact ⟨by omega, by omega⟩
  · rw [e]; exact (h.mode x hx).modeP

theorem cover_same {d : PDoc} {L : List PHold} (G : Good d) (h : HoldsP d L) {s i : Int} (hi : i ∈ idsOf d.nodes) : joinL (ownI L s i) ((overs d i).map fun k => coverI (ownI L s k)) = coverP d L s i := by
  have hparts : ∀ x ∈ partsOf (coverOn d i) L s, ModeP x := fun x hx => by
    obtain ⟨y, hy, rfl⟩ := List.mem_map.1 hx
    exact coverOn_mode (h.mode y (List.mem_filter.1 hy).1).modeP
  have hov : ∀ x ∈ (overs d i).map (fun k => coverI (ownI L s k)), ModeP x := fun x hx => by
    obtain ⟨k, _, rfl⟩ := List.mem_map.1 hx
    exact coverI_mode _
  have hz : ModeP 0 := ⟨by omega, by omega⟩
  have hin : ∀ y ∈ L, y.session = s → coverOn d i y ∈ partsOf (coverOn d i) L s := fun y hy hs => List.mem_map.2 ⟨y, List.mem_filter.2 ⟨hy, by simp [hs]⟩, rfl⟩
  have hcm := coverP_mode (d := d) (fun x hx => (h.mode x hx).modeP) s i
  refine joinL_same (own_mode h s i) hz hov hparts ?_ ?_ ?_ ?_
  · rcases ownI_cases L s i with h0 | ⟨x, hx, hs, hn, e⟩
    · rw [h0]; exact leM_zero hcm.1
    · rw [e, ← coverOn_on (d := d) hn]
      exact joinL_ge hz hparts _ (hin x hx hs)
  · intro y hy
    obtain ⟨k, hk, rfl⟩ := List.mem_map.1 hy
    rcases ownI_cases L s k with h0 | ⟨x, hx, hs, hn, e⟩
    · rw [h0]; exact leM_zero hcm.1
    · rw [e]
      have hge := joinL_ge hz hparts _ (hin x hx hs)
      by_cases hki : x.node = i
      · rw [coverOn_on hki] at hge
        exact LeM.trans (coverI_mode _) (h.mode x hx).modeP hcm (coverI_le (h.mode x hx).modeP) hge
      · rw [coverOn_below hki (by rw [hn]; exact (mem_ups G hi).2 (.inr hk))] at hge
        exact hge
  · exact leM_zero (joinL_mode (own_mode h s i) hov).1
  · intro y hy
    obtain ⟨x, hx, rfl⟩ := List.mem_map.1 hy
    obtain ⟨hxL, hs⟩ := List.mem_filter.1 hx
    have hs' : x.session = s := by simpa using hs
    have hown := h.own hxL
    rw [hs'] at hown
    by_cases hni : x.node = i
    · rw [coverOn_on hni, ← hown, hni]
      exact joinL_start (own_mode h s i) hov
    · by_cases hab : x.node ∈ upsOf d i
      · rw [coverOn_below hni hab]
        have hmem : x.node ∈ overs d i := ((mem_ups G hi).1 hab).resolve_left hni
        have := joinL_ge (own_mode h s i) hov (coverI (ownI L s x.node)) (List.mem_map.2 ⟨_, hmem, rfl⟩)
        rwa [hown] at this
      · rw [coverOn_off hni hab]
        exact leM_zero (joinL_mode (own_mode h s i) hov).1
end Go.Proofs.YtahdgbfcaclflaaDoor

namespace Go.Proofs.YtahdgbfcaclflaaDoor
open Go.RowKit

set_option maxHeartbeats 1000000 in
theorem specOwn_any (n₀ : Nat) (v : Value) (L : List PHold) (ss id : Int) (w : World) (hV : HoldsAt n₀ w v L) (hn : n₀ ≤ w.heap.size) (hL : L.length ≤ 1048576) :
    Calls Tryd.prog 71 #[v, .int .i64 ss, .int .i64 id] w fun e w' => e = .returned (.int .i64 (ownI L ss id)) ∧ w' = w := by
  obtain ⟨a, cap, rfl, hk⟩ := hV
  obtain ⟨r, hr⟩ : ∃ r, r = ownI L ss id := ⟨_, rfl⟩
  have HR := hide hr
  rw [← hr]
  clear hr
  go_enter Tryd.func71, Tryd.ntmps71
  go_wp2_with fail
  go_loop [7] (fun i => ∃ k : Nat, k ≤ L.length ∧ i = .int .i64 k ∧ Hid (∀ j, j < k → isAt ss id (L[j]?.getD holdNil) = false)) (fun i => L.length - (intOf i).toNat)
  case atStart => exact ⟨0, Nat.zero_le _, rfl, fun j hj => absurd hj (by omega)⟩
  case round =>
    obtain ⟨k, hkl, rfl, hno⟩ := hrel
    by_cases hlt : k < L.length
    · obtain ⟨b, off, rfl, hb, hc⟩ := hk.resolve_left (by intro e; simp [e] at hlt)
      have hA := hc k hlt
      have g0 := hA.c0
      have g1 := hA.c1
      have g2 := hA.c2
      have hlt1 : (k : Int) < (L.length : Int) := by omega
      have hbl : b < w.heap.size := by omega
      have HY : Hid (isAt ss id (L[k]?.getD holdNil) = true → r = (L[k]?.getD holdNil).mode) := fun h => by rw [HR.out]; exact ownI_some hlt hno.out h
      have HN : Hid (isAt ss id (L[k]?.getD holdNil) = false → ∀ j, j < k + 1 → isAt ss id (L[j]?.getD holdNil) = false) := fun h j hj => by
        by_cases e : j = k
        · subst e; exact h
        · exact hno.out j (by omega)
      clear hc hk hA
      generalize L[k]?.getD holdNil = x at *
      by_cases hs : x.session = ss
      · have hs1 : (x.session == ss) = true := by simp [hs]
        by_cases hi : x.node = id
        · have hi1 : (x.node == id) = true := by simp [hi]
          have HE := hide (HY.out (isAt_iff.2 ⟨hs, hi⟩))
          clear hs hi
          go_wp2_with fail
          go_ret
          exact ⟨ret_int HE.out.symm, rfl⟩
        · have hi1 : (x.node == id) = false := by simp [hi]
          have HE := hide (HN.out (by rw [← Bool.not_eq_true, isAt_iff]; exact fun h => hi h.2))
          clear hs hi
          go_wp2_with fail
          go_round
          case rel => exact ⟨k + 1, by omega, by go_num, HE⟩
          case measure => simp [intOf]; omega
      · have hs1 : (x.session == ss) = false := by simp [hs]
        have HE := hide (HN.out (by rw [← Bool.not_eq_true, isAt_iff]; exact fun h => hs h.1))
        clear hs
        go_wp2_with fail
        go_round
        case rel => exact ⟨k + 1, by omega, by go_num, HE⟩
        case measure => simp [intOf]; omega
    · have HE : Hid (r = 0) := by
        rw [Hid, HR.out]
        refine ownI_none fun x hx => ?_
        obtain ⟨j, hj, rfl⟩ := List.getElem_of_mem hx
        have := hno.out j (by omega)
        rwa [List.getElem?_eq_getElem hj, Option.getD_some] at this
      clear hk
      go_wp2_with fail
      go_ret
      exact ⟨ret_int HE.out.symm, rfl⟩
end Go.Proofs.YtahdgbfcaclflaaDoor
