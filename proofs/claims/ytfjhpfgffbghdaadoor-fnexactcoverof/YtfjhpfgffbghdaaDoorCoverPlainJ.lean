/-
  What a session may do with a node: the specification's way to reckon it, and the program's, give one.
-/
import Derived.Test.YtfjhpfgffbghdaaDoorJoinF
import Derived.Test.YtfjhpfgffbghdaaDoorJoinG
namespace Go.Proofs.YtfjhpfgffbghdaaDoor

/-- Those above a node, from the root down. -/
noncomputable def overs (d : PDoc) (i : Int) : List Int := (upsOf d i).tail.reverse

theorem path_overs {d : PDoc} (G : Good d) {i : Int} (hi : i ∈ idsOf d.nodes) : (upsOf d i).reverse = overs d i ++ [i] := by
  obtain ⟨q, hq⟩ := G.dep hi
  unfold overs
  rw [upsOf_eq G hq]
  cases q <;> simp [ups]

theorem mem_ups {d : PDoc} (G : Good d) {i k : Int} (hi : i ∈ idsOf d.nodes) : k ∈ upsOf d i ↔ k = i ∨ k ∈ overs d i := by
  have := path_overs G hi
  rw [← List.mem_reverse, this, List.mem_append, List.mem_singleton]
  exact Or.comm

theorem coverI_le {m : Int} (h : ModeP m) : LeM (coverI m) m := by
  unfold LeM
  rcases h.cases with rfl | rfl | rfl | rfl | rfl | rfl <;> decide

theorem own_mode {d : PDoc} {L : List PHold} (h : HoldsP d L) (s i : Int) : ModeP (ownI L s i) := by
  rcases ownI_cases L s i with h0 | ⟨x, hx, -, -, e⟩
  · rw [h0]; exact ⟨by omega, by omega⟩
  · rw [e]; exact (h.mode x hx).modeP

theorem cover_same {d : PDoc} {L : List PHold} (G : Good d) (h : HoldsP d L) {s i : Int} (hi : i ∈ idsOf d.nodes) : joinL (ownI L s i) ((overs d i).map fun k => coverI (ownI L s k)) = coverP d L s i := by
  have hparts : ∀ x ∈ partsOf (coverOn d i) L s, ModeP x := fun x hx => by
    obtain ⟨y, hy, rfl⟩ := List.mem_map.1 hx
    exact coverOn_mode (h.mode y (List.mem_filter.1 hy).1).modeP
  have hov : ∀ x ∈ (overs d i).map (fun k => coverI (ownI L s k)), ModeP x := fun x hx => by
    obtain ⟨k, _, rfl⟩ := List.mem_map.1 hx
    exact coverI_mode _
  have hz : ModeP 0 := ⟨by omega, by omega⟩
  have hin : ∀ y ∈ L, y.session = s → coverOn d i y ∈ partsOf (coverOn d i) L s := fun y hy hs => List.mem_map.2 ⟨y, List.mem_filter.2 ⟨hy, by simp [hs]⟩, rfl⟩
  have hcm := coverP_mode (d := d) (fun x hx => (h.mode x hx).modeP) s i
  refine joinL_same (own_mode h s i) hz hov hparts ?_ ?_ ?_ ?_
  · rcases ownI_cases L s i with h0 | ⟨x, hx, hs, hn, e⟩
    · rw [h0]; exact leM_zero hcm.1
    · rw [e, ← coverOn_on (d := d) hn]
      exact joinL_ge hz hparts _ (hin x hx hs)
  · intro y hy
    obtain ⟨k, hk, rfl⟩ := List.mem_map.1 hy
    rcases ownI_cases L s k with h0 | ⟨x, hx, hs, hn, e⟩
    · rw [h0]; exact leM_zero hcm.1
    · rw [e]
      have hge := joinL_ge hz hparts _ (hin x hx hs)
      by_cases hki : x.node = i
      · rw [coverOn_on hki] at hge
        exact LeM.trans (coverI_mode _) (h.mode x hx).modeP hcm (coverI_le (h.mode x hx).modeP) hge
      · rw [coverOn_below hki (by rw [hn]; exact (mem_ups G hi).2 (.inr hk))] at hge
        exact hge
  · exact leM_zero (joinL_mode (own_mode h s i) hov).1
  · intro y hy
    obtain ⟨x, hx, rfl⟩ := List.mem_map.1 hy
    obtain ⟨hxL, hs⟩ := List.mem_filter.1 hx
    have hs' : x.session = s := by simpa using hs
    have hown := h.own hxL
    rw [hs'] at hown
    by_cases hni : x.node = i
    · rw [coverOn_on hni, ← hown, hni]
      exact joinL_start (own_mode h s i) hov
    · by_cases hab : x.node ∈ upsOf d i
      · rw [coverOn_below hni hab]
        have hmem : x.node ∈ overs d i := ((mem_ups G hi).1 hab).resolve_left hni
        have := joinL_ge (own_mode h s i) hov (coverI (ownI L s x.node)) (List.mem_map.2 ⟨_, hmem, rfl⟩)
        rwa [hown] at this
      · rw [coverOn_off hni hab]
        exact leM_zero (joinL_mode (own_mode h s i) hov).1
end Go.Proofs.YtfjhpfgffbghdaaDoor
