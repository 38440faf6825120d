/-
  What a session may do with a node, as the specification reckons it.
-/
import Derived.Test.YtfjhpfgffbghdaaDoorCoverPlainJ
import Derived.Test.YtfjhpfgffbghdaaDoorSpecOwnJ
import Derived.Test.YtfjhpfgffbghdaaDoorSpecPathInJ
import Derived.Test.YtfjhpfgffbghdaaDoorJoinSpec
namespace Go.Proofs.YtfjhpfgffbghdaaDoor
open Go.RowKit

set_option maxHeartbeats 2000000 in
set_option maxRecDepth 100000 in
theorem specCover07_any (n₀ : Nat) (d : PDoc) (s v : Value) (L : List PHold) (ss id : Int) (w : World) (hN : NodesAt n₀ w s d.nodes) (hV : HoldsAt n₀ w v L) (hn : n₀ ≤ w.heap.size) (hl : d.nodes.length ≤ 1048576) (hkl : ∀ x ∈ d.nodes, x.kids.length ≤ 1048576) (G : Good d) (hL : HoldsP d L) (hi : id ∈ idsOf d.nodes) :
    Calls Tryd.prog 35 #[.agg #[.int .i64 d.root, .int .i64 d.next, s], v, .int .i64 ss, .int .i64 id] w fun e w' => e = .returned (.int .i64 (coverP d L ss id)) ∧ Below w.heap.size w w' := by
  have hW := (Below.refl w.heap.size w).alloc (Nat.le_refl _) (.cells #[.int .i64 d.root, .int .i64 d.next, s] 32)
  have hl30 := hL.len
  have HOw : Hid (∀ wx k, Below w.heap.size w wx → Calls Tryd.prog 58 #[v, .int .i64 ss, .int .i64 k] wx fun e w' => e = .returned (.int .i64 (ownI L ss k)) ∧ w' = wx) := fun wx k hb =>
    specOwn_any n₀ v L ss k wx (hV.below (Nat.le_refl _) (hb.mono hn)) (by have := hb.size; omega) (by omega)
  have HPa : Hid (Calls Tryd.prog 51 #[.agg #[.int .i64 d.root, .int .i64 d.next, s], .int .i64 id] (w.alloc (.cells #[.int .i64 d.root, .int .i64 d.next, s] 32)) fun e w' => ∃ u, e = .returned u ∧ IntsAt w'.heap.size w' u (overs d id ++ [id]) ∧ Below (w.heap.size + 1) (w.alloc (.cells #[.int .i64 d.root, .int .i64 d.next, s] 32)) w') := by
    obtain ⟨q, hq⟩ := G.dep hi
    have h1 := specPath_any n₀ d G s id q hq (w.alloc (.cells #[.int .i64 d.root, .int .i64 d.next, s] 32)) (hN.below (Nat.le_refl _) (hW.mono hn)) (by simp; omega) hl hkl
    rw [← upsOf_eq G hq, path_overs G hi] at h1
    exact h1.mono fun e w' ⟨u, he, hrow, hb'⟩ => ⟨u, he, ints_of_row hrow, by simpa using hb'⟩
  have hlen : (overs d id).length ≤ 1048576 := by
    have h1 := pathAns_len d id
    have h2 : (overs d id ++ [id]).length = (pathAns d id).length := by rw [← path_overs G hi, upsOf, List.reverse_reverse]
    simp at h2; omega
  have HF : Hid (joinL (ownI L ss id) ((overs d id).map fun k => coverI (ownI L ss k)) = coverP d L ss id) := cover_same G hL hi
  have HOm : Hid (∀ k, ModeP (ownI L ss k)) := fun k => own_mode hL ss k
  have HOw0 := hide (HOw.out (w.alloc (.cells #[.int .i64 d.root, .int .i64 d.next, s] 32)) id hW)
  obtain ⟨a, cap, rfl⟩ := hV.form
  obtain ⟨sa, sc, rfl, -⟩ := hN
  generalize hr : coverP d L ss id = r at *
  generalize overs d id = ov at *
  clear hr hkl hV G hL hi
  go_enter Tryd.func35, Tryd.ntmps35
  go_wp2_with (go_at_call 58; refine HOw0.out.mono ?_; rintro e w' ⟨rfl, rfl⟩)
  refine HPa.out.mono ?_
  rintro e w1 ⟨u, rfl, hu, hb1⟩
  have hs1 := hb1.size
  simp only [World.size_alloc] at hs1
  have hw1 := hW.trans (hb1.mono (by omega))
  obtain ⟨ua, uc, rfl, huc⟩ := hu
  have hnn : (ov ++ [id]).length = ov.length + 1 := by simp
  obtain ⟨n, hne⟩ : ∃ n, n = ov.length := ⟨_, rfl⟩
  rw [hnn, ← hne] at huc ⊢
  have HNe := hide hne
  have hnl : n ≤ 1048576 := by omega
  obtain ⟨b, off, rfl, hbl, hcell⟩ := huc.resolve_left (by simp)
  have HCell : Hid (∀ k, k < n → w1.cell? ⟨b, off + k, none⟩ = some (.int .i64 (ov[k]?.getD 0))) := fun k hk => by
    rw [hcell k (by omega), List.getElem?_append_left (by have := HNe.out; omega)]
  have HOw1 : Hid (∀ k, Calls Tryd.prog 58 #[.slice a L.length cap, .int .i64 ss, .int .i64 k] w1 fun e w' => e = .returned (.int .i64 (ownI L ss k)) ∧ w' = w1) := fun k => HOw.out w1 k hw1
  clear hnn hne huc hcell HOw HOw0 hlen
  go_wp2_with fail
  go_loop [9, 11] (fun m i => ∃ k : Nat, k ≤ n ∧ i = .int .i64 k ∧ m = .int .i64 (joinL (ownI L ss id) ((ov.take k).map fun j => coverI (ownI L ss j))) ∧ Hid (ModeP (joinL (ownI L ss id) ((ov.take k).map fun j => coverI (ownI L ss j))))) (fun _ i => n - (intOf i).toNat)
  case atStart => exact ⟨0, Nat.zero_le _, rfl, rfl, HOm.out id⟩
  case round =>
    obtain ⟨k, hkl, rfl, rfl, hM⟩ := hrel
    by_cases hlt : k < n
    · have hc := HCell.out k hlt
      have hlt1 : (k : Int) < (n : Int) := by omega
      have hlt2 : k < ov.length := by have := HNe.out; omega
      have HSn : Hid (joinL (ownI L ss id) ((ov.take (k + 1)).map fun j => coverI (ownI L ss j)) = joinI (joinL (ownI L ss id) ((ov.take k).map fun j => coverI (ownI L ss j))) (coverI (ownI L ss (ov[k]?.getD 0)))) := by
        rw [Hid, List.take_succ_eq_append_getElem hlt2, List.map_append, List.map_singleton, joinL_snoc, List.getElem?_eq_getElem hlt2, Option.getD_some]
      have hO := HOm.out (ov[k]?.getD 0)
      have HO1 := hide (HOw1.out (ov[k]?.getD 0))
      have HM2 : Hid (ModeP (joinI (joinL (ownI L ss id) ((ov.take k).map fun j => coverI (ownI L ss j))) (coverI (ownI L ss (ov[k]?.getD 0))))) := joinI_mode hM.out (coverI_mode _)
      generalize ov[k]?.getD 0 = y at *
      generalize ownI L ss y = o at *
      have hw2 : IntKind.i64.wrap ((n : Int) + 1 - 1) = (n : Int) := by rw [IntKind.wrap_i64]; omega
      generalize joinL (ownI L ss id) ((ov.take k).map fun j => coverI (ownI L ss j)) = m0 at *
      rcases hO.cases with rfl | rfl | rfl | rfl | rfl | rfl
      · have HE : Hid (joinI m0 (coverI 0) = m0) := joinI_zero hM.out.1
        go_wp2_with (first | (go_at_call 58; refine HO1.out.mono ?_; rintro e w' ⟨rfl, rfl⟩) | (go_at_call 49; refine (specJoin_any _ _ _).mono ?_; rintro e w' ⟨rfl, rfl⟩))
        go_round
        case rel => exact ⟨k + 1, by omega, by go_num, by rw [HSn.out, HE.out], by rw [HSn.out]; exact HM2⟩
        case measure => simp [intOf]; omega
      · have HE : Hid (joinI m0 (coverI 1) = m0) := joinI_zero hM.out.1
        go_wp2_with (first | (go_at_call 58; refine HO1.out.mono ?_; rintro e w' ⟨rfl, rfl⟩) | (go_at_call 49; refine (specJoin_any _ _ _).mono ?_; rintro e w' ⟨rfl, rfl⟩))
        go_round
        case rel => exact ⟨k + 1, by omega, by go_num, by rw [HSn.out, HE.out], by rw [HSn.out]; exact HM2⟩
        case measure => simp [intOf]; omega
      · have HE : Hid (joinI m0 (coverI 2) = m0) := joinI_zero hM.out.1
        go_wp2_with (first | (go_at_call 58; refine HO1.out.mono ?_; rintro e w' ⟨rfl, rfl⟩) | (go_at_call 49; refine (specJoin_any _ _ _).mono ?_; rintro e w' ⟨rfl, rfl⟩))
        go_round
        case rel => exact ⟨k + 1, by omega, by go_num, by rw [HSn.out, HE.out], by rw [HSn.out]; exact HM2⟩
        case measure => simp [intOf]; omega
      · have HE : Hid (joinI m0 (coverI 3) = joinI m0 3) := rfl
        go_wp2_with (first | (go_at_call 58; refine HO1.out.mono ?_; rintro e w' ⟨rfl, rfl⟩) | (go_at_call 49; refine (specJoin_any _ _ _).mono ?_; rintro e w' ⟨rfl, rfl⟩))
        go_round
        case rel => exact ⟨k + 1, by omega, by go_num, by rw [HSn.out, HE.out], by rw [HSn.out]; exact HM2⟩
        case measure => simp [intOf]; omega
      · have HE : Hid (joinI m0 (coverI 4) = joinI m0 3) := rfl
        go_wp2_with (first | (go_at_call 58; refine HO1.out.mono ?_; rintro e w' ⟨rfl, rfl⟩) | (go_at_call 49; refine (specJoin_any _ _ _).mono ?_; rintro e w' ⟨rfl, rfl⟩))
        go_round
        case rel => exact ⟨k + 1, by omega, by go_num, by rw [HSn.out, HE.out], by rw [HSn.out]; exact HM2⟩
        case measure => simp [intOf]; omega
      · have HE : Hid (joinI m0 (coverI 5) = 5) := by
          obtain ⟨h1, h2⟩ := hM.out
          show joinI m0 5 = 5
          exact joinI_le h2 (by omega) rfl
        go_wp2_with (first | (go_at_call 58; refine HO1.out.mono ?_; rintro e w' ⟨rfl, rfl⟩) | (go_at_call 49; refine (specJoin_any _ _ _).mono ?_; rintro e w' ⟨rfl, rfl⟩))
        go_round
        case rel => exact ⟨k + 1, by omega, by go_num, by rw [HSn.out, HE.out], by rw [HSn.out]; exact HM2⟩
        case measure => simp [intOf]; omega
    · have HT : Hid (joinL (ownI L ss id) ((ov.take k).map fun j => coverI (ownI L ss j)) = r) := by
        rw [Hid, List.take_of_length_le (by have := HNe.out; omega)]; exact HF.out
      have hlt1 : ¬ (k : Int) < (n : Int) := by omega
      have hw2 : IntKind.i64.wrap ((n : Int) + 1 - 1) = (n : Int) := by rw [IntKind.wrap_i64]; omega
      generalize joinL (ownI L ss id) ((ov.take k).map fun j => coverI (ownI L ss j)) = m0 at *
      go_wp2_with fail
      go_ret
      exact ⟨ret_int HT.out, hw1⟩
end Go.Proofs.YtfjhpfgffbghdaaDoor
