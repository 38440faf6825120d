/-
  The law on modes (FnModes) answers true.
-/
import Derived.Test.YtahdgbfcaclflaaDoorCompatLaw
import Derived.Test.YtahdgbfcaclflaaDoorIntentLaw
import Derived.Test.YtahdgbfcaclflaaDoorJoinTop
namespace Go.Proofs.YtahdgbfcaclflaaDoor
open Go.RowKit

theorem modeP_of {k : Nat} (h : k < 6) : ModeP (k : Int) := ⟨by omega, by omega⟩

theorem comp_ok {a b : Nat} (ha : a < 6) (hb : b < 6) : compAns a b = fitsB a b ∧ compCode a b = 0 := by
  have ha1 := modeB_iff.2 (modeP_of ha)
  have hb1 := modeB_iff.2 (modeP_of hb)
  simp [compAns, compCode, ha1, hb1]
theorem join_ok {a b : Nat} (ha : a < 6) (hb : b < 6) : joinAns a b = joinI a b ∧ joinCode a b = 0 := by
  have ha1 := modeB_iff.2 (modeP_of ha)
  have hb1 := modeB_iff.2 (modeP_of hb)
  simp [joinAns, joinCode, ha1, hb1]
theorem int_ok {a : Nat} (ha : a < 6) : intCode a = 0 := by
  have ha1 := modeB_iff.2 (modeP_of ha)
  simp [intCode, ha1]

theorem fit_join {a b n : Int} (ha : ModeP a) (hb : ModeP b) (hn : ModeP n) : (fitsB (joinI a b) n = true → fitsB a n = true ∧ fitsB b n = true) ∧ (fitsB a n = true → fitsB b n = true → fitsB (joinI a b) n = false → joinI a b = 4) := by
  rcases ha.cases with rfl | rfl | rfl | rfl | rfl | rfl <;> rcases hb.cases with rfl | rfl | rfl | rfl | rfl | rfl <;> rcases hn.cases with rfl | rfl | rfl | rfl | rfl | rfl <;> decide

set_option maxHeartbeats 4000000 in
set_option maxRecDepth 100000 in
theorem modesLaw (a0 a1 : Option Addr) (l0 c0 l1 c1 : Nat) (w : World) (hF : FitsAt w) (hI : IntentsAt w) :
    Calls Tryd.prog 5 #[.slice a0 l0 c0, .slice a1 l1 c1] w fun e w' => e = .returned (.bool true) ∧ Below w.heap.size w w' := by
  have HIC := hide (fun a b => implCompatible_any a b w hF)
  have HSC := hide (fun a b => specCompatible_any a b w)
  have HIJ := hide (fun a b => implJoinModes_any a b w)
  have HSJ := hide (fun a b => specJoinModes_any a b w)
  have HII := hide (fun m => implIntentOf_any m w hI)
  have HSI := hide (fun m => specIntentOf_any m w)
  clear hF hI
  by_cases h0 : 1048576 < (l0 : Int)
  · go_enter Tryd.func5, Tryd.ntmps5
    go_wp2
    go_ret
    exact ⟨rfl, Below.refl _ _⟩
  by_cases h1 : 1048576 < (l1 : Int)
  · go_enter Tryd.func5, Tryd.ntmps5
    go_wp2
    go_ret
    exact ⟨rfl, Below.refl _ _⟩
  go_enter Tryd.func5, Tryd.ntmps5
  go_wp2
  go_loop [5] (fun i => ∃ k : Nat, k ≤ 6 ∧ i = .int .i64 k) (fun i => 6 - (intOf i).toNat)
  case atStart => exact ⟨0, by omega, rfl⟩
  case round =>
    obtain ⟨k, hk, rfl⟩ := hrel
    by_cases hk6 : k < 6
    · have hk5 : (k : Int) ≤ 5 := by omega
      go_wp2
      go_loop [6] (fun i => ∃ m : Nat, m ≤ 6 ∧ i = .int .i64 m) (fun i => 6 - (intOf i).toNat)
      case atStart => exact ⟨0, by omega, rfl⟩
      case round =>
        obtain ⟨m, hm, rfl⟩ := hrel
        by_cases hm6 : m < 6
        · have hm5 : (m : Int) ≤ 5 := by omega
          obtain ⟨e1, e2⟩ := comp_ok hk6 hm6
          obtain ⟨e3, e4⟩ := comp_ok hm6 hk6
          obtain ⟨e5, e6⟩ := join_ok hk6 hm6
          obtain ⟨e7, e8⟩ := join_ok hm6 hk6
          rw [fitsB_comm] at e3
          rw [joinI_comm] at e7
          obtain ⟨j, hj, hjj⟩ := (joinI_mode (modeP_of hk6) (modeP_of hm6)).nat
          have HFJ := hide (fun n => @fit_join (k : Int) (m : Int) n (modeP_of hk6) (modeP_of hm6))
          rw [hjj] at e5 e7 HFJ
          clear hjj
          generalize hx : fitsB (k : Int) (m : Int) = x at e1 e3
          clear hx
          cases x
          all_goals
            go_wp2_with (first | (go_at_call 11; refine (HIC.out _ _).mono ?_; rintro e w' ⟨rfl, rfl⟩) | (go_at_call 10; refine (HSC.out _ _).mono ?_; rintro e w' ⟨rfl, rfl⟩) | (go_at_call 14; refine (HIJ.out _ _).mono ?_; rintro e w' ⟨rfl, rfl⟩) | (go_at_call 15; refine (HSJ.out _ _).mono ?_; rintro e w' ⟨rfl, rfl⟩))
            go_loop [19] (fun i => ∃ n : Nat, n ≤ 6 ∧ i = .int .i64 n) (fun i => 6 - (intOf i).toNat)
            case atStart => exact ⟨0, by omega, rfl⟩
            case round =>
              obtain ⟨n, hn, rfl⟩ := hrel
              by_cases hn6 : n < 6
              · have hn5 : (n : Int) ≤ 5 := by omega
                obtain ⟨f1, f2⟩ := comp_ok hj hn6
                obtain ⟨f3, f4⟩ := comp_ok hk6 hn6
                obtain ⟨f5, f6⟩ := comp_ok hm6 hn6
                obtain ⟨g1, g2⟩ := HFJ.out n (modeP_of hn6)
                generalize fitsB (j : Int) (n : Int) = y1 at *
                generalize fitsB (k : Int) (n : Int) = y2 at *
                generalize fitsB (m : Int) (n : Int) = y3 at *
                clear HFJ
                cases y1 <;> cases y2 <;> cases y3
                all_goals first | (exfalso; have := g1 rfl; revert this; decide) | skip
                all_goals clear g1
                all_goals first | (have g3 := g2 rfl rfl rfl; have g4 : ((j : Int) != 4) = false := by simp [g3]) | skip
                all_goals try clear g3
                all_goals clear g2
                all_goals
                  go_wp2_with (go_at_call 11; refine (HIC.out _ _).mono ?_; rintro e w' ⟨rfl, rfl⟩)
                  go_round
                  case rel => first | exact ⟨n + 1, by omega, by go_num⟩ | exact ⟨trivial, n + 1, by omega, by go_num⟩ | exact ⟨⟨n + 1, by omega, by go_num⟩, trivial⟩
                  case measure => simp [intOf]; omega
              · have hn5 : ¬ (n : Int) ≤ 5 := by omega
                go_wp2
                go_round
                case rel => first | exact ⟨m + 1, by omega, by go_num⟩ | exact ⟨trivial, m + 1, by omega, by go_num⟩ | exact ⟨⟨m + 1, by omega, by go_num⟩, trivial⟩
                case measure => simp [intOf]; omega
        · have hm5 : ¬ (m : Int) ≤ 5 := by omega
          have i1 := int_ok hk6
          go_wp2_with (first | (go_at_call 13; refine (HII.out _).mono ?_; rintro e w' ⟨rfl, rfl⟩) | (go_at_call 12; refine (HSI.out _).mono ?_; rintro e w' ⟨rfl, rfl⟩))
          go_round
          case rel => first | exact ⟨k + 1, by omega, by go_num⟩ | exact ⟨trivial, k + 1, by omega, by go_num⟩ | exact ⟨⟨k + 1, by omega, by go_num⟩, trivial⟩
          case measure => simp [intOf]; omega
    · have hk5 : ¬ (k : Int) ≤ 5 := by omega
      have hc : compCode 6 0 = 19 := rfl
      go_wp2_with (go_at_call 11; refine (HIC.out _ _).mono ?_; rintro e w' ⟨rfl, rfl⟩)
      go_ret
      exact ⟨rfl, Below.refl _ _⟩
end Go.Proofs.YtahdgbfcaclflaaDoor
