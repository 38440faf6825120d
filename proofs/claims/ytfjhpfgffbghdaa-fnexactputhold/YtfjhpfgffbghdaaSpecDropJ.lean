/-
  A list of holds without a session's lock on a node, as the specification makes it.
-/
import Derived.Test.YtfjhpfgffbghdaaHoldRowsJ
import Derived.Test.YtfjhpfgffbghdaaHoldToJ
namespace Go.Proofs.Ytfjhpfgffbghdaa
open Go.RowKit

set_option maxHeartbeats 4000000 in
set_option maxRecDepth 100000 in
theorem specDrop_any (n₀ : Nat) (v : Value) (L : List PHold) (s i : Int) (w : World) (hV : HoldsAt n₀ w v L) (hn : n₀ ≤ w.heap.size) (hL : L.length ≤ 1048576) :
    Calls Try.prog 47 #[v, .int .i64 s, .int .i64 i] w fun e w' => ∃ u, e = .returned u ∧ w'.ownsRow w.heap.size 42 3 u (dropL L s i).length (holdVals (dropL L s i)) ∧ Below w.heap.size w w' := by
  obtain ⟨i0, hinf, hq0, hq1, hq2⟩ := info_parts holdInfo
  obtain ⟨We, hWe⟩ : ∃ We, We = w.alloc (.cells #[] 42) := ⟨_, rfl⟩
  have hse : We.heap.size = w.heap.size + 1 := by rw [hWe]; simp
  have hbe : Below w.heap.size w We := by rw [hWe]; exact (Below.refl _ _).alloc (Nat.le_refl _) _
  have HNone : Hid (We.ownsRow w.heap.size 42 3 (.slice (some ⟨w.heap.size, 0, none⟩) 0 0) 0 []) := by rw [hWe]; exact hrow_none w w.heap.size (Nat.le_refl _)
  have HHit := hide (fun k h => @dropL_hit L s i k h)
  have HMiss := hide (fun k h => @dropL_miss L s i k h)
  have HLen := hide (fun k => dropL_len (L.take k) s i)
  obtain ⟨a, cap, rfl, hk⟩ := hV
  clear hse
  go_enter Try.func47, Try.ntmps47
  go_wp2_with fail
  rw [← hWe]
  clear hWe
  go_loopw [7, 8] (fun ov idx wr => ∃ (k : Nat) (out : List PHold), k ≤ L.length ∧ idx = .int .i64 k ∧ Hid (out = dropL (L.take k) s i) ∧ out.length ≤ k ∧ Hid (wr.ownsRow w.heap.size 42 3 ov out.length (holdVals out)) ∧ Below w.heap.size w wr) (fun _ idx _ => L.length - (intOf idx).toNat)
  case atStart => exact ⟨0, [], Nat.zero_le _, rfl, by simp [Hid, dropL], by simp, HNone, hbe⟩
  case round =>
    obtain ⟨k, out, hkn, rfl, hout, hol, hrow, hbr⟩ := hrel
    rename_i ov _
    have hsz := hbr.size
    by_cases hlt : k < L.length
    · have hlt1 : (k : Int) < (L.length : Int) := by omega
      obtain ⟨b, off, rfl, hb, hc⟩ := hk.resolve_left (by intro e; simp [e] at hlt)
      have hA := (hc k hlt).below hb (hbr.mono hn)
      have g0 := hA.c0
      have g1 := hA.c1
      have g2 := hA.c2
      have hbz : b < wr.heap.size := by omega
      have HH1 := hide (HHit.out k hlt)
      have HM1 := hide (HMiss.out k hlt)
      clear hc hk hA
      generalize L[k]?.getD holdNil = x at *
      by_cases hat : isAt s i x = true
      · have HE := hide (HM1.out hat)
        obtain ⟨e1, e2⟩ := isAt_iff.1 hat
        have h1 : (x.session != s) = false := by simp [e1]
        have h2 : (x.node != i) = false := by simp [e2]
        clear hat e1 e2
        go_wp2_with fail
        exact ⟨⟨k + 1, out, by omega, by go_num, by rw [Hid, HE.out]; exact hout.out, by omega, hrow, hbr⟩, by simp [intOf]; omega⟩
      · have HE := hide (HH1.out (by simpa using hat))
        have hns : (x.session != s) = true ∨ ((x.session != s) = false ∧ (x.node != i) = true) := by
          rw [isAt_iff] at hat
          by_cases e1 : x.session = s
          · exact .inr ⟨by simp [e1], by simp; exact fun e2 => hat ⟨e1, e2⟩⟩
          · exact .inl (by simp [e1])
        clear hat
        rcases hns with h1 | ⟨h1, h2⟩
        all_goals
          go_wp2_with (at_builtin; refine wpList_append_own _ rfl _ _ 33 rfl w.heap.size 42 i0 (.agg #[.int .i64 0, .int .i64 0, .int .i64 0]) 3 24 Try.underlying33 hinf hq0 hq1 hq2 rfl (by decide) _ _ _ rfl (hrow.out.alloc _) ⟨wr.heap.size, 0, none⟩ 1 1 (holdCells x) rfl rfl (World.news_of_block (alloc_new wr _)) (holdCells_one x) (by unfold maxLen; omega) (by omega) (by simp; omega) ?_)
          intro v' w3 hown' hgrow _
          have hb3 := (hbr.alloc (by omega) (.cells #[.int .i64 x.session, .int .i64 x.node, .int .i64 x.mode] 42)).grown hgrow (by simp; omega) (fun g' hg' => by have := (hrow.out.lt g' hg').1; omega)
          have HRow3 : Hid (w3.ownsRow w.heap.size 42 3 v' (out ++ [x]).length (holdVals (out ++ [x]))) := by
            rw [Hid, holdVals_snoc, List.length_append]; exact hown'
          clear hown' hgrow
          go_wp2_with fail
          exact ⟨⟨k + 1, out ++ [x], by omega, by go_num, by rw [Hid, HE.out, ← hout.out], by simp; omega, HRow3, hb3⟩, by simp [intOf]; omega⟩
    · have hlt1 : ¬ (k : Int) < (L.length : Int) := by omega
      have hkk : k = L.length := by omega
      have HE : Hid (out = dropL L s i) := by rw [Hid, hout.out, hkk, List.take_length]
      clear hkk hk
      go_wp2_with fail
      go_ret
      have hr := hrow.out
      have he := HE.out
      subst he
      exact ⟨_, rfl, hr, hbr⟩
end Go.Proofs.Ytfjhpfgffbghdaa
