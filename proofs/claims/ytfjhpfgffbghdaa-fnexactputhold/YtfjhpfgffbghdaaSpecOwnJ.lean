/-
  A session's own lock on a node, asked by the specification.
-/
import Derived.Test.YtfjhpfgffbghdaaJoinF
namespace Go.Proofs.Ytfjhpfgffbghdaa
open Go.RowKit

set_option maxHeartbeats 1000000 in
theorem specOwn_any (n₀ : Nat) (v : Value) (L : List PHold) (ss id : Int) (w : World) (hV : HoldsAt n₀ w v L) (hn : n₀ ≤ w.heap.size) (hL : L.length ≤ 1048576) :
    Calls Try.prog 46 #[v, .int .i64 ss, .int .i64 id] w fun e w' => e = .returned (.int .i64 (ownI L ss id)) ∧ w' = w := by
  obtain ⟨a, cap, rfl, hk⟩ := hV
  obtain ⟨r, hr⟩ : ∃ r, r = ownI L ss id := ⟨_, rfl⟩
  have HR := hide hr
  rw [← hr]
  clear hr
  go_enter Try.func46, Try.ntmps46
  go_wp2_with fail
  go_loop [7] (fun i => ∃ k : Nat, k ≤ L.length ∧ i = .int .i64 k ∧ Hid (∀ j, j < k → isAt ss id (L[j]?.getD holdNil) = false)) (fun i => L.length - (intOf i).toNat)
  case atStart => exact ⟨0, Nat.zero_le _, rfl, fun j hj => absurd hj (by omega)⟩
  case round =>
    obtain ⟨k, hkl, rfl, hno⟩ := hrel
    by_cases hlt : k < L.length
    · obtain ⟨b, off, rfl, hb, hc⟩ := hk.resolve_left (by intro e; simp [e] at hlt)
      have hA := hc k hlt
      have g0 := hA.c0
      have g1 := hA.c1
      have g2 := hA.c2
      have hlt1 : (k : Int) < (L.length : Int) := by omega
      have hbl : b < w.heap.size := by omega
      have HY : Hid (isAt ss id (L[k]?.getD holdNil) = true → r = (L[k]?.getD holdNil).mode) := fun h => by rw [HR.out]; exact ownI_some hlt hno.out h
      have HN : Hid (isAt ss id (L[k]?.getD holdNil) = false → ∀ j, j < k + 1 → isAt ss id (L[j]?.getD holdNil) = false) := fun h j hj => by
        by_cases e : j = k
        · subst e; exact h
        · exact hno.out j (by omega)
      clear hc hk hA
      generalize L[k]?.getD holdNil = x at *
      by_cases hs : x.session = ss
      · have hs1 : (x.session == ss) = true := by simp [hs]
        by_cases hi : x.node = id
        · have hi1 : (x.node == id) = true := by simp [hi]
          have HE := hide (HY.out (isAt_iff.2 ⟨hs, hi⟩))
          clear hs hi
          go_wp2_with fail
          go_ret
          exact ⟨ret_int HE.out.symm, rfl⟩
        · have hi1 : (x.node == id) = false := by simp [hi]
          have HE := hide (HN.out (by rw [← Bool.not_eq_true, isAt_iff]; exact fun h => hi h.2))
          clear hs hi
          go_wp2_with fail
          go_round
          case rel => exact ⟨k + 1, by omega, by go_num, HE⟩
          case measure => simp [intOf]; omega
      · have hs1 : (x.session == ss) = false := by simp [hs]
        have HE := hide (HN.out (by rw [← Bool.not_eq_true, isAt_iff]; exact fun h => hs h.1))
        clear hs
        go_wp2_with fail
        go_round
        case rel => exact ⟨k + 1, by omega, by go_num, HE⟩
        case measure => simp [intOf]; omega
    · have HE : Hid (r = 0) := by
        rw [Hid, HR.out]
        refine ownI_none fun x hx => ?_
        obtain ⟨j, hj, rfl⟩ := List.getElem_of_mem hx
        have := hno.out j (by omega)
        rwa [List.getElem?_eq_getElem hj, Option.getD_some] at this
      clear hk
      go_wp2_with fail
      go_ret
      exact ⟨ret_int HE.out.symm, rfl⟩
end Go.Proofs.Ytfjhpfgffbghdaa
