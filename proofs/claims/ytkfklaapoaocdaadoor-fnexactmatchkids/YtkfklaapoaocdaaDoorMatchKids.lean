/-
  MatchKids: the answers of the specification and of the program.
-/
import Derived.Test.YtkfklaapoaocdaaDoorMatchTop
namespace Go.Proofs.YtkfklaapoaocdaaDoor
open Go.RowKit

def matchAns (tb mb : Bool) (n m : Nat) : Bool × Int := if 4096 < n ∨ 4096 < m then (false, 2) else if tb = false then (false, 1) else if 12 < m then (false, 6) else (mb, 0)

set_option maxHeartbeats 1000000 in
theorem specMatchKids_any (n₀ : Nat) (v kv : Value) (l : List PTerm) (ks : List Int) (w : World) (hT : TermsAt n₀ w v l) (hTr : Roomy v l.length) (hK : IntsAt n₀ w kv ks) (hKr : Roomy kv ks.length) (hn : n₀ ≤ w.heap.size) (hl : SmallTerms l) (hkl : ks.length ≤ 1048576) (tb mb : Bool) (htb : tb = true ↔ TermsP 8 l) (hmb : mb = true ↔ MatchP l ks) (p : Bool × Int) (hp : p = matchAns tb mb l.length ks.length) :
    Calls Tryd.prog 9 #[v, kv] w fun e w' => e = .returned (.tuple #[.bool p.1, .int .i64 p.2]) ∧ Below w.heap.size w w' := by
  have HTm := hide (specTerms_any n₀ v l w hT hn hl tb htb)
  have HMt : Hid (tb = true → ks.length ≤ 12 → ∀ wx, Below w.heap.size w wx → Calls Tryd.prog 40 #[v, kv] wx fun e w' => e = .returned (.bool mb) ∧ Below wx.heap.size wx w') := fun h1 h2 wx hb => specMatch_any l n₀ v kv ks wx (hT.below (Nat.le_refl _) (hb.mono hn)) hTr (hK.below (Nat.le_refl _) (hb.mono hn)) hKr (by have := hb.size; omega) (htb.1 h1).len hl.kinds h2 mb hmb
  have hl1 := hl.len
  obtain ⟨a, cap, rfl, -⟩ := hTr
  obtain ⟨ak, ck, rfl, -⟩ := hKr
  clear hT hK htb hmb hl
  by_cases h1 : 4096 < l.length
  · have e : p = (false, 2) := by rw [hp, matchAns, if_pos (.inl h1)]
    clear hp
    subst e
    go_enter Tryd.func9, Tryd.ntmps9
    go_wp2_with fail
    go_ret2
    exact ⟨rfl, Below.refl _ _⟩
  · by_cases h2 : 4096 < ks.length
    · have e : p = (false, 2) := by rw [hp, matchAns, if_pos (.inr h2)]
      clear hp
      subst e
      go_enter Tryd.func9, Tryd.ntmps9
      go_wp2_with fail
      go_ret2
      exact ⟨rfl, Below.refl _ _⟩
    · rw [matchAns, if_neg (by omega)] at hp
      have h3 : decide ((4096 : Int) < (ks.length : Int)) = false := by simp; omega
      cases tb with
      | false =>
        have e : p = (false, 1) := by rw [hp]; rfl
        clear hp
        subst e
        go_enter Tryd.func9, Tryd.ntmps9
        go_wp2_with fail
        refine HTm.out.mono ?_
        rintro e w1 ⟨rfl, hb1⟩
        go_wp2_with fail
        go_ret2
        exact ⟨rfl, hb1⟩
      | true =>
        by_cases h12 : 12 < ks.length
        · have e : p = (false, 6) := by rw [hp, if_neg (by simp), if_pos h12]
          clear hp
          subst e
          go_enter Tryd.func9, Tryd.ntmps9
          go_wp2_with fail
          refine HTm.out.mono ?_
          rintro e w1 ⟨rfl, hb1⟩
          go_wp2_with fail
          go_ret2
          exact ⟨rfl, hb1⟩
        · have e : p = (mb, 0) := by rw [hp, if_neg (by simp), if_neg h12]
          have HM2 := hide (HMt.out rfl (by omega))
          clear hp HMt
          subst e
          go_enter Tryd.func9, Tryd.ntmps9
          go_wp2_with fail
          refine HTm.out.mono ?_
          rintro e w1 ⟨rfl, hb1⟩
          go_wp2_with fail
          refine (HM2.out _ hb1).mono ?_
          rintro e w2 ⟨rfl, hb2⟩
          go_wp2_with fail
          go_ret2
          exact ⟨rfl, hb1.trans (hb2.mono hb1.size)⟩

set_option maxHeartbeats 1000000 in
theorem implMatchKids_any (n₀ : Nat) (v kv : Value) (l : List PTerm) (ks : List Int) (w : World) (hT : TermsAt n₀ w v l) (hTr : Roomy v l.length) (hK : IntsAt n₀ w kv ks) (hKr : Roomy kv ks.length) (hn : n₀ ≤ w.heap.size) (hl : SmallTerms l) (hkl : ks.length ≤ 1048576) (hA : AmtAt w) (tb mb : Bool) (htb : tb = true ↔ TermsP 8 l) (hmb : mb = true ↔ MatchP l ks) (p : Bool × Int) (hp : p = matchAns tb mb l.length ks.length) :
    Calls Tryd.prog 12 #[v, kv] w fun e w' => e = .returned (.tuple #[.bool p.1, .int .i64 p.2]) ∧ Below w.heap.size w w' := by
  have HTm := hide (implTerms_any n₀ v l 8 w hT hn hl (by omega) (by omega) tb htb)
  have HMt : Hid (tb = true → ks.length ≤ 12 → ∀ wx, Below w.heap.size w wx → Calls Tryd.prog 43 #[v, kv] wx fun e w' => e = .returned (.bool mb) ∧ Below wx.heap.size wx w') := fun h1 h2 wx hb => matchKids_any n₀ v kv l ks wx (hT.below (Nat.le_refl _) (hb.mono hn)) (hK.below (Nat.le_refl _) (hb.mono hn)) hKr (by have := hb.size; omega) (htb.1 h1) hl.kinds h2 (hA.below hb) mb hmb
  have hl1 := hl.len
  obtain ⟨a, cap, rfl, -⟩ := hTr
  obtain ⟨ak, ck, rfl, -⟩ := hKr
  clear hT hK htb hmb hl hA
  by_cases h1 : 4096 < l.length
  · have e : p = (false, 2) := by rw [hp, matchAns, if_pos (.inl h1)]
    clear hp
    subst e
    go_enter Tryd.func12, Tryd.ntmps12
    go_wp2_with fail
    go_ret2
    exact ⟨rfl, Below.refl _ _⟩
  · by_cases h2 : 4096 < ks.length
    · have e : p = (false, 2) := by rw [hp, matchAns, if_pos (.inr h2)]
      clear hp
      subst e
      go_enter Tryd.func12, Tryd.ntmps12
      go_wp2_with fail
      go_ret2
      exact ⟨rfl, Below.refl _ _⟩
    · rw [matchAns, if_neg (by omega)] at hp
      have h3 : decide ((4096 : Int) < (ks.length : Int)) = false := by simp; omega
      cases tb with
      | false =>
        have e : p = (false, 1) := by rw [hp]; rfl
        clear hp
        subst e
        go_enter Tryd.func12, Tryd.ntmps12
        go_wp2_with fail
        refine HTm.out.mono ?_
        rintro e w1 ⟨rfl, hb1⟩
        go_wp2_with fail
        go_ret2
        exact ⟨rfl, hb1⟩
      | true =>
        by_cases h12 : 12 < ks.length
        · have e : p = (false, 6) := by rw [hp, if_neg (by simp), if_pos h12]
          clear hp
          subst e
          go_enter Tryd.func12, Tryd.ntmps12
          go_wp2_with fail
          refine HTm.out.mono ?_
          rintro e w1 ⟨rfl, hb1⟩
          go_wp2_with fail
          go_ret2
          exact ⟨rfl, hb1⟩
        · have e : p = (mb, 0) := by rw [hp, if_neg (by simp), if_neg h12]
          have HM2 := hide (HMt.out rfl (by omega))
          clear hp HMt
          subst e
          go_enter Tryd.func12, Tryd.ntmps12
          go_wp2_with fail
          refine HTm.out.mono ?_
          rintro e w1 ⟨rfl, hb1⟩
          go_wp2_with fail
          refine (HM2.out _ hb1).mono ?_
          rintro e w2 ⟨rfl, hb2⟩
          go_wp2_with fail
          go_ret2
          exact ⟨rfl, hb1.trans (hb2.mono hb1.size)⟩

end Go.Proofs.YtkfklaapoaocdaaDoor
