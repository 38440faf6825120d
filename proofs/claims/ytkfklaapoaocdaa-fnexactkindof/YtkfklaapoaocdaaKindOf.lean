/-
  KindOf: what the specification and the program answer.
-/
import Derived.Test.YtkfklaapoaocdaaSchOK
namespace Go.Proofs.Ytkfklaapoaocdaa
open Go.RowKit

def kindAns (r : Bool) (n m q : Nat) : Int × Int := if 4096 < n ∨ 65536 < m then (0, 2) else if r = false then (0, 1) else if q = 0 then (0, 5) else ((q : Int), 0)

set_option maxHeartbeats 400000 in
theorem specKindOf_any (n₀ : Nat) (v : Value) (l : List PRule) (s : ByteArray) (w : World) (h : RulesAt n₀ w v l) (hn : n₀ ≤ w.heap.size) (hl : SmallRules l) (hs : s.size ≤ 9223372036854775807) (r : Bool) (hr : r = true ↔ SchemaP l) (p : Int × Int) (hp : p = kindAns r l.length s.size (kindOf l s)) :
    Calls Try.prog 17 #[v, .string s] w fun e w' => e = .returned (.tuple #[.int .i64 p.1, .int .i64 p.2]) ∧ Below w.heap.size w w' := by
  have HS := hide (specOK_any n₀ v l w h hn hl r hr)
  have HK : Hid (∀ wx, Below w.heap.size w wx → Calls Try.prog 31 #[v, .string s] wx fun e w' => e = .returned (.int .i64 (kindOf l s)) ∧ w' = wx) := fun wx hb => specKind_any n₀ v l s wx (h.below (Nat.le_refl _) (hb.mono hn)) hl.len
  have hl1 := hl.len
  generalize kindOf l s = q at *
  obtain ⟨a, cap, rfl, -⟩ := h
  clear hl hr
  by_cases hm : 4096 < l.length
  · have e : p = (0, 2) := by rw [hp, kindAns, if_pos (.inl hm)]
    clear hp
    subst e
    go_enter Try.func17, Try.ntmps17
    go_wp2_with fail
    go_ret2
    exact ⟨rfl, Below.refl _ _⟩
  · by_cases hm2 : 65536 < s.size
    · have e : p = (0, 2) := by rw [hp, kindAns, if_pos (.inr hm2)]
      clear hp
      subst e
      go_enter Try.func17, Try.ntmps17
      go_wp2_with fail
      go_ret2
      exact ⟨rfl, Below.refl _ _⟩
    · rw [kindAns, if_neg (by omega)] at hp
      have hm3 : decide ((65536 : Int) < (s.size : Int)) = false := by simp; omega
      cases r with
      | false =>
        have e : p = (0, 1) := by rw [hp]; rfl
        clear hp
        subst e
        go_enter Try.func17, Try.ntmps17
        go_wp2_with fail
        refine HS.out.mono ?_
        rintro e w1 ⟨rfl, hb1⟩
        go_wp2_with fail
        go_ret2
        exact ⟨rfl, hb1⟩
      | true =>
        by_cases hq : q = 0
        · have e : p = (0, 5) := by rw [hp, if_neg (by simp), if_pos hq]
          have hq1 : ((q : Int) == 0) = true := by simp [hq]
          clear hp hq
          subst e
          go_enter Try.func17, Try.ntmps17
          go_wp2_with fail
          refine HS.out.mono ?_
          rintro e w1 ⟨rfl, hb1⟩
          go_wp2_with fail
          refine (HK.out _ hb1).mono ?_
          rintro e w2 ⟨rfl, rfl⟩
          go_wp2_with fail
          go_ret2
          exact ⟨rfl, hb1⟩
        · have e : p = ((q : Int), 0) := by rw [hp, if_neg (by simp), if_neg hq]
          have hq1 : ((q : Int) == 0) = false := by simpa using hq
          clear hp hq
          subst e
          go_enter Try.func17, Try.ntmps17
          go_wp2_with fail
          refine HS.out.mono ?_
          rintro e w1 ⟨rfl, hb1⟩
          go_wp2_with fail
          refine (HK.out _ hb1).mono ?_
          rintro e w2 ⟨rfl, rfl⟩
          go_wp2_with fail
          go_ret2
          exact ⟨rfl, hb1⟩

set_option maxHeartbeats 400000 in
theorem implKindOf_any (n₀ : Nat) (v : Value) (l : List PRule) (s : ByteArray) (w : World) (h : RulesAt n₀ w v l) (hroom : Roomy v l.length) (hn : n₀ ≤ w.heap.size) (hl : SmallRules l) (hs : s.size ≤ 9223372036854775807) (r : Bool) (hr : r = true ↔ SchemaP l) (p : Int × Int) (hp : p = kindAns r l.length s.size (kindOf l s)) :
    Calls Try.prog 18 #[v, .string s] w fun e w' => e = .returned (.tuple #[.int .i64 p.1, .int .i64 p.2]) ∧ Below w.heap.size w w' := by
  have HS := hide (implSchemaOK_any n₀ v l w h hroom hn hl r hr)
  have HK : Hid (∀ wx, Below w.heap.size w wx → Calls Try.prog 30 #[v, .string s] wx fun e w' => e = .returned (.int .i64 (kindOf l s)) ∧ Below wx.heap.size wx w') := fun wx hb => kindNamed_any n₀ v l s wx (h.below (Nat.le_refl _) (hb.mono hn)) (by have := hb.size; omega) hl.len
  have hl1 := hl.len
  generalize kindOf l s = q at *
  obtain ⟨a, cap, rfl, -⟩ := h
  clear hl hr hroom
  by_cases hm : 4096 < l.length
  · have e : p = (0, 2) := by rw [hp, kindAns, if_pos (.inl hm)]
    clear hp
    subst e
    go_enter Try.func18, Try.ntmps18
    go_wp2_with fail
    go_ret2
    exact ⟨rfl, Below.refl _ _⟩
  · by_cases hm2 : 65536 < s.size
    · have e : p = (0, 2) := by rw [hp, kindAns, if_pos (.inr hm2)]
      clear hp
      subst e
      go_enter Try.func18, Try.ntmps18
      go_wp2_with fail
      go_ret2
      exact ⟨rfl, Below.refl _ _⟩
    · rw [kindAns, if_neg (by omega)] at hp
      have hm3 : decide ((65536 : Int) < (s.size : Int)) = false := by simp; omega
      cases r with
      | false =>
        have e : p = (0, 1) := by rw [hp]; rfl
        clear hp
        subst e
        go_enter Try.func18, Try.ntmps18
        go_wp2_with fail
        refine HS.out.mono ?_
        rintro e w1 ⟨rfl, hb1⟩
        go_wp2_with fail
        go_ret2
        exact ⟨rfl, hb1⟩
      | true =>
        by_cases hq : q = 0
        · have e : p = (0, 5) := by rw [hp, if_neg (by simp), if_pos hq]
          have hq1 : ((q : Int) == 0) = true := by simp [hq]
          clear hp hq
          subst e
          go_enter Try.func18, Try.ntmps18
          go_wp2_with fail
          refine HS.out.mono ?_
          rintro e w1 ⟨rfl, hb1⟩
          go_wp2_with fail
          refine (HK.out _ hb1).mono ?_
          rintro e w2 ⟨rfl, hb2⟩
          go_wp2_with fail
          go_ret2
          exact ⟨rfl, hb1.trans (hb2.mono hb1.size)⟩
        · have e : p = ((q : Int), 0) := by rw [hp, if_neg (by simp), if_neg hq]
          have hq1 : ((q : Int) == 0) = false := by simpa using hq
          clear hp hq
          subst e
          go_enter Try.func18, Try.ntmps18
          go_wp2_with fail
          refine HS.out.mono ?_
          rintro e w1 ⟨rfl, hb1⟩
          go_wp2_with fail
          refine (HK.out _ hb1).mono ?_
          rintro e w2 ⟨rfl, hb2⟩
          go_wp2_with fail
          go_ret2
          exact ⟨rfl, hb1.trans (hb2.mono hb1.size)⟩
end Go.Proofs.Ytkfklaapoaocdaa
