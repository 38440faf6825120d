/-
  How the law package asks whether terms are small enough.
  How the law package asks whether rules are small enough.
-/
import Derived.Test.YtpkblnponeonkaaDoorJoinD
namespace Go.Proofs.YtpkblnponeonkaaDoor
open Go.RowKit

/-- Lists and texts that the model's memory can hold. -/
structure FitsTerms (l : List PTerm) : Prop where
  len : l.length ≤ 9223372036854775807
  kinds : ∀ x ∈ l, x.kinds.length ≤ 9223372036854775807

set_option maxHeartbeats 400000 in
theorem szTerm_any (x : PTerm) (a : Option Addr) (cap : Nat) (c : Int) (w : World) (h0 : 0 ≤ c) (h1 : c ≤ 1048576) (hl : x.kinds.length ≤ 9223372036854775807) :
    Calls Tryd.prog 100 #[.agg #[.slice a x.kinds.length cap, .int .i64 x.many], .int .i64 c] w fun e w' => ∃ r, e = .returned (.int .i64 r) ∧ -1 ≤ r ∧ r ≤ c ∧ (0 ≤ r → x.kinds.length ≤ 1048576) ∧ Below w.heap.size w w' := by
  have HS := hide (fun w1 => szInts_any a x.kinds.length cap c w1 (by omega) (by omega) hl)
  go_enter Tryd.func100, Tryd.ntmps100
  go_wp2_with fail
  refine (HS.out _).mono ?_
  rintro e w1 ⟨r, rfl, hr1, hr2, hr3, rfl⟩
  have HR := hide hr3
  clear hr3
  by_cases hr : r < 0
  · go_wp2_with fail
    go_ret
    exact ⟨_, rfl, by omega, by omega, by omega, (Below.refl _ _).alloc (Nat.le_refl _) _⟩
  · go_wp2_with fail
    go_ret
    exact ⟨_, rfl, by omega, by omega, HR.out, (Below.refl _ _).alloc (Nat.le_refl _) _⟩

set_option maxHeartbeats 1000000 in
set_option maxRecDepth 100000 in
theorem szTerms_any (n₀ : Nat) (v : Value) (l : List PTerm) (c : Int) (w : World) (h : TermsAt n₀ w v l) (hn : n₀ ≤ w.heap.size) (h0 : 0 ≤ c) (h1 : c ≤ 1048576) (hf : FitsTerms l) :
    Calls Tryd.prog 76 #[v, .int .i64 c] w fun e w' => ∃ r, e = .returned (.int .i64 r) ∧ -1 ≤ r ∧ r ≤ c ∧ (0 ≤ r → SmallTerms l) ∧ Below w.heap.size w w' := by
  obtain ⟨a, cap, rfl, hk'⟩ := h
  have hl := hf.len
  have HK := hide hf.kinds
  clear hf
  by_cases h : c - l.length < 0
  · clear hk'
    go_enter Tryd.func76, Tryd.ntmps76
    go_wp2_with fail
    go_ret
    exact ⟨_, rfl, by omega, by omega, by omega, Below.refl _ _⟩
  · go_enter Tryd.func76, Tryd.ntmps76
    go_wp2_with fail
    go_loopw [1, 5] (fun cv i wr => ∃ (k : Nat) (r : Int), k ≤ l.length ∧ i = .int .i64 k ∧ cv = .int .i64 r ∧ 0 ≤ r ∧ r ≤ c ∧ Hid (∀ x ∈ l.take k, x.kinds.length ≤ 1048576) ∧ Below w.heap.size w wr) (fun _ i _ => l.length - (intOf i).toNat)
    case atStart => exact ⟨0, _, Nat.zero_le _, rfl, rfl, by omega, by omega, by simp [Hid], Below.refl _ _⟩
    case round =>
      obtain ⟨k, r, hkl, rfl, rfl, hr0, hrc, hall, hbr⟩ := hrel
      have hsz := hbr.size
      by_cases hlt : k < l.length
      · obtain ⟨b, off, rfl, hb, hc⟩ := hk'.resolve_left (by intro e; simp [e] at hlt)
        have hA := (hc k hlt).below hb (Nat.le_refl _) (hbr.mono hn)
        have hlx := HK.out (l[k]?.getD termNil) (by simp [hlt])
        have g1 := hA.c1
        obtain ⟨kv, g0, ak, ck, rfl, -⟩ := hA.c0
        have HCall := hide (szTerm_any (l[k]?.getD termNil) ak ck r wr hr0 (by omega) hlx)
        have HSn := hide (@take_snoc_all _ l termNil k hlt (fun x => x.kinds.length ≤ 1048576) hall.out)
        have hbw : b < wr.heap.size := by omega
        clear hA hc hk' hlx hall
        generalize l[k]?.getD termNil = x at *
        go_wp2_with fail
        refine HCall.out.mono ?_
        rintro e w1 ⟨r1, rfl, hr1, hr2, hr3, hb1⟩
        by_cases hr : r1 < 0
        · clear hr3
          go_wp2_with fail
          go_ret
          exact ⟨_, rfl, by omega, by omega, by omega, hbr.trans (hb1.mono hsz)⟩
        · have HA2 := hide (HSn.out (hr3 (by omega)))
          clear hr3 HCall
          go_wp2_with fail
          exact ⟨⟨k + 1, r1, by omega, by go_num, rfl, by omega, by omega, HA2, hbr.trans (hb1.mono hsz)⟩, by simp [intOf]; omega⟩
      · have HA2 : Hid (∀ x ∈ l, x.kinds.length ≤ 1048576) := by have := hall.out; rwa [List.take_of_length_le (by omega)] at this
        clear hk' hall
        go_wp2_with fail
        go_ret
        exact ⟨_, rfl, by omega, by omega, fun _ => ⟨by omega, HA2.out⟩, hbr⟩
end Go.Proofs.YtpkblnponeonkaaDoor

namespace Go.Proofs.YtpkblnponeonkaaDoor
open Go.RowKit

structure FitsRule (x : PRule) : Prop where
  name : x.name.size ≤ 9223372036854775807
  terms : FitsTerms x.terms

structure FitsRules (l : List PRule) : Prop where
  len : l.length ≤ 9223372036854775807
  rules : ∀ x ∈ l, FitsRule x

set_option maxHeartbeats 400000 in
theorem szRule_any (n₀ : Nat) (v : Value) (x : PRule) (c : Int) (w : World) (h : RuleVal n₀ w v x) (hn : n₀ ≤ w.heap.size) (h0 : 0 ≤ c) (h1 : c ≤ 1048576) (hf : FitsRule x) :
    Calls Tryd.prog 43 #[v, .int .i64 c] w fun e w' => ∃ r, e = .returned (.int .i64 r) ∧ -1 ≤ r ∧ r ≤ c ∧ (0 ≤ r → SmallRule x) ∧ Below w.heap.size w w' := by
  obtain ⟨s, rfl, hk⟩ := h
  have hnm := hf.name
  have hW := (Below.refl w.heap.size w).alloc (Nat.le_refl _) (.cells #[.string x.name, .bool x.leaf, s] 79)
  by_cases h : c - x.name.size < 0
  · obtain ⟨a, cap, rfl, -⟩ := hk
    clear hf
    go_enter Tryd.func43, Tryd.ntmps43
    go_wp2_with fail
    go_ret
    exact ⟨_, rfl, by omega, by omega, by omega, hW⟩
  · have HS := hide (szTerms_any n₀ s x.terms (c - x.name.size) (w.alloc (.cells #[.string x.name, .bool x.leaf, s] 79)) (hk.below (Nat.le_refl _) (hW.mono hn)) (by simp; omega) (by omega) (by omega) hf.terms)
    obtain ⟨a, cap, rfl, -⟩ := hk
    clear hf
    go_enter Tryd.func43, Tryd.ntmps43
    go_wp2_with fail
    refine HS.out.mono ?_
    rintro e w1 ⟨r, rfl, hr1, hr2, hr3, hb1⟩
    simp only [World.size_alloc] at hb1
    have HR : Hid (0 ≤ r → SmallRule x) := fun h => ⟨by omega, hr3 h⟩
    clear hr3
    by_cases hr : r < 0
    · go_wp2_with fail
      go_ret
      exact ⟨_, rfl, by omega, by omega, by omega, hW.trans (hb1.mono (by omega))⟩
    · go_wp2_with fail
      go_ret
      exact ⟨_, rfl, by omega, by omega, HR.out, hW.trans (hb1.mono (by omega))⟩

set_option maxHeartbeats 1000000 in
set_option maxRecDepth 100000 in
theorem szRules_any (n₀ : Nat) (v : Value) (l : List PRule) (c : Int) (w : World) (h : RulesAt n₀ w v l) (hn : n₀ ≤ w.heap.size) (h0 : 0 ≤ c) (h1 : c ≤ 1048576) (hf : FitsRules l) :
    Calls Tryd.prog 16 #[v, .int .i64 c] w fun e w' => ∃ r, e = .returned (.int .i64 r) ∧ -1 ≤ r ∧ r ≤ c ∧ (0 ≤ r → SmallRules l) ∧ Below w.heap.size w w' := by
  obtain ⟨a, cap, rfl, hk'⟩ := h
  have hl := hf.len
  have HK := hide hf.rules
  clear hf
  by_cases h : c - l.length < 0
  · clear hk'
    go_enter Tryd.func16, Tryd.ntmps16
    go_wp2_with fail
    go_ret
    exact ⟨_, rfl, by omega, by omega, by omega, Below.refl _ _⟩
  · go_enter Tryd.func16, Tryd.ntmps16
    go_wp2_with fail
    go_loopw [1, 5] (fun cv i wr => ∃ (k : Nat) (r : Int), k ≤ l.length ∧ i = .int .i64 k ∧ cv = .int .i64 r ∧ 0 ≤ r ∧ r ≤ c ∧ Hid (∀ x ∈ l.take k, SmallRule x) ∧ Below w.heap.size w wr) (fun _ i _ => l.length - (intOf i).toNat)
    case atStart => exact ⟨0, _, Nat.zero_le _, rfl, rfl, by omega, by omega, by simp [Hid], Below.refl _ _⟩
    case round =>
      obtain ⟨k, r, hkl, rfl, rfl, hr0, hrc, hall, hbr⟩ := hrel
      have hsz := hbr.size
      by_cases hlt : k < l.length
      · obtain ⟨b, off, rfl, hb, hc⟩ := hk'.resolve_left (by intro e; simp [e] at hlt)
        have hA := (hc k hlt).below hb (Nat.le_refl _) (hbr.mono hn)
        have g0 := hA.c0
        have g1 := hA.c1
        obtain ⟨kv, g2, hi⟩ := hA.c2
        have HCall := hide (szRule_any n₀ (.agg #[.string (l[k]?.getD ruleNil).name, .bool (l[k]?.getD ruleNil).leaf, kv]) (l[k]?.getD ruleNil) r wr ⟨kv, rfl, hi⟩ (by omega) hr0 (by omega) (HK.out (l[k]?.getD ruleNil) (by simp [hlt])))
        obtain ⟨ak, ck, rfl, -⟩ := hi
        have HSn := hide (@take_snoc_all _ l ruleNil k hlt (fun x => SmallRule x) hall.out)
        have hbw : b < wr.heap.size := by omega
        clear hA hc hk' hall
        generalize l[k]?.getD ruleNil = x at *
        go_wp2_with fail
        refine HCall.out.mono ?_
        rintro e w1 ⟨r1, rfl, hr1, hr2, hr3, hb1⟩
        by_cases hr : r1 < 0
        · clear hr3
          go_wp2_with fail
          go_ret
          exact ⟨_, rfl, by omega, by omega, by omega, hbr.trans (hb1.mono hsz)⟩
        · have HA2 := hide (HSn.out (hr3 (by omega)))
          clear hr3 HCall
          go_wp2_with fail
          exact ⟨⟨k + 1, r1, by omega, by go_num, rfl, by omega, by omega, HA2, hbr.trans (hb1.mono hsz)⟩, by simp [intOf]; omega⟩
      · have HA2 : Hid (∀ x ∈ l, SmallRule x) := by have := hall.out; rwa [List.take_of_length_le (by omega)] at this
        clear hk' hall
        go_wp2_with fail
        go_ret
        exact ⟨_, rfl, by omega, by omega, fun _ => ⟨by omega, HA2.out⟩, hbr⟩
end Go.Proofs.YtpkblnponeonkaaDoor
