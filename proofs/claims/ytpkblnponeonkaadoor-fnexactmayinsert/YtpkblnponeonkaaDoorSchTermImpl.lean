/-
  Whether terms are those of a schema of so many rules: what the program answers.
-/
import Derived.Test.YtpkblnponeonkaaDoorSchTerm
namespace Go.Proofs.YtpkblnponeonkaaDoor
open Go.RowKit

def lastKind (ks : List Int) (k : Nat) : Int := if k = 0 then 0 else ks[k - 1]?.getD 0

theorem KindsUp.last {rules : Int} {ks : List Int} {n : Nat} (h : KindsUp rules ks n) (h1 : 1 ≤ rules) : 0 ≤ lastKind ks n ∧ lastKind ks n ≤ rules ∧ (0 < n → 0 < lastKind ks n) := by
  unfold lastKind
  split
  · omega
  · have := h (n - 1) (by omega); omega

set_option maxHeartbeats 1000000 in
set_option maxRecDepth 100000 in
theorem implTerm_any (n₀ : Nat) (v : Value) (x : PTerm) (rules : Int) (w : World) (h : TermVal n₀ w v x) (hn : n₀ ≤ w.heap.size) (hl : x.kinds.length ≤ 1048576) (h1 : 1 ≤ rules) (h8 : rules ≤ 8) (r : Bool) (hr : r = true ↔ TermP rules x) :
    Calls Tryd.prog 162 #[v, .int .i64 rules] w fun e w' => e = .returned (.bool r) ∧ Below w.heap.size w w' := by
  obtain ⟨kv, rfl, a, cap, rfl, hk⟩ := h
  have HR := hide hr
  clear hr
  go_enter Tryd.func162, Tryd.ntmps162
  go_wp2_with fail
  go_loopw [5, 11] (fun lv i wr => ∃ k : Nat, k ≤ x.kinds.length ∧ i = .int .i64 k ∧ lv = .int .i64 (lastKind x.kinds k) ∧ Hid (KindsUp rules x.kinds k) ∧ wr = w.alloc (.cells #[.slice a x.kinds.length cap, .int .i64 x.many] 131)) (fun _ i _ => x.kinds.length - (intOf i).toNat)
  case atStart => exact ⟨0, Nat.zero_le _, rfl, rfl, fun j hj => by omega, rfl⟩
  case round =>
    obtain ⟨k, hkl, rfl, rfl, hup, rfl⟩ := hrel
    obtain ⟨l0, l1, l2⟩ := hup.out.last h1
    by_cases hlt : k < x.kinds.length
    · obtain ⟨b, off, rfl, hb, hc⟩ := hk.resolve_left (by intro e; simp [e] at hlt)
      have hbw : b < w.heap.size := by omega
      have ck := hc k hlt
      have HN := hide (@KindsUp.next rules x.kinds k hup.out)
      have HB : Hid (r = true → 1 ≤ x.kinds[k]?.getD 0 ∧ x.kinds[k]?.getD 0 ≤ rules ∧ (0 < k → x.kinds[k - 1]?.getD 0 < x.kinds[k]?.getD 0)) := fun h => (HR.out.1 h).up k hlt
      have HL : Hid (lastKind x.kinds k = if k = 0 then 0 else x.kinds[k - 1]?.getD 0) := rfl
      have HL2 : Hid (x.kinds[k]?.getD 0 = lastKind x.kinds (k + 1)) := by simp [Hid, lastKind]
      clear hc hk l2
      generalize x.kinds[k]?.getD 0 = y at *
      generalize x.kinds[k - 1]?.getD 0 = pv at *
      generalize lastKind x.kinds k = ls at *
      cases hin : inB y (ls + 1) rules with
      | false =>
        have hf : Hid (r = false) := by
          cases hrr : r with
          | false => rfl
          | true =>
            have hb2 := HB.out hrr
            have h2 : inB y (ls + 1) rules = true := inB_iff.2 ⟨by have := HL.out; split at this <;> omega, hb2.2.1⟩
            rw [hin] at h2; cases h2
        have HI := hide hin
        clear hin
        go_wp2_with (go_at_call 31; refine (between_any _ _ _ _).mono ?_; rw [HI.out]; rintro e w' ⟨rfl, rfl⟩)
        go_ret
        exact ⟨ret_bool hf.out.symm, (Below.refl _ _).alloc (Nat.le_refl _) _⟩
      | true =>
        have HI := hide hin
        have HI2 := hide (inB_iff.1 hin)
        clear hin
        go_wp2_with (go_at_call 31; refine (between_any _ _ _ _).mono ?_; rw [HI.out]; rintro e w' ⟨rfl, rfl⟩)
        exact ⟨⟨k + 1, by omega, by go_num, congrArg (Value.int .i64) HL2.out, HN.out ⟨by have := HI2.out.1; omega, HI2.out.2, fun h => by have h3 := HL.out; have := HI2.out.1; rw [if_neg (by omega)] at h3; omega⟩, trivial⟩, by simp [intOf]; omega⟩
    · obtain rfl : k = x.kinds.length := by omega
      clear hk
      by_cases hks : x.kinds = []
      · have hf : Hid (r = false) := no_of HR.out fun T => T.some hks
        have e0 : lastKind x.kinds x.kinds.length = 0 := by simp [hks, lastKind]
        clear hks hup
        generalize lastKind x.kinds x.kinds.length = ls at *
        subst e0
        go_wp2_with fail
        go_ret
        exact ⟨ret_bool hf.out.symm, (Below.refl _ _).alloc (Nat.le_refl _) _⟩
      · have hp := l2 (List.length_pos_iff.2 hks)
        have hne : Hid (x.kinds ≠ []) := hks
        clear hks l2
        have HY : Hid (inB x.many 0 3 = r) := by
          rw [Hid, Bool.eq_iff_iff, inB_iff, HR.out]
          exact ⟨fun h => ⟨hne.out, hup.out, h.1, h.2⟩, fun T => ⟨T.many0, T.many3⟩⟩
        generalize lastKind x.kinds x.kinds.length = ls at *
        go_wp2_with (go_at_call 31; refine (between_any _ _ _ _).mono ?_; rw [HY.out]; rintro e w' ⟨rfl, rfl⟩)
        go_ret
        exact ⟨rfl, (Below.refl _ _).alloc (Nat.le_refl _) _⟩

/-- At most four terms, each right. -/
structure TermsP (rules : Int) (l : List PTerm) : Prop where
  len : l.length ≤ 4
  all : ∀ t ∈ l, TermP rules t

set_option maxHeartbeats 1000000 in
set_option maxRecDepth 100000 in
theorem implTerms_any (n₀ : Nat) (v : Value) (l : List PTerm) (rules : Int) (w : World) (h : TermsAt n₀ w v l) (hn : n₀ ≤ w.heap.size) (hl : SmallTerms l) (h1 : 1 ≤ rules) (h8 : rules ≤ 8) (r : Bool) (hr : r = true ↔ TermsP rules l) :
    Calls Tryd.prog 147 #[v, .int .i64 rules] w fun e w' => e = .returned (.bool r) ∧ Below w.heap.size w w' := by
  obtain ⟨a, cap, rfl, hk⟩ := h
  have HR := hide hr
  have hl1 := hl.len
  have HKL := hide hl.kinds
  clear hr hl
  by_cases h4 : 4 < l.length
  · have hf : Hid (r = false) := no_of HR.out fun T => by have := T.len; omega
    clear hk
    go_enter Tryd.func147, Tryd.ntmps147
    go_wp2_with fail
    go_ret
    exact ⟨ret_bool hf.out.symm, Below.refl _ _⟩
  · go_enter Tryd.func147, Tryd.ntmps147
    go_wp2_with fail
    go_loopw [12] (fun i wr => ∃ k : Nat, k ≤ l.length ∧ i = .int .i64 k ∧ Hid (∀ t ∈ l.take k, TermP rules t) ∧ Below w.heap.size w wr) (fun i _ => l.length - (intOf i).toNat)
    case atStart => exact ⟨0, Nat.zero_le _, rfl, by simp [Hid], Below.refl _ _⟩
    case round =>
      obtain ⟨k, hkl, rfl, hall, hbr⟩ := hrel
      have hsz := hbr.size
      by_cases hlt : k < l.length
      · obtain ⟨b, off, rfl, hb, hc⟩ := hk.resolve_left (by intro e; simp [e] at hlt)
        have hA := (hc k hlt).below hb (Nat.le_refl _) (hbr.mono hn)
        have g1 := hA.c1
        obtain ⟨kv, g0, hi⟩ := hA.c0
        have hbw : b < wr.heap.size := by omega
        have HMem : Hid (l[k]?.getD termNil ∈ l) := by simp [Hid, hlt]
        have HSn := hide (take_snoc_all (d := termNil) hlt hall.out)
        have HCall : Hid (∀ wx, Below wr.heap.size wr wx → Calls Tryd.prog 162 #[.agg #[kv, .int .i64 (l[k]?.getD termNil).many], .int .i64 rules] wx fun e w' => e = .returned (.bool (dec (TermP rules (l[k]?.getD termNil)))) ∧ Below wx.heap.size wx w') := fun wx hbx =>
          implTerm_any n₀ _ (l[k]?.getD termNil) rules wx ⟨kv, rfl, hi.below (Nat.le_refl _) (hbx.mono (by omega))⟩ (by have := hbx.size; omega) (HKL.out _ HMem.out) h1 h8 _ (dec_iff _)
        obtain ⟨ak, ck, rfl, -⟩ := hi
        clear hA hc hk hall
        generalize l[k]?.getD termNil = x at *
        have HD := hide (dec_iff (TermP rules x))
        generalize dec (TermP rules x) = q at *
        have hA1 := (Below.refl wr.heap.size wr).alloc (Nat.le_refl _) (.cells #[.slice ak x.kinds.length ck, .int .i64 x.many] 131)
        go_wp2_with fail
        refine (HCall.out _ ?_).mono ?_
        · simpa using hA1
        rintro e w1 ⟨rfl, hb1⟩
        have hb1' := hA1.trans (hb1.mono (by simp))
        cases q with
        | false =>
          have hf : Hid (r = false) := no_of HR.out fun T => by have := HD.out.2 (T.all _ HMem.out); cases this
          go_wp2_with fail
          go_ret
          exact ⟨ret_bool hf.out.symm, hbr.trans (hb1'.mono hsz)⟩
        | true =>
          have HA2 := hide (HSn.out (HD.out.1 rfl))
          go_wp2_with fail
          exact ⟨⟨k + 1, by omega, by go_num, HA2, hbr.trans (hb1'.mono hsz)⟩, by simp [intOf]; omega⟩
      · have hy : Hid (r = true) := HR.out.2 ⟨by omega, by have := hall.out; rwa [List.take_of_length_le (by omega)] at this⟩
        clear hk
        go_wp2_with fail
        go_ret
        exact ⟨ret_bool hy.out.symm, hbr⟩
end Go.Proofs.YtpkblnponeonkaaDoor
