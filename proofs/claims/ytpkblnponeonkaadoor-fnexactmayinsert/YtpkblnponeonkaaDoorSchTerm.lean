/-
  Whether a term is one of a schema of so many rules: what the specification answers, and what the program answers.
-/
import Derived.Test.YtpkblnponeonkaaDoorTermEq
import Derived.Test.YtpkblnponeonkaaDoorBasicIn
namespace Go.Proofs.YtpkblnponeonkaaDoor
open Go.RowKit

set_option maxHeartbeats 400000 in
theorem specMany_any (a : Int) (w : World) :
    Calls Tryd.prog 126 #[.int .i64 a] w fun e w' => e = .returned (.bool (inB a 0 3)) ∧ w' = w := by
  go_enter Tryd.func126, Tryd.ntmps126
  go_wp2_with (go_at_call 29; refine (specIn_any _ _ _ _).mono ?_; rintro e w' ⟨rfl, rfl⟩)
  go_ret
  exact ⟨rfl, rfl⟩

set_option maxHeartbeats 1000000 in
set_option maxRecDepth 100000 in
theorem specTerm_any (n₀ : Nat) (v : Value) (x : PTerm) (rules : Int) (w : World) (h : TermVal n₀ w v x) (hn : n₀ ≤ w.heap.size) (hl : x.kinds.length ≤ 1048576) (h1 : 1 ≤ rules) (h8 : rules ≤ 8) (r : Bool) (hr : r = true ↔ TermP rules x) :
    Calls Tryd.prog 103 #[v, .int .i64 rules] w fun e w' => e = .returned (.bool r) ∧ Below w.heap.size w w' := by
  obtain ⟨kv, rfl, a, cap, rfl, hk⟩ := h
  have HR := hide hr
  clear hr
  by_cases h0 : x.kinds.length = 0
  · have hf : Hid (r = false) := no_of HR.out fun T => T.some (List.eq_nil_of_length_eq_zero h0)
    have h00 : ((x.kinds.length : Int) == 0) = true := by simp [h0]
    clear h0 hk
    go_enter Tryd.func103, Tryd.ntmps103
    go_wp2_with fail
    go_ret
    exact ⟨ret_bool hf.out.symm, (Below.refl _ _).alloc (Nat.le_refl _) _⟩
  · have h00 : ((x.kinds.length : Int) == 0) = false := by simpa using h0
    obtain ⟨b, off, rfl, hb, hc⟩ := hk.resolve_left (by intro e; simp [e] at h0)
    have hne : Hid (x.kinds ≠ []) := fun e => h0 (by simp [e])
    clear hk h0
    by_cases hlr : rules < x.kinds.length
    · have hf : Hid (r = false) := no_of HR.out fun T => by have := T.up.len T.some; omega
      clear hc
      go_enter Tryd.func103, Tryd.ntmps103
      go_wp2_with fail
      go_ret
      exact ⟨ret_bool hf.out.symm, (Below.refl _ _).alloc (Nat.le_refl _) _⟩
    · have hlr1 : decide (rules < (x.kinds.length : Int)) = false := by simpa using hlr
      cases hm : inB x.many 0 3 with
      | false =>
        have hf : Hid (r = false) := no_of HR.out fun T => by have := inB_iff.2 ⟨T.many0, T.many3⟩; rw [hm] at this; cases this
        have HM := hide hm
        clear hc
        go_enter Tryd.func103, Tryd.ntmps103
        go_wp2_with (go_at_call 126; refine (specMany_any _ _).mono ?_; rintro e w' ⟨rfl, rfl⟩)
        go_ret
        exact ⟨ret_bool hf.out.symm, (Below.refl _ _).alloc (Nat.le_refl _) _⟩
      | true =>
        have HM := hide (inB_iff.1 hm)
        have HC := hide hc
        clear hc
        go_enter Tryd.func103, Tryd.ntmps103
        go_wp2_with (go_at_call 126; refine (specMany_any _ _).mono ?_; rintro e w' ⟨rfl, rfl⟩)
        go_loopw [5] (fun i wr => ∃ k : Nat, k ≤ x.kinds.length ∧ i = .int .i64 k ∧ Hid (KindsUp rules x.kinds k) ∧ Below (w.heap.size + 1) (w.alloc (.cells #[.slice (some ⟨b, off, none⟩) x.kinds.length cap, .int .i64 x.many] 131)) wr) (fun i _ => x.kinds.length - (intOf i).toNat)
        case atStart => exact ⟨0, Nat.zero_le _, rfl, fun j hj => by omega, Below.refl _ _⟩
        case round =>
          obtain ⟨k, hkl, rfl, hup, hbr⟩ := hrel
          have hsz := hbr.size
          simp only [World.size_alloc] at hsz
          have hszl : w.heap.size < wr.heap.size := by omega
          have hbw : b < wr.heap.size := by omega
          have c0 : wr.cell? ⟨w.heap.size, 0, none⟩ = some (.slice (some ⟨b, off, none⟩) x.kinds.length cap) := by rw [hbr.cell (p := ⟨w.heap.size, 0, none⟩) (by simp)]; simp
          have hw0 : Below w.heap.size w wr := ((Below.refl _ _).alloc (Nat.le_refl _) _).trans (hbr.mono (by omega))
          by_cases hlt : k < x.kinds.length
          · have ck : wr.cell? ⟨b, off + k, none⟩ = some (.int .i64 (x.kinds[k]?.getD 0)) := (hw0.cell (p := ⟨b, off + k, none⟩) (show b < w.heap.size by omega)).trans (HC.out k hlt)
            have hlt1 : (k : Int) < (x.kinds.length : Int) := by omega
            have hcal := calm_cell wr
            have HN := hide (@KindsUp.next rules x.kinds k hup.out)
            have HB : Hid (r = true → 1 ≤ x.kinds[k]?.getD 0 ∧ x.kinds[k]?.getD 0 ≤ rules ∧ (0 < k → x.kinds[k - 1]?.getD 0 < x.kinds[k]?.getD 0)) := fun h => (HR.out.1 h).up k hlt
            have CP : Hid (0 < k → wr.cell? ⟨b, off + (k - 1), none⟩ = some (.int .i64 (x.kinds[k - 1]?.getD 0))) := fun h => (hw0.cell (p := ⟨b, off + (k - 1), none⟩) (show b < w.heap.size by omega)).trans (HC.out (k - 1) (by omega))
            generalize x.kinds[k]?.getD 0 = y at *
            generalize x.kinds[k - 1]?.getD 0 = pv at *
            have hwk : IntKind.i64.wrap ((k : Int) - 1) = (k : Int) - 1 := by rw [IntKind.wrap_i64]; omega
            have HE : Hid (∀ t : Calm wr, Calls Tryd.prog 29 #[.int .i64 y, .int .i64 1, .int .i64 rules] t.out fun e w'' => e = .returned (.bool (inB y 1 rules)) ∧ w'' = t.out) := fun t => specIn_any y 1 rules t.out
            cases hin : inB y 1 rules with
            | false =>
              have hf : Hid (r = false) := by
                cases hrr : r with
                | false => rfl
                | true => have := HB.out hrr; have h2 := inB_iff.2 ⟨this.1, this.2.1⟩; rw [hin] at h2; cases h2
              rw [hin] at HE
              clear hin
              go_wp2_with fail
              refine wp_region_calm (by kernel_rfl) (by kernel_rfl) ?_
              repeat (go_big_quiet_step ((go_at_call 29; exact calm_of_same (HE.out _))))
              refine wpQuiet_nil ?_
              rintro _ ⟨t, rfl⟩
              have ht := t.below
              go_wp2_with fail
              go_ret
              exact ⟨ret_bool hf.out.symm, hw0.trans (ht.mono (by omega))⟩
            | true =>
              have HIN := hide (inB_iff.1 hin)
              rw [hin] at HE
              clear hin
              by_cases hk0 : 0 < k
              · have hp1 := CP.out hk0
                have hk1 : (0 : Int) < (k : Int) := by omega
                have hk2 : (0 : Int) ≤ (k : Int) - 1 := by omega
                have hk3 : (k : Int) - 1 < (x.kinds.length : Int) := by omega
                have hk4 : ((k : Int) - 1).toNat = k - 1 := by omega
                by_cases hyp : y ≤ pv
                · have hf : Hid (r = false) := by
                    cases hrr : r with
                    | false => rfl
                    | true => have := (HB.out hrr).2.2 hk0; omega
                  go_wp2_with fail
                  refine wp_region_calm (by kernel_rfl) (by kernel_rfl) ?_
                  repeat (go_big_quiet_step ((go_at_call 29; exact calm_of_same (HE.out _))))
                  refine wpQuiet_nil ?_
                  rintro _ ⟨t, rfl⟩
                  have ht := t.below
                  go_wp2_with fail
                  go_ret
                  exact ⟨ret_bool hf.out.symm, hw0.trans (ht.mono (by omega))⟩
                · have hyp1 : decide (y ≤ pv) = false := by simpa using hyp
                  go_wp2_with fail
                  refine wp_region_calm (by kernel_rfl) (by kernel_rfl) ?_
                  repeat (go_big_quiet_step ((go_at_call 29; exact calm_of_same (HE.out _))))
                  refine wpQuiet_nil ?_
                  rintro _ ⟨t, rfl⟩
                  have ht := t.below
                  go_wp2_with fail
                  exact ⟨⟨k + 1, by omega, by go_num, HN.out ⟨HIN.out.1, HIN.out.2, fun _ => by omega⟩, hbr.trans (ht.mono hsz)⟩, by simp [intOf]; omega⟩
              · have hk1 : decide ((0 : Int) < (k : Int)) = false := by simp; omega
                go_wp2_with fail
                refine wp_region_calm (by kernel_rfl) (by kernel_rfl) ?_
                repeat (go_big_quiet_step ((go_at_call 29; exact calm_of_same (HE.out _))))
                refine wpQuiet_nil ?_
                rintro _ ⟨t, rfl⟩
                have ht := t.below
                go_wp2_with fail
                exact ⟨⟨k + 1, by omega, by go_num, HN.out ⟨HIN.out.1, HIN.out.2, fun h => absurd h hk0⟩, hbr.trans (ht.mono hsz)⟩, by simp [intOf]; omega⟩
          · have hy : Hid (r = true) := by
              obtain rfl : k = x.kinds.length := by omega
              exact HR.out.2 ⟨hne.out, hup.out, HM.out.1, HM.out.2⟩
            go_wp2_with fail
            go_ret
            exact ⟨ret_bool hy.out.symm, hw0⟩
end Go.Proofs.YtpkblnponeonkaaDoor
