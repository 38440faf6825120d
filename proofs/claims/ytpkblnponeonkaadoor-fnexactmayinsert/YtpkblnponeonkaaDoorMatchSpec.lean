/-
  Whether kids are taken by terms: what the specification answers.
-/
import Derived.Test.YtpkblnponeonkaaDoorTermsSpec
namespace Go.Proofs.YtpkblnponeonkaaDoor
open Go.RowKit

theorem IntsAt.drop {n₀ : Nat} {w : World} {a : Option Addr} {ks : List Int} {cap n : Nat} (h : IntsAt n₀ w (.slice a ks.length cap) ks) (a' : Option Addr) (c' : Nat) (ha : n < ks.length → ∃ b off, a = some ⟨b, off, none⟩ ∧ a' = some ⟨b, off + n, none⟩) : IntsAt n₀ w (.slice a' (ks.length - n) c') (ks.drop n) := by
  refine ⟨a', c', by rw [List.length_drop], ?_⟩
  by_cases hn : n < ks.length
  · obtain ⟨b, off, rfl, rfl⟩ := ha hn
    obtain ⟨a2, c2, e2, h2⟩ := h
    simp only [Value.slice.injEq] at e2
    obtain ⟨rfl, -, -⟩ := e2
    obtain ⟨b2, off2, e3, h3, h4⟩ := h2.resolve_left (by intro e; simp [e] at hn)
    cases e3
    refine .inr ⟨b, off + n, rfl, h3, fun j hj => ?_⟩
    rw [List.length_drop] at hj
    rw [List.getElem?_drop, Nat.add_assoc]
    exact h4 (n + j) (by omega)
  · exact .inl (List.drop_eq_nil_of_le (by omega))

theorem TermsAt.tail {n₀ : Nat} {w : World} {a : Option Addr} {t : PTerm} {ts : List PTerm} {cap : Nat} (h : TermsAt n₀ w (.slice a (t :: ts).length cap) (t :: ts)) (a' : Option Addr) (c' : Nat) (ha : 0 < ts.length → ∃ b off, a = some ⟨b, off, none⟩ ∧ a' = some ⟨b, off + 2, none⟩) : TermsAt n₀ w (.slice a' ts.length c') ts := by
  refine ⟨a', c', rfl, ?_⟩
  by_cases hn : 0 < ts.length
  · obtain ⟨b, off, rfl, rfl⟩ := ha hn
    obtain ⟨a2, c2, e2, h2⟩ := h
    simp only [Value.slice.injEq] at e2
    obtain ⟨rfl, -, -⟩ := e2
    obtain ⟨b2, off2, e3, h3, h4⟩ := h2.resolve_left (by simp)
    cases e3
    refine .inr ⟨b, off + 2, rfl, h3, fun j hj => ?_⟩
    have := h4 (j + 1) (by simpa using hj)
    rw [List.getElem?_cons_succ] at this
    rwa [show off + 2 + j * 2 = off + (j + 1) * 2 by omega]
  · exact .inl (List.eq_nil_of_length_eq_zero (by omega))

set_option maxHeartbeats 4000000 in
set_option maxRecDepth 100000 in
theorem specMatch_any : ∀ (ts : List PTerm) (n₀ : Nat) (v kv : Value) (ks : List Int) (w : World) (_ : TermsAt n₀ w v ts) (_ : Roomy v ts.length) (_ : IntsAt n₀ w kv ks) (_ : Roomy kv ks.length) (_ : n₀ ≤ w.heap.size) (_ : ts.length ≤ 4) (_ : ∀ t ∈ ts, t.kinds.length ≤ 1048576) (_ : ks.length ≤ 12) (r : Bool) (_ : r = true ↔ MatchP ts ks),
    Calls Tryd.prog 49 #[v, kv] w fun e w' => e = .returned (.bool r) ∧ Below w.heap.size w w'
  | [], n₀, v, kv, ks, w, hT, _, hK, _, hn, _, _, hkl, r, hr => by
    obtain ⟨a, cap, rfl, -⟩ := hT
    obtain ⟨ak, ck, rfl, -⟩ := hK
    have HY : Hid (((ks.length : Int) == 0) = r) := by
      rw [Hid, Bool.eq_iff_iff, hr]
      simp [MatchP]
    clear hr
    go_enter Tryd.func49, Tryd.ntmps49
    go_wp2_with fail
    go_ret
    exact ⟨ret_bool HY.out, Below.refl _ _⟩
  | t :: ts, n₀, v, kv, ks, w, hT, hTr, hK, hKr, hn, h4, hkk, hkl, r, hr => by
    obtain ⟨a, cap, rfl, hcap⟩ := hTr
    obtain ⟨ak, ck, rfl, hck⟩ := hKr
    have HR : Hid (r = true ↔ _) := hr.trans match_cons
    have IH := hide (fun n₀ v kv ks w h1 h2 h3 h4' h5 h6 r hr => specMatch_any ts n₀ v kv ks w h1 h2 h3 h4' h5 (by simp at h4; omega) (fun x hx => hkk x (by simp [hx])) h6 r hr)
    have HT := hide hT
    have HK := hide hK
    obtain ⟨a2, c2, e2, h2⟩ := hT
    simp only [Value.slice.injEq] at e2
    obtain ⟨rfl, -, -⟩ := e2
    obtain ⟨b, off, rfl, hb, hc⟩ := h2.resolve_left (by simp)
    have hA := hc 0 (by simp)
    simp only [List.getElem?_cons_zero, Option.getD_some, Nat.zero_mul, Nat.add_zero] at hA
    have g1 := hA.c1
    obtain ⟨kdv, g0, hkd⟩ := hA.c0
    have HKD := hide hkd
    obtain ⟨ad, cd, rfl, -⟩ := hkd
    have hkt := hkk t (by simp)
    have hbw : b < w.heap.size := by omega
    have hlen1 : (((ts.length : Int) + 1) == 0) = false := by rw [beq_eq_false_iff_ne]; omega
    clear hA hc h2 hK hkk hr
    simp only [List.length_cons] at *
    have hcap1 : ((1 : Int) ≤ (ts.length : Int) + 1) := by omega
    obtain ⟨mo, hmo⟩ : ∃ mo, mo = mostOf t.many ks.length := ⟨_, rfl⟩
    have HMO := hide hmo
    have hmol : mo ≤ ks.length := by rw [hmo]; unfold mostOf; split <;> omega
    obtain ⟨le, hle⟩ : ∃ le, le = leastOf t.many := ⟨_, rfl⟩
    have HLE := hide hle
    have HLs : Hid (∀ wx, Calls Tryd.prog 80 #[.int .i64 t.many] wx fun e w' => e = .returned (.int .i64 (le : Int)) ∧ w' = wx) := fun wx => by rw [hle]; exact specLeast_any t.many wx
    have hle1 : le ≤ 1 := by rw [hle]; unfold leastOf; split <;> omega
    have HAK : Hid (∀ {n : Nat}, n < ks.length → ∃ bk ofk, ak = some ⟨bk, ofk, none⟩) := fun {n} hlt => by
      obtain ⟨a5, c5, e5, h5⟩ := HK.out
      simp only [Value.slice.injEq] at e5
      obtain ⟨rfl, -, -⟩ := e5
      obtain ⟨bk, ofk, h6, -⟩ := h5.resolve_left (by intro e; simp [e] at hlt)
      exact ⟨bk, ofk, h6⟩
    have HKs : Hid (ks = [] ∨ ∃ b off, ak = some ⟨b, off, none⟩ ∧ b < n₀ ∧ ∀ j, j < ks.length → w.cell? ⟨b, off + j, none⟩ = some (.int .i64 (ks[j]?.getD 0))) := by
      obtain ⟨a5, c5, e5, h5⟩ := HK.out
      simp only [Value.slice.injEq] at e5
      obtain ⟨rfl, -, -⟩ := e5
      exact h5
    by_cases hlw : t.many < 2
    · by_cases hl1 : ks.length ≤ 1
      · obtain rfl : mo = ks.length := by rw [hmo]; unfold mostOf; rw [if_pos hlw]; omega
        have hl2 : (ks.length : Int) ≤ 1 := by omega
        clear hmo hle
        go_enter Tryd.func49, Tryd.ntmps49
        go_wp2_with (go_at_call 80; refine (HLs.out _).mono ?_; rintro e w' ⟨rfl, hw⟩; have hw2 := hw.symm; subst hw2; clear hw)
        go_loopw [8] (fun i wr => ∃ n : Nat, n ≤ ks.length + 1 ∧ i = .int .i64 n ∧ Hid ((∀ j, j < n → j < ks.length → ks[j]?.getD 0 ∈ t.kinds) ∧ ∀ j, j < n → le ≤ j → ¬ MatchP ts (ks.drop j)) ∧ Below (w.heap.size + 1) (w.alloc (.cells #[.slice ad t.kinds.length cd, .int .i64 t.many] 131)) wr) (fun i _ => ks.length + 1 - (intOf i).toNat)
        case atStart => exact ⟨0, Nat.zero_le _, rfl, ⟨fun j hj => by omega, fun j hj => by omega⟩, Below.refl _ _⟩
        case round =>
          obtain ⟨wo, hwo⟩ : ∃ wo, wo = wr := ⟨_, rfl⟩
          subst hwo
          obtain ⟨n, hnl, rfl, hinv, hbr⟩ := hrel
          have hsz := hbr.size
          simp only [World.size_alloc] at hsz
          have hszl : w.heap.size < wo.heap.size := by omega
          have hw0 : Below w.heap.size w wo := ((Below.refl _ _).alloc (Nat.le_refl _) _).trans (hbr.mono (by omega))
          by_cases hnm : n ≤ ks.length
          · have hn1 : (n : Int) ≤ (ks.length : Int) := by omega
            have hn2 : (n : Int) ≤ (ks.length : Int) := by omega
            obtain ⟨a1, ha1⟩ : ∃ a1, (if cap = 1 then some (⟨b, off, none⟩ : Addr) else some ⟨b, off + 2, none⟩) = a1 := ⟨_, rfl⟩
            obtain ⟨a3, ha3⟩ : ∃ a3, (if ck = n then ak else Option.map (fun x => x.add n) ak) = a3 := ⟨_, rfl⟩
            have h1 : 0 < ts.length → a1 = some ⟨b, off + 2, none⟩ := fun h => by rw [← ha1, if_neg (by omega)]
            have h3 : n < ks.length → ∃ bk ofk, ak = some ⟨bk, ofk, none⟩ ∧ a3 = some ⟨bk, ofk + n, none⟩ := fun h => by
              obtain ⟨bk, ofk, e⟩ := HAK.out h
              exact ⟨bk, ofk, e, by rw [← ha3, if_neg (by omega), e]; simp [Addr.add]⟩
            have HCall : Hid (∀ (x : Calm wo), Calls Tryd.prog 49 #[.slice a1 ts.length (cap - 1), .slice a3 (ks.length - n) (ck - n)] x.out fun e w' => e = .returned (.bool (dec (MatchP ts (ks.drop n)))) ∧ Below x.out.heap.size x.out w') := fun x =>
              IH.out n₀ _ _ (ks.drop n) x.out ((TermsAt.tail HT.out a1 (cap - 1) fun h => ⟨b, off, rfl, h1 h⟩).below (Nat.le_refl _) ((hw0.mono hn).trans (x.below.mono (by omega)))) ⟨_, _, rfl, by omega⟩ ((IntsAt.drop HK.out a3 (ck - n) h3).below (Nat.le_refl _) ((hw0.mono hn).trans (x.below.mono (by omega)))) ⟨_, _, by rw [List.length_drop], by rw [List.length_drop]; omega⟩ (by have := x.below.size; omega) (by rw [List.length_drop]; omega) _ (dec_iff _)
            clear h1 h3
            have HD := hide (dec_iff (MatchP ts (ks.drop n)))
            generalize dec (MatchP ts (ks.drop n)) = q at *
            have hcal := calm_cell wo
            go_wp2_with fail
            go_cut [43] (fun v43 wc => v43 = .bool (decide (le ≤ n) && q) ∧ Below wo.heap.size wo wc)
            case first =>
              by_cases hge : le ≤ n
              · have hge1 : (le : Int) ≤ (n : Int) := by omega
                refine wp_region_calm (by kernel_rfl) (by kernel_rfl) ?_
                repeat (go_big_quiet_step ((go_at_call 49; exact calm_of (HCall.out _))))
                refine wpQuiet_nil ?_
                rintro _ ⟨x, rfl⟩
                have hx := x.below
                have hxs := hx.size
                go_wp2_with fail
                all_goals
                  go_meet
                  exact ⟨by simp [hge], hx⟩
              · have hge1 : decide ((le : Int) ≤ (n : Int)) = false := by simp; omega
                refine wp_region_calm (by kernel_rfl) (by kernel_rfl) ?_
                repeat (go_big_quiet_step (fail))
                refine wpQuiet_nil ?_
                rintro _ ⟨x, rfl⟩
                have hx := x.below
                have hxs := hx.size
                go_wp2_with fail
                all_goals
                  go_meet
                  exact ⟨by simp [hge], hx⟩
            case rest =>
              obtain ⟨rfl, hx⟩ := hcut
              have hxs := hx.size
              clear hcal HCall ha1 ha3
              cases hgq : (decide (le ≤ n) && q) with
              | true =>
                have hy : Hid (r = true) := by
                  simp only [Bool.and_eq_true, decide_eq_true_eq] at hgq
                  exact HR.out.2 ⟨n, by rw [← HMO.out]; exact hnm, by rw [← HLE.out]; exact hgq.1, fun j hj => hinv.out.1 j hj (by omega), HD.out.1 hgq.2⟩
                go_wp2_with fail
                go_ret
                exact ⟨ret_bool hy.out.symm, hw0.trans (hx.mono (by omega))⟩
              | false =>
                have HNo : Hid (∀ j, j ≤ n → le ≤ j → ¬ MatchP ts (ks.drop j)) := fun j hj h => by
                  by_cases e : j = n
                  · subst e
                    intro hM
                    rw [HD.out.2 hM] at hgq
                    simp at hgq
                    omega
                  · exact hinv.out.2 j (by omega) h
                clear hgq
                go_wp2_with fail
                have hcal := calm_cell wc
                have hb2 : Below (w.heap.size + 1) (w.alloc (.cells #[.slice ad t.kinds.length cd, .int .i64 t.many] 131)) wc := hbr.trans (hx.mono hsz)
                have hwc : Below w.heap.size w wc := hw0.trans (hx.mono (by omega))
                have hz2 : w.heap.size < wc.heap.size := by omega
                have k0 : wc.cell? ⟨w.heap.size, 0, none⟩ = some (.slice ad t.kinds.length cd) := by rw [hb2.cell (p := ⟨w.heap.size, 0, none⟩) (by simp)]; simp
                by_cases hlt : n < ks.length
                · obtain ⟨bk, ofk, rfl, hbk, hck2⟩ := HKs.out.resolve_left (by intro e; have h0 : ks.length = 0 := (by rw [e]; rfl); omega)
                  have kc := (hwc.cell (p := ⟨bk, ofk + n, none⟩) (show bk < w.heap.size by omega)).trans (hck2 n (by omega))
                  have hbk2 : bk < wc.heap.size := by omega
                  have hlt1 : (n : Int) < (ks.length : Int) := by omega
                  have hlt2 : (n : Int) < (ks.length : Int) := by omega
                  have HHas : Hid (∀ x : Calm wc, Calls Tryd.prog 81 #[.slice ad t.kinds.length cd, .int .i64 (ks[n]?.getD 0)] x.out fun e w' => e = .returned (.bool (hasB t.kinds (ks[n]?.getD 0))) ∧ w' = x.out) := fun x =>
                    specHas_any n₀ _ t.kinds _ x.out (HKD.out.below (Nat.le_refl _) ((hwc.mono hn).trans (x.below.mono (by omega)))) hkt
                  have HHI := hide (@hasB_iff t.kinds (ks[n]?.getD 0))
                  obtain ⟨y, hy0⟩ : ∃ y, y = ks[n]?.getD 0 := ⟨_, rfl⟩
                  rw [← hy0] at kc HHas HHI
                  have HKn := hide hy0
                  clear hy0
                  cases hhb : hasB t.kinds y with
                  | false =>
                    rw [hhb] at HHas
                    have hf : Hid (r = false) := no_of HR.out fun ⟨m, h1, h2, h3, h4⟩ => by
                      by_cases hmn : m ≤ n
                      · exact HNo.out m hmn (by rw [HLE.out]; exact h2) h4
                      · have := HHI.out.2 (by rw [HKn.out]; exact h3 n (by omega)); rw [hhb] at this; cases this
                    clear hhb
                    go_wp2_with fail
                    refine wp_region_calm (by kernel_rfl) (by kernel_rfl) ?_
                    repeat (go_big_quiet_step ((go_at_call 81; exact calm_of_same (HHas.out _))))
                    refine wpQuiet_nil ?_
                    rintro _ ⟨x, rfl⟩
                    have hx := x.below
                    have hxs := hx.size
                    go_wp2_with fail
                    go_ret
                    exact ⟨ret_bool hf.out.symm, hwc.trans (hx.mono (by omega))⟩
                  | true =>
                    rw [hhb] at HHas
                    have HIn : Hid (y ∈ t.kinds) := HHI.out.1 hhb
                    clear hhb
                    go_wp2_with fail
                    refine wp_region_calm (by kernel_rfl) (by kernel_rfl) ?_
                    repeat (go_big_quiet_step ((go_at_call 81; exact calm_of_same (HHas.out _))))
                    refine wpQuiet_nil ?_
                    rintro _ ⟨x, rfl⟩
                    have hx := x.below
                    have hxs := hx.size
                    go_wp2_with fail
                    exact ⟨⟨n + 1, by omega, by go_num, ⟨fun j hj hj2 => by
                      by_cases e : j = n
                      · subst e; rw [← HKn.out]; exact HIn.out
                      · exact hinv.out.1 j (by omega) hj2, fun j hj => HNo.out j (by omega)⟩, hb2.trans (hx.mono (by omega))⟩, by simp [intOf]; omega⟩
                · have hlt1 : decide ((n : Int) < (ks.length : Int)) = false := by simp; omega
                  go_wp2_with fail
                  refine wp_region_calm (by kernel_rfl) (by kernel_rfl) ?_
                  repeat (go_big_quiet_step (fail))
                  refine wpQuiet_nil ?_
                  rintro _ ⟨x, rfl⟩
                  have hx := x.below
                  have hxs := hx.size
                  go_wp2_with fail
                  exact ⟨⟨n + 1, by omega, by go_num, ⟨fun j hj hj2 => hinv.out.1 j (by omega) hj2, fun j hj => HNo.out j (by omega)⟩, hb2.trans (hx.mono (by omega))⟩, by simp [intOf]; omega⟩
          · have hf : Hid (r = false) := no_of HR.out fun ⟨m, h1, h2, h3, h4⟩ => hinv.out.2 m (by rw [← HMO.out] at h1; omega) (by rw [HLE.out]; exact h2) h4
            have hnm1 : decide ((n : Int) ≤ (ks.length : Int)) = false := by simp; omega
            go_wp2_with fail
            go_ret
            exact ⟨ret_bool hf.out.symm, hw0⟩
      · obtain rfl : mo = 1 := by rw [hmo]; unfold mostOf; rw [if_pos hlw]; omega
        have hl2 : (1 : Int) < (ks.length : Int) := by omega
        clear hmo hle
        go_enter Tryd.func49, Tryd.ntmps49
        go_wp2_with (go_at_call 80; refine (HLs.out _).mono ?_; rintro e w' ⟨rfl, hw⟩; have hw2 := hw.symm; subst hw2; clear hw)
        go_loopw [8] (fun i wr => ∃ n : Nat, n ≤ 1 + 1 ∧ i = .int .i64 n ∧ Hid ((∀ j, j < n → j < 1 → ks[j]?.getD 0 ∈ t.kinds) ∧ ∀ j, j < n → le ≤ j → ¬ MatchP ts (ks.drop j)) ∧ Below (w.heap.size + 1) (w.alloc (.cells #[.slice ad t.kinds.length cd, .int .i64 t.many] 131)) wr) (fun i _ => 1 + 1 - (intOf i).toNat)
        case atStart => exact ⟨0, Nat.zero_le _, rfl, ⟨fun j hj => by omega, fun j hj => by omega⟩, Below.refl _ _⟩
        case round =>
          obtain ⟨wo, hwo⟩ : ∃ wo, wo = wr := ⟨_, rfl⟩
          subst hwo
          obtain ⟨n, hnl, rfl, hinv, hbr⟩ := hrel
          have hsz := hbr.size
          simp only [World.size_alloc] at hsz
          have hszl : w.heap.size < wo.heap.size := by omega
          have hw0 : Below w.heap.size w wo := ((Below.refl _ _).alloc (Nat.le_refl _) _).trans (hbr.mono (by omega))
          by_cases hnm : n ≤ 1
          · have hn1 : (n : Int) ≤ (1 : Int) := by omega
            have hn2 : (n : Int) ≤ (ks.length : Int) := by omega
            obtain ⟨a1, ha1⟩ : ∃ a1, (if cap = 1 then some (⟨b, off, none⟩ : Addr) else some ⟨b, off + 2, none⟩) = a1 := ⟨_, rfl⟩
            obtain ⟨a3, ha3⟩ : ∃ a3, Option.map (fun x => x.add n) ak = a3 := ⟨_, rfl⟩
            have h1 : 0 < ts.length → a1 = some ⟨b, off + 2, none⟩ := fun h => by rw [← ha1, if_neg (by omega)]
            have h3 : n < ks.length → ∃ bk ofk, ak = some ⟨bk, ofk, none⟩ ∧ a3 = some ⟨bk, ofk + n, none⟩ := fun h => by
              obtain ⟨bk, ofk, e⟩ := HAK.out h
              exact ⟨bk, ofk, e, by rw [← ha3, e]; simp [Addr.add]⟩
            have HCall : Hid (∀ (x : Calm wo), Calls Tryd.prog 49 #[.slice a1 ts.length (cap - 1), .slice a3 (ks.length - n) (ck - n)] x.out fun e w' => e = .returned (.bool (dec (MatchP ts (ks.drop n)))) ∧ Below x.out.heap.size x.out w') := fun x =>
              IH.out n₀ _ _ (ks.drop n) x.out ((TermsAt.tail HT.out a1 (cap - 1) fun h => ⟨b, off, rfl, h1 h⟩).below (Nat.le_refl _) ((hw0.mono hn).trans (x.below.mono (by omega)))) ⟨_, _, rfl, by omega⟩ ((IntsAt.drop HK.out a3 (ck - n) h3).below (Nat.le_refl _) ((hw0.mono hn).trans (x.below.mono (by omega)))) ⟨_, _, by rw [List.length_drop], by rw [List.length_drop]; omega⟩ (by have := x.below.size; omega) (by rw [List.length_drop]; omega) _ (dec_iff _)
            clear h1 h3
            have HD := hide (dec_iff (MatchP ts (ks.drop n)))
            generalize dec (MatchP ts (ks.drop n)) = q at *
            have hcal := calm_cell wo
            go_wp2_with fail
            go_cut [43] (fun v43 wc => v43 = .bool (decide (le ≤ n) && q) ∧ Below wo.heap.size wo wc)
            case first =>
              by_cases hge : le ≤ n
              · have hge1 : (le : Int) ≤ (n : Int) := by omega
                refine wp_region_calm (by kernel_rfl) (by kernel_rfl) ?_
                repeat (go_big_quiet_step ((go_at_call 49; exact calm_of (HCall.out _))))
                refine wpQuiet_nil ?_
                rintro _ ⟨x, rfl⟩
                have hx := x.below
                have hxs := hx.size
                go_wp2_with fail
                all_goals
                  go_meet
                  exact ⟨by simp [hge], hx⟩
              · have hge1 : decide ((le : Int) ≤ (n : Int)) = false := by simp; omega
                refine wp_region_calm (by kernel_rfl) (by kernel_rfl) ?_
                repeat (go_big_quiet_step (fail))
                refine wpQuiet_nil ?_
                rintro _ ⟨x, rfl⟩
                have hx := x.below
                have hxs := hx.size
                go_wp2_with fail
                all_goals
                  go_meet
                  exact ⟨by simp [hge], hx⟩
            case rest =>
              obtain ⟨rfl, hx⟩ := hcut
              have hxs := hx.size
              clear hcal HCall ha1 ha3
              cases hgq : (decide (le ≤ n) && q) with
              | true =>
                have hy : Hid (r = true) := by
                  simp only [Bool.and_eq_true, decide_eq_true_eq] at hgq
                  exact HR.out.2 ⟨n, by rw [← HMO.out]; exact hnm, by rw [← HLE.out]; exact hgq.1, fun j hj => hinv.out.1 j hj (by omega), HD.out.1 hgq.2⟩
                go_wp2_with fail
                go_ret
                exact ⟨ret_bool hy.out.symm, hw0.trans (hx.mono (by omega))⟩
              | false =>
                have HNo : Hid (∀ j, j ≤ n → le ≤ j → ¬ MatchP ts (ks.drop j)) := fun j hj h => by
                  by_cases e : j = n
                  · subst e
                    intro hM
                    rw [HD.out.2 hM] at hgq
                    simp at hgq
                    omega
                  · exact hinv.out.2 j (by omega) h
                clear hgq
                go_wp2_with fail
                have hcal := calm_cell wc
                have hb2 : Below (w.heap.size + 1) (w.alloc (.cells #[.slice ad t.kinds.length cd, .int .i64 t.many] 131)) wc := hbr.trans (hx.mono hsz)
                have hwc : Below w.heap.size w wc := hw0.trans (hx.mono (by omega))
                have hz2 : w.heap.size < wc.heap.size := by omega
                have k0 : wc.cell? ⟨w.heap.size, 0, none⟩ = some (.slice ad t.kinds.length cd) := by rw [hb2.cell (p := ⟨w.heap.size, 0, none⟩) (by simp)]; simp
                by_cases hlt : n < 1
                · obtain ⟨bk, ofk, rfl, hbk, hck2⟩ := HKs.out.resolve_left (by intro e; have h0 : ks.length = 0 := (by rw [e]; rfl); omega)
                  have kc := (hwc.cell (p := ⟨bk, ofk + n, none⟩) (show bk < w.heap.size by omega)).trans (hck2 n (by omega))
                  have hbk2 : bk < wc.heap.size := by omega
                  have hlt1 : (n : Int) < (1 : Int) := by omega
                  have hlt2 : (n : Int) < (ks.length : Int) := by omega
                  have HHas : Hid (∀ x : Calm wc, Calls Tryd.prog 81 #[.slice ad t.kinds.length cd, .int .i64 (ks[n]?.getD 0)] x.out fun e w' => e = .returned (.bool (hasB t.kinds (ks[n]?.getD 0))) ∧ w' = x.out) := fun x =>
                    specHas_any n₀ _ t.kinds _ x.out (HKD.out.below (Nat.le_refl _) ((hwc.mono hn).trans (x.below.mono (by omega)))) hkt
                  have HHI := hide (@hasB_iff t.kinds (ks[n]?.getD 0))
                  obtain ⟨y, hy0⟩ : ∃ y, y = ks[n]?.getD 0 := ⟨_, rfl⟩
                  rw [← hy0] at kc HHas HHI
                  have HKn := hide hy0
                  clear hy0
                  cases hhb : hasB t.kinds y with
                  | false =>
                    rw [hhb] at HHas
                    have hf : Hid (r = false) := no_of HR.out fun ⟨m, h1, h2, h3, h4⟩ => by
                      by_cases hmn : m ≤ n
                      · exact HNo.out m hmn (by rw [HLE.out]; exact h2) h4
                      · have := HHI.out.2 (by rw [HKn.out]; exact h3 n (by omega)); rw [hhb] at this; cases this
                    clear hhb
                    go_wp2_with fail
                    refine wp_region_calm (by kernel_rfl) (by kernel_rfl) ?_
                    repeat (go_big_quiet_step ((go_at_call 81; exact calm_of_same (HHas.out _))))
                    refine wpQuiet_nil ?_
                    rintro _ ⟨x, rfl⟩
                    have hx := x.below
                    have hxs := hx.size
                    go_wp2_with fail
                    go_ret
                    exact ⟨ret_bool hf.out.symm, hwc.trans (hx.mono (by omega))⟩
                  | true =>
                    rw [hhb] at HHas
                    have HIn : Hid (y ∈ t.kinds) := HHI.out.1 hhb
                    clear hhb
                    go_wp2_with fail
                    refine wp_region_calm (by kernel_rfl) (by kernel_rfl) ?_
                    repeat (go_big_quiet_step ((go_at_call 81; exact calm_of_same (HHas.out _))))
                    refine wpQuiet_nil ?_
                    rintro _ ⟨x, rfl⟩
                    have hx := x.below
                    have hxs := hx.size
                    go_wp2_with fail
                    exact ⟨⟨n + 1, by omega, by go_num, ⟨fun j hj hj2 => by
                      by_cases e : j = n
                      · subst e; rw [← HKn.out]; exact HIn.out
                      · exact hinv.out.1 j (by omega) hj2, fun j hj => HNo.out j (by omega)⟩, hb2.trans (hx.mono (by omega))⟩, by simp [intOf]; omega⟩
                · have hlt1 : decide ((n : Int) < (1 : Int)) = false := by simp; omega
                  go_wp2_with fail
                  refine wp_region_calm (by kernel_rfl) (by kernel_rfl) ?_
                  repeat (go_big_quiet_step (fail))
                  refine wpQuiet_nil ?_
                  rintro _ ⟨x, rfl⟩
                  have hx := x.below
                  have hxs := hx.size
                  go_wp2_with fail
                  exact ⟨⟨n + 1, by omega, by go_num, ⟨fun j hj hj2 => hinv.out.1 j (by omega) hj2, fun j hj => HNo.out j (by omega)⟩, hb2.trans (hx.mono (by omega))⟩, by simp [intOf]; omega⟩
          · have hf : Hid (r = false) := no_of HR.out fun ⟨m, h1, h2, h3, h4⟩ => hinv.out.2 m (by rw [← HMO.out] at h1; omega) (by rw [HLE.out]; exact h2) h4
            have hnm1 : decide ((n : Int) ≤ (1 : Int)) = false := by simp; omega
            go_wp2_with fail
            go_ret
            exact ⟨ret_bool hf.out.symm, hw0⟩
    · obtain rfl : mo = ks.length := by rw [hmo]; unfold mostOf; rw [if_neg hlw]
      have hlw1 : decide (t.many < 2) = false := by simpa using hlw
      clear hmo hle
      go_enter Tryd.func49, Tryd.ntmps49
      go_wp2_with (go_at_call 80; refine (HLs.out _).mono ?_; rintro e w' ⟨rfl, hw⟩; have hw2 := hw.symm; subst hw2; clear hw)
      go_loopw [8] (fun i wr => ∃ n : Nat, n ≤ ks.length + 1 ∧ i = .int .i64 n ∧ Hid ((∀ j, j < n → j < ks.length → ks[j]?.getD 0 ∈ t.kinds) ∧ ∀ j, j < n → le ≤ j → ¬ MatchP ts (ks.drop j)) ∧ Below (w.heap.size + 1) (w.alloc (.cells #[.slice ad t.kinds.length cd, .int .i64 t.many] 131)) wr) (fun i _ => ks.length + 1 - (intOf i).toNat)
      case atStart => exact ⟨0, Nat.zero_le _, rfl, ⟨fun j hj => by omega, fun j hj => by omega⟩, Below.refl _ _⟩
      case round =>
        obtain ⟨wo, hwo⟩ : ∃ wo, wo = wr := ⟨_, rfl⟩
        subst hwo
        obtain ⟨n, hnl, rfl, hinv, hbr⟩ := hrel
        have hsz := hbr.size
        simp only [World.size_alloc] at hsz
        have hszl : w.heap.size < wo.heap.size := by omega
        have hw0 : Below w.heap.size w wo := ((Below.refl _ _).alloc (Nat.le_refl _) _).trans (hbr.mono (by omega))
        by_cases hnm : n ≤ ks.length
        · have hn1 : (n : Int) ≤ (ks.length : Int) := by omega
          have hn2 : (n : Int) ≤ (ks.length : Int) := by omega
          obtain ⟨a1, ha1⟩ : ∃ a1, (if cap = 1 then some (⟨b, off, none⟩ : Addr) else some ⟨b, off + 2, none⟩) = a1 := ⟨_, rfl⟩
          obtain ⟨a3, ha3⟩ : ∃ a3, (if ck = n then ak else Option.map (fun x => x.add n) ak) = a3 := ⟨_, rfl⟩
          have h1 : 0 < ts.length → a1 = some ⟨b, off + 2, none⟩ := fun h => by rw [← ha1, if_neg (by omega)]
          have h3 : n < ks.length → ∃ bk ofk, ak = some ⟨bk, ofk, none⟩ ∧ a3 = some ⟨bk, ofk + n, none⟩ := fun h => by
            obtain ⟨bk, ofk, e⟩ := HAK.out h
            exact ⟨bk, ofk, e, by rw [← ha3, if_neg (by omega), e]; simp [Addr.add]⟩
          have HCall : Hid (∀ (x : Calm wo), Calls Tryd.prog 49 #[.slice a1 ts.length (cap - 1), .slice a3 (ks.length - n) (ck - n)] x.out fun e w' => e = .returned (.bool (dec (MatchP ts (ks.drop n)))) ∧ Below x.out.heap.size x.out w') := fun x =>
            IH.out n₀ _ _ (ks.drop n) x.out ((TermsAt.tail HT.out a1 (cap - 1) fun h => ⟨b, off, rfl, h1 h⟩).below (Nat.le_refl _) ((hw0.mono hn).trans (x.below.mono (by omega)))) ⟨_, _, rfl, by omega⟩ ((IntsAt.drop HK.out a3 (ck - n) h3).below (Nat.le_refl _) ((hw0.mono hn).trans (x.below.mono (by omega)))) ⟨_, _, by rw [List.length_drop], by rw [List.length_drop]; omega⟩ (by have := x.below.size; omega) (by rw [List.length_drop]; omega) _ (dec_iff _)
          clear h1 h3
          have HD := hide (dec_iff (MatchP ts (ks.drop n)))
          generalize dec (MatchP ts (ks.drop n)) = q at *
          have hcal := calm_cell wo
          go_wp2_with fail
          go_cut [43] (fun v43 wc => v43 = .bool (decide (le ≤ n) && q) ∧ Below wo.heap.size wo wc)
          case first =>
            by_cases hge : le ≤ n
            · have hge1 : (le : Int) ≤ (n : Int) := by omega
              refine wp_region_calm (by kernel_rfl) (by kernel_rfl) ?_
              repeat (go_big_quiet_step ((go_at_call 49; exact calm_of (HCall.out _))))
              refine wpQuiet_nil ?_
              rintro _ ⟨x, rfl⟩
              have hx := x.below
              have hxs := hx.size
              go_wp2_with fail
              all_goals
                go_meet
                exact ⟨by simp [hge], hx⟩
            · have hge1 : decide ((le : Int) ≤ (n : Int)) = false := by simp; omega
              refine wp_region_calm (by kernel_rfl) (by kernel_rfl) ?_
              repeat (go_big_quiet_step (fail))
              refine wpQuiet_nil ?_
              rintro _ ⟨x, rfl⟩
              have hx := x.below
              have hxs := hx.size
              go_wp2_with fail
              all_goals
                go_meet
                exact ⟨by simp [hge], hx⟩
          case rest =>
            obtain ⟨rfl, hx⟩ := hcut
            have hxs := hx.size
            clear hcal HCall ha1 ha3
            cases hgq : (decide (le ≤ n) && q) with
            | true =>
              have hy : Hid (r = true) := by
                simp only [Bool.and_eq_true, decide_eq_true_eq] at hgq
                exact HR.out.2 ⟨n, by rw [← HMO.out]; exact hnm, by rw [← HLE.out]; exact hgq.1, fun j hj => hinv.out.1 j hj (by omega), HD.out.1 hgq.2⟩
              go_wp2_with fail
              go_ret
              exact ⟨ret_bool hy.out.symm, hw0.trans (hx.mono (by omega))⟩
            | false =>
              have HNo : Hid (∀ j, j ≤ n → le ≤ j → ¬ MatchP ts (ks.drop j)) := fun j hj h => by
                by_cases e : j = n
                · subst e
                  intro hM
                  rw [HD.out.2 hM] at hgq
                  simp at hgq
                  omega
                · exact hinv.out.2 j (by omega) h
              clear hgq
              go_wp2_with fail
              have hcal := calm_cell wc
              have hb2 : Below (w.heap.size + 1) (w.alloc (.cells #[.slice ad t.kinds.length cd, .int .i64 t.many] 131)) wc := hbr.trans (hx.mono hsz)
              have hwc : Below w.heap.size w wc := hw0.trans (hx.mono (by omega))
              have hz2 : w.heap.size < wc.heap.size := by omega
              have k0 : wc.cell? ⟨w.heap.size, 0, none⟩ = some (.slice ad t.kinds.length cd) := by rw [hb2.cell (p := ⟨w.heap.size, 0, none⟩) (by simp)]; simp
              by_cases hlt : n < ks.length
              · obtain ⟨bk, ofk, rfl, hbk, hck2⟩ := HKs.out.resolve_left (by intro e; have h0 : ks.length = 0 := (by rw [e]; rfl); omega)
                have kc := (hwc.cell (p := ⟨bk, ofk + n, none⟩) (show bk < w.heap.size by omega)).trans (hck2 n (by omega))
                have hbk2 : bk < wc.heap.size := by omega
                have hlt1 : (n : Int) < (ks.length : Int) := by omega
                have hlt2 : (n : Int) < (ks.length : Int) := by omega
                have HHas : Hid (∀ x : Calm wc, Calls Tryd.prog 81 #[.slice ad t.kinds.length cd, .int .i64 (ks[n]?.getD 0)] x.out fun e w' => e = .returned (.bool (hasB t.kinds (ks[n]?.getD 0))) ∧ w' = x.out) := fun x =>
                  specHas_any n₀ _ t.kinds _ x.out (HKD.out.below (Nat.le_refl _) ((hwc.mono hn).trans (x.below.mono (by omega)))) hkt
                have HHI := hide (@hasB_iff t.kinds (ks[n]?.getD 0))
                obtain ⟨y, hy0⟩ : ∃ y, y = ks[n]?.getD 0 := ⟨_, rfl⟩
                rw [← hy0] at kc HHas HHI
                have HKn := hide hy0
                clear hy0
                cases hhb : hasB t.kinds y with
                | false =>
                  rw [hhb] at HHas
                  have hf : Hid (r = false) := no_of HR.out fun ⟨m, h1, h2, h3, h4⟩ => by
                    by_cases hmn : m ≤ n
                    · exact HNo.out m hmn (by rw [HLE.out]; exact h2) h4
                    · have := HHI.out.2 (by rw [HKn.out]; exact h3 n (by omega)); rw [hhb] at this; cases this
                  clear hhb
                  go_wp2_with fail
                  refine wp_region_calm (by kernel_rfl) (by kernel_rfl) ?_
                  repeat (go_big_quiet_step ((go_at_call 81; exact calm_of_same (HHas.out _))))
                  refine wpQuiet_nil ?_
                  rintro _ ⟨x, rfl⟩
                  have hx := x.below
                  have hxs := hx.size
                  go_wp2_with fail
                  go_ret
                  exact ⟨ret_bool hf.out.symm, hwc.trans (hx.mono (by omega))⟩
                | true =>
                  rw [hhb] at HHas
                  have HIn : Hid (y ∈ t.kinds) := HHI.out.1 hhb
                  clear hhb
                  go_wp2_with fail
                  refine wp_region_calm (by kernel_rfl) (by kernel_rfl) ?_
                  repeat (go_big_quiet_step ((go_at_call 81; exact calm_of_same (HHas.out _))))
                  refine wpQuiet_nil ?_
                  rintro _ ⟨x, rfl⟩
                  have hx := x.below
                  have hxs := hx.size
                  go_wp2_with fail
                  exact ⟨⟨n + 1, by omega, by go_num, ⟨fun j hj hj2 => by
                    by_cases e : j = n
                    · subst e; rw [← HKn.out]; exact HIn.out
                    · exact hinv.out.1 j (by omega) hj2, fun j hj => HNo.out j (by omega)⟩, hb2.trans (hx.mono (by omega))⟩, by simp [intOf]; omega⟩
              · have hlt1 : decide ((n : Int) < (ks.length : Int)) = false := by simp; omega
                go_wp2_with fail
                refine wp_region_calm (by kernel_rfl) (by kernel_rfl) ?_
                repeat (go_big_quiet_step (fail))
                refine wpQuiet_nil ?_
                rintro _ ⟨x, rfl⟩
                have hx := x.below
                have hxs := hx.size
                go_wp2_with fail
                exact ⟨⟨n + 1, by omega, by go_num, ⟨fun j hj hj2 => hinv.out.1 j (by omega) hj2, fun j hj => HNo.out j (by omega)⟩, hb2.trans (hx.mono (by omega))⟩, by simp [intOf]; omega⟩
        · have hf : Hid (r = false) := no_of HR.out fun ⟨m, h1, h2, h3, h4⟩ => hinv.out.2 m (by rw [← HMO.out] at h1; omega) (by rw [HLE.out]; exact h2) h4
          have hnm1 : decide ((n : Int) ≤ (ks.length : Int)) = false := by simp; omega
          go_wp2_with fail
          go_ret
          exact ⟨ret_bool hf.out.symm, hw0⟩
end Go.Proofs.YtpkblnponeonkaaDoor
