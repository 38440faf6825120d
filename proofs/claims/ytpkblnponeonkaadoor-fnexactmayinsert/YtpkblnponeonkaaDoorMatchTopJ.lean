/-
  MatchKids: what the program answers.
-/
import Derived.Test.YtpkblnponeonkaaDoorMatchPlacesJ
import Derived.Test.YtpkblnponeonkaaDoorJoinE
namespace Go.Proofs.YtpkblnponeonkaaDoor
open Go.RowKit

theorem top_most {m : Int} (h0 : 0 ≤ m) (h3 : m ≤ 3) {k : Nat} (hk : k ≤ 12) : k ≤ topOf m.toNat ↔ k ≤ mostOf m k := by
  unfold topOf mostOf
  by_cases h : m < 2
  · rw [if_pos (by omega), if_pos h]; omega
  · rw [if_neg (by omega), if_neg h]; omega

theorem reach_leads {ts : List PTerm} {t : PTerm} {ks : List Int} {p : Nat} (hp : p ≤ ks.length) (hk : ks.length ≤ 12) (h0 : 0 ≤ t.many) (h3 : t.many ≤ 3) :
    MatchP (ts ++ [t]) (ks.take p) ↔ ∃ m, m < ks.length + 1 ∧ MatchP ts (ks.take m) ∧ Leads t ks m p := by
  rw [reach_step hp]
  constructor
  · rintro ⟨m, h1, h2, h4, h5, h6⟩
    exact ⟨m, by omega, h2, h1, hp, h4, (top_most h0 h3 (by omega)).2 h5, h6⟩
  · rintro ⟨m, h1, h2, h4, _, h5, h6, h7⟩
    exact ⟨m, h4, h2, h5, (top_most h0 h3 (by omega)).1 h6, h7⟩

noncomputable def reachB (ts : List PTerm) (ks : List Int) (p : Nat) : Bool := dec (p ≤ ks.length ∧ MatchP ts (ks.take p))
theorem reachB_iff {ts : List PTerm} {ks : List Int} {p : Nat} : reachB ts ks p = true ↔ p ≤ ks.length ∧ MatchP ts (ks.take p) := dec_iff _

theorem places_eq {g g' : Nat → Bool} (h : ∀ p, p < 13 → g p = g' p) : placesVal g = placesVal g' := by
  unfold placesVal
  rw [h 0 (by omega), h 1 (by omega), h 2 (by omega), h 3 (by omega), h 4 (by omega), h 5 (by omega), h 6 (by omega), h 7 (by omega), h 8 (by omega), h 9 (by omega), h 10 (by omega), h 11 (by omega), h 12 (by omega)]

theorem places_start (ks : List Int) : placesVal (reachB [] ks) = .agg #[.bool true, .bool false, .bool false, .bool false, .bool false, .bool false, .bool false, .bool false, .bool false, .bool false, .bool false, .bool false, .bool false] := by
  rw [places_eq (g' := fun p => decide (p = 0)) fun p hp => ?_]
  · rfl
  · rw [Bool.eq_iff_iff, reachB_iff, decide_eq_true_eq]
    simp only [MatchP]
    constructor
    · rintro ⟨h1, h2⟩
      have := congrArg List.length h2
      simp at this
      rcases this with h | h
      · exact h
      · subst h; simp at h1; exact h1
    · rintro rfl; simp

theorem implReach_any (n₀ : Nat) (tv kv : Value) (ts : List PTerm) (t : PTerm) (ks : List Int) (w : World) (hT : TermVal n₀ w tv t) (hK : IntsAt n₀ w kv ks) (hKr : Roomy kv ks.length) (hn : n₀ ≤ w.heap.size) (hm0 : 0 ≤ t.many) (hm3 : t.many ≤ 3) (hl : t.kinds.length ≤ 1048576) (hkl : ks.length ≤ 12) (hA : AmtAt w) :
    Calls Tryd.prog 136 #[tv, kv, placesVal (reachB ts ks)] w fun e w' => e = .returned (placesVal (reachB (ts ++ [t]) ks)) ∧ Below w.heap.size w w' :=
  (implPlaces_any n₀ tv kv t ks (reachB ts ks) w hT hK hKr hn hm0 hm3 hl hkl hA).mono fun e w' ⟨g, he, hg, hb⟩ => ⟨by
    rw [he, places_eq (g' := reachB (ts ++ [t]) ks) fun p hp => ?_]
    rw [Bool.eq_iff_iff, hg p hp, reachB_iff]
    constructor
    · rintro ⟨m, h1, h2, h3⟩
      exact ⟨h3.2.1, (reach_leads h3.2.1 hkl hm0 hm3).2 ⟨m, h1, (reachB_iff.1 h2).2, h3⟩⟩
    · rintro ⟨h1, h2⟩
      obtain ⟨m, h3, h4, h5⟩ := (reach_leads h1 hkl hm0 hm3).1 h2
      exact ⟨m, h3, reachB_iff.2 ⟨by omega, h4⟩, h5⟩, hb⟩

def put13 (w : World) (B : Nat) (f : Nat → Bool) : World := (((((((((((((w.setCell ⟨B, 0, none⟩ (.bool (f 0))).setCell ⟨B, 1, none⟩ (.bool (f 1))).setCell ⟨B, 2, none⟩ (.bool (f 2))).setCell ⟨B, 3, none⟩ (.bool (f 3))).setCell ⟨B, 4, none⟩ (.bool (f 4))).setCell ⟨B, 5, none⟩ (.bool (f 5))).setCell ⟨B, 6, none⟩ (.bool (f 6))).setCell ⟨B, 7, none⟩ (.bool (f 7))).setCell ⟨B, 8, none⟩ (.bool (f 8))).setCell ⟨B, 9, none⟩ (.bool (f 9))).setCell ⟨B, 10, none⟩ (.bool (f 10))).setCell ⟨B, 11, none⟩ (.bool (f 11))).setCell ⟨B, 12, none⟩ (.bool (f 12)))

set_option maxHeartbeats 1000000 in
theorem put13_cell {w : World} {B : Nat} {f0 : Nat → Bool} (f : Nat → Bool) (h : ∀ j, j < 13 → w.cell? ⟨B, j, none⟩ = some (.bool (f0 j))) : ∀ j, j < 13 → (put13 w B f).cell? ⟨B, j, none⟩ = some (.bool (f j)) := by
  have y0 := h 0 (by omega)
  have y1 := h 1 (by omega)
  have y2 := h 2 (by omega)
  have y3 := h 3 (by omega)
  have y4 := h 4 (by omega)
  have y5 := h 5 (by omega)
  have y6 := h 6 (by omega)
  have y7 := h 7 (by omega)
  have y8 := h 8 (by omega)
  have y9 := h 9 (by omega)
  have y10 := h 10 (by omega)
  have y11 := h 11 (by omega)
  have y12 := h 12 (by omega)
  intro j hj
  match j, hj with
  | 0, _ => simp [put13, go_sem, y0]
  | 1, _ => simp [put13, go_sem, y1]
  | 2, _ => simp [put13, go_sem, y2]
  | 3, _ => simp [put13, go_sem, y3]
  | 4, _ => simp [put13, go_sem, y4]
  | 5, _ => simp [put13, go_sem, y5]
  | 6, _ => simp [put13, go_sem, y6]
  | 7, _ => simp [put13, go_sem, y7]
  | 8, _ => simp [put13, go_sem, y8]
  | 9, _ => simp [put13, go_sem, y9]
  | 10, _ => simp [put13, go_sem, y10]
  | 11, _ => simp [put13, go_sem, y11]
  | 12, _ => simp [put13, go_sem, y12]

theorem put13_frozen (w : World) (B : Nat) (f : Nat → Bool) (j : Nat) : (put13 w B f).frozen? ⟨B, j, none⟩ = w.frozen? ⟨B, j, none⟩ := by
  simp [put13, go_sem]

theorem put13_size (w : World) (B : Nat) (f : Nat → Bool) : (put13 w B f).heap.size = w.heap.size := by
  simp [put13]

theorem put13_below {n : Nat} {w0 w : World} {B : Nat} (f : Nat → Bool) (hb : Below n w0 w) (h : n ≤ B) : Below n w0 (put13 w B f) := by
  unfold put13
  exact (((((((((((((hb.setCell (p := ⟨B, 0, none⟩) h _).setCell (p := ⟨B, 1, none⟩) h _).setCell (p := ⟨B, 2, none⟩) h _).setCell (p := ⟨B, 3, none⟩) h _).setCell (p := ⟨B, 4, none⟩) h _).setCell (p := ⟨B, 5, none⟩) h _).setCell (p := ⟨B, 6, none⟩) h _).setCell (p := ⟨B, 7, none⟩) h _).setCell (p := ⟨B, 8, none⟩) h _).setCell (p := ⟨B, 9, none⟩) h _).setCell (p := ⟨B, 10, none⟩) h _).setCell (p := ⟨B, 11, none⟩) h _).setCell (p := ⟨B, 12, none⟩) h _)

set_option maxHeartbeats 4000000 in
set_option maxRecDepth 100000 in
theorem matchKids_any (n₀ : Nat) (v kv : Value) (l : List PTerm) (ks : List Int) (w : World) (hT : TermsAt n₀ w v l) (hK : IntsAt n₀ w kv ks) (hKr : Roomy kv ks.length) (hn : n₀ ≤ w.heap.size) (hP : TermsP 8 l) (hkk : ∀ t ∈ l, t.kinds.length ≤ 1048576) (hkl : ks.length ≤ 12) (hA : AmtAt w) (r : Bool) (hr : r = true ↔ MatchP l ks) :
    Calls Tryd.prog 112 #[v, kv] w fun e w' => e = .returned (.bool r) ∧ Below w.heap.size w w' := by
  obtain ⟨a, cap, rfl, hk⟩ := hT
  have hl4 := hP.len
  have HP := hide hP.all
  have HK := hide hK
  have HKr := hide hKr
  have HKK := hide hkk
  have HAm := hide hA
  have HR := hide hr
  obtain ⟨ak, ck, rfl, -⟩ := hK
  clear hP hKr hkk hA hr
  have HSt := hide (places_start ks)
  unfold placesVal at HSt
  have hW0 := (Below.refl w.heap.size w).alloc (Nat.le_refl _) (.cells #[.bool true, .bool false, .bool false, .bool false, .bool false, .bool false, .bool false, .bool false, .bool false, .bool false, .bool false, .bool false, .bool false] 199)
  have HSc : Hid (∀ j, j < 13 → (w.alloc (.cells #[.bool true, .bool false, .bool false, .bool false, .bool false, .bool false, .bool false, .bool false, .bool false, .bool false, .bool false, .bool false, .bool false] 199)).cell? ⟨w.heap.size, j, none⟩ = some (.bool (reachB [] ks j))) := fun j hj => by
    have h1 := cell_of_heap (alloc_new w (.cells #[.bool true, .bool false, .bool false, .bool false, .bool false, .bool false, .bool false, .bool false, .bool false, .bool false, .bool false, .bool false, .bool false] 199)) j
    rw [h1]
    have h2 := (Cells13.lit (reachB [] ks)).2 j hj
    have h3 := HSt.out
    simp only [Value.agg.injEq] at h3
    rw [h3] at h2
    exact h2
  have HSf : Hid (∀ j, j < 13 → (w.alloc (.cells #[.bool true, .bool false, .bool false, .bool false, .bool false, .bool false, .bool false, .bool false, .bool false, .bool false, .bool false, .bool false, .bool false] 199)).frozen? ⟨w.heap.size, j, none⟩ = false) := fun j _ => frozen_of_heap (alloc_new w _) j
  go_enter Tryd.func112, Tryd.ntmps112
  go_wp2_with fail
  go_loopw [11] (fun i wr => ∃ k : Nat, k ≤ l.length ∧ i = .int .i64 k ∧ Hid (∀ j, j < 13 → wr.cell? ⟨w.heap.size, j, none⟩ = some (.bool (reachB (l.take k) ks j))) ∧ Hid (∀ j, j < 13 → wr.frozen? ⟨w.heap.size, j, none⟩ = false) ∧ w.heap.size < wr.heap.size ∧ Below w.heap.size w wr) (fun i _ => l.length - (intOf i).toNat)
  case atStart => exact ⟨0, Nat.zero_le _, rfl, by simpa using HSc, HSf, by simp, hW0⟩
  case round =>
    obtain ⟨k, hkl2, rfl, hcf, hfz, hlt0, hbr⟩ := hrel
    have hsz := hbr.size
    have HLast : Hid (k = l.length → wr.cell? ⟨w.heap.size, ks.length, none⟩ = some (.bool r)) := fun e => by
      rw [hcf.out ks.length (by omega), e, List.take_length]
      congr 2
      rw [Bool.eq_iff_iff, reachB_iff, HR.out, List.take_length]
      simp
    by_cases hlt : k < l.length
    · obtain ⟨b, off, rfl, hb, hc⟩ := hk.resolve_left (by intro e; simp [e] at hlt)
      have hA := (hc k hlt).below hb (Nat.le_refl _) (hbr.mono hn)
      have g1 := hA.c1
      obtain ⟨kdv, g0, hi⟩ := hA.c0
      have hbw : b < wr.heap.size := by omega
      have HMem : Hid (l[k]?.getD termNil ∈ l) := by simp [Hid, hlt]
      have HTk : Hid (l.take (k + 1) = l.take k ++ [l[k]?.getD termNil]) := by rw [Hid, List.take_succ_eq_append_getElem hlt]; simp [hlt]
      have hW1 := (Below.refl wr.heap.size wr).alloc (Nat.le_refl _) (.cells #[kdv, .int .i64 (l[k]?.getD termNil).many] 131)
      have HCall := implReach_any n₀ (.agg #[kdv, .int .i64 (l[k]?.getD termNil).many]) (.slice ak ks.length ck) (l.take k) (l[k]?.getD termNil) ks (wr.alloc (.cells #[kdv, .int .i64 (l[k]?.getD termNil).many] 131)) ⟨kdv, rfl, hi.below (Nat.le_refl _) (hW1.mono (by omega))⟩ (HK.out.below (Nat.le_refl _) ((hbr.mono hn).trans (hW1.mono (by omega)))) HKr.out (by simp; omega) (HP.out _ HMem.out).many0 (HP.out _ HMem.out).many3 (HKK.out _ HMem.out) hkl (HAm.out.below (hbr.trans (hW1.mono hsz)))
      rw [← HTk.out] at HCall
      unfold placesVal at HCall
      have HC := hide HCall
      have hcf' := hcf.out
      have hfz' := hfz.out
      obtain ⟨ad, cd, rfl, -⟩ := hi
      clear hA hc hk HCall HLast hcf
      generalize l[k]?.getD termNil = x at *
      generalize reachB (l.take k) ks = f at *
      have HF : Hid (reachB (l.take (k + 1)) ks = reachB (l.take (k + 1)) ks) := rfl
      obtain ⟨f', hf'⟩ : ∃ f', f' = reachB (l.take (k + 1)) ks := ⟨_, rfl⟩
      rw [← hf'] at HC
      have HF' := hide hf'
      clear hf' HF
      have e0 := hcf' 0 (by omega)
      have z0 := hfz' 0 (by omega)
      have e1 := hcf' 1 (by omega)
      have z1 := hfz' 1 (by omega)
      have e2 := hcf' 2 (by omega)
      have z2 := hfz' 2 (by omega)
      have e3 := hcf' 3 (by omega)
      have z3 := hfz' 3 (by omega)
      have e4 := hcf' 4 (by omega)
      have z4 := hfz' 4 (by omega)
      have e5 := hcf' 5 (by omega)
      have z5 := hfz' 5 (by omega)
      have e6 := hcf' 6 (by omega)
      have z6 := hfz' 6 (by omega)
      have e7 := hcf' 7 (by omega)
      have z7 := hfz' 7 (by omega)
      have e8 := hcf' 8 (by omega)
      have z8 := hfz' 8 (by omega)
      have e9 := hcf' 9 (by omega)
      have z9 := hfz' 9 (by omega)
      have e10 := hcf' 10 (by omega)
      have z10 := hfz' 10 (by omega)
      have e11 := hcf' 11 (by omega)
      have z11 := hfz' 11 (by omega)
      have e12 := hcf' 12 (by omega)
      have z12 := hfz' 12 (by omega)
      have hcf2 := hide hcf'
      have hfz2 := hide hfz'
      clear hcf' hfz'
      go_wp2_with fail
      refine HC.out.mono ?_
      rintro e w1 ⟨rfl, hb1⟩
      have hs1 := hb1.size
      simp only [World.size_alloc] at hs1
      have hb1' := hW1.trans (hb1.mono (by simp))
      have y0 := (hb1'.cell (p := ⟨w.heap.size, 0, none⟩) hlt0).trans e0
      have x0 := (hb1'.frozen (p := ⟨w.heap.size, 0, none⟩) hlt0).trans z0
      have y1 := (hb1'.cell (p := ⟨w.heap.size, 1, none⟩) hlt0).trans e1
      have x1 := (hb1'.frozen (p := ⟨w.heap.size, 1, none⟩) hlt0).trans z1
      have y2 := (hb1'.cell (p := ⟨w.heap.size, 2, none⟩) hlt0).trans e2
      have x2 := (hb1'.frozen (p := ⟨w.heap.size, 2, none⟩) hlt0).trans z2
      have y3 := (hb1'.cell (p := ⟨w.heap.size, 3, none⟩) hlt0).trans e3
      have x3 := (hb1'.frozen (p := ⟨w.heap.size, 3, none⟩) hlt0).trans z3
      have y4 := (hb1'.cell (p := ⟨w.heap.size, 4, none⟩) hlt0).trans e4
      have x4 := (hb1'.frozen (p := ⟨w.heap.size, 4, none⟩) hlt0).trans z4
      have y5 := (hb1'.cell (p := ⟨w.heap.size, 5, none⟩) hlt0).trans e5
      have x5 := (hb1'.frozen (p := ⟨w.heap.size, 5, none⟩) hlt0).trans z5
      have y6 := (hb1'.cell (p := ⟨w.heap.size, 6, none⟩) hlt0).trans e6
      have x6 := (hb1'.frozen (p := ⟨w.heap.size, 6, none⟩) hlt0).trans z6
      have y7 := (hb1'.cell (p := ⟨w.heap.size, 7, none⟩) hlt0).trans e7
      have x7 := (hb1'.frozen (p := ⟨w.heap.size, 7, none⟩) hlt0).trans z7
      have y8 := (hb1'.cell (p := ⟨w.heap.size, 8, none⟩) hlt0).trans e8
      have x8 := (hb1'.frozen (p := ⟨w.heap.size, 8, none⟩) hlt0).trans z8
      have y9 := (hb1'.cell (p := ⟨w.heap.size, 9, none⟩) hlt0).trans e9
      have x9 := (hb1'.frozen (p := ⟨w.heap.size, 9, none⟩) hlt0).trans z9
      have y10 := (hb1'.cell (p := ⟨w.heap.size, 10, none⟩) hlt0).trans e10
      have x10 := (hb1'.frozen (p := ⟨w.heap.size, 10, none⟩) hlt0).trans z10
      have y11 := (hb1'.cell (p := ⟨w.heap.size, 11, none⟩) hlt0).trans e11
      have x11 := (hb1'.frozen (p := ⟨w.heap.size, 11, none⟩) hlt0).trans z11
      have y12 := (hb1'.cell (p := ⟨w.heap.size, 12, none⟩) hlt0).trans e12
      have x12 := (hb1'.frozen (p := ⟨w.heap.size, 12, none⟩) hlt0).trans z12
      have hz1 : w.heap.size < w1.heap.size := by omega
      have HQ1 : Hid (∀ j, j < 13 → (put13 w1 w.heap.size f').cell? ⟨w.heap.size, j, none⟩ = some (.bool (reachB (l.take (k + 1)) ks j))) := fun j hj => by
        rw [← HF'.out]
        exact put13_cell f' (fun i hi => (hb1'.cell (p := ⟨w.heap.size, i, none⟩) hlt0).trans (hcf2.out i hi)) j hj
      have HQ2 : Hid (∀ j, j < 13 → (put13 w1 w.heap.size f').frozen? ⟨w.heap.size, j, none⟩ = false) := fun j hj => by
        rw [put13_frozen]
        exact (hb1'.frozen (p := ⟨w.heap.size, j, none⟩) hlt0).trans (hfz2.out j hj)
      have HQ3 : Hid (Below w.heap.size w (put13 w1 w.heap.size f')) := put13_below f' (hbr.trans (hb1'.mono hsz)) (Nat.le_refl _)
      have HQ4 : Hid (w.heap.size < (put13 w1 w.heap.size f').heap.size) := by rw [Hid, put13_size]; exact hz1
      unfold put13 at HQ1 HQ2 HQ3 HQ4
      clear HC
      go_wp2_with fail
      exact ⟨⟨k + 1, by omega, by go_num, HQ1, HQ2, HQ4.out, HQ3.out⟩, by simp [intOf]; omega⟩
    · obtain rfl : k = l.length := by omega
      have hlast := HLast.out rfl
      have hk13 : (ks.length : Int) < 13 := by omega
      clear hk hcf hfz HLast
      go_wp2_with fail
      go_ret
      exact ⟨rfl, hbr⟩
end Go.Proofs.YtpkblnponeonkaaDoor
