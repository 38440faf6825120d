/-
  The places that can be come to behind a term, as the program reckons them.
-/
import Derived.Test.YtpkblnponeonkaaDoorMatchImplJ
namespace Go.Proofs.YtpkblnponeonkaaDoor
open Go.RowKit

def placesVal (f : Nat → Bool) : Value := .agg #[.bool (f 0), .bool (f 1), .bool (f 2), .bool (f 3), .bool (f 4), .bool (f 5), .bool (f 6), .bool (f 7), .bool (f 8), .bool (f 9), .bool (f 10), .bool (f 11), .bool (f 12)]

def Cells13 (cs : Array Value) (g : Nat → Bool) : Prop := cs.size = 13 ∧ ∀ j, j < 13 → cs[j]? = some (.bool (g j))

theorem Cells13.lit (f : Nat → Bool) : Cells13 #[.bool (f 0), .bool (f 1), .bool (f 2), .bool (f 3), .bool (f 4), .bool (f 5), .bool (f 6), .bool (f 7), .bool (f 8), .bool (f 9), .bool (f 10), .bool (f 11), .bool (f 12)] f := by
  refine ⟨rfl, fun j hj => ?_⟩
  match j, hj with
  | 0, _ => rfl
  | 1, _ => rfl
  | 2, _ => rfl
  | 3, _ => rfl
  | 4, _ => rfl
  | 5, _ => rfl
  | 6, _ => rfl
  | 7, _ => rfl
  | 8, _ => rfl
  | 9, _ => rfl
  | 10, _ => rfl
  | 11, _ => rfl
  | 12, _ => rfl

theorem Cells13.set {cs : Array Value} {g : Nat → Bool} (h : Cells13 cs g) (i : Nat) : Cells13 (cs.setIfInBounds i (.bool true)) (fun p => g p || decide (p = i)) := by
  refine ⟨by simp [h.1], fun j hj => ?_⟩
  rw [Array.getElem?_setIfInBounds]
  by_cases e : i = j
  · subst e; simp [h.1, hj]
  · rw [if_neg e, h.2 j hj]
    have : decide (j = i) = false := by simp; omega
    simp [this]

/-- From place m a term leads to place p. -/
def Leads (t : PTerm) (ks : List Int) (m p : Nat) : Prop := m ≤ p ∧ p ≤ ks.length ∧ leastOf t.many ≤ p - m ∧ p - m ≤ topOf t.many.toNat ∧ ∀ j, j < p - m → (ks.drop m)[j]?.getD 0 ∈ t.kinds

theorem leads_iff {t : PTerm} {ks : List Int} {m p q : Nat} (hm : m ≤ ks.length) (hq : FirstP t.kinds (ks.drop m) q) : Leads t ks m p ↔ ∃ i, leastOf t.many ≤ i ∧ i ≤ min (topOf t.many.toNat) q ∧ p = m + i := by
  constructor
  · rintro ⟨h1, h2, h3, h4, h5⟩
    have := (hq.le_iff (n := p - m)).2 ⟨by rw [List.length_drop]; omega, h5⟩
    exact ⟨p - m, h3, by omega, by omega⟩
  · rintro ⟨i, h1, h2, rfl⟩
    obtain ⟨h3, h4⟩ := (hq.le_iff (n := i)).1 (by omega)
    rw [List.length_drop] at h3
    exact ⟨by omega, by omega, by omega, by omega, by rw [Nat.add_sub_cancel_left]; exact h4⟩

set_option maxHeartbeats 4000000 in
set_option maxRecDepth 100000 in
theorem implPlaces_any (n₀ : Nat) (tv kv : Value) (t : PTerm) (ks : List Int) (f : Nat → Bool) (w : World) (hT : TermVal n₀ w tv t) (hK : IntsAt n₀ w kv ks) (hKr : Roomy kv ks.length) (hn : n₀ ≤ w.heap.size) (hm0 : 0 ≤ t.many) (hm3 : t.many ≤ 3) (hl : t.kinds.length ≤ 1048576) (hkl : ks.length ≤ 12) (hA : AmtAt w) :
    Calls Tryd.prog 136 #[tv, kv, placesVal f] w fun e w' => ∃ g, e = .returned (placesVal g) ∧ (∀ p, p < 13 → (g p = true ↔ ∃ m, m < ks.length + 1 ∧ f m = true ∧ Leads t ks m p)) ∧ Below w.heap.size w w' := by
  obtain ⟨kdv, rfl, hkd⟩ := hT
  obtain ⟨ak, ck, rfl, hck⟩ := hKr
  have HKD := hide hkd
  have HK := hide hK
  obtain ⟨ad, cd, rfl, -⟩ := hkd
  obtain ⟨mk, hmk⟩ : ∃ mk : Nat, t.many = mk := ⟨t.many.toNat, by omega⟩
  have hmk4 : mk < 4 := by omega
  have hmk5 : (mk : Int) < 4 := by omega
  have HMK := hide hmk
  have HAm := hide hA
  have hG : 7 < w.heap.size := World.block_lt_of_cell? w _ (hA.mark 0 (by decide))
  obtain ⟨le, hle⟩ : ∃ le, le = leastOf (mk : Int) := ⟨_, rfl⟩
  obtain ⟨tp, htp⟩ : ∃ tp, tp = topOf mk := ⟨_, rfl⟩
  have hle1 : le ≤ 1 := by rw [hle]; unfold leastOf; split <;> omega
  have htp1 : tp ≤ 12 := by rw [htp]; unfold topOf; split <;> omega
  have HLe := hide hle
  have HTp := hide htp
  have cl := hA.least mk hmk4
  have cm := hA.most mk hmk4
  rw [← hle] at cl
  rw [← htp] at cm
  rw [hmk]
  clear hA hle htp hK hm0 hm3 hmk
  unfold placesVal
  have hW3 := (((Below.refl w.heap.size w).alloc (Nat.le_refl _) (.cells #[.slice ad t.kinds.length cd, .int .i64 mk] 131)).alloc (by simp) (.cells #[.bool (f 0), .bool (f 1), .bool (f 2), .bool (f 3), .bool (f 4), .bool (f 5), .bool (f 6), .bool (f 7), .bool (f 8), .bool (f 9), .bool (f 10), .bool (f 11), .bool (f 12)] 199)).alloc (by simp; omega) (.cells #[.bool false, .bool false, .bool false, .bool false, .bool false, .bool false, .bool false, .bool false, .bool false, .bool false, .bool false, .bool false, .bool false] 199)
  have hAk : Hid (∀ {n : Nat}, n < ks.length → ∃ bk ofk, ak = some ⟨bk, ofk, none⟩) := fun {n} hlt => by
    obtain ⟨a5, c5, e5, h5⟩ := HK.out
    simp only [Value.slice.injEq] at e5
    obtain ⟨rfl, -, -⟩ := e5
    obtain ⟨bk, ofk, h6, -⟩ := h5.resolve_left (by intro e; simp [e] at hlt)
    exact ⟨bk, ofk, h6⟩
  have hlen1 : IntKind.i64.wrap ((ks.length : Int) + 1) = (ks.length : Int) + 1 := by rw [IntKind.wrap_i64]; omega
  obtain ⟨W, hWe⟩ : ∃ W, W = (((w.alloc (.cells #[.slice ad t.kinds.length cd, .int .i64 mk] 131)).alloc (.cells #[.bool (f 0), .bool (f 1), .bool (f 2), .bool (f 3), .bool (f 4), .bool (f 5), .bool (f 6), .bool (f 7), .bool (f 8), .bool (f 9), .bool (f 10), .bool (f 11), .bool (f 12)] 199)).alloc (.cells #[.bool false, .bool false, .bool false, .bool false, .bool false, .bool false, .bool false, .bool false, .bool false, .bool false, .bool false, .bool false, .bool false] 199)) := ⟨_, rfl⟩
  have hWs : W.heap.size = w.heap.size + 1 + 1 + 1 := by rw [hWe]; simp
  have hWb : Below w.heap.size w W := by rw [hWe]; exact hW3
  have bh : W.heap[w.heap.size]? = some (.cells #[.slice ad t.kinds.length cd, .int .i64 mk] 131 (0, 0)) := by
    rw [hWe, Below.heap_alloc _ _ _ (by simp; omega), Below.heap_alloc _ _ _ (by simp)]
    exact alloc_new w _
  have b0 : W.cell? ⟨w.heap.size, 0, none⟩ = some (.slice ad t.kinds.length cd) := cell_of_heap bh 0
  have b1 : W.cell? ⟨w.heap.size, 1, none⟩ = some (.int .i64 mk) := cell_of_heap bh 1
  have bf : ∀ i, i < 13 → W.cell? ⟨w.heap.size + 1, i, none⟩ = some (.bool (f i)) := fun i hi => by
    have h1 : W.heap[w.heap.size + 1]? = some (.cells #[.bool (f 0), .bool (f 1), .bool (f 2), .bool (f 3), .bool (f 4), .bool (f 5), .bool (f 6), .bool (f 7), .bool (f 8), .bool (f 9), .bool (f 10), .bool (f 11), .bool (f 12)] 199 (0, 0)) := by
      rw [hWe, Below.heap_alloc _ _ _ (by simp)]
      have := alloc_new (w.alloc (.cells #[.slice ad t.kinds.length cd, .int .i64 mk] 131)) (.cells #[.bool (f 0), .bool (f 1), .bool (f 2), .bool (f 3), .bool (f 4), .bool (f 5), .bool (f 6), .bool (f 7), .bool (f 8), .bool (f 9), .bool (f 10), .bool (f 11), .bool (f 12)] 199)
      simpa using this
    rw [cell_of_heap h1]
    exact (Cells13.lit f).2 i hi
  have bh2 : W.heap[w.heap.size + 1 + 1]? = some (.cells #[.bool false, .bool false, .bool false, .bool false, .bool false, .bool false, .bool false, .bool false, .bool false, .bool false, .bool false, .bool false, .bool false] 199 (0, 0)) := by
    rw [hWe]
    have := alloc_new ((w.alloc (.cells #[.slice ad t.kinds.length cd, .int .i64 mk] 131)).alloc (.cells #[.bool (f 0), .bool (f 1), .bool (f 2), .bool (f 3), .bool (f 4), .bool (f 5), .bool (f 6), .bool (f 7), .bool (f 8), .bool (f 9), .bool (f 10), .bool (f 11), .bool (f 12)] 199)) (.cells #[.bool false, .bool false, .bool false, .bool false, .bool false, .bool false, .bool false, .bool false, .bool false, .bool false, .bool false, .bool false, .bool false] 199)
    simp only [World.size_alloc] at this
    exact this
  have HSt : Hid (((((w.alloc (.cells #[.slice ad t.kinds.length cd, .int .i64 mk] 131)).alloc (.cells #[.bool (f 0), .bool (f 1), .bool (f 2), .bool (f 3), .bool (f 4), .bool (f 5), .bool (f 6), .bool (f 7), .bool (f 8), .bool (f 9), .bool (f 10), .bool (f 11), .bool (f 12)] 199)).alloc (.cells #[.bool false, .bool false, .bool false, .bool false, .bool false, .bool false, .bool false, .bool false, .bool false, .bool false, .bool false, .bool false, .bool false] 199)).alloc (.cells #[.bool false, .bool false, .bool false, .bool false, .bool false, .bool false, .bool false, .bool false, .bool false, .bool false, .bool false, .bool false, .bool false] 199)).heap[w.heap.size + 1 + 1 + 1]? = some (.cells #[.bool false, .bool false, .bool false, .bool false, .bool false, .bool false, .bool false, .bool false, .bool false, .bool false, .bool false, .bool false, .bool false] 199 (0, 0))) := by
    have := alloc_new (((w.alloc (.cells #[.slice ad t.kinds.length cd, .int .i64 mk] 131)).alloc (.cells #[.bool (f 0), .bool (f 1), .bool (f 2), .bool (f 3), .bool (f 4), .bool (f 5), .bool (f 6), .bool (f 7), .bool (f 8), .bool (f 9), .bool (f 10), .bool (f 11), .bool (f 12)] 199)).alloc (.cells #[.bool false, .bool false, .bool false, .bool false, .bool false, .bool false, .bool false, .bool false, .bool false, .bool false, .bool false, .bool false, .bool false] 199)) (.cells #[.bool false, .bool false, .bool false, .bool false, .bool false, .bool false, .bool false, .bool false, .bool false, .bool false, .bool false, .bool false, .bool false] 199)
    simp only [World.size_alloc] at this
    exact this
  go_enter Tryd.func136, Tryd.ntmps136
  go_wp2_with fail
  rw [← hWe] at *
  go_loopw [14] (fun i wr => ∃ (m : Nat) (g : Nat → Bool) (cs : Array Value), m ≤ ks.length + 1 ∧ i = .int .i64 m ∧ Hid (wr.heap[w.heap.size + 1 + 1 + 1]? = some (.cells cs 199 (0, 0))) ∧ Hid (Cells13 cs g) ∧ Hid (∀ p, p < 13 → (g p = true ↔ ∃ m', m' < m ∧ f m' = true ∧ Leads t ks m' p)) ∧ Below (w.heap.size + 1 + 1 + 1) W wr) (fun i _ => ks.length + 1 - (intOf i).toNat)
  case atStart => exact ⟨0, fun _ => false, _, Nat.zero_le _, rfl, HSt, Cells13.lit (fun _ => false), fun p _ => by simp, (Below.refl _ _).alloc (by omega) _⟩
  case round =>
    obtain ⟨wo, hwo⟩ : ∃ wo, wo = wr := ⟨_, rfl⟩
    subst hwo
    obtain ⟨m, g, cs, hml, rfl, hh, hcs, hinv, hbr⟩ := hrel
    have hlt3 : w.heap.size + 1 + 1 + 1 < wo.heap.size := (Array.getElem?_eq_some_iff.1 hh.out).1
    have hw0 : Below w.heap.size w wo := hWb.trans (hbr.mono (by omega))
    by_cases hlt : m < ks.length + 1
    · have hlt1 : (m : Int) < (ks.length : Int) + 1 := by omega
      have hlt13 : (m : Int) < 13 := by omega
      have hltk : (m : Int) ≤ (ks.length : Int) := by omega
      have d0 := (hbr.cell (p := ⟨w.heap.size, 0, none⟩) (by simp; omega)).trans b0
      have d1 := (hbr.cell (p := ⟨w.heap.size, 1, none⟩) (by simp; omega)).trans b1
      have df := (hbr.cell (p := ⟨w.heap.size + 1, m, none⟩) (by simp)).trans (bf m (by omega))
      have dl := (hw0.cell (p := ⟨7, mk * 3 + 1, none⟩) hG).trans cl
      have dm := (hw0.cell (p := ⟨7, mk * 3 + 2, none⟩) hG).trans cm
      have hGo : 7 < wo.heap.size := by omega
      have hz0 : w.heap.size < wo.heap.size := by omega
      have hz1 : w.heap.size + 1 < wo.heap.size := by omega
      cases hfm : f m with
      | false =>
        have HI2 : Hid (∀ p, p < 13 → (g p = true ↔ ∃ m', m' < m + 1 ∧ f m' = true ∧ Leads t ks m' p)) := fun p hp => by
          rw [hinv.out p hp]
          refine ⟨fun ⟨m', h1, h2⟩ => ⟨m', by omega, h2⟩, fun ⟨m', h1, h2, h3⟩ => ⟨m', ?_, h2, h3⟩⟩
          by_cases e : m' = m
          · rw [e, hfm] at h2; cases h2
          · omega
        rw [hfm] at df
        go_wp2_with fail
        exact ⟨⟨m + 1, g, cs, by omega, by go_num, hh, hcs, HI2, hbr⟩, by simp [intOf]; omega⟩
      | true =>
        rw [hfm] at df
        obtain ⟨q, hq⟩ := FirstP.ex t.kinds (ks.drop m)
        have HQ := hide hq
        have hql : q ≤ ks.length - m := by have := hq.1; rwa [List.length_drop] at this
        clear hq
        obtain ⟨a3, ha3⟩ : ∃ a3, (if ck = m then ak else Option.map (fun x => x.add m) ak) = a3 := ⟨_, rfl⟩
        have h3 : m < ks.length → ∃ bk ofk, ak = some ⟨bk, ofk, none⟩ ∧ a3 = some ⟨bk, ofk + m, none⟩ := fun h => by
          obtain ⟨bk, ofk, e⟩ := hAk.out h
          exact ⟨bk, ofk, e, by rw [← ha3, if_neg (by omega), e]; simp [Addr.add]⟩
        have HCall : Hid (∀ (x : Calm wo), Calls Tryd.prog 153 #[.slice ad t.kinds.length cd, .slice a3 (ks.length - m) (ck - m)] x.out fun e w' => e = .returned (.int .i64 q) ∧ w' = x.out) := fun x =>
          implFirstAt_any n₀ _ _ t.kinds (ks.drop m) x.out (HKD.out.below (Nat.le_refl _) ((hw0.mono hn).trans (x.below.mono (by omega)))) ((IntsAt.drop HK.out a3 (ck - m) h3).below (Nat.le_refl _) ((hw0.mono hn).trans (x.below.mono (by omega)))) hl (by rw [List.length_drop]; omega) q HQ.out
        clear h3
        have hcal := calm_cell wo
        go_wp2_with fail
        go_cut [9] (fun v9 wc => v9 = .int .i64 ((min tp q : Nat) : Int) ∧ Below wo.heap.size wo wc)
        case first =>
          refine wp_region_calm (by kernel_rfl) (by kernel_rfl) ?_
          repeat (go_big_quiet_step ((go_at_call 153; exact calm_of_same (HCall.out _))))
          refine wpQuiet_nil ?_
          rintro _ ⟨x, rfl⟩
          have hx := x.below
          go_wp2_with fail
          all_goals
            go_meet
            exact ⟨by congr 1; omega, hx⟩
        case rest =>
          obtain ⟨rfl, hx⟩ := hcut
          have hxs := hx.size
          have hbc : Below (w.heap.size + 1 + 1 + 1) W wc := hbr.trans (hx.mono (by omega))
          have HHc : Hid (wc.heap[w.heap.size + 1 + 1 + 1]? = some (.cells cs 199 (0, 0))) := (hx.block _ hlt3).trans hh.out
          have k1 := (hx.cell (p := ⟨w.heap.size, 1, none⟩) hz0).trans d1
          have kl := (hx.cell (p := ⟨7, mk * 3 + 1, none⟩) hGo).trans dl
          have hz0c : w.heap.size < wc.heap.size := by omega
          have hGc : 7 < wc.heap.size := by omega
          have HLd : Hid (∀ p, Leads t ks m p ↔ ∃ i, le ≤ i ∧ i ≤ min tp q ∧ p = m + i) := fun p => by
            rw [leads_iff (by omega) HQ.out, HLe.out, HTp.out, HMK.out, Int.toNat_natCast]
          clear hcal HCall ha3 d0 d1 df dl dm
          obtain ⟨mn, hmn⟩ : ∃ mn, mn = min tp q := ⟨_, rfl⟩
          rw [← hmn] at HLd ⊢
          have hmn12 : m + mn ≤ 12 := by omega
          clear hmn
          go_wp2_with fail
          go_loopw [10] (fun nv wq => ∃ (n : Nat) (g' : Nat → Bool) (cs' : Array Value), le ≤ n ∧ (n ≤ mn + 1 ∨ n = le) ∧ nv = .int .i64 n ∧ Hid (wq.heap[w.heap.size + 1 + 1 + 1]? = some (.cells cs' 199 (0, 0))) ∧ Hid (Cells13 cs' g') ∧ Hid (∀ p, p < 13 → (g' p = true ↔ g p = true ∨ ∃ i, le ≤ i ∧ i < n ∧ p = m + i)) ∧ Below (w.heap.size + 1 + 1 + 1) W wq) (fun nv _ => mn + 1 - (intOf nv).toNat)
          case atStart => exact ⟨le, g, cs, Nat.le_refl _, .inr rfl, rfl, HHc, hcs, fun p _ => ⟨.inl, fun h => h.elim id fun ⟨i, h1, h2, _⟩ => by omega⟩, hbc⟩
          case round =>
            obtain ⟨n, g', cs', hn1, hn2, rfl, hh', hcs', hinv', hbq⟩ := hrel
            have hlt3' : w.heap.size + 1 + 1 + 1 < wr.heap.size := (Array.getElem?_eq_some_iff.1 hh'.out).1
            clear k1 kl hz0c hGc HHc
            by_cases hnm : n ≤ mn
            · have hnm1 : (n : Int) ≤ (mn : Int) := by omega
              have hwr : IntKind.i64.wrap ((m : Int) + (n : Int)) = (m : Int) + (n : Int) := by rw [IntKind.wrap_i64]; omega
              have hi1 : (0 : Int) ≤ (m : Int) + (n : Int) := by omega
              have hi2 : (m : Int) + (n : Int) < 13 := by omega
              have hi3 : ((m : Int) + (n : Int)).toNat = m + n := by omega
              have hcc : wr.cell? ⟨w.heap.size + 1 + 1 + 1, m + n, none⟩ = some (.bool (g' (m + n))) := by rw [cell_of_heap hh'.out]; exact hcs'.out.2 _ (by omega)
              have hff := frozen_of_heap hh'.out (m + n)
              have HH2 : Hid ((wr.setCell ⟨w.heap.size + 1 + 1 + 1, m + n, none⟩ (.bool true)).heap[w.heap.size + 1 + 1 + 1]? = some (.cells (cs'.setIfInBounds (m + n) (.bool true)) 199 (0, 0))) := heap_setCell_same _ _ _ _ _ _ hh'.out
              have HI2 : Hid (∀ p, p < 13 → ((g' p || decide (p = m + n)) = true ↔ g p = true ∨ ∃ i, le ≤ i ∧ i < n + 1 ∧ p = m + i)) := fun p hp => by
                rw [Bool.or_eq_true, hinv'.out p hp, decide_eq_true_eq]
                constructor
                · rintro ((h | ⟨i, h1, h2, h3⟩) | h)
                  · exact .inl h
                  · exact .inr ⟨i, h1, by omega, h3⟩
                  · exact .inr ⟨n, hn1, by omega, h⟩
                · rintro (h | ⟨i, h1, h2, h3⟩)
                  · exact .inl (.inl h)
                  · by_cases e : i = n
                    · subst e; exact .inr h3
                    · exact .inl (.inr ⟨i, h1, by omega, h3⟩)
              have HB2 : Hid (Below (w.heap.size + 1 + 1 + 1) W (wr.setCell ⟨w.heap.size + 1 + 1 + 1, m + n, none⟩ (.bool true))) := hbq.setCell (p := ⟨w.heap.size + 1 + 1 + 1, m + n, none⟩) (Nat.le_refl _) _
              go_wp2_with fail
              exact ⟨⟨n + 1, _, _, by omega, .inl (by omega), by go_num, HH2, hcs'.out.set (m + n), HI2, HB2.out⟩, by simp [intOf]; omega⟩
            · have hnm1 : decide ((n : Int) ≤ (mn : Int)) = false := by simp; omega
              have HI2 : Hid (∀ p, p < 13 → (g' p = true ↔ ∃ m', m' < m + 1 ∧ f m' = true ∧ Leads t ks m' p)) := fun p hp => by
                rw [hinv'.out p hp, hinv.out p hp]
                constructor
                · rintro (⟨m', h1, h2⟩ | ⟨i, h1, h2, h3⟩)
                  · exact ⟨m', by omega, h2⟩
                  · exact ⟨m, by omega, hfm, (HLd.out p).2 ⟨i, h1, by omega, h3⟩⟩
                · rintro ⟨m', h1, h2, h3⟩
                  by_cases e : m' = m
                  · subst e
                    obtain ⟨i, h4, h5, h6⟩ := (HLd.out p).1 h3
                    exact .inr ⟨i, h4, by omega, h6⟩
                  · exact .inl ⟨m', by omega, h2, h3⟩
              go_wp2_with fail
              exact ⟨⟨m + 1, g', cs', by omega, by go_num, hh', hcs', HI2, hbq⟩, by simp [intOf]; omega⟩
    · obtain rfl : m = ks.length + 1 := by omega
      have ec : ∀ j, j < 13 → wo.cell? ⟨w.heap.size + 1 + 1 + 1, j, none⟩ = some (.bool (g j)) := fun j hj => by rw [cell_of_heap hh.out]; exact hcs.out.2 j hj
      have bh3 := (hbr.block (w.heap.size + 1 + 1) (by omega)).trans bh2
      have fz : ∀ j, wo.frozen? ⟨w.heap.size + 1 + 1, j, none⟩ = false := fun j => frozen_of_heap bh3 j
      have ez : ∀ j, j < 13 → wo.cell? ⟨w.heap.size + 1 + 1, j, none⟩ = some (.bool false) := fun j hj => by rw [cell_of_heap bh3]; exact (Cells13.lit (fun _ => false)).2 j hj
      have e0 : wo.cell? ⟨w.heap.size + 1 + 1 + 1, 0, none⟩ = some (.bool (g 0)) := ec 0 (by omega)
      have e1 : wo.cell? ⟨w.heap.size + 1 + 1 + 1, 1, none⟩ = some (.bool (g 1)) := ec 1 (by omega)
      have e2 : wo.cell? ⟨w.heap.size + 1 + 1 + 1, 2, none⟩ = some (.bool (g 2)) := ec 2 (by omega)
      have e3 : wo.cell? ⟨w.heap.size + 1 + 1 + 1, 3, none⟩ = some (.bool (g 3)) := ec 3 (by omega)
      have e4 : wo.cell? ⟨w.heap.size + 1 + 1 + 1, 4, none⟩ = some (.bool (g 4)) := ec 4 (by omega)
      have e5 : wo.cell? ⟨w.heap.size + 1 + 1 + 1, 5, none⟩ = some (.bool (g 5)) := ec 5 (by omega)
      have e6 : wo.cell? ⟨w.heap.size + 1 + 1 + 1, 6, none⟩ = some (.bool (g 6)) := ec 6 (by omega)
      have e7 : wo.cell? ⟨w.heap.size + 1 + 1 + 1, 7, none⟩ = some (.bool (g 7)) := ec 7 (by omega)
      have e8 : wo.cell? ⟨w.heap.size + 1 + 1 + 1, 8, none⟩ = some (.bool (g 8)) := ec 8 (by omega)
      have e9 : wo.cell? ⟨w.heap.size + 1 + 1 + 1, 9, none⟩ = some (.bool (g 9)) := ec 9 (by omega)
      have e10 : wo.cell? ⟨w.heap.size + 1 + 1 + 1, 10, none⟩ = some (.bool (g 10)) := ec 10 (by omega)
      have e11 : wo.cell? ⟨w.heap.size + 1 + 1 + 1, 11, none⟩ = some (.bool (g 11)) := ec 11 (by omega)
      have e12 : wo.cell? ⟨w.heap.size + 1 + 1 + 1, 12, none⟩ = some (.bool (g 12)) := ec 12 (by omega)
      have z0 : wo.cell? ⟨w.heap.size + 1 + 1, 0, none⟩ = some (.bool false) := ez 0 (by omega)
      have z1 : wo.cell? ⟨w.heap.size + 1 + 1, 1, none⟩ = some (.bool false) := ez 1 (by omega)
      have z2 : wo.cell? ⟨w.heap.size + 1 + 1, 2, none⟩ = some (.bool false) := ez 2 (by omega)
      have z3 : wo.cell? ⟨w.heap.size + 1 + 1, 3, none⟩ = some (.bool false) := ez 3 (by omega)
      have z4 : wo.cell? ⟨w.heap.size + 1 + 1, 4, none⟩ = some (.bool false) := ez 4 (by omega)
      have z5 : wo.cell? ⟨w.heap.size + 1 + 1, 5, none⟩ = some (.bool false) := ez 5 (by omega)
      have z6 : wo.cell? ⟨w.heap.size + 1 + 1, 6, none⟩ = some (.bool false) := ez 6 (by omega)
      have z7 : wo.cell? ⟨w.heap.size + 1 + 1, 7, none⟩ = some (.bool false) := ez 7 (by omega)
      have z8 : wo.cell? ⟨w.heap.size + 1 + 1, 8, none⟩ = some (.bool false) := ez 8 (by omega)
      have z9 : wo.cell? ⟨w.heap.size + 1 + 1, 9, none⟩ = some (.bool false) := ez 9 (by omega)
      have z10 : wo.cell? ⟨w.heap.size + 1 + 1, 10, none⟩ = some (.bool false) := ez 10 (by omega)
      have z11 : wo.cell? ⟨w.heap.size + 1 + 1, 11, none⟩ = some (.bool false) := ez 11 (by omega)
      have z12 : wo.cell? ⟨w.heap.size + 1 + 1, 12, none⟩ = some (.bool false) := ez 12 (by omega)
      have hz2 : w.heap.size + 1 + 1 < wo.heap.size := by omega
      clear ec ez bh2 bh3 HSt
      go_wp2_with fail
      refine bodyPost_ret (v := .agg #[.bool (g 0), .bool (g 1), .bool (g 2), .bool (g 3), .bool (g 4), .bool (g 5), .bool (g 6), .bool (g 7), .bool (g 8), .bool (g 9), .bool (g 10), .bool (g 11), .bool (g 12)]) (by simp [results, Tryd.results136, go_sem, z0, z1, z2, z3, z4, z5, z6, z7, z8, z9, z10, z11, z12]) rfl ⟨g, rfl, hinv.out, hw0.trans ?_⟩
      have hre : Below w.heap.size wo wo := Below.refl _ _
      exact (((((((((((((hre.setCell (p := ⟨w.heap.size + 1 + 1, 0, none⟩) (by simp; omega) _).setCell (p := ⟨w.heap.size + 1 + 1, 1, none⟩) (by simp; omega) _).setCell (p := ⟨w.heap.size + 1 + 1, 2, none⟩) (by simp; omega) _).setCell (p := ⟨w.heap.size + 1 + 1, 3, none⟩) (by simp; omega) _).setCell (p := ⟨w.heap.size + 1 + 1, 4, none⟩) (by simp; omega) _).setCell (p := ⟨w.heap.size + 1 + 1, 5, none⟩) (by simp; omega) _).setCell (p := ⟨w.heap.size + 1 + 1, 6, none⟩) (by simp; omega) _).setCell (p := ⟨w.heap.size + 1 + 1, 7, none⟩) (by simp; omega) _).setCell (p := ⟨w.heap.size + 1 + 1, 8, none⟩) (by simp; omega) _).setCell (p := ⟨w.heap.size + 1 + 1, 9, none⟩) (by simp; omega) _).setCell (p := ⟨w.heap.size + 1 + 1, 10, none⟩) (by simp; omega) _).setCell (p := ⟨w.heap.size + 1 + 1, 11, none⟩) (by simp; omega) _).setCell (p := ⟨w.heap.size + 1 + 1, 12, none⟩) (by simp; omega) _)
end Go.Proofs.YtpkblnponeonkaaDoor
