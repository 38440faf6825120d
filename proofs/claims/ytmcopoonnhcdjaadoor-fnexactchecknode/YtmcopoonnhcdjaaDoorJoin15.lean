/-
  What the row's list gives of the table of amounts: its cells hold the least and the most of each Many, and its mark.
  The least number of kids of a term, and whether terms are right: what the specification answers.
  Whether kids are taken by terms: what the specification answers.
-/
import Derived.Test.YtmcopoonnhcdjaaDoorJoin10
import Derived.Test.YtmcopoonnhcdjaaDoorRows
import Derived.OpenShut
import Derived.ChangeArms
import Derived.FnData
import Derived.MakeChecks
import Derived.Lib.LaidTab
import Derived.Test.YtmcopoonnhcdjaaDoorJoin11
import Derived.Test.YtmcopoonnhcdjaaDoorJoin2
namespace Go.Proofs.YtmcopoonnhcdjaaDoor
open Go.RowKit

def markOfMany (k : Nat) : ByteArray := if k = 0 then ⟨#[]⟩ else if k = 1 then ⟨#[63]⟩ else if k = 2 then ⟨#[42]⟩ else ⟨#[43]⟩
def topOf (k : Nat) : Nat := if k < 2 then 1 else 12

/-- The table of amounts, cell for cell. -/
structure AmtAt (w : World) : Prop where
  mark : ∀ k, k < 4 → w.cell? ⟨1, k * 3, none⟩ = some (.string (markOfMany k))
  least : ∀ k, k < 4 → w.cell? ⟨1, k * 3 + 1, none⟩ = some (.int .i64 (leastOf (k : Int)))
  most : ∀ k, k < 4 → w.cell? ⟨1, k * 3 + 2, none⟩ = some (.int .i64 (topOf k))

theorem AmtAt.below {w w' : World} (h : AmtAt w) (hb : Below w.heap.size w w') : AmtAt w' := by
  have hg : 1 < w.heap.size := World.block_lt_of_cell? w _ (h.mark 0 (by decide))
  exact ⟨fun k hk => (hb.cell (p := ⟨_, _, none⟩) hg).trans (h.mark k hk), fun k hk => (hb.cell (p := ⟨_, _, none⟩) hg).trans (h.least k hk), fun k hk => (hb.cell (p := ⟨_, _, none⟩) hg).trans (h.most k hk)⟩

set_option maxRecDepth 100000 in
/-- Three cells that read as a text and two numbers hold these. -/
theorem amt_elem {H : Type} {enc : TypeId × Value → H} {w : World} {base fuel : Nat} {sp : Nat → Bool} {held : Bool} {cs : List Value} {l : List UInt8} {a b : Int} {p : List MemPlace}
    (h : DataW.trod enc Tryd.prog w base sp held fuel 147 cs = some (.agg [.lit (.string l), .lit (.int .i64 a), .lit (.int .i64 b)], p)) :
    cs = [.string ⟨l.toArray⟩, .int .i64 a, .int .i64 b] := by
  have cI : Tryd.prog.cellsOf 3 = 1 := by kernel_rfl
  have cS : Tryd.prog.cellsOf 9 = 1 := by kernel_rfl
  have cA : Tryd.prog.cellsOf 147 = 3 := by kernel_rfl
  obtain ⟨xs, n, _, ex, hlen, hxs, hf⟩ := DataW.trod_struct Tryd.underlying147 h
  rw [cA] at hlen
  have e := (DataW.agg.inj (Prod.mk.inj ex).1)
  match cs, hlen with
  | [c0, c1, c2], _ =>
    match xs, hxs with
    | [y0, y1, y2], _ =>
      simp only [List.map_cons, List.map_nil, List.cons.injEq, and_true] at e
      obtain ⟨q0, q1, q2⟩ := e
      have f0 : DataW.trod enc Tryd.prog w base sp held n 9 [c0] = some y0 := by have := hf 0 _ rfl; simpa [cS] using this
      have f1 : DataW.trod enc Tryd.prog w base sp held n 3 [c1] = some y1 := by have := hf 1 _ rfl; simpa [cI] using this
      have f2 : DataW.trod enc Tryd.prog w base sp held n 3 [c2] = some y2 := by have := hf 2 _ rfl; simpa [cI] using this
      obtain ⟨s0, h0, e0, _⟩ := DataW.trod_string Tryd.underlying9 f0
      obtain ⟨n1, h1, e1, _⟩ := DataW.trod_int Tryd.underlying3 f1
      obtain ⟨n2, h2, e2, _⟩ := DataW.trod_int Tryd.underlying3 f2
      subst e0 e1 e2
      simp only [DataW.lit.injEq, Lit.string.injEq, Lit.int.injEq, true_and] at q0 q1 q2
      simp only [List.cons.injEq, and_true] at h0 h1 h2
      subst q0 q1 q2 h0 h1 h2
      rfl

theorem list4 {α : Type} : ∀ {l : List α}, l.length = 4 → ∃ a b c d, l = [a, b, c, d]
  | [a, b, c, d], _ => ⟨a, b, c, d, rfl⟩

set_option maxRecDepth 100000 in
theorem amtAt_of_laid {W : World} {rest : List (String × DataW Unit)} (h : laidMet Tryd.prog (("loop.example/g00701/impl.amounts", Rows.laid_loop_example_g00701_impl_amounts) :: rest) W) : AmtAt W := by
  obtain ⟨ps, ⟨g, t, cs, fuel, p, q, hg, ht, hv, hd, _, _⟩, _, _⟩ := h
  obtain rfl := Option.some.inj ((show Tryd.prog.globalNamed "loop.example/g00701/impl.amounts" = some 1 by kernel_rfl).symm.trans hg)
  obtain rfl := Option.some.inj ((show (Tryd.prog.globals[1]?).map (·.type) = some 148 by kernel_rfl).symm.trans ht)
  have cA : Tryd.prog.cellsOf 147 = 3 := by kernel_rfl
  have hd' : DataW.trod _ Tryd.prog W _ _ _ fuel 148 cs.toList = some (.agg [.agg [.lit (.string []), .lit (.int .i64 1), .lit (.int .i64 1)], .agg [.lit (.string [63]), .lit (.int .i64 0), .lit (.int .i64 1)], .agg [.lit (.string [42]), .lit (.int .i64 0), .lit (.int .i64 12)], .agg [.lit (.string [43]), .lit (.int .i64 1), .lit (.int .i64 12)]], p) := hd
  obtain ⟨xs, m, _, ex, hlen, hl, hel⟩ := DataW.trod_array Tryd.underlying148 hd'
  have e := (DataW.agg.inj (Prod.mk.inj ex).1)
  obtain ⟨y0, y1, y2, y3, rfl⟩ := list4 hl
  simp only [List.map_cons, List.map_nil, List.cons.injEq, and_true] at e
  obtain ⟨q0, q1, q2, q3⟩ := e
  obtain ⟨d0, p0⟩ := y0
  obtain ⟨d1, p1⟩ := y1
  obtain ⟨d2, p2⟩ := y2
  obtain ⟨d3, p3⟩ := y3
  subst q0 q1 q2 q3
  have h0 := hel 0 (by decide)
  have h1 := hel 1 (by decide)
  have h2 := hel 2 (by decide)
  have h3 := hel 3 (by decide)
  rw [cA] at h0 h1 h2 h3
  have k0 := amt_elem h0
  have k1 := amt_elem h1
  have k2 := amt_elem h2
  have k3 := amt_elem h3
  have G : ∀ k j, k < 4 → j < 3 → W.cell? ⟨1, k * 3 + j, none⟩ = ((cs.toList.drop (k * 3)).take 3)[j]? := fun k j _ hj => by
    rw [World.var?_cell hg hv, List.getElem?_take, if_pos hj, List.getElem?_drop, Array.getElem?_toList]
  refine ⟨fun k hk => ?_, fun k hk => ?_, fun k hk => ?_⟩
  · have := G k 0 hk (by decide)
    rw [Nat.add_zero] at this
    rw [this]
    match k, hk with
    | 0, _ => rw [k0]; rfl
    | 1, _ => rw [k1]; rfl
    | 2, _ => rw [k2]; rfl
    | 3, _ => rw [k3]; rfl
  · rw [G k 1 hk (by decide)]
    match k, hk with
    | 0, _ => rw [k0]; rfl
    | 1, _ => rw [k1]; rfl
    | 2, _ => rw [k2]; rfl
    | 3, _ => rw [k3]; rfl
  · rw [G k 2 hk (by decide)]
    match k, hk with
    | 0, _ => rw [k0]; rfl
    | 1, _ => rw [k1]; rfl
    | 2, _ => rw [k2]; rfl
    | 3, _ => rw [k3]; rfl
end Go.Proofs.YtmcopoonnhcdjaaDoor

namespace Go.Proofs.YtmcopoonnhcdjaaDoor
open Go.RowKit

set_option maxHeartbeats 400000 in
theorem specLeast_any (m : Int) (w : World) :
    Calls Tryd.prog 82 #[.int .i64 m] w fun e w' => e = .returned (.int .i64 (leastOf m)) ∧ w' = w := by
  by_cases h0 : m = 0
  · subst h0
    go_enter Tryd.func82, Tryd.ntmps82
    go_wp2
    go_ret
    exact ⟨rfl, rfl⟩
  · have h00 : (m == 0) = false := by simpa using h0
    by_cases h3 : m = 3
    · subst h3
      go_enter Tryd.func82, Tryd.ntmps82
      go_wp2
      go_ret
      exact ⟨rfl, rfl⟩
    · have h33 : (m == 3) = false := by simpa using h3
      have HE : Hid ((leastOf m : Int) = 0) := by simp [Hid, leastOf, h0, h3]
      clear h0 h3
      go_enter Tryd.func82, Tryd.ntmps82
      go_wp2
      go_ret
      exact ⟨ret_int HE.out.symm, rfl⟩
end Go.Proofs.YtmcopoonnhcdjaaDoor

namespace Go.Proofs.YtmcopoonnhcdjaaDoor
open Go.RowKit

theorem IntsAt.drop {n₀ : Nat} {w : World} {a : Option Addr} {ks : List Int} {cap n : Nat} (h : IntsAt n₀ w (.slice a ks.length cap) ks) (a' : Option Addr) (c' : Nat) (ha : n < ks.length → ∃ b off, a = some ⟨b, off, none⟩ ∧ a' = some ⟨b, off + n, none⟩) : IntsAt n₀ w (.slice a' (ks.length - n) c') (ks.drop n) := by
  refine ⟨a', c', by rw [List.length_drop], ?_⟩
  by_cases hn : n < ks.length
  · obtain ⟨b, off, rfl, rfl⟩ := ha hn
    obtain ⟨a2, c2, e2, h2⟩ := h
    simp only [Value.slice.injEq] at e2
    obtain ⟨rfl, -, -⟩ := e2
    obtain ⟨b2, off2, e3, h3, h4⟩ := h2.resolve_left (by intro e; simp [e] at hn)
    cases e3
    refine .inr ⟨b, off + n, rfl, h3, fun j hj => ?_⟩
    rw [List.length_drop] at hj
    rw [List.getElem?_drop, Nat.add_assoc]
    exact h4 (n + j) (by omega)
  · exact .inl (List.drop_eq_nil_of_le (by omega))

theorem TermsAt.tail {n₀ : Nat} {w : World} {a : Option Addr} {t : PTerm} {ts : List PTerm} {cap : Nat} (h : TermsAt n₀ w (.slice a (t :: ts).length cap) (t :: ts)) (a' : Option Addr) (c' : Nat) (ha : 0 < ts.length → ∃ b off, a = some ⟨b, off, none⟩ ∧ a' = some ⟨b, off + 2, none⟩) : TermsAt n₀ w (.slice a' ts.length c') ts := by
  refine ⟨a', c', rfl, ?_⟩
  by_cases hn : 0 < ts.length
  · obtain ⟨b, off, rfl, rfl⟩ := ha hn
    obtain ⟨a2, c2, e2, h2⟩ := h
    simp only [Value.slice.injEq] at e2
    obtain ⟨rfl, -, -⟩ := e2
    obtain ⟨b2, off2, e3, h3, h4⟩ := h2.resolve_left (by simp)
    cases e3
    refine .inr ⟨b, off + 2, rfl, h3, fun j hj => ?_⟩
    have := h4 (j + 1) (by simpa using hj)
    rw [List.getElem?_cons_succ] at this
    rwa [show off + 2 + j * 2 = off + (j + 1) * 2 by omega]
  · exact .inl (List.eq_nil_of_length_eq_zero (by omega))

set_option maxHeartbeats 4000000 in
set_option maxRecDepth 100000 in
theorem specMatch_any : ∀ (ts : List PTerm) (n₀ : Nat) (v kv : Value) (ks : List Int) (w : World) (_ : TermsAt n₀ w v ts) (_ : Roomy v ts.length) (_ : IntsAt n₀ w kv ks) (_ : Roomy kv ks.length) (_ : n₀ ≤ w.heap.size) (_ : ts.length ≤ 4) (_ : ∀ t ∈ ts, t.kinds.length ≤ 1048576) (_ : ks.length ≤ 12) (r : Bool) (_ : r = true ↔ MatchP ts ks),
    Calls Tryd.prog 52 #[v, kv] w fun e w' => e = .returned (.bool r) ∧ Below w.heap.size w w'
  | [], n₀, v, kv, ks, w, hT, _, hK, _, hn, _, _, hkl, r, hr => by
    obtain ⟨a, cap, rfl, -⟩ := hT
    obtain ⟨ak, ck, rfl, -⟩ := hK
    have HY : Hid (((ks.length : Int) == 0) = r) := by
      rw [Hid, Bool.eq_iff_iff, hr]
      simp [MatchP]
    clear hr
    go_enter Tryd.func52, Tryd.ntmps52
    go_wp2_with fail
    go_ret
    exact ⟨ret_bool HY.out, Below.refl _ _⟩
  | t :: ts, n₀, v, kv, ks, w, hT, hTr, hK, hKr, hn, h4, hkk, hkl, r, hr => by
    obtain ⟨a, cap, rfl, hcap⟩ := hTr
    obtain ⟨ak, ck, rfl, hck⟩ := hKr
    have HR : Hid (r = true ↔ _) := hr.trans match_cons
    have IH := hide (fun n₀ v kv ks w h1 h2 h3 h4' h5 h6 r hr => specMatch_any ts n₀ v kv ks w h1 h2 h3 h4' h5 (by simp at h4; omega) (fun x hx => hkk x (by simp [hx])) h6 r hr)
    have HT := hide hT
    have HK := hide hK
    obtain ⟨a2, c2, e2, h2⟩ := hT
    simp only [Value.slice.injEq] at e2
    obtain ⟨rfl, -, -⟩ := e2
    obtain ⟨b, off, rfl, hb, hc⟩ := h2.resolve_left (by simp)
    have hA := hc 0 (by simp)
    simp only [List.getElem?_cons_zero, Option.getD_some, Nat.zero_mul, Nat.add_zero] at hA
    have g1 := hA.c1
    obtain ⟨kdv, g0, hkd⟩ := hA.c0
    have HKD := hide hkd
    obtain ⟨ad, cd, rfl, -⟩ := hkd
    have hkt := hkk t (by simp)
    have hbw : b < w.heap.size := by omega
    have hlen1 : (((ts.length : Int) + 1) == 0) = false := by rw [beq_eq_false_iff_ne]; omega
    clear hA hc h2 hK hkk hr
    simp only [List.length_cons] at *
    have hcap1 : ((1 : Int) ≤ (ts.length : Int) + 1) := by omega
    obtain ⟨mo, hmo⟩ : ∃ mo, mo = mostOf t.many ks.length := ⟨_, rfl⟩
    have HMO := hide hmo
    have hmol : mo ≤ ks.length := by rw [hmo]; unfold mostOf; split <;> omega
    obtain ⟨le, hle⟩ : ∃ le, le = leastOf t.many := ⟨_, rfl⟩
    have HLE := hide hle
    have HLs : Hid (∀ wx, Calls Tryd.prog 82 #[.int .i64 t.many] wx fun e w' => e = .returned (.int .i64 (le : Int)) ∧ w' = wx) := fun wx => by rw [hle]; exact specLeast_any t.many wx
    have hle1 : le ≤ 1 := by rw [hle]; unfold leastOf; split <;> omega
    have HAK : Hid (∀ {n : Nat}, n < ks.length → ∃ bk ofk, ak = some ⟨bk, ofk, none⟩) := fun {n} hlt => by
      obtain ⟨a5, c5, e5, h5⟩ := HK.out
      simp only [Value.slice.injEq] at e5
      obtain ⟨rfl, -, -⟩ := e5
      obtain ⟨bk, ofk, h6, -⟩ := h5.resolve_left (by intro e; simp [e] at hlt)
      exact ⟨bk, ofk, h6⟩
    have HKs : Hid (ks = [] ∨ ∃ b off, ak = some ⟨b, off, none⟩ ∧ b < n₀ ∧ ∀ j, j < ks.length → w.cell? ⟨b, off + j, none⟩ = some (.int .i64 (ks[j]?.getD 0))) := by
      obtain ⟨a5, c5, e5, h5⟩ := HK.out
      simp only [Value.slice.injEq] at e5
      obtain ⟨rfl, -, -⟩ := e5
      exact h5
    by_cases hlw : t.many < 2
    · by_cases hl1 : ks.length ≤ 1
      · obtain rfl : mo = ks.length := by rw [hmo]; unfold mostOf; rw [if_pos hlw]; omega
        have hl2 : (ks.length : Int) ≤ 1 := by omega
        clear hmo hle
        go_enter Tryd.func52, Tryd.ntmps52
        go_wp2_with (go_at_call 82; refine (HLs.out _).mono ?_; rintro e w' ⟨rfl, hw⟩; have hw2 := hw.symm; subst hw2; clear hw)
        go_loopw [8] (fun i wr => ∃ n : Nat, n ≤ ks.length + 1 ∧ i = .int .i64 n ∧ Hid ((∀ j, j < n → j < ks.length → ks[j]?.getD 0 ∈ t.kinds) ∧ ∀ j, j < n → le ≤ j → ¬ MatchP ts (ks.drop j)) ∧ Below (w.heap.size + 1) (w.alloc (.cells #[.slice ad t.kinds.length cd, .int .i64 t.many] 126)) wr) (fun i _ => ks.length + 1 - (intOf i).toNat)
        case atStart => exact ⟨0, Nat.zero_le _, rfl, ⟨fun j hj => by omega, fun j hj => by omega⟩, Below.refl _ _⟩
        case round =>
          obtain ⟨wo, hwo⟩ : ∃ wo, wo = wr := ⟨_, rfl⟩
          subst hwo
          obtain ⟨n, hnl, rfl, hinv, hbr⟩ := hrel
          have hsz := hbr.size
          simp only [World.size_alloc] at hsz
          have hszl : w.heap.size < wo.heap.size := by omega
          have hw0 : Below w.heap.size w wo := ((Below.refl _ _).alloc (Nat.le_refl _) _).trans (hbr.mono (by omega))
          by_cases hnm : n ≤ ks.length
          · have hn1 : (n : Int) ≤ (ks.length : Int) := by omega
            have hn2 : (n : Int) ≤ (ks.length : Int) := by omega
            obtain ⟨a1, ha1⟩ : ∃ a1, (if cap = 1 then some (⟨b, off, none⟩ : Addr) else some ⟨b, off + 2, none⟩) = a1 := ⟨_, rfl⟩
            obtain ⟨a3, ha3⟩ : ∃ a3, (if ck = n then ak else Option.map (fun x => x.add n) ak) = a3 := ⟨_, rfl⟩
            have h1 : 0 < ts.length → a1 = some ⟨b, off + 2, none⟩ := fun h => by rw [← ha1, if_neg (by omega)]
            have h3 : n < ks.length → ∃ bk ofk, ak = some ⟨bk, ofk, none⟩ ∧ a3 = some ⟨bk, ofk + n, none⟩ := fun h => by
              obtain ⟨bk, ofk, e⟩ := HAK.out h
              exact ⟨bk, ofk, e, by rw [← ha3, if_neg (by omega), e]; simp [Addr.add]⟩
            have HCall : Hid (∀ (x : Calm wo), Calls Tryd.prog 52 #[.slice a1 ts.length (cap - 1), .slice a3 (ks.length - n) (ck - n)] x.out fun e w' => e = .returned (.bool (dec (MatchP ts (ks.drop n)))) ∧ Below x.out.heap.size x.out w') := fun x =>
              IH.out n₀ _ _ (ks.drop n) x.out ((TermsAt.tail HT.out a1 (cap - 1) fun h => ⟨b, off, rfl, h1 h⟩).below (Nat.le_refl _) ((hw0.mono hn).trans (x.below.mono (by omega)))) ⟨_, _, rfl, by omega⟩ ((IntsAt.drop HK.out a3 (ck - n) h3).below (Nat.le_refl _) ((hw0.mono hn).trans (x.below.mono (by omega)))) ⟨_, _, by rw [List.length_drop], by rw [List.length_drop]; omega⟩ (by have := x.below.size; omega) (by rw [List.length_drop]; omega) _ (dec_iff _)
            clear h1 h3
            have HD := hide (dec_iff (MatchP ts (ks.drop n)))
            generalize dec (MatchP ts (ks.drop n)) = q at *
            have hcal := calm_cell wo
            go_wp2_with fail
            go_cut [43] (fun v43 wc => v43 = .bool (decide (le ≤ n) && q) ∧ Below wo.heap.size wo wc)
            case first =>
              by_cases hge : le ≤ n
              · have hge1 : (le : Int) ≤ (n : Int) := by omega
                refine wp_region_calm (by kernel_rfl) (by kernel_rfl) ?_
                repeat (go_big_quiet_step ((go_at_call 52; exact calm_of (HCall.out _))))
                refine wpQuiet_nil ?_
                rintro _ ⟨x, rfl⟩
                have hx := x.below
                have hxs := hx.size
                go_wp2_with fail
                all_goals
                  go_meet
                  exact ⟨by simp [hge], hx⟩
              · have hge1 : decide ((le : Int) ≤ (n : Int)) = false := by simp; omega
                refine wp_region_calm (by kernel_rfl) (by kernel_rfl) ?_
                repeat (go_big_quiet_step (fail))
                refine wpQuiet_nil ?_
                rintro _ ⟨x, rfl⟩
                have hx := x.below
                have hxs := hx.size
                go_wp2_with fail
                all_goals
                  go_meet
                  exact ⟨by simp [hge], hx⟩
            case rest =>
              obtain ⟨rfl, hx⟩ := hcut
              have hxs := hx.size
              clear hcal HCall ha1 ha3
              cases hgq : (decide (le ≤ n) && q) with
              | true =>
                have hy : Hid (r = true) := by
                  simp only [Bool.and_eq_true, decide_eq_true_eq] at hgq
                  exact HR.out.2 ⟨n, by rw [← HMO.out]; exact hnm, by rw [← HLE.out]; exact hgq.1, fun j hj => hinv.out.1 j hj (by omega), HD.out.1 hgq.2⟩
                go_wp2_with fail
                go_ret
                exact ⟨ret_bool hy.out.symm, hw0.trans (hx.mono (by omega))⟩
              | false =>
                have HNo : Hid (∀ j, j ≤ n → le ≤ j → ¬ MatchP ts (ks.drop j)) := fun j hj h => by
                  by_cases e : j = n
                  · subst e
                    intro hM
                    rw [HD.out.2 hM] at hgq
                    simp at hgq
                    omega
                  · exact hinv.out.2 j (by omega) h
                clear hgq
                go_wp2_with fail
                have hcal := calm_cell wc
                have hb2 : Below (w.heap.size + 1) (w.alloc (.cells #[.slice ad t.kinds.length cd, .int .i64 t.many] 126)) wc := hbr.trans (hx.mono hsz)
                have hwc : Below w.heap.size w wc := hw0.trans (hx.mono (by omega))
                have hz2 : w.heap.size < wc.heap.size := by omega
                have k0 : wc.cell? ⟨w.heap.size, 0, none⟩ = some (.slice ad t.kinds.length cd) := by rw [hb2.cell (p := ⟨w.heap.size, 0, none⟩) (by simp)]; simp
                by_cases hlt : n < ks.length
                · obtain ⟨bk, ofk, rfl, hbk, hck2⟩ := HKs.out.resolve_left (by intro e; have h0 : ks.length = 0 := (by rw [e]; rfl); omega)
                  have kc := (hwc.cell (p := ⟨bk, ofk + n, none⟩) (show bk < w.heap.size by omega)).trans (hck2 n (by omega))
                  have hbk2 : bk < wc.heap.size := by omega
                  have hlt1 : (n : Int) < (ks.length : Int) := by omega
                  have hlt2 : (n : Int) < (ks.length : Int) := by omega
                  have HHas : Hid (∀ x : Calm wc, Calls Tryd.prog 83 #[.slice ad t.kinds.length cd, .int .i64 (ks[n]?.getD 0)] x.out fun e w' => e = .returned (.bool (hasB t.kinds (ks[n]?.getD 0))) ∧ w' = x.out) := fun x =>
                    specHas_any n₀ _ t.kinds _ x.out (HKD.out.below (Nat.le_refl _) ((hwc.mono hn).trans (x.below.mono (by omega)))) hkt
                  have HHI := hide (@hasB_iff t.kinds (ks[n]?.getD 0))
                  obtain ⟨y, hy0⟩ : ∃ y, y = ks[n]?.getD 0 := ⟨_, rfl⟩
                  rw [← hy0] at kc HHas HHI
                  have HKn := hide hy0
                  clear hy0
                  cases hhb : hasB t.kinds y with
                  | false =>
                    rw [hhb] at HHas
                    have hf : Hid (r = false) := no_of HR.out fun ⟨m, h1, h2, h3, h4⟩ => by
                      by_cases hmn : m ≤ n
                      · exact HNo.out m hmn (by rw [HLE.out]; exact h2) h4
                      · have := HHI.out.2 (by rw [HKn.out]; exact h3 n (by omega)); rw [hhb] at this; cases this
                    clear hhb
                    go_wp2_with fail
                    refine wp_region_calm (by kernel_rfl) (by kernel_rfl) ?_
                    repeat (go_big_quiet_step ((go_at_call 83; exact calm_of_same (HHas.out _))))
                    refine wpQuiet_nil ?_
                    rintro _ ⟨x, rfl⟩
                    have hx := x.below
                    have hxs := hx.size
                    go_wp2_with fail
                    go_ret
                    exact ⟨ret_bool hf.out.symm, hwc.trans (hx.mono (by omega))⟩
                  | true =>
                    rw [hhb] at HHas
                    have HIn : Hid (y ∈ t.kinds) := HHI.out.1 hhb
                    clear hhb
                    go_wp2_with fail
                    refine wp_region_calm (by kernel_rfl) (by kernel_rfl) ?_
                    repeat (go_big_quiet_step ((go_at_call 83; exact calm_of_same (HHas.out _))))
                    refine wpQuiet_nil ?_
                    rintro _ ⟨x, rfl⟩
                    have hx := x.below
                    have hxs := hx.size
                    go_wp2_with fail
                    exact ⟨⟨n + 1, by omega, by go_num, ⟨fun j hj hj2 => by
                      by_cases e : j = n
                      · subst e; rw [← HKn.out]; exact HIn.out
                      · exact hinv.out.1 j (by omega) hj2, fun j hj => HNo.out j (by omega)⟩, hb2.trans (hx.mono (by omega))⟩, by simp [intOf]; omega⟩
                · have hlt1 : decide ((n : Int) < (ks.length : Int)) = false := by simp; omega
                  go_wp2_with fail
                  refine wp_region_calm (by kernel_rfl) (by kernel_rfl) ?_
                  repeat (go_big_quiet_step (fail))
                  refine wpQuiet_nil ?_
                  rintro _ ⟨x, rfl⟩
                  have hx := x.below
                  have hxs := hx.size
                  go_wp2_with fail
                  exact ⟨⟨n + 1, by omega, by go_num, ⟨fun j hj hj2 => hinv.out.1 j (by omega) hj2, fun j hj => HNo.out j (by omega)⟩, hb2.trans (hx.mono (by omega))⟩, by simp [intOf]; omega⟩
          · have hf : Hid (r = false) := no_of HR.out fun ⟨m, h1, h2, h3, h4⟩ => hinv.out.2 m (by rw [← HMO.out] at h1; omega) (by rw [HLE.out]; exact h2) h4
            have hnm1 : decide ((n : Int) ≤ (ks.length : Int)) = false := by simp; omega
            go_wp2_with fail
            go_ret
            exact ⟨ret_bool hf.out.symm, hw0⟩
      · obtain rfl : mo = 1 := by rw [hmo]; unfold mostOf; rw [if_pos hlw]; omega
        have hl2 : (1 : Int) < (ks.length : Int) := by omega
        clear hmo hle
        go_enter Tryd.func52, Tryd.ntmps52
        go_wp2_with (go_at_call 82; refine (HLs.out _).mono ?_; rintro e w' ⟨rfl, hw⟩; have hw2 := hw.symm; subst hw2; clear hw)
        go_loopw [8] (fun i wr => ∃ n : Nat, n ≤ 1 + 1 ∧ i = .int .i64 n ∧ Hid ((∀ j, j < n → j < 1 → ks[j]?.getD 0 ∈ t.kinds) ∧ ∀ j, j < n → le ≤ j → ¬ MatchP ts (ks.drop j)) ∧ Below (w.heap.size + 1) (w.alloc (.cells #[.slice ad t.kinds.length cd, .int .i64 t.many] 126)) wr) (fun i _ => 1 + 1 - (intOf i).toNat)
        case atStart => exact ⟨0, Nat.zero_le _, rfl, ⟨fun j hj => by omega, fun j hj => by omega⟩, Below.refl _ _⟩
        case round =>
          obtain ⟨wo, hwo⟩ : ∃ wo, wo = wr := ⟨_, rfl⟩
          subst hwo
          obtain ⟨n, hnl, rfl, hinv, hbr⟩ := hrel
          have hsz := hbr.size
          simp only [World.size_alloc] at hsz
          have hszl : w.heap.size < wo.heap.size := by omega
          have hw0 : Below w.heap.size w wo := ((Below.refl _ _).alloc (Nat.le_refl _) _).trans (hbr.mono (by omega))
          by_cases hnm : n ≤ 1
          · have hn1 : (n : Int) ≤ (1 : Int) := by omega
            have hn2 : (n : Int) ≤ (ks.length : Int) := by omega
            obtain ⟨a1, ha1⟩ : ∃ a1, (if cap = 1 then some (⟨b, off, none⟩ : Addr) else some ⟨b, off + 2, none⟩) = a1 := ⟨_, rfl⟩
            obtain ⟨a3, ha3⟩ : ∃ a3, Option.map (fun x => x.add n) ak = a3 := ⟨_, rfl⟩
            have h1 : 0 < ts.length → a1 = some ⟨b, off + 2, none⟩ := fun h => by rw [← ha1, if_neg (by omega)]
            have h3 : n < ks.length → ∃ bk ofk, ak = some ⟨bk, ofk, none⟩ ∧ a3 = some ⟨bk, ofk + n, none⟩ := fun h => by
              obtain ⟨bk, ofk, e⟩ := HAK.out h
              exact ⟨bk, ofk, e, by rw [← ha3, e]; simp [Addr.add]⟩
            have HCall : Hid (∀ (x : Calm wo), Calls Tryd.prog 52 #[.slice a1 ts.length (cap - 1), .slice a3 (ks.length - n) (ck - n)] x.out fun e w' => e = .returned (.bool (dec (MatchP ts (ks.drop n)))) ∧ Below x.out.heap.size x.out w') := fun x =>
              IH.out n₀ _ _ (ks.drop n) x.out ((TermsAt.tail HT.out a1 (cap - 1) fun h => ⟨b, off, rfl, h1 h⟩).below (Nat.le_refl _) ((hw0.mono hn).trans (x.below.mono (by omega)))) ⟨_, _, rfl, by omega⟩ ((IntsAt.drop HK.out a3 (ck - n) h3).below (Nat.le_refl _) ((hw0.mono hn).trans (x.below.mono (by omega)))) ⟨_, _, by rw [List.length_drop], by rw [List.length_drop]; omega⟩ (by have := x.below.size; omega) (by rw [List.length_drop]; omega) _ (dec_iff _)
            clear h1 h3
            have HD := hide (dec_iff (MatchP ts (ks.drop n)))
            generalize dec (MatchP ts (ks.drop n)) = q at *
            have hcal := calm_cell wo
            go_wp2_with fail
            go_cut [43] (fun v43 wc => v43 = .bool (decide (le ≤ n) && q) ∧ Below wo.heap.size wo wc)
            case first =>
              by_cases hge : le ≤ n
              · have hge1 : (le : Int) ≤ (n : Int) := by omega
                refine wp_region_calm (by kernel_rfl) (by kernel_rfl) ?_
                repeat (go_big_quiet_step ((go_at_call 52; exact calm_of (HCall.out _))))
                refine wpQuiet_nil ?_
                rintro _ ⟨x, rfl⟩
                have hx := x.below
                have hxs := hx.size
                go_wp2_with fail
                all_goals
                  go_meet
                  exact ⟨by simp [hge], hx⟩
              · have hge1 : decide ((le : Int) ≤ (n : Int)) = false := by simp; omega
                refine wp_region_calm (by kernel_rfl) (by kernel_rfl) ?_
                repeat (go_big_quiet_step (fail))
                refine wpQuiet_nil ?_
                rintro _ ⟨x, rfl⟩
                have hx := x.below
                have hxs := hx.size
                go_wp2_with fail
                all_goals
                  go_meet
                  exact ⟨by simp [hge], hx⟩
            case rest =>
              obtain ⟨rfl, hx⟩ := hcut
              have hxs := hx.size
              clear hcal HCall ha1 ha3
              cases hgq : (decide (le ≤ n) && q) with
              | true =>
                have hy : Hid (r = true) := by
                  simp only [Bool.and_eq_true, decide_eq_true_eq] at hgq
                  exact HR.out.2 ⟨n, by rw [← HMO.out]; exact hnm, by rw [← HLE.out]; exact hgq.1, fun j hj => hinv.out.1 j hj (by omega), HD.out.1 hgq.2⟩
                go_wp2_with fail
                go_ret
                exact ⟨ret_bool hy.out.symm, hw0.trans (hx.mono (by omega))⟩
              | false =>
                have HNo : Hid (∀ j, j ≤ n → le ≤ j → ¬ MatchP ts (ks.drop j)) := fun j hj h => by
                  by_cases e : j = n
                  · subst e
                    intro hM
                    rw [HD.out.2 hM] at hgq
                    simp at hgq
                    omega
                  · exact hinv.out.2 j (by omega) h
                clear hgq
                go_wp2_with fail
                have hcal := calm_cell wc
                have hb2 : Below (w.heap.size + 1) (w.alloc (.cells #[.slice ad t.kinds.length cd, .int .i64 t.many] 126)) wc := hbr.trans (hx.mono hsz)
                have hwc : Below w.heap.size w wc := hw0.trans (hx.mono (by omega))
                have hz2 : w.heap.size < wc.heap.size := by omega
                have k0 : wc.cell? ⟨w.heap.size, 0, none⟩ = some (.slice ad t.kinds.length cd) := by rw [hb2.cell (p := ⟨w.heap.size, 0, none⟩) (by simp)]; simp
                by_cases hlt : n < 1
                · obtain ⟨bk, ofk, rfl, hbk, hck2⟩ := HKs.out.resolve_left (by intro e; have h0 : ks.length = 0 := (by rw [e]; rfl); omega)
                  have kc := (hwc.cell (p := ⟨bk, ofk + n, none⟩) (show bk < w.heap.size by omega)).trans (hck2 n (by omega))
                  have hbk2 : bk < wc.heap.size := by omega
                  have hlt1 : (n : Int) < (1 : Int) := by omega
                  have hlt2 : (n : Int) < (ks.length : Int) := by omega
                  have HHas : Hid (∀ x : Calm wc, Calls Tryd.prog 83 #[.slice ad t.kinds.length cd, .int .i64 (ks[n]?.getD 0)] x.out fun e w' => e = .returned (.bool (hasB t.kinds (ks[n]?.getD 0))) ∧ w' = x.out) := fun x =>
                    specHas_any n₀ _ t.kinds _ x.out (HKD.out.below (Nat.le_refl _) ((hwc.mono hn).trans (x.below.mono (by omega)))) hkt
                  have HHI := hide (@hasB_iff t.kinds (ks[n]?.getD 0))
                  obtain ⟨y, hy0⟩ : ∃ y, y = ks[n]?.getD 0 := ⟨_, rfl⟩
                  rw [← hy0] at kc HHas HHI
                  have HKn := hide hy0
                  clear hy0
                  cases hhb : hasB t.kinds y with
                  | false =>
                    rw [hhb] at HHas
                    have hf : Hid (r = false) := no_of HR.out fun ⟨m, h1, h2, h3, h4⟩ => by
                      by_cases hmn : m ≤ n
                      · exact HNo.out m hmn (by rw [HLE.out]; exact h2) h4
                      · have := HHI.out.2 (by rw [HKn.out]; exact h3 n (by omega)); rw [hhb] at this; cases this
                    clear hhb
                    go_wp2_with fail
                    refine wp_region_calm (by kernel_rfl) (by kernel_rfl) ?_
                    repeat (go_big_quiet_step ((go_at_call 83; exact calm_of_same (HHas.out _))))
                    refine wpQuiet_nil ?_
                    rintro _ ⟨x, rfl⟩
                    have hx := x.below
                    have hxs := hx.size
                    go_wp2_with fail
                    go_ret
                    exact ⟨ret_bool hf.out.symm, hwc.trans (hx.mono (by omega))⟩
                  | true =>
                    rw [hhb] at HHas
                    have HIn : Hid (y ∈ t.kinds) := HHI.out.1 hhb
                    clear hhb
                    go_wp2_with fail
                    refine wp_region_calm (by kernel_rfl) (by kernel_rfl) ?_
                    repeat (go_big_quiet_step ((go_at_call 83; exact calm_of_same (HHas.out _))))
                    refine wpQuiet_nil ?_
                    rintro _ ⟨x, rfl⟩
                    have hx := x.below
                    have hxs := hx.size
                    go_wp2_with fail
                    exact ⟨⟨n + 1, by omega, by go_num, ⟨fun j hj hj2 => by
                      by_cases e : j = n
                      · subst e; rw [← HKn.out]; exact HIn.out
                      · exact hinv.out.1 j (by omega) hj2, fun j hj => HNo.out j (by omega)⟩, hb2.trans (hx.mono (by omega))⟩, by simp [intOf]; omega⟩
                · have hlt1 : decide ((n : Int) < (1 : Int)) = false := by simp; omega
                  go_wp2_with fail
                  refine wp_region_calm (by kernel_rfl) (by kernel_rfl) ?_
                  repeat (go_big_quiet_step (fail))
                  refine wpQuiet_nil ?_
                  rintro _ ⟨x, rfl⟩
                  have hx := x.below
                  have hxs := hx.size
                  go_wp2_with fail
                  exact ⟨⟨n + 1, by omega, by go_num, ⟨fun j hj hj2 => hinv.out.1 j (by omega) hj2, fun j hj => HNo.out j (by omega)⟩, hb2.trans (hx.mono (by omega))⟩, by simp [intOf]; omega⟩
          · have hf : Hid (r = false) := no_of HR.out fun ⟨m, h1, h2, h3, h4⟩ => hinv.out.2 m (by rw [← HMO.out] at h1; omega) (by rw [HLE.out]; exact h2) h4
            have hnm1 : decide ((n : Int) ≤ (1 : Int)) = false := by simp; omega
            go_wp2_with fail
            go_ret
            exact ⟨ret_bool hf.out.symm, hw0⟩
    · obtain rfl : mo = ks.length := by rw [hmo]; unfold mostOf; rw [if_neg hlw]
      have hlw1 : decide (t.many < 2) = false := by simpa using hlw
      clear hmo hle
      go_enter Tryd.func52, Tryd.ntmps52
      go_wp2_with (go_at_call 82; refine (HLs.out _).mono ?_; rintro e w' ⟨rfl, hw⟩; have hw2 := hw.symm; subst hw2; clear hw)
      go_loopw [8] (fun i wr => ∃ n : Nat, n ≤ ks.length + 1 ∧ i = .int .i64 n ∧ Hid ((∀ j, j < n → j < ks.length → ks[j]?.getD 0 ∈ t.kinds) ∧ ∀ j, j < n → le ≤ j → ¬ MatchP ts (ks.drop j)) ∧ Below (w.heap.size + 1) (w.alloc (.cells #[.slice ad t.kinds.length cd, .int .i64 t.many] 126)) wr) (fun i _ => ks.length + 1 - (intOf i).toNat)
      case atStart => exact ⟨0, Nat.zero_le _, rfl, ⟨fun j hj => by omega, fun j hj => by omega⟩, Below.refl _ _⟩
      case round =>
        obtain ⟨wo, hwo⟩ : ∃ wo, wo = wr := ⟨_, rfl⟩
        subst hwo
        obtain ⟨n, hnl, rfl, hinv, hbr⟩ := hrel
        have hsz := hbr.size
        simp only [World.size_alloc] at hsz
        have hszl : w.heap.size < wo.heap.size := by omega
        have hw0 : Below w.heap.size w wo := ((Below.refl _ _).alloc (Nat.le_refl _) _).trans (hbr.mono (by omega))
        by_cases hnm : n ≤ ks.length
        · have hn1 : (n : Int) ≤ (ks.length : Int) := by omega
          have hn2 : (n : Int) ≤ (ks.length : Int) := by omega
          obtain ⟨a1, ha1⟩ : ∃ a1, (if cap = 1 then some (⟨b, off, none⟩ : Addr) else some ⟨b, off + 2, none⟩) = a1 := ⟨_, rfl⟩
          obtain ⟨a3, ha3⟩ : ∃ a3, (if ck = n then ak else Option.map (fun x => x.add n) ak) = a3 := ⟨_, rfl⟩
          have h1 : 0 < ts.length → a1 = some ⟨b, off + 2, none⟩ := fun h => by rw [← ha1, if_neg (by omega)]
          have h3 : n < ks.length → ∃ bk ofk, ak = some ⟨bk, ofk, none⟩ ∧ a3 = some ⟨bk, ofk + n, none⟩ := fun h => by
            obtain ⟨bk, ofk, e⟩ := HAK.out h
            exact ⟨bk, ofk, e, by rw [← ha3, if_neg (by omega), e]; simp [Addr.add]⟩
          have HCall : Hid (∀ (x : Calm wo), Calls Tryd.prog 52 #[.slice a1 ts.length (cap - 1), .slice a3 (ks.length - n) (ck - n)] x.out fun e w' => e = .returned (.bool (dec (MatchP ts (ks.drop n)))) ∧ Below x.out.heap.size x.out w') := fun x =>
            IH.out n₀ _ _ (ks.drop n) x.out ((TermsAt.tail HT.out a1 (cap - 1) fun h => ⟨b, off, rfl, h1 h⟩).below (Nat.le_refl _) ((hw0.mono hn).trans (x.below.mono (by omega)))) ⟨_, _, rfl, by omega⟩ ((IntsAt.drop HK.out a3 (ck - n) h3).below (Nat.le_refl _) ((hw0.mono hn).trans (x.below.mono (by omega)))) ⟨_, _, by rw [List.length_drop], by rw [List.length_drop]; omega⟩ (by have := x.below.size; omega) (by rw [List.length_drop]; omega) _ (dec_iff _)
          clear h1 h3
          have HD := hide (dec_iff (MatchP ts (ks.drop n)))
          generalize dec (MatchP ts (ks.drop n)) = q at *
          have hcal := calm_cell wo
          go_wp2_with fail
          go_cut [43] (fun v43 wc => v43 = .bool (decide (le ≤ n) && q) ∧ Below wo.heap.size wo wc)
          case first =>
            by_cases hge : le ≤ n
            · have hge1 : (le : Int) ≤ (n : Int) := by omega
              refine wp_region_calm (by kernel_rfl) (by kernel_rfl) ?_
              repeat (go_big_quiet_step ((go_at_call 52; exact calm_of (HCall.out _))))
              refine wpQuiet_nil ?_
              rintro _ ⟨x, rfl⟩
              have hx := x.below
              have hxs := hx.size
              go_wp2_with fail
              all_goals
                go_meet
                exact ⟨by simp [hge], hx⟩
            · have hge1 : decide ((le : Int) ≤ (n : Int)) = false := by simp; omega
              refine wp_region_calm (by kernel_rfl) (by kernel_rfl) ?_
              repeat (go_big_quiet_step (fail))
              refine wpQuiet_nil ?_
              rintro _ ⟨x, rfl⟩
              have hx := x.below
              have hxs := hx.size
              go_wp2_with fail
              all_goals
                go_meet
                exact ⟨by simp [hge], hx⟩
          case rest =>
            obtain ⟨rfl, hx⟩ := hcut
            have hxs := hx.size
            clear hcal HCall ha1 ha3
            cases hgq : (decide (le ≤ n) && q) with
            | true =>
              have hy : Hid (r = true) := by
                simp only [Bool.and_eq_true, decide_eq_true_eq] at hgq
                exact HR.out.2 ⟨n, by rw [← HMO.out]; exact hnm, by rw [← HLE.out]; exact hgq.1, fun j hj => hinv.out.1 j hj (by omega), HD.out.1 hgq.2⟩
              go_wp2_with fail
              go_ret
              exact ⟨ret_bool hy.out.symm, hw0.trans (hx.mono (by omega))⟩
            | false =>
              have HNo : Hid (∀ j, j ≤ n → le ≤ j → ¬ MatchP ts (ks.drop j)) := fun j hj h => by
                by_cases e : j = n
                · subst e
                  intro hM
                  rw [HD.out.2 hM] at hgq
                  simp at hgq
                  omega
                · exact hinv.out.2 j (by omega) h
              clear hgq
              go_wp2_with fail
              have hcal := calm_cell wc
              have hb2 : Below (w.heap.size + 1) (w.alloc (.cells #[.slice ad t.kinds.length cd, .int .i64 t.many] 126)) wc := hbr.trans (hx.mono hsz)
              have hwc : Below w.heap.size w wc := hw0.trans (hx.mono (by omega))
              have hz2 : w.heap.size < wc.heap.size := by omega
              have k0 : wc.cell? ⟨w.heap.size, 0, none⟩ = some (.slice ad t.kinds.length cd) := by rw [hb2.cell (p := ⟨w.heap.size, 0, none⟩) (by simp)]; simp
              by_cases hlt : n < ks.length
              · obtain ⟨bk, ofk, rfl, hbk, hck2⟩ := HKs.out.resolve_left (by intro e; have h0 : ks.length = 0 := (by rw [e]; rfl); omega)
                have kc := (hwc.cell (p := ⟨bk, ofk + n, none⟩) (show bk < w.heap.size by omega)).trans (hck2 n (by omega))
                have hbk2 : bk < wc.heap.size := by omega
                have hlt1 : (n : Int) < (ks.length : Int) := by omega
                have hlt2 : (n : Int) < (ks.length : Int) := by omega
                have HHas : Hid (∀ x : Calm wc, Calls Tryd.prog 83 #[.slice ad t.kinds.length cd, .int .i64 (ks[n]?.getD 0)] x.out fun e w' => e = .returned (.bool (hasB t.kinds (ks[n]?.getD 0))) ∧ w' = x.out) := fun x =>
                  specHas_any n₀ _ t.kinds _ x.out (HKD.out.below (Nat.le_refl _) ((hwc.mono hn).trans (x.below.mono (by omega)))) hkt
                have HHI := hide (@hasB_iff t.kinds (ks[n]?.getD 0))
                obtain ⟨y, hy0⟩ : ∃ y, y = ks[n]?.getD 0 := ⟨_, rfl⟩
                rw [← hy0] at kc HHas HHI
                have HKn := hide hy0
                clear hy0
                cases hhb : hasB t.kinds y with
                | false =>
                  rw [hhb] at HHas
                  have hf : Hid (r = false) := no_of HR.out fun ⟨m, h1, h2, h3, h4⟩ => by
                    by_cases hmn : m ≤ n
                    · exact HNo.out m hmn (by rw [HLE.out]; exact h2) h4
                    · have := HHI.out.2 (by rw [HKn.out]; exact h3 n (by omega)); rw [hhb] at this; cases this
                  clear hhb
                  go_wp2_with fail
                  refine wp_region_calm (by kernel_rfl) (by kernel_rfl) ?_
                  repeat (go_big_quiet_step ((go_at_call 83; exact calm_of_same (HHas.out _))))
                  refine wpQuiet_nil ?_
                  rintro _ ⟨x, rfl⟩
                  have hx := x.below
                  have hxs := hx.size
                  go_wp2_with fail
                  go_ret
                  exact ⟨ret_bool hf.out.symm, hwc.trans (hx.mono (by omega))⟩
                | true =>
                  rw [hhb] at HHas
                  have HIn : Hid (y ∈ t.kinds) := HHI.out.1 hhb
                  clear hhb
                  go_wp2_with fail
                  refine wp_region_calm (by kernel_rfl) (by kernel_rfl) ?_
                  repeat (go_big_quiet_step ((go_at_call 83; exact calm_of_same (HHas.out _))))
                  refine wpQuiet_nil ?_
                  rintro _ ⟨x, rfl⟩
                  have hx := x.below
                  have hxs := hx.size
                  go_wp2_with fail
                  exact ⟨⟨n + 1, by omega, by go_num, ⟨fun j hj hj2 => by
                    by_cases e : j = n
                    · subst e; rw [← HKn.out]; exact HIn.out
                    · exact hinv.out.1 j (by omega) hj2, fun j hj => HNo.out j (by omega)⟩, hb2.trans (hx.mono (by omega))⟩, by simp [intOf]; omega⟩
              · have hlt1 : decide ((n : Int) < (ks.length : Int)) = false := by simp; omega
                go_wp2_with fail
                refine wp_region_calm (by kernel_rfl) (by kernel_rfl) ?_
                repeat (go_big_quiet_step (fail))
                refine wpQuiet_nil ?_
                rintro _ ⟨x, rfl⟩
                have hx := x.below
                have hxs := hx.size
                go_wp2_with fail
                exact ⟨⟨n + 1, by omega, by go_num, ⟨fun j hj hj2 => hinv.out.1 j (by omega) hj2, fun j hj => HNo.out j (by omega)⟩, hb2.trans (hx.mono (by omega))⟩, by simp [intOf]; omega⟩
        · have hf : Hid (r = false) := no_of HR.out fun ⟨m, h1, h2, h3, h4⟩ => hinv.out.2 m (by rw [← HMO.out] at h1; omega) (by rw [HLE.out]; exact h2) h4
          have hnm1 : decide ((n : Int) ≤ (ks.length : Int)) = false := by simp; omega
          go_wp2_with fail
          go_ret
          exact ⟨ret_bool hf.out.symm, hw0⟩
end Go.Proofs.YtmcopoonnhcdjaaDoor
