/-
  Lists of holds that a call owns, cell by cell.
  Where a hold stands in a list of them, or would: what the program's search answers.
-/
import Derived.Test.YtahdgbfcaclflaaJoinD
import Derived.Test.YtahdgbfcaclflaaRowFacts
import Derived.Deep.AppendLies
import Derived.Test.YtahdgbfcaclflaaHoldCmpJ
import Derived.Test.YtahdgbfcaclflaaCalm
namespace Go.Proofs.Ytahdgbfcaclflaa
open Go.RowKit

def holdCells (x : PHold) : List Value := [.int .i64 x.session, .int .i64 x.node, .int .i64 x.mode]
def holdVals (L : List PHold) : List Value := L.flatMap holdCells
theorem holdVals_cons (x : PHold) (L : List PHold) : holdVals (x :: L) = holdCells x ++ holdVals L := rfl
theorem holdVals_snoc (L : List PHold) (x : PHold) : holdVals (L ++ [x]) = holdVals L ++ holdCells x := by simp [holdVals]
theorem holdVals_app (L K : List PHold) : holdVals (L ++ K) = holdVals L ++ holdVals K := by simp [holdVals]
theorem holdVals_len : ∀ L : List PHold, (holdVals L).length = L.length * 3
  | [] => rfl
  | x :: L => by rw [holdVals_cons, List.length_append, holdVals_len L]; simp [holdCells]; omega
theorem holdVals_get : ∀ {L : List PHold} {j o : Nat}, j < L.length → o < 3 → (holdVals L)[j * 3 + o]? = (holdCells (L[j]?.getD holdNil))[o]?
  | [], _, _, h, _ => by simp at h
  | x :: L, 0, o, _, ho => by
    rw [holdVals_cons, Nat.zero_mul, Nat.zero_add, List.getElem?_append_left (by simp [holdCells]; omega)]; rfl
  | x :: L, j + 1, o, h, ho => by
    have hl : (holdCells x).length = 3 := rfl
    rw [holdVals_cons, List.getElem?_append_right (by rw [hl]; omega), hl, show (j + 1) * 3 + o - 3 = j * 3 + o by omega]
    have := holdVals_get (L := L) (j := j) (o := o) (by simpa using h) ho
    rw [this]; rfl
theorem holdCells_one (x : PHold) : ∀ u ∈ holdCells x, u.oneCell' = true := by
  intro u hu
  simp only [holdCells, List.mem_cons, List.not_mem_nil, or_false] at hu
  rcases hu with rfl | rfl | rfl <;> rfl
theorem holdVals_one (L : List PHold) : ∀ u ∈ holdVals L, u.oneCell' = true := by
  intro u hu
  obtain ⟨x, _, hx⟩ := List.mem_flatMap.1 hu
  exact holdCells_one x u hx

theorem holds_of_row {w : World} {B : Nat} {v : Value} {L : List PHold} (h : w.ownsRow B 45 3 v L.length (holdVals L)) : HoldsAt w.heap.size w v L := by
  have h' := h
  obtain ⟨_, ⟨rfl, h0⟩ | ⟨g, cap, cur, rfl, hg, hh, _⟩⟩ := h
  · exact ⟨none, 0, by rw [h0], .inl (List.eq_nil_of_length_eq_zero h0)⟩
  · refine ⟨_, cap, rfl, .inr ⟨g, 0, rfl, (Array.getElem?_eq_some_iff.1 hh).1, fun j hj => ?_⟩⟩
    have G : ∀ o u, o < 3 → (holdCells (L[j]?.getD holdNil))[o]? = some u → w.cell? ⟨g, j * 3 + o, none⟩ = some u := fun o u ho hu => by
      have := h'.cells (g := g) rfl (j * 3 + o) u ((holdVals_get hj ho).trans hu)
      rwa [Go.WideShapes.add_plain, Nat.zero_add] at this
    rw [Nat.zero_add]
    exact ⟨by simpa using G 0 _ (by decide) rfl, G 1 _ (by decide) rfl, G 2 _ (by decide) rfl⟩

/-- The cells of holds in memory to be read. -/
theorem HoldsAt.news {n₀ : Nat} {w : World} {b off n cap : Nat} {L : List PHold} (h : HoldsAt n₀ w (.slice (some ⟨b, off, none⟩) n cap) L) : ∀ j u, (holdVals L)[j]? = some u → w.cell? ((⟨b, off, none⟩ : Addr).add j) = some u := by
  obtain ⟨a', c', e', h'⟩ := h
  simp only [Value.slice.injEq] at e'
  obtain ⟨rfl, rfl, rfl⟩ := e'
  intro j u hu
  have hj : j < L.length * 3 := by
    rcases Nat.lt_or_ge j (L.length * 3) with h | h
    · exact h
    · rw [List.getElem?_eq_none (by rw [holdVals_len]; exact h)] at hu; cases hu
  obtain ⟨b', o', e2, _, hc⟩ := h'.resolve_left (by intro e0; rw [e0] at hj; simp at hj)
  simp only [Option.some.injEq, Addr.mk.injEq, and_true] at e2
  obtain ⟨rfl, rfl⟩ := e2
  have hA := hc (j / 3) (by omega)
  have hg := holdVals_get (L := L) (j := j / 3) (o := j % 3) (by omega) (by omega)
  rw [show j / 3 * 3 + j % 3 = j by omega, hu] at hg
  rw [Go.WideShapes.add_plain]
  have h3 : j % 3 = 0 ∨ j % 3 = 1 ∨ j % 3 = 2 := by omega
  rcases h3 with e | e | e
  · rw [e] at hg
    rw [show off + j = off + j / 3 * 3 by omega, hA.c0]; exact hg.symm
  · rw [e] at hg
    rw [show off + j = off + j / 3 * 3 + 1 by omega, hA.c1]; exact hg.symm
  · rw [e] at hg
    rw [show off + j = off + j / 3 * 3 + 2 by omega, hA.c2]; exact hg.symm

theorem hrow_none (w : World) (base : Nat) (hb : base ≤ w.heap.size) : (w.alloc (.cells #[] 45)).ownsRow base 45 3 (.slice (some ⟨w.heap.size, 0, none⟩) 0 0) 0 [] :=
  World.ownsRow_made w #[] 0 hb (Nat.zero_le _) rfl

/-- A list of holds without a session's lock on a node. -/
def dropL (L : List PHold) (s i : Int) : List PHold := L.filter fun x => !isAt s i x
theorem dropL_hit {L : List PHold} {s i : Int} {k : Nat} (h : k < L.length) (hs : isAt s i (L[k]?.getD holdNil) = false) : dropL (L.take (k + 1)) s i = dropL (L.take k) s i ++ [L[k]?.getD holdNil] := by
  rw [List.getElem?_eq_getElem h, Option.getD_some] at hs ⊢
  rw [List.take_succ_eq_append_getElem h, dropL, List.filter_append, dropL]
  simp [hs]
theorem dropL_miss {L : List PHold} {s i : Int} {k : Nat} (h : k < L.length) (hs : isAt s i (L[k]?.getD holdNil) = true) : dropL (L.take (k + 1)) s i = dropL (L.take k) s i := by
  rw [List.getElem?_eq_getElem h, Option.getD_some] at hs
  rw [List.take_succ_eq_append_getElem h, dropL, List.filter_append, dropL]
  simp [hs]
theorem dropL_len (L : List PHold) (s i : Int) : (dropL L s i).length ≤ L.length := List.length_filter_le _ _
end Go.Proofs.Ytahdgbfcaclflaa

namespace Go.Proofs.Ytahdgbfcaclflaa
open Go.RowKit

/-- Those before the place are less, the others are not. -/
def PlaceP (L : List PHold) (t : PHold) (p : Nat) : Prop := p ≤ L.length ∧ (∀ j, j < p → lessB (L[j]?.getD holdNil) t = true) ∧ (∀ j, p ≤ j → j < L.length → lessB (L[j]?.getD holdNil) t = false)

def SortedH (L : List PHold) : Prop := ∀ i j, i < j → j < L.length → lessB (L[i]?.getD holdNil) (L[j]?.getD holdNil) = true

theorem SortedH.before {L : List PHold} (h : SortedH L) {t : PHold} {k : Nat} (hk : k < L.length) (hl : lessB (L[k]?.getD holdNil) t = true) : ∀ j, j < k + 1 → lessB (L[j]?.getD holdNil) t = true := fun j hj => by
  by_cases e : j = k
  · rw [e]; exact hl
  · exact lessB_trans (h j k (by omega) hk) hl

theorem SortedH.behind {L : List PHold} (h : SortedH L) {t : PHold} {k : Nat} (hl : lessB (L[k]?.getD holdNil) t = false) : ∀ j, k ≤ j → j < L.length → lessB (L[j]?.getD holdNil) t = false := fun j hj hlt => by
  by_cases e : j = k
  · rw [e]; exact hl
  · cases hb : lessB (L[j]?.getD holdNil) t with
    | false => rfl
    | true =>
      have := lessB_trans (h k j (by omega) hlt) hb
      rw [hl] at this; cases this

set_option maxHeartbeats 4000000 in
set_option maxRecDepth 100000 in
theorem searchHolds_any (n₀ : Nat) (v : Value) (L : List PHold) (t : PHold) (w : World) (hV : HoldsAt n₀ w v L) (hn : n₀ ≤ w.heap.size) (hL : L.length ≤ 1048576) (hs : SortedH L) :
    Calls Try.prog 78 #[v, holdVal t, .func (.func 56) #[] #[]] w fun e w' => ∃ (p : Nat) (r : Bool), e = .returned (.tuple #[.int .i64 p, .bool r]) ∧ Hid (PlaceP L t p ∧ (r = true ↔ p < L.length ∧ cmpH (L[p]?.getD holdNil) t = 0)) ∧ Below w.heap.size w w' := by
  obtain ⟨W0, hW0⟩ : ∃ W0, W0 = w.alloc (.cells #[.int .i64 t.session, .int .i64 t.node, .int .i64 t.mode] 45) := ⟨_, rfl⟩
  have hw0 : Below w.heap.size w W0 := by rw [hW0]; exact (Below.refl w.heap.size w).alloc (Nat.le_refl _) _
  have hh0 : W0.heap[w.heap.size]? = some (.cells #[.int .i64 t.session, .int .i64 t.node, .int .i64 t.mode] 45 (0, 0)) := by rw [hW0]; exact alloc_new w _
  have hz0 : w.heap.size < W0.heap.size := (Array.getElem?_eq_some_iff.1 hh0).1
  have HOld : Hid (∀ wx, Below W0.heap.size W0 wx → Below w.heap.size w wx ∧ w.heap.size < wx.heap.size) := fun wx hb => ⟨hw0.trans (hb.mono (by omega)), by have := hb.size; omega⟩
  have HB : Hid (∀ wx, Below W0.heap.size W0 wx → wx.cell? ⟨w.heap.size, 0, none⟩ = some (.int .i64 t.session) ∧ wx.cell? ⟨w.heap.size, 1, none⟩ = some (.int .i64 t.node) ∧ wx.cell? ⟨w.heap.size, 2, none⟩ = some (.int .i64 t.mode)) := fun wx hb => by
    have j := (hb.block w.heap.size (by omega)).trans hh0
    exact ⟨cell_of_heap j 0, cell_of_heap j 1, cell_of_heap j 2⟩
  have HS := hide hs
  have HRow : Hid (∀ wx, Below W0.heap.size W0 wx → HoldsAt wx.heap.size wx v L) := fun wx hb => (hV.below (Nat.le_refl _) ((HOld.out wx hb).1.mono hn)).wide (by have := (HOld.out wx hb).2; omega)
  obtain ⟨a, cap, rfl⟩ := hV.form
  have HCell : Hid (∀ k, k < L.length → ∃ b off, a = some ⟨b, off, none⟩ ∧ ∀ wx, Below W0.heap.size W0 wx → b < wx.heap.size ∧ HoldAt wx b (off + k * 3) (L[k]?.getD holdNil)) := fun k hk => by
    obtain ⟨a', c', e', h'⟩ := hV
    simp only [Value.slice.injEq] at e'
    obtain ⟨rfl, _, rfl⟩ := e'
    obtain ⟨b, off, rfl, h1, h2⟩ := h'.resolve_left (by intro e0; rw [e0] at hk; simp at hk)
    refine ⟨b, off, rfl, fun wx hb => ⟨by have := (HOld.out wx hb).2; omega, (h2 k hk).below h1 ((HOld.out wx hb).1.mono hn)⟩⟩
  have HCm : Hid (∀ wx x, Below W0.heap.size W0 wx → Calls Try.prog 56 #[holdVal x, holdVal t] wx fun e w' => e = .returned (.int .i64 (cmpH x t)) ∧ Below wx.heap.size wx w') := fun wx x _ => compareHolds_any x t wx
  have hb00 : Below W0.heap.size W0 W0 := Below.refl _ _
  clear hs hV hh0 hw0 HRow
  go_enter Try.func78, Try.ntmps78
  go_wp2_with fail
  rw [← hW0]
  clear hW0
  go_wp2_with fail
  go_loopw [9, 10] (fun lv hv wr => ∃ lo hi : Nat, lv = .int .i64 lo ∧ hv = .int .i64 hi ∧ lo ≤ hi ∧ hi ≤ L.length ∧ Hid ((∀ j, j < lo → lessB (L[j]?.getD holdNil) t = true) ∧ (∀ j, hi ≤ j → j < L.length → lessB (L[j]?.getD holdNil) t = false)) ∧ Below W0.heap.size W0 wr) (fun lv hv _ => (intOf hv).toNat - (intOf lv).toNat)
  case atStart => exact ⟨0, L.length, rfl, rfl, Nat.zero_le _, Nat.le_refl _, ⟨fun j hj => absurd hj (by omega), fun j h1 h2 => absurd h1 (by omega)⟩, hb00⟩
  case round =>
    obtain ⟨lo, hi, rfl, rfl, hlh, hhl, hinv, hbr⟩ := hrel
    obtain ⟨y0, y1, y2⟩ := HB.out _ hbr
    obtain ⟨hbw, hzr⟩ := HOld.out _ hbr
    have hsr := hbr.size
    by_cases hlt : lo < hi
    · obtain ⟨mid, hmid⟩ : ∃ mid : Nat, mid = (lo + hi) / 2 := ⟨_, rfl⟩
      have hmi : ((lo : Int) + (hi : Int)) / 2 = (mid : Int) := by omega
      have hml : mid < L.length := by omega
      have hm1 : lo ≤ mid := by omega
      have hm2 : mid < hi := by omega
      have hlt1 : (lo : Int) < (hi : Int) := by omega
      clear hmid
      obtain ⟨b, off, rfl, hc⟩ := HCell.out mid hml
      obtain ⟨hbz, hA⟩ := hc wr hbr
      have g0 := hA.c0
      have g1 := hA.c1
      have g2 := hA.c2
      have HBf : Hid (lessB (L[mid]?.getD holdNil) t = true → ∀ j, j < mid + 1 → lessB (L[j]?.getD holdNil) t = true) := fun h => HS.out.before hml h
      have HBh : Hid (lessB (L[mid]?.getD holdNil) t = false → ∀ j, mid ≤ j → j < L.length → lessB (L[j]?.getD holdNil) t = false) := fun h => HS.out.behind h
      clear hc hA
      generalize L[mid]?.getD holdNil = x at *
      have hcal := calm_cell wr
      have HC1 : Hid (∀ u : Calm wr, Calls Try.prog 56 #[holdVal x, holdVal t] u.out fun e w' => e = .returned (.int .i64 (cmpH x t)) ∧ Below u.out.heap.size u.out w') := fun u => HCm.out u.out x (hbr.trans (u.below.mono hsr))
      have hcr := cmpH_range x t
      have HCl : Hid (cmpH x t < 0 ↔ lessB x t = true) := cmpH_less
      generalize cmpH x t = c at *
      by_cases hcl : c < 0
      · have HE := hide (HBf.out (HCl.out.1 hcl))
        go_wp2_with fail
        refine wp_region_calm (by kernel_rfl) (by kernel_rfl) ?_
        repeat (go_big_quiet_step ((go_at_call 56; exact calm_of (HC1.out _))))
        refine wpQuiet_nil ?_
        rintro _ ⟨u, rfl⟩
        have ht := u.below
        go_wp2_with fail
        exact ⟨⟨mid + 1, hi, by go_num, rfl, by omega, hhl, ⟨HE.out, hinv.out.2⟩, hbr.trans (ht.mono hsr)⟩, by simp [intOf]; omega⟩
      · have HE : Hid (∀ j, mid ≤ j → j < L.length → lessB (L[j]?.getD holdNil) t = false) := HBh.out (by rw [← Bool.not_eq_true, ← HCl.out]; exact hcl)
        go_wp2_with fail
        refine wp_region_calm (by kernel_rfl) (by kernel_rfl) ?_
        repeat (go_big_quiet_step ((go_at_call 56; exact calm_of (HC1.out _))))
        refine wpQuiet_nil ?_
        rintro _ ⟨u, rfl⟩
        have ht := u.below
        go_wp2_with fail
        exact ⟨⟨lo, mid, rfl, rfl, by omega, by omega, ⟨hinv.out.1, HE.out⟩, hbr.trans (ht.mono hsr)⟩, by simp [intOf]; omega⟩
    · obtain rfl : lo = hi := by omega
      have HP : Hid (PlaceP L t lo) := ⟨hhl, hinv.out.1, hinv.out.2⟩
      by_cases hll : lo < L.length
      · have hll1 : (lo : Int) < (L.length : Int) := by omega
        obtain ⟨b, off, rfl, hc⟩ := HCell.out lo hll
        obtain ⟨hbz, hA⟩ := hc wr hbr
        have g0 := hA.c0
        have g1 := hA.c1
        have g2 := hA.c2
        clear hc hA
        have HX : Hid (∀ r : Bool, r = decide (cmpH (L[lo]?.getD holdNil) t = 0) → PlaceP L t lo ∧ (r = true ↔ lo < L.length ∧ cmpH (L[lo]?.getD holdNil) t = 0)) := fun r hr => ⟨HP.out, by rw [hr]; simp [hll]⟩
        obtain ⟨x, hx⟩ : ∃ x, x = L[lo]?.getD holdNil := ⟨_, rfl⟩
        rw [← hx] at g0 g1 g2
        have hcal := calm_cell wr
        have HC1 : Hid (∀ u : Calm wr, Calls Try.prog 56 #[holdVal x, holdVal t] u.out fun e w' => e = .returned (.int .i64 (cmpH x t)) ∧ Below u.out.heap.size u.out w') := fun u => HCm.out u.out x (hbr.trans (u.below.mono hsr))
        have hcr := cmpH_range x t
        obtain ⟨c, hc⟩ : ∃ c, c = cmpH x t := ⟨_, rfl⟩
        rw [← hc] at HC1 hcr
        have HCx : Hid (c = cmpH (L[lo]?.getD holdNil) t) := by rw [Hid, hc, hx]
        clear hc hx
        by_cases hc0 : c = 0
        · subst hc0
          have HE := hide (HX.out true (by rw [← HCx.out]; rfl))
          go_wp2_with fail
          refine wp_region_calm (by kernel_rfl) (by kernel_rfl) ?_
          repeat (go_big_quiet_step ((go_at_call 56; exact calm_of (HC1.out _))))
          refine wpQuiet_nil ?_
          rintro _ ⟨u, rfl⟩
          have ht := u.below
          go_wp2_with fail
          go_ret2
          exact ⟨lo, true, rfl, ⟨HE.out.1, fun _ => HE.out.2.1 (by trivial), fun _ => rfl⟩, hbw.trans (ht.mono (by omega))⟩
        · have hc1 : (c == 0) = false := by simp [hc0]
          have HE := hide (HX.out false (by rw [← HCx.out]; simp [hc0]))
          go_wp2_with fail
          refine wp_region_calm (by kernel_rfl) (by kernel_rfl) ?_
          repeat (go_big_quiet_step ((go_at_call 56; exact calm_of (HC1.out _))))
          refine wpQuiet_nil ?_
          rintro _ ⟨u, rfl⟩
          have ht := u.below
          go_wp2_with fail
          go_ret2
          exact ⟨lo, false, rfl, HE.out, hbw.trans (ht.mono (by omega))⟩
      · have hll1 : ¬ (lo : Int) < (L.length : Int) := by omega
        have HE : Hid (PlaceP L t lo ∧ ((false : Bool) = true ↔ lo < L.length ∧ cmpH (L[lo]?.getD holdNil) t = 0)) := ⟨HP.out, by simp [hll]⟩
        go_wp2_with fail
        refine wp_region_calm (by kernel_rfl) (by kernel_rfl) ?_
        repeat (go_big_quiet_step (fail))
        refine wpQuiet_nil ?_
        rintro _ ⟨u, rfl⟩
        have ht := u.below
        go_wp2_with fail
        go_ret2
        exact ⟨lo, false, rfl, HE.out, hbw.trans (ht.mono (by omega))⟩

set_option maxHeartbeats 1000000 in
theorem placeOfHold_any (n₀ : Nat) (v : Value) (L : List PHold) (s i : Int) (w : World) (hV : HoldsAt n₀ w v L) (hn : n₀ ≤ w.heap.size) (hL : L.length ≤ 1048576) (hs : SortedH L) :
    Calls Try.prog 59 #[v, .int .i64 s, .int .i64 i] w fun e w' => ∃ (p : Nat) (r : Bool), e = .returned (.tuple #[.int .i64 p, .bool r]) ∧ Hid (PlaceP L ⟨s, i, 0⟩ p ∧ (r = true ↔ p < L.length ∧ isAt s i (L[p]?.getD holdNil) = true)) ∧ Below w.heap.size w w' := by
  have HS := hide (searchHolds_any n₀ v L ⟨s, i, 0⟩ w hV hn hL hs)
  obtain ⟨a, cap, rfl⟩ := hV.form
  clear hV hs
  go_enter Try.func59, Try.ntmps59
  go_wp2_with fail
  refine HS.out.mono ?_
  rintro e w1 ⟨p, r, rfl, hp, hb⟩
  have HP : Hid (PlaceP L ⟨s, i, 0⟩ p ∧ (r = true ↔ p < L.length ∧ isAt s i (L[p]?.getD holdNil) = true)) := ⟨hp.out.1, hp.out.2.trans (and_congr_right fun _ => by rw [cmpH_zero, isAt_iff])⟩
  go_wp2_with fail
  go_ret2
  exact ⟨p, r, rfl, HP, hb⟩
end Go.Proofs.Ytahdgbfcaclflaa
