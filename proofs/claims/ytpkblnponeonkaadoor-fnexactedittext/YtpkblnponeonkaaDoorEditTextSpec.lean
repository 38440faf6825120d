/-
  EditText: what the specification answers.
-/
import Derived.Test.YtpkblnponeonkaaDoorEditWords
import Derived.Test.YtpkblnponeonkaaDoorEditSpec
import Derived.Test.YtpkblnponeonkaaDoorSpecDigits
import Derived.Test.YtpkblnponeonkaaDoorHexWalks
import Derived.Test.YtpkblnponeonkaaDoorKeptBut
import Derived.Deep.RegionHeld3
namespace Go.Proofs.YtpkblnponeonkaaDoor
open Go.RowKit

/-- How many numbers stand behind the node. -/
def manyP (j : Nat) : Nat := if j = 0 ∨ j = 4 then 2 else if j = 3 ∨ j = 5 ∨ j = 7 then 1 else 0

theorem manyP_le (j : Nat) : manyP j ≤ 2 := by
  unfold manyP
  split
  · omega
  · split <;> omega

set_option maxHeartbeats 1000000 in
theorem specMany_any (j : Nat) (hj : j < 9) (w : World) :
    Calls Tryd.prog 61 #[.int .i64 ((j : Int) + 1)] w fun e w' => e = .returned (.int .i64 (manyP j : Int)) ∧ Below w.heap.size w w' := by
  have h9 : j = 0 ∨ j = 1 ∨ j = 2 ∨ j = 3 ∨ j = 4 ∨ j = 5 ∨ j = 6 ∨ j = 7 ∨ j = 8 := by omega
  rcases h9 with rfl | rfl | rfl | rfl | rfl | rfl | rfl | rfl | rfl
  all_goals
    go_enter Tryd.func61, Tryd.ntmps61
    go_wp2_with fail
    go_ret
    exact ⟨rfl, (Below.refl _ _).alloc (Nat.le_refl _) _⟩

set_option maxHeartbeats 1000000 in
theorem specWords_any (w : World) :
    Calls Tryd.prog 59 #[] w fun e w' => e = .returned (.slice (some ⟨w.heap.size, 0, none⟩) 9 9) ∧ (∀ j, j < 9 → w'.cell? ⟨w.heap.size, j, none⟩ = some (.string (bt (edWord (j + 1))))) ∧ w.heap.size < w'.heap.size ∧ Below w.heap.size w w' := by
  go_enter Tryd.func59, Tryd.ntmps59
  go_wp2_with fail
  go_ret
  refine ⟨rfl, fun j hj => ?_, by simp, (Below.refl _ _).alloc (Nat.le_refl _) _⟩
  rw [cell_of_heap (alloc_new w _)]
  have h9 : j = 0 ∨ j = 1 ∨ j = 2 ∨ j = 3 ∨ j = 4 ∨ j = 5 ∨ j = 6 ∨ j = 7 ∨ j = 8 := by omega
  rcases h9 with rfl | rfl | rfl | rfl | rfl | rfl | rfl | rfl | rfl <;> rfl

theorem specQuote_any (t : ByteArray) (w : World) (ht : t.size ≤ 1048576) :
    Calls Tryd.prog 62 #[.string t] w fun e w' => e = .returned (.string (bt (hexWL t))) ∧ Below w.heap.size w w' := by
  by_cases h : t.size = 0
  · have h1 : t.toList = [] := toList_nil.2 h
    have h2 : t.toList.isEmpty = true := by rw [h1]; rfl
    have HE : Hid (hexWL t = [45]) := by unfold Hid hexWL; rw [if_pos h]
    have h3 := empty_iff.2 h
    subst h3
    go_enter Tryd.func62, Tryd.ntmps62
    go_wp2_with fail
    go_ret
    exact ⟨by rw [HE.out]; rfl, Below.refl _ _⟩
  · have hte : ¬ t.toList = [] := fun h' => h (toList_nil.1 h')
    have hte6 : t.toList.isEmpty = false := by rw [List.isEmpty_eq_false_iff]; exact hte
    have HE : Hid (hexWL t = hexL t.data.toList) := by unfold Hid hexWL; rw [if_neg h]
    go_enter Tryd.func62, Tryd.ntmps62
    go_wp2_with (go_at_call 90; refine (specHex_any t _ ht).mono ?_; rintro e w1 ⟨rfl, hb⟩)
    go_ret
    exact ⟨by rw [HE.out]; rfl, hb⟩

/-- The text behind i of the numbers. -/
def textTo (x : PEdit) : Nat → List UInt8
  | 0 => edWord x.kind.toNat ++ 32 :: Lib.itoa x.node
  | i + 1 => textTo x i ++ 32 :: Lib.itoa (if i = 0 then x.a else x.b)

theorem edWord_len (k : Nat) : (edWord k).length ≤ 6 := by
  unfold edWord
  repeat' split
  all_goals decide

theorem itoa_len {n : Int} (h0 : 0 ≤ n) (h1 : n ≤ 999999) : (Lib.itoa n).length ≤ 6 := by
  obtain ⟨u, rfl⟩ : ∃ u : Nat, n = (u : Int) := ⟨n.toNat, by omega⟩
  rw [Lib.itoa_nonneg]
  exact dec_len_le (k := 5) (by omega)

theorem bt_size (l : List UInt8) : (bt l).size = l.length := by
  show l.toArray.size = _
  simp

theorem editB_nums {x : PEdit} (h : editB x = true) : (1 ≤ x.kind ∧ x.kind ≤ 9) ∧ (1 ≤ x.node ∧ x.node ≤ 999999) ∧ (0 ≤ x.a ∧ x.a ≤ 999999) ∧ (0 ≤ x.b ∧ x.b ≤ 999999) ∧ x.text.size ≤ 20 := by
  obtain ⟨k, n, a, b, t⟩ := x
  have := editB_iff.1 h
  dsimp only at this ⊢
  omega

theorem textTo_len {x : PEdit} (h : editB x = true) : ∀ i, i ≤ 2 → (textTo x i).length ≤ 13 + 7 * i := by
  obtain ⟨-, ⟨n0, n1⟩, ⟨a0, a1⟩, ⟨b0, b1⟩, -⟩ := editB_nums h
  have h1 := edWord_len x.kind.toNat
  have h2 := itoa_len (by omega) n1
  have h3 := itoa_len a0 a1
  have h4 := itoa_len b0 b1
  intro i hi
  match i, hi with
  | 0, _ => simp [textTo]; omega
  | 1, _ => simp [textTo]; omega
  | 2, _ => simp [textTo]; omega

/-- The whole text, put together as the specification does. -/
theorem editT_eq {x : PEdit} (h : editB x = true) {j : Nat} (hk : x.kind = (j : Int) + 1) :
    editT x = bt (if j = 2 then textTo x (manyP j) ++ 32 :: hexWL x.text else textTo x (manyP j)) := by
  have hj : j < 9 := by have := (editB_nums h).1; omega
  unfold editT editWs editRest
  congr 1
  have h9 : j = 0 ∨ j = 1 ∨ j = 2 ∨ j = 3 ∨ j = 4 ∨ j = 5 ∨ j = 6 ∨ j = 7 ∨ j = 8 := by omega
  rcases h9 with rfl | rfl | rfl | rfl | rfl | rfl | rfl | rfl | rfl <;> simp [hk, manyP, textTo, spaced]

set_option linter.unusedSimpArgs false in
set_option maxHeartbeats 4000000 in
set_option maxRecDepth 100000 in
theorem specText_any (x : PEdit) (w : World) (h : editB x = true) :
    Calls Tryd.prog 32 #[editVal x] w fun e w' => e = .returned (.string (editT x)) ∧ Below w.heap.size w w' := by
  obtain ⟨⟨k0, k1⟩, ⟨n0, n1⟩, ⟨a0, a1⟩, ⟨b0, b1⟩, ht⟩ := editB_nums h
  obtain ⟨j, hk⟩ : ∃ j : Nat, x.kind = (j : Int) + 1 := ⟨(x.kind - 1).toNat, by omega⟩
  have hj : j < 9 := by omega
  have HT := hide (editT_eq h hk)
  have HL := hide (textTo_len h)
  have hm2 := manyP_le j
  have HMany := hide (specMany_any j hj)
  have HDg : Hid (∀ (n : Int), 0 ≤ n → n ≤ 999999 → ∀ wx, Calls Tryd.prog 60 #[.int .i64 n] wx fun e w' => e = .returned (.string (bt (Lib.itoa n))) ∧ Below wx.heap.size wx w') := fun n h0 h1 wx => by
    obtain ⟨u, rfl⟩ : ∃ u : Nat, n = (u : Int) := ⟨n.toNat, by omega⟩
    rw [Lib.itoa_nonneg]
    exact specDigitsNat_any u (by omega) wx
  have HQ := hide (fun wx => specQuote_any x.text wx (by omega))
  have HT0 : Hid (bt (textTo x 0) = bt (edWord (j + 1)) ++ ⟨#[32]⟩ ++ bt (Lib.itoa x.node)) := by
    have e : (⟨#[32]⟩ : ByteArray) = bt [32] := rfl
    rw [Hid, e, bt_add, bt_add, textTo, hk, show ((j : Int) + 1).toNat = j + 1 by omega]
    simp
  have HTn : Hid (∀ i, bt (textTo x (i + 1)) = bt (textTo x i) ++ (⟨#[32]⟩ ++ bt (Lib.itoa (if i = 0 then x.a else x.b)))) := fun i => by
    have e : (⟨#[32]⟩ : ByteArray) = bt [32] := rfl
    rw [e, bt_add, bt_add, textTo]
    simp
  have HTq : Hid (bt (textTo x (manyP j) ++ 32 :: hexWL x.text) = bt (textTo x (manyP j)) ++ (⟨#[32]⟩ ++ bt (hexWL x.text))) := by
    have e : (⟨#[32]⟩ : ByteArray) = bt [32] := rfl
    rw [Hid, e, bt_add, bt_add]
    simp
  have hzw := edWord_len (j + 1)
  have hzn := itoa_len (by omega) n1
  have hza := itoa_len a0 a1
  have hzb := itoa_len b0 b1
  have hzh : (hexWL x.text).length ≤ 40 := by
    unfold hexWL
    split
    · decide
    · rw [hexL_len]
      have : x.text.data.toList.length = x.text.size := by rw [Array.length_toList]; rfl
      omega
  rw [← bt_size] at hzw hzn hza hzb hzh
  have HZ : Hid (∀ i, i ≤ 2 → (bt (textTo x i)).size ≤ 13 + 7 * i) := fun i hi => by rw [bt_size]; exact HL.out i hi
  obtain ⟨W1, hW1⟩ : ∃ W1, W1 = w.alloc (.cells #[.int .i64 ((j : Int) + 1), .int .i64 x.node, .int .i64 x.a, .int .i64 x.b, .string x.text] 26) := ⟨_, rfl⟩
  have hs1 : W1.heap.size = w.heap.size + 1 := by rw [hW1]; simp
  have hw1 : Below w.heap.size w W1 := by rw [hW1]; exact (Below.refl _ _).alloc (Nat.le_refl _) _
  have HB1 : Hid (∀ wx, Below (w.heap.size + 1) W1 wx → Five wx w.heap.size (.int .i64 ((j : Int) + 1)) (.int .i64 x.node) (.int .i64 x.a) (.int .i64 x.b) (.string x.text)) := fun wx hb => by
    have hf : Five W1 w.heap.size (.int .i64 ((j : Int) + 1)) (.int .i64 x.node) (.int .i64 x.a) (.int .i64 x.b) (.string x.text) := by rw [hW1]; exact five_new w _ _ _ _ _ _
    exact hf.below hb (by omega)
  have HOld : Hid (∀ wx, Below (w.heap.size + 1) W1 wx → Below w.heap.size w wx) := fun wx hb => hw1.trans (hb.mono (by omega))
  obtain ⟨-, f0, f1, f2, f3, f4⟩ := HB1.out W1 (Below.refl _ _)
  have hr1 : IntKind.i64.wrap (j : Int) = (j : Int) := by rw [IntKind.wrap_i64]; omega
  have hr2 : IntKind.i64.wrap ((j : Int) + 1 - 1) = (j : Int) := by rw [IntKind.wrap_i64]; omega
  have hj0 : (0 : Int) ≤ (j : Int) := by omega
  have hj9 : (j : Int) < 9 := by omega
  have HDn : Hid (∀ wx, Below (w.heap.size + 1) W1 wx → Calls Tryd.prog 60 #[.int .i64 x.node] wx fun e w' => e = .returned (.string (bt (Lib.itoa x.node))) ∧ Below (w.heap.size + 1) W1 w' ∧ Below wx.heap.size wx w') := fun wx hb0 =>
    (HDg.out x.node (by omega) n1 wx).mono fun e w' ⟨he, hb⟩ => ⟨he, hb0.trans (hb.mono (by have := hb0.size; omega)), hb⟩
  have hwd := bt (edWord (j + 1))
  generalize hgw : bt (edWord (j + 1)) = wd at *
  generalize hgn : bt (Lib.itoa x.node) = dn at *
  have hz1 : ¬ 9223372036854775807 < wd.size + 1 := by omega
  have hz2 : ¬ 9223372036854775807 < wd.size + 1 + dn.size := by omega
  have hlt1 : w.heap.size < W1.heap.size := by omega
  have HWo : Hid (∀ wx, Below (w.heap.size + 1) W1 wx → Calls Tryd.prog 59 #[] wx fun e w' => ∃ L, e = .returned (.slice (some ⟨L, 0, none⟩) 9 9) ∧ w'.cell? ⟨L, j, none⟩ = some (.string wd) ∧ Below (w.heap.size + 1) W1 w') := fun wx hb0 =>
    (specWords_any wx).mono fun e w' ⟨he, hc, hl, hb⟩ => ⟨_, he, by rw [hc j hj, hgw], hb0.trans (hb.mono (by have := hb0.size; omega))⟩
  unfold editVal
  rw [hk]
  clear h hk HL hgw hgn k0 k1 hwd
  go_enter Tryd.func32, Tryd.ntmps32
  go_wp2_with fail
  rw [← hW1]
  clear hW1
  go_cut [3] (fun v3 wc => v3 = .string (bt (textTo x 0)) ∧ Below (w.heap.size + 1) W1 wc)
  case first =>
    have hd0 : Below (w.heap.size + 1) W1 W1.drew := (Below.refl _ _).drew
    have HS : Hid (∀ wx, Below (w.heap.size + 1) W1 wx → wx.cell? ⟨w.heap.size, 0, none⟩ = some (.int .i64 ((j : Int) + 1)) ∧ wx.cell? ⟨w.heap.size, 1, none⟩ = some (.int .i64 x.node)) := fun wx hb => ⟨(HB1.out wx hb).2.1, (HB1.out wx hb).2.2.1⟩
    go_region_with (first
      | (go_at_call 59; refine (HWo.out _ (by first | exact hd0 | exact hb3)).mono ?_; rintro e w2 ⟨L, rfl, y2, hb2⟩; obtain ⟨p0, p1⟩ := HS.out _ hb2)
      | (go_at_call 60; refine (HDn.out _ (by first | exact hd0 | exact hb2)).mono ?_; rintro e w3 ⟨rfl, hb3, hc3⟩; obtain ⟨q0, q1⟩ := HS.out _ hb3; try (have y3 := keep_cell hc3 _ _ _ y2)))
    all_goals
      go_wp2_with fail
      go_meet
      first
        | exact ⟨by simp [HT0.out, Act.put], hb3⟩
        | exact ⟨by simp [HT0.out, Act.put], hb2⟩
  case rest =>
    obtain ⟨rfl, hbc⟩ := hcut
    have hsc := hbc.size
    obtain ⟨hBl, f0, f1, f2, f3, f4⟩ := HB1.out wc hbc
    have hbl : Below (w.heap.size + 1) W1 (wc.alloc (.cells #[.int .i64 x.a, .int .i64 x.b] 3)) := hbc.alloc (by omega) _
    have HLs := hide (alloc_new wc (.cells #[.int .i64 x.a, .int .i64 x.b] 3))
    clear HWo HDn HT0 hz1 hz2 hr1 hr2
    go_wp2_with fail
    clear f0 f1 f2 f3 f4
    go_loopw [3, 5] (fun tv iv wr => ∃ i : Nat, i ≤ manyP j ∧ iv = .int .i64 i ∧ tv = .string (bt (textTo x i)) ∧ Below (wc.heap.size + 1) (wc.alloc (.cells #[.int .i64 x.a, .int .i64 x.b] 3)) wr) (fun _ iv _ => manyP j - (intOf iv).toNat)
    case atStart => exact ⟨0, Nat.zero_le _, rfl, rfl, Below.refl _ _⟩
    case round =>
      obtain ⟨i, hi, rfl, rfl, hbr⟩ := hrel
      have hsr := hbr.size
      simp only [World.size_alloc] at hsr
      have hbr' : Below (w.heap.size + 1) W1 wr := hbl.trans (hbr.mono (by omega))
      obtain ⟨hBr, f0, f1, f2, f3, f4⟩ := HB1.out wr hbr'
      have hls := (hbr.block wc.heap.size (by omega)).trans HLs.out
      have l0 : wr.cell? ⟨wc.heap.size, 0, none⟩ = some (.int .i64 x.a) := cell_of_heap hls 0
      have l1 : wr.cell? ⟨wc.heap.size, 1, none⟩ = some (.int .i64 x.b) := cell_of_heap hls 1
      have hzi := HZ.out i (by omega)
      have HTi := hide (HTn.out i)
      by_cases hlt : i < manyP j
      · have hlt1 : (i : Int) < (manyP j : Int) := by omega
        rcases (show i = 0 ∨ i = 1 by omega) with rfl | rfl
        · rw [if_pos rfl] at HTi
          have HDa := hide (HDg.out x.a a0 a1)
          generalize bt (Lib.itoa x.a) = da at *
          generalize bt (textTo x 0) = s0 at *
          have hq1 : ¬ 9223372036854775807 < 1 + da.size := by omega
          have hq2 : ¬ 9223372036854775807 < s0.size + (1 + da.size) := by omega
          clear HTn HZ hls f1 f2 f3 f4 hlt
          go_wp2_with (first
            | (go_at_call 61; refine (HMany.out _).mono ?_; rintro e w4 ⟨rfl, hb4⟩; have y0 := keep_cell hb4 _ _ _ l0)
            | (go_at_call 60; refine (HDa.out _).mono ?_; rintro e w5 ⟨rfl, hb5⟩))
          refine ⟨⟨1, by omega, by go_num, by rw [HTi.out], hbr.trans ((hb4.trans (hb5.mono hb4.size)).mono (by omega))⟩, by simp [intOf]; omega⟩
        · rw [if_neg (by decide)] at HTi
          have HDa := hide (HDg.out x.b b0 b1)
          generalize bt (Lib.itoa x.b) = da at *
          generalize bt (textTo x 1) = s0 at *
          have hq1 : ¬ 9223372036854775807 < 1 + da.size := by omega
          have hq2 : ¬ 9223372036854775807 < s0.size + (1 + da.size) := by omega
          clear HTn HZ hls f1 f2 f3 f4 hlt
          go_wp2_with (first
            | (go_at_call 61; refine (HMany.out _).mono ?_; rintro e w4 ⟨rfl, hb4⟩; have y0 := keep_cell hb4 _ _ _ l1)
            | (go_at_call 60; refine (HDa.out _).mono ?_; rintro e w5 ⟨rfl, hb5⟩))
          refine ⟨⟨2, by omega, by go_num, by rw [HTi.out], hbr.trans ((hb4.trans (hb5.mono hb4.size)).mono (by omega))⟩, by simp [intOf]; omega⟩
      · obtain rfl : i = manyP j := by omega
        by_cases h2 : j = 2
        · subst h2
          rw [if_pos rfl] at HT
          have HE : Hid (editT x = bt (textTo x (manyP 2)) ++ (⟨#[32]⟩ ++ bt (hexWL x.text))) := HT.out.trans HTq.out
          generalize bt (hexWL x.text) = hw at *
          generalize bt (textTo x (manyP 2)) = s0 at *
          have hq1 : ¬ 9223372036854775807 < 1 + hw.size := by omega
          have hq2 : ¬ 9223372036854775807 < s0.size + (1 + hw.size) := by omega
          clear HTn HZ hls f1 f2 f3 hlt HT HTq HTi
          go_wp2_with (first
            | (go_at_call 61; refine (HMany.out _).mono ?_; rintro e w4 ⟨rfl, hb4⟩; have y0 := keep_cell hb4 _ _ _ f0; have y4 := keep_cell hb4 _ _ _ f4)
            | (go_at_call 62; refine (HQ.out _).mono ?_; rintro e w5 ⟨rfl, hb5⟩))
          go_ret
          exact ⟨by rw [HE.out]; rfl, HOld.out _ (hbr'.trans ((hb4.trans (hb5.mono hb4.size)).mono (by omega)))⟩
        · rw [if_neg h2] at HT
          have h3 : ¬ ((j : Int) + 1 = 3) := by omega
          have h3b : ¬ ((j : Int) = 2) := by omega
          have h3c : ((j : Int) + 1 == 3) = false := by simp; omega
          clear HTn HZ hls f1 f2 f3 f4 hlt HTq HTi
          go_wp2_with (go_at_call 61; refine (HMany.out _).mono ?_; rintro e w4 ⟨rfl, hb4⟩; have y0 := keep_cell hb4 _ _ _ f0)
          go_ret
          exact ⟨by rw [HT.out]; rfl, HOld.out _ (hbr'.trans (hb4.mono (by omega)))⟩

set_option maxHeartbeats 1000000 in
theorem specEditText_any (x : PEdit) (w : World) (hl : x.text.size ≤ 1048576) :
    Calls Tryd.prog 11 #[editVal x] w fun e w' => e = .returned (.tuple #[.string (textAns x), .int .i64 (textCode x)]) ∧ Below w.heap.size w w' := by
  have HOK := hide (fun wx => specEditOK_any x wx hl)
  have HTx : Hid (editB x = true → ∀ wx, Calls Tryd.prog 32 #[editVal x] wx fun e w' => e = .returned (.string (editT x)) ∧ Below wx.heap.size wx w') := fun h wx => specText_any x wx h
  have hW := (Below.refl w.heap.size w).alloc (Nat.le_refl _) (.cells #[.int .i64 x.kind, .int .i64 x.node, .int .i64 x.a, .int .i64 x.b, .string x.text] 26)
  cases hb : editB x with
  | false =>
    have HA : Hid (textAns x = ⟨#[]⟩) := by unfold Hid textAns; rw [if_neg (by simp [hb])]
    have HC : Hid (textCode x = 1) := by unfold Hid textCode; rw [if_neg (by simp [hb])]
    rw [hb] at HOK
    rw [HA.out, HC.out]
    clear HTx hb
    go_enter Tryd.func11, Tryd.ntmps11
    go_wp2_with (go_at_call 8; refine (HOK.out _).mono ?_; rintro e w1 ⟨rfl, hb1⟩)
    go_ret2
    exact ⟨rfl, hW.trans (hb1.mono (by simp))⟩
  | true =>
    have HA : Hid (textAns x = editT x) := by unfold Hid textAns; rw [if_pos hb]
    have HC : Hid (textCode x = 0) := by unfold Hid textCode; rw [if_pos hb]
    have HTy := hide (HTx.out hb)
    rw [hb] at HOK
    rw [HA.out, HC.out]
    clear HTx hb
    go_enter Tryd.func11, Tryd.ntmps11
    go_wp2_with (first
      | (go_at_call 8; refine (HOK.out _).mono ?_; rintro e w1 ⟨rfl, hb1⟩; obtain ⟨y0, y1, y2, y3, y4⟩ : w1.cell? ⟨w.heap.size, 0, none⟩ = some (.int .i64 x.kind) ∧ w1.cell? ⟨w.heap.size, 1, none⟩ = some (.int .i64 x.node) ∧ w1.cell? ⟨w.heap.size, 2, none⟩ = some (.int .i64 x.a) ∧ w1.cell? ⟨w.heap.size, 3, none⟩ = some (.int .i64 x.b) ∧ w1.cell? ⟨w.heap.size, 4, none⟩ = some (.string x.text) := ((five_new w _ _ _ _ _ _).below hb1 (by simp)).2)
      | (go_at_call 32; refine (HTy.out _).mono ?_; rintro e w2 ⟨rfl, hb2⟩))
    go_ret2
    exact ⟨rfl, hW.trans ((hb1.trans (hb2.mono hb1.size)).mono (by simp))⟩
end Go.Proofs.YtpkblnponeonkaaDoor
