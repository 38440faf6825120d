/-
  The digits that the specification tells of a number are its numeral.
-/
import Derived.Test.YtpkblnponeonkaaDoorNumDec
import Derived.Test.YtpkblnponeonkaaDoorByteText
import Derived.Test.YtpkblnponeonkaaDoorTreeRep
import Derived.Deep.RegionWith
namespace Go.Proofs.YtpkblnponeonkaaDoor
open Go.RowKit

theorem digit_text (W : World) (b d : Nat) (hd : d < 10) (z : Int) (hz : z = (48 + d : Nat)) (h : W.cell? ⟨b, 0, none⟩ = some (.int .u8 z)) :
    (convert 105 9 (.slice (some ⟨b, 0, none⟩) 1 1)).run Tryd.prog W = .ok (.string (bt [UInt8.ofNat (48 + d)])) W :=
  run_convert_bytes_back (P := Tryd.prog) _ 105 9 5 ⟨b, 0, none⟩ 1 [UInt8.ofNat (48 + d)] Tryd.underlying105 Tryd.underlying5 Tryd.underlying9 (fun j hj => by
    match j, hj with
    | 0, _ =>
      have e := digB hd
      simp only [List.getElem_cons_zero, e, ← hz]
      simpa [Addr.add] using h)

theorem kept_if {W w1 : World} (hb : Below W.heap.size W w1) (b o : Nat) (v : Value) (h : W.cell? ⟨b, o, none⟩ = some v) : w1.cell? ⟨b, o, none⟩ = some v :=
  (hb.cell (p := ⟨b, o, none⟩) (World.block_lt_of_cell? W _ h)).trans h

theorem dec_step {u : Nat} (h : ¬ u < 10) : bt (Lib.decDigits (u / 10)) ++ bt [UInt8.ofNat (48 + u % 10)] = bt (Lib.decDigits u) := by
  rw [bt_add]
  congr 1
  conv => rhs; rw [Lib.decDigits, dif_neg h]

theorem dec_size {u : Nat} (h : u ≤ 9223372036854775808) : (bt (Lib.decDigits u)).size ≤ 19 := by
  have := dec_len_le (u := u) (k := 18) (by omega)
  show (Lib.decDigits u).toArray.size ≤ 19
  simpa using this

set_option maxHeartbeats 2000000 in
set_option maxRecDepth 100000 in
theorem specDigitsNat_any : ∀ (u : Nat), u ≤ 9223372036854775807 → ∀ (w : World),
    Calls Tryd.prog 60 #[.int .i64 u] w fun e w' => e = .returned (.string (bt (Lib.decDigits u))) ∧ Below w.heap.size w w' := by
  intro u
  induction u using Nat.strongRecOn with
  | _ u ih =>
    intro hu w
    have n1 : ¬ ((u : Int) = -9223372036854775808) := by omega
    have n2 : ¬ ((u : Int) < 0) := by omega
    by_cases h : u < 10
    · have hw : IntKind.i64.wrap (48 + (u : Int)) = 48 + (u : Int) := by rw [IntKind.wrap_i64]; omega
      have hw2 : IntKind.u8.wrap (48 + (u : Int)) = 48 + (u : Int) := by rw [IntKind.wrap_u8]; omega
      have hd := digit_text (w.alloc (.cells #[.int .u8 (48 + (u : Int))] 5)) w.heap.size u h (48 + (u : Int)) (by omega) (by simp)
      have HE : Hid (bt (Lib.decDigits u) = bt [UInt8.ofNat (48 + u)]) := by rw [Hid, Lib.decDigits_one h]
      have hi : (u : Int) < 10 := by omega
      clear ih
      go_enter Tryd.func60, Tryd.ntmps60
      go_wp2_with fail
      go_ret
      exact ⟨by rw [HE.out]; simp, (Below.refl _ _).alloc (Nat.le_refl _) _⟩
    · have HR := hide (ih (u / 10) (by omega) (by omega))
      have hi : ¬ (u : Int) < 10 := by omega
      have hqt : Int.tdiv (u : Int) 10 = ((u / 10 : Nat) : Int) := by rw [Int.tdiv_eq_ediv_of_nonneg (by omega)]; omega
      have hmt : Int.tmod (u : Int) 10 = ((u % 10 : Nat) : Int) := by rw [Int.tmod_eq_emod_of_nonneg (by omega)]; omega
      obtain ⟨d, hd⟩ : ∃ d, d = u % 10 := ⟨_, rfl⟩
      obtain ⟨q, hq⟩ : ∃ q, q = u / 10 := ⟨_, rfl⟩
      have hd10 : d < 10 := by omega
      have hq0 : q ≤ 922337203685477580 := by omega
      have hdv : ∀ W b, W.cell? ⟨b, 0, none⟩ = some (.int .u8 (48 + (d : Int))) → (convert 105 9 (.slice (some ⟨b, 0, none⟩) 1 1)).run Tryd.prog W = .ok (.string (bt [UInt8.ofNat (48 + d)])) W := fun W b h => digit_text W b d hd10 _ (by omega) h
      have HE := hide (dec_step h)
      rw [← hd, ← hq] at HE
      have hz1 := dec_size (u := q) (by omega)
      obtain ⟨s, hs⟩ : ∃ s, s = bt (Lib.decDigits q) := ⟨_, rfl⟩
      obtain ⟨t, ht⟩ : ∃ t, t = bt [UInt8.ofNat (48 + d)] := ⟨_, rfl⟩
      have hz2 : t.size = 1 := by rw [ht]; rfl
      rw [← hs] at hz1
      have hq1 : ¬ 9223372036854775807 < s.size + t.size := by omega
      have hw : IntKind.i64.wrap (48 + (d : Int)) = 48 + (d : Int) := by rw [IntKind.wrap_i64]; omega
      have hw2 : IntKind.u8.wrap (48 + (d : Int)) = 48 + (d : Int) := by rw [IntKind.wrap_u8]; omega
      have hwq : IntKind.i64.wrap (q : Int) = (q : Int) := by rw [IntKind.wrap_i64]; omega
      rw [← hq] at hqt HR
      rw [← hd] at hmt
      rw [← hs] at HR HE
      rw [← ht] at hdv HE
      clear ih hd hq hs ht hz2
      go_enter Tryd.func60, Tryd.ntmps60
      go_wp2_with fail
      go_region_with (go_at_call 60; refine (HR.out _).mono ?_; rintro e w1 ⟨rfl, hb1⟩; have hx := kept_if hb1 w.heap.size 0 (.int .u8 (48 + (d : Int))); try simp at hx)
      all_goals
        go_wp2_with fail
        go_ret
        refine ⟨by simp [HE.out, Act.put], ?_⟩
        first
          | exact ((Below.refl _ _).drew.alloc (by simp) _).trans (hb1.mono (by simp))
          | exact ((Below.refl _ _).alloc (by simp) _).trans (hb1.mono (by simp))
          | exact (hb1.alloc hb1.size _)
          | exact ((Below.refl _ _).drew.trans hb1).alloc hb1.size _
end Go.Proofs.YtpkblnponeonkaaDoor
