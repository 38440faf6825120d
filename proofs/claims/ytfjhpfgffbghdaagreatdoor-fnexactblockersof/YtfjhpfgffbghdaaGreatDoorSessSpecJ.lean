/-
  The sessions that have locks: what the specification answers.
-/
import Derived.Test.YtfjhpfgffbghdaaGreatDoorJoinE
import Derived.Test.YtfjhpfgffbghdaaGreatDoorJoinC
import Derived.Test.YtfjhpfgffbghdaaGreatDoorJoinG
import Derived.Deep.AppendLies
import Derived.Deep.RegionHeld3
namespace Go.Proofs.YtfjhpfgffbghdaaGreatDoor
open Go.RowKit

set_option maxHeartbeats 2000000 in
set_option maxRecDepth 100000 in
theorem specSessions_any (n₀ : Nat) (v : Value) (L : List PHold) (w : World) (hV : HoldsAt n₀ w v L) (hn : n₀ ≤ w.heap.size) (hL : L.length ≤ 30) :
    Calls Tryz.prog 95 #[v] w fun e w' => ∃ u, e = .returned u ∧ w'.ownsRow w.heap.size 3 1 u (sessP L).length ((sessP L).map (Value.int .i64)) ∧ Below w.heap.size w w' := by
  obtain ⟨i0, hinf, hz0, hz1, hz2⟩ := info_parts specInfoInt'
  obtain ⟨a, cap, rfl, hk⟩ := hV
  have HR0 := hide (row_none w w.heap.size (Nat.le_refl _))
  go_enter Tryz.func95, Tryz.ntmps95
  go_wp2_with fail
  go_loopw [3, 4] (fun ov i wr => ∃ (k : Nat) (out : List Int) (g c : Nat), k ≤ L.length ∧ i = .int .i64 k ∧ Hid (out = sessP (L.take k)) ∧ out.length ≤ k ∧ ov = .slice (some ⟨g, 0, none⟩) out.length c ∧ Hid (wr.ownsRow w.heap.size 3 1 (.slice (some ⟨g, 0, none⟩) out.length c) out.length (out.map (Value.int .i64))) ∧ Below w.heap.size w wr) (fun _ i _ => L.length - (intOf i).toNat)
  case atStart => exact ⟨0, [], w.heap.size, 0, Nat.zero_le _, rfl, rfl, by simp, rfl, HR0, (Below.refl _ _).alloc (Nat.le_refl _) _⟩
  case round =>
    obtain ⟨k, out, g, c, hkl, rfl, hout, hol, rfl, hrow, hbr⟩ := hrel
    have hsz := hbr.size
    by_cases hlt : k < L.length
    · obtain ⟨b, off, rfl, hb, hc⟩ := hk.resolve_left (by intro e; simp [e] at hlt)
      have hA := (hc k hlt).below hb (hbr.mono hn)
      have g0 := hA.c0
      have hlt1 : (k : Int) < (L.length : Int) := by omega
      have hbl : b < wr.heap.size := by omega
      have HTk := hide (sessP_take hlt)
      clear hc hk hA
      generalize (L[k]?.getD holdNil).session = y at *
      obtain ⟨dup, hdup⟩ : ∃ dup : Bool, dup = true ↔ out.getLast? = some y := ⟨dec _, dec_iff _⟩
      have HDup := hide hdup
      have HA1 : Hid (dup = true → sessP (L.take (k + 1)) = out) := fun h => by rw [HTk.out, ← hout.out]; unfold addS; rw [if_pos (hdup.1 h)]
      have HA2 : Hid (dup = false → sessP (L.take (k + 1)) = out ++ [y]) := fun h => by rw [HTk.out, ← hout.out]; unfold addS; rw [if_neg (fun e => by have := hdup.2 e; rw [h] at this; cases this)]
      clear hdup
      go_wp2_with fail
      go_cut [28] (fun v28 wc => v28 = .bool (!dup) ∧ Below wr.heap.size wr wc)
      case first =>
        have hcal := calm_cell wr
        by_cases h0 : out.length = 0
        · have hd : dup = false := by
            have : out = [] := List.eq_nil_of_length_eq_zero h0
            rw [← Bool.not_eq_true, HDup.out, this]; simp
          subst hd
          have h00 : ((out.length : Int) == 0) = true := by simp [h0]
          clear h0
          refine wp_region_calm (by kernel_rfl) (by kernel_rfl) ?_
          repeat (go_big_quiet_step (fail))
          refine wpQuiet_nil ?_
          rintro _ ⟨t, rfl⟩
          have ht := t.below
          go_wp2_with fail
          go_meet
          exact ⟨rfl, ht⟩
        · have hp0 : 0 < out.length := by omega
          have hp1 : (0 : Int) < (out.length : Int) := by omega
          have h00 : ((out.length : Int) == 0) = false := by rw [beq_eq_false_iff_ne]; omega
          have hcells := hrow.out.cells (g := g) rfl (out.length - 1) (.int .i64 (out[out.length - 1]?.getD 0)) (by simp [show out.length - 1 < out.length by omega])
          rw [Go.WideShapes.add_plain, Nat.zero_add] at hcells
          have hgl : g < wr.heap.size := (hrow.out.lt g rfl).2
          have hlast : out.getLast? = some (out[out.length - 1]?.getD 0) := by
            rw [List.getLast?_eq_getElem?, List.getElem?_eq_getElem (by omega), Option.getD_some]
          have HD2 : Hid (dup = (out[out.length - 1]?.getD 0 == y)) := by rw [Hid, Bool.eq_iff_iff, HDup.out, hlast]; simp
          generalize out[out.length - 1]?.getD 0 = z at *
          clear hlast h0
          by_cases hzy : z = y
          · have hd : dup = true := by rw [HD2.out]; simp [hzy]
            subst hd hzy
            refine wp_region_calm (by kernel_rfl) (by kernel_rfl) ?_
            repeat (go_big_quiet_step (fail))
            refine wpQuiet_nil ?_
            rintro _ ⟨t, rfl⟩
            have ht := t.below
            go_wp2_with fail
            go_meet
            exact ⟨rfl, ht⟩
          · have hd : dup = false := by rw [HD2.out]; simp [hzy]
            have hzn : (z != y) = true := by simp [hzy]
            subst hd
            refine wp_region_calm (by kernel_rfl) (by kernel_rfl) ?_
            repeat (go_big_quiet_step (fail))
            refine wpQuiet_nil ?_
            rintro _ ⟨t, rfl⟩
            have ht := t.below
            go_wp2_with fail
            go_meet
            exact ⟨by simp, ht⟩
      case rest =>
        obtain ⟨rfl, hbc⟩ := hcut
        have hbw := hbr.trans (hbc.mono hsz)
        have hrowc := hide (ownsRow_below hrow.out hbc)
        have hsc := hbc.size
        cases dup
        · have HE := hide (HA2.out rfl)
          have g0c := (hbc.cell (p := ⟨b, off + k * 3, none⟩) hbl).trans g0
          have hblc : b < wc.heap.size := by omega
          clear g0
          go_wp2_with (at_builtin; refine wpList_append_own _ rfl _ _ 33 rfl w.heap.size 3 i0 (.int .i64 0) 1 8 Tryz.underlying33 hinf hz0 hz1 hz2 rfl (by decide) _ _ _ rfl (hrowc.out.alloc _) ⟨wc.heap.size, 0, none⟩ 1 1 [.int .i64 y] rfl rfl (cell_one_new _ _ _) (ints_one [y]) (by unfold maxLen; omega) (by omega) (by simp; omega) ?_)
          intro v' w1 hown' hgrow _
          have hb3 := (hbw.alloc (by omega) (.cells #[.int .i64 y] 3)).grown hgrow (by simp; omega) (fun g' hg' => by have := (hrowc.out.lt g' hg').1; omega)
          have HRow3 : Hid (w1.ownsRow w.heap.size 3 1 v' (out ++ [y]).length ((out ++ [y]).map (Value.int .i64))) := by
            unfold Hid; simpa using hown'
          obtain ⟨g3, c3, rfl⟩ := row_some HRow3.out (by simp)
          clear hown' hgrow
          go_wp2_with fail
          exact ⟨⟨k + 1, out ++ [y], g3, c3, by omega, by go_num, HE.out.symm, by simp; omega, by simp, HRow3, hb3⟩, by simp [intOf]; omega⟩
        · have HE := hide (HA1.out rfl)
          go_wp2_with fail
          exact ⟨⟨k + 1, out, g, c, by omega, by go_num, HE.out.symm, by omega, rfl, hrowc, hbw⟩, by simp [intOf]; omega⟩
    · have HE : Hid (out = sessP L) := by rw [Hid, hout.out, List.take_of_length_le (by omega)]
      clear hk
      go_wp2_with fail
      go_ret
      have hr := hrow.out
      have he := HE.out
      subst he
      exact ⟨_, rfl, hr, hbr⟩
end Go.Proofs.YtfjhpfgffbghdaaGreatDoor
