/-
  A number laid into a rising list, as the specification does it.
-/
import Derived.Test.YtfjhpfgffbghdaaGreatDoorJoinG
import Derived.Test.YtfjhpfgffbghdaaGreatDoorSpecConfJ
namespace Go.Proofs.YtfjhpfgffbghdaaGreatDoor
open Go.RowKit

set_option maxHeartbeats 4000000 in
set_option maxRecDepth 100000 in
theorem specRise_any (n₀ : Nat) (v : Value) (ks : List Int) (n : Int) (w : World) (hk : IntsAt n₀ w v ks) (hn : n₀ ≤ w.heap.size) (hl : ks.length ≤ 1048576) :
    Calls Tryz.prog 72 #[v, .int .i64 n] w fun e w' => ∃ u, e = .returned u ∧ w'.ownsRow w.heap.size 3 1 u (riseL ks n).length ((riseL ks n).map (Value.int .i64)) ∧ Below w.heap.size w w' := by
  obtain ⟨i0, hinf, hq0, hq1, hq2⟩ := info_parts specInfoInt'
  obtain ⟨We, hWe⟩ : ∃ We, We = w.alloc (.cells #[] 3) := ⟨_, rfl⟩
  have hse : We.heap.size = w.heap.size + 1 := by rw [hWe]; simp
  have hbe : Below w.heap.size w We := by rw [hWe]; exact (Below.refl _ _).alloc (Nat.le_refl _) _
  have HNone : Hid (We.ownsRow w.heap.size 3 1 (.slice (some ⟨w.heap.size, 0, none⟩) 0 0) 0 []) := by rw [hWe]; exact row_none w w.heap.size (Nat.le_refl _)
  obtain ⟨a, cap, rfl, hk⟩ := hk
  have HC : Hid (∀ k, k < ks.length → ∃ b o, a = some ⟨b, o, none⟩ ∧ b < w.heap.size ∧ ∀ wx, Below w.heap.size w wx → wx.cell? ⟨b, o + k, none⟩ = some (.int .i64 (ks[k]?.getD 0))) := fun k hlt => by
    obtain ⟨b, o, rfl, hb, hc⟩ := hk.resolve_left (by intro e; simp [e] at hlt)
    exact ⟨b, o, rfl, by omega, fun wx hbx => (hbx.cell (p := ⟨b, o + k, none⟩) (show b < w.heap.size by omega)).trans (hc k hlt)⟩
  have HF : Hid (∀ k, k < ks.length → riseP (ks.take (k + 1)) n = riseF n (riseP (ks.take k) n) (ks[k]?.getD 0)) := fun k h => riseP_take h n
  have HFin : Hid (riseL ks n = if (riseP (ks.take ks.length) n).2 then (riseP (ks.take ks.length) n).1 else (riseP (ks.take ks.length) n).1 ++ [n]) := by rw [Hid, List.take_length]; rfl
  clear hk
  obtain ⟨nk, hnk⟩ : ∃ nk, nk = ks.length := ⟨_, rfl⟩
  rw [← hnk] at HC HF HFin hl ⊢
  clear hnk
  go_enter Tryz.func72, Tryz.ntmps72
  go_wp2_with fail
  rw [← hWe]
  clear hWe
  go_loopw [5, 6, 7] (fun ov dv i wr => ∃ (k : Nat) (out : List Int) (dn : Bool) (g c : Nat), k ≤ nk ∧ i = .int .i64 k ∧ dv = .bool dn ∧ Hid (riseP (ks.take k) n = (out, dn)) ∧ out.length ≤ k + 1 ∧ (dn = false → out.length ≤ k) ∧ ov = .slice (some ⟨g, 0, none⟩) out.length c ∧ Hid (wr.ownsRow w.heap.size 3 1 (.slice (some ⟨g, 0, none⟩) out.length c) out.length (out.map (Value.int .i64))) ∧ Below w.heap.size w wr) (fun _ _ i _ => nk - (intOf i).toNat)
  case atStart => exact ⟨0, [], false, w.heap.size, 0, Nat.zero_le _, rfl, rfl, by simp [Hid, riseP], by simp, by simp, rfl, HNone.out, hbe⟩
  case round =>
    obtain ⟨k, out, dn, g, c, hkn, rfl, rfl, hp, hol, hol0, rfl, hrow, hbr⟩ := hrel
    have hsz := hbr.size
    by_cases hlt : k < nk
    · have hlt1 : (k : Int) < (nk : Int) := by omega
      obtain ⟨bs, os, rfl, hbs, hcb⟩ := HC.out k hlt
      have ycb := hcb wr hbr
      have hbsz : bs < wr.heap.size := by omega
      have HS := hide (HF.out k hlt)
      have HCb := hide hcb
      clear hcb
      by_cases hin : dn = false ∧ n < ks[k]?.getD 0
      · obtain ⟨rfl, hin⟩ := hin
        have hol0 := hol0 rfl
        have HS2 : Hid (riseP (ks.take (k + 1)) n = (out ++ [n, ks[k]?.getD 0], true)) := by rw [Hid, HS.out, hp.out]; simp [riseF, hin]
        clear HS HF hp
        generalize ks[k]?.getD 0 = x at *
        have hgt : decide (x > n) = true := by simpa using hin
        clear hin
        go_wp2_with (at_builtin; refine wpList_append_lies _ rfl _ _ 33 rfl w.heap.size 3 i0 (.int .i64 0) 1 8 Tryz.underlying33 hinf hq0 hq1 hq2 rfl (by decide) _ _ _ rfl (hrow.out.alloc _) ⟨wr.heap.size, 0, none⟩ 1 1 [.int .i64 n] rfl rfl (cell_one_new _ _ _) (ints_one [n]) (by decide) (by unfold maxLen; omega) (by omega) (by simp; omega) _ rfl ?_)
        intro g3 c3 w3 hown' hgrow hlie hlt3
        have hb3 := (hbr.alloc (by omega) (.cells #[.int .i64 n] 3)).grown hgrow (by simp; omega) (fun g' hg' => by have := (hrow.out.lt g' hg').1; omega)
        have HRow3 : Hid (w3.ownsRow w.heap.size 3 1 (.slice (some ⟨g3, 0, none⟩) (out.length + 1) c3) (out.length + 1) ((out ++ [n]).map (Value.int .i64))) := by
          unfold Hid; simpa using hown'
        have hs3 := hb3.size
        clear hown' hgrow hlie hlt3
        have ycb3 := HCb.out w3 hb3
        have hbs3 : bs < w3.heap.size := by omega
        have HRow3' : Hid (w3.ownsRow w.heap.size 3 1 (.slice (some ⟨g3, 0, none⟩) (out ++ [n]).length c3) (out ++ [n]).length ((out ++ [n]).map (Value.int .i64))) := by rw [Hid, List.length_append]; exact HRow3.out
        have hol3 : (out ++ [n]).length ≤ k + 1 := by simp; omega
        obtain ⟨out3, hout3⟩ : ∃ out3, out3 = out ++ [n] := ⟨_, rfl⟩
        have hl3 : out.length + 1 = out3.length := by rw [hout3]; simp
        rw [← hout3] at HRow3' hol3
        rw [hl3]
        have HO3 := hide hout3
        clear ycb HRow3 hl3 hout3
        go_wp2_with (at_builtin; refine wpList_append_lies _ rfl _ _ 33 rfl w.heap.size 3 i0 (.int .i64 0) 1 8 Tryz.underlying33 hinf hq0 hq1 hq2 rfl (by decide) _ _ _ rfl (HRow3'.out.alloc _) ⟨w3.heap.size, 0, none⟩ 1 1 [.int .i64 x] rfl rfl (cell_one_new _ _ _) (ints_one [x]) (by decide) (by unfold maxLen; omega) (by omega) (by simp; omega) _ rfl ?_)
        intro g4 c4 w4 hown' hgrow hlie hlt4
        have hb4 := (hb3.alloc (by omega) (.cells #[.int .i64 x] 3)).grown hgrow (by simp; omega) (fun g' hg' => by have := (HRow3'.out.lt g' hg').1; omega)
        have HRow4 : Hid (w4.ownsRow w.heap.size 3 1 (.slice (some ⟨g4, 0, none⟩) (out3.length + 1) c4) (out3.length + 1) ((out3 ++ [x]).map (Value.int .i64))) := by
          unfold Hid; simpa using hown'
        have hs4 := hb4.size
        clear hown' hgrow hlie hlt4
        go_wp2_with fail
        exact ⟨⟨k + 1, out3 ++ [x], true, g4, c4, by omega, by go_num, rfl, by rw [Hid, HS2.out, HO3.out]; simp, by simp; omega, by simp, by simp, by rw [Hid, List.length_append]; exact HRow4.out, hb4⟩, by simp [intOf]; omega⟩
      · have HS2 : Hid (riseP (ks.take (k + 1)) n = (out ++ [ks[k]?.getD 0], dn)) := by rw [Hid, HS.out, hp.out]; show (if dn = false ∧ n < _ then _ else _) = _; rw [if_neg hin]
        clear HS HF hp
        generalize ks[k]?.getD 0 = x at *
        cases dn
        · have hgt : decide (x > n) = false := by simpa using hin
          have hol1 := hol0 rfl
          clear hin
          go_wp2_with (at_builtin; refine wpList_append_lies _ rfl _ _ 33 rfl w.heap.size 3 i0 (.int .i64 0) 1 8 Tryz.underlying33 hinf hq0 hq1 hq2 rfl (by decide) _ _ _ rfl (hrow.out.alloc _) ⟨wr.heap.size, 0, none⟩ 1 1 [.int .i64 x] rfl rfl (cell_one_new _ _ _) (ints_one [x]) (by decide) (by unfold maxLen; omega) (by omega) (by simp; omega) _ rfl ?_)
          intro g3 c3 w3 hown' hgrow hlie hlt3
          have hb3 := (hbr.alloc (by omega) (.cells #[.int .i64 x] 3)).grown hgrow (by simp; omega) (fun g' hg' => by have := (hrow.out.lt g' hg').1; omega)
          have HRow3 : Hid (w3.ownsRow w.heap.size 3 1 (.slice (some ⟨g3, 0, none⟩) (out.length + 1) c3) (out.length + 1) ((out ++ [x]).map (Value.int .i64))) := by
            unfold Hid; simpa using hown'
          have hs3 := hb3.size
          clear hown' hgrow hlie hlt3
          go_wp2_with fail
          exact ⟨⟨k + 1, out ++ [x], false, g3, c3, by omega, by go_num, rfl, HS2.out, by simp; omega, by simp <;> omega, by simp, by rw [Hid, List.length_append]; exact HRow3.out, hb3⟩, by simp [intOf]; omega⟩
        · clear hin
          go_wp2_with (at_builtin; refine wpList_append_lies _ rfl _ _ 33 rfl w.heap.size 3 i0 (.int .i64 0) 1 8 Tryz.underlying33 hinf hq0 hq1 hq2 rfl (by decide) _ _ _ rfl (hrow.out.alloc _) ⟨wr.heap.size, 0, none⟩ 1 1 [.int .i64 x] rfl rfl (cell_one_new _ _ _) (ints_one [x]) (by decide) (by unfold maxLen; omega) (by omega) (by simp; omega) _ rfl ?_)
          intro g3 c3 w3 hown' hgrow hlie hlt3
          have hb3 := (hbr.alloc (by omega) (.cells #[.int .i64 x] 3)).grown hgrow (by simp; omega) (fun g' hg' => by have := (hrow.out.lt g' hg').1; omega)
          have HRow3 : Hid (w3.ownsRow w.heap.size 3 1 (.slice (some ⟨g3, 0, none⟩) (out.length + 1) c3) (out.length + 1) ((out ++ [x]).map (Value.int .i64))) := by
            unfold Hid; simpa using hown'
          have hs3 := hb3.size
          clear hown' hgrow hlie hlt3
          go_wp2_with fail
          exact ⟨⟨k + 1, out ++ [x], true, g3, c3, by omega, by go_num, rfl, HS2.out, by simp; omega, by simp <;> omega, by simp, by rw [Hid, List.length_append]; exact HRow3.out, hb3⟩, by simp [intOf]; omega⟩
    · have hlt1 : ¬ (k : Int) < (nk : Int) := by omega
      have hkk : k = nk := by omega
      have HE : Hid (riseL ks n = if dn then out else out ++ [n]) := by
        rw [Hid, HFin.out, ← hkk, hp.out]
      clear hkk hp HF HFin HC
      cases dn
      · have HE2 : Hid (riseL ks n = out ++ [n]) := HE.out
        clear HE
        go_wp2_with (at_builtin; refine wpList_append_lies _ rfl _ _ 33 rfl w.heap.size 3 i0 (.int .i64 0) 1 8 Tryz.underlying33 hinf hq0 hq1 hq2 rfl (by decide) _ _ _ rfl (hrow.out.alloc _) ⟨wr.heap.size, 0, none⟩ 1 1 [.int .i64 n] rfl rfl (cell_one_new _ _ _) (ints_one [n]) (by decide) (by unfold maxLen; omega) (by omega) (by simp; omega) _ rfl ?_)
        intro g3 c3 w3 hown' hgrow hlie hlt3
        have hb3 := (hbr.alloc (by omega) (.cells #[.int .i64 n] 3)).grown hgrow (by simp; omega) (fun g' hg' => by have := (hrow.out.lt g' hg').1; omega)
        have HRow3 : Hid (w3.ownsRow w.heap.size 3 1 (.slice (some ⟨g3, 0, none⟩) (out.length + 1) c3) (out.length + 1) ((out ++ [n]).map (Value.int .i64))) := by
          unfold Hid; simpa using hown'
        have hs3 := hb3.size
        clear hown' hgrow hlie hlt3
        go_wp2_with fail
        go_ret
        rw [HE2.out, List.length_append]
        exact ⟨_, rfl, HRow3.out, hb3⟩
      · have HE2 : Hid (riseL ks n = out) := HE.out
        clear HE
        go_wp2_with fail
        go_ret
        rw [HE2.out]
        exact ⟨_, rfl, hrow.out, hbr⟩
end Go.Proofs.YtfjhpfgffbghdaaGreatDoor
