/-
  Peace among locks, as the specification asks it.
-/
import Derived.Test.YtfjhpfgffbghdaaDoorPeacePlainJ
import Derived.Test.YtfjhpfgffbghdaaDoorJoinL
import Derived.Test.YtfjhpfgffbghdaaDoorSessSpecJ
import Derived.Test.YtfjhpfgffbghdaaDoorJoinC
namespace Go.Proofs.YtfjhpfgffbghdaaDoor
open Go.RowKit

set_option maxHeartbeats 4000000 in
set_option maxRecDepth 100000 in
theorem specPeace_any (n₀ : Nat) (d : PDoc) (s v : Value) (L : List PHold) (w : World) (hN : NodesAt n₀ w s d.nodes) (hV : HoldsAt n₀ w v L) (hn : n₀ ≤ w.heap.size) (hl : d.nodes.length ≤ 1048576) (hkl : ∀ x ∈ d.nodes, x.kids.length ≤ 1048576) (G : Good d) (hL : HoldsP d L) (r : Bool) (hr : r = true ↔ PeaceP d L) :
    Calls Tryd.prog 38 #[.agg #[.int .i64 d.root, .int .i64 d.next, s], v] w fun e w' => e = .returned (.bool r) ∧ Below w.heap.size w w' := by
  have HR : Hid (r = true ↔ ∀ b, b < (sessP L).length → ∀ a, a < b → ∀ n, n < d.nodes.length → fitAt d L (d.nodes[n]?.getD nodeNil).id b a = true) := hr.trans peace_place
  have hl30 := hL.len
  obtain ⟨W0, hW0⟩ : ∃ W0, W0 = w.alloc (.cells #[.int .i64 d.root, .int .i64 d.next, s] 32) := ⟨_, rfl⟩
  have hw0 : Below w.heap.size w W0 := by rw [hW0]; exact (Below.refl w.heap.size w).alloc (Nat.le_refl _) _
  have hs0 : W0.heap.size = w.heap.size + 1 := by rw [hW0]; simp
  have hh0 : W0.heap[w.heap.size]? = some (.cells #[.int .i64 d.root, .int .i64 d.next, s] 32 (0, 0)) := by rw [hW0]; exact alloc_new w _
  have HOld : Hid (∀ wx, Below W0.heap.size W0 wx → Below w.heap.size w wx ∧ w.heap.size + 1 ≤ wx.heap.size) := fun wx hb => ⟨hw0.trans (hb.mono (by omega)), by have := hb.size; omega⟩
  have HB : Hid (∀ wx, Below W0.heap.size W0 wx → wx.cell? ⟨w.heap.size, 0, none⟩ = some (.int .i64 d.root) ∧ wx.cell? ⟨w.heap.size, 1, none⟩ = some (.int .i64 d.next) ∧ wx.cell? ⟨w.heap.size, 2, none⟩ = some s) := fun wx hb => by
    have j1 := (hb.block w.heap.size (by omega)).trans hh0
    exact ⟨cell_of_heap j1 0, cell_of_heap j1 1, cell_of_heap j1 2⟩
  have HSe : Hid (Calls Tryd.prog 62 #[v] W0 fun e w' => ∃ ua uc, e = .returned (.slice ua (sessP L).length uc) ∧ Hid (IntsAt w'.heap.size w' (.slice ua (sessP L).length uc) (sessP L)) ∧ Below W0.heap.size W0 w') :=
    (specSessions_any n₀ v L W0 (hV.below (Nat.le_refl _) (hw0.mono hn)) (by omega) hl30).mono fun e w' ⟨u, he, hrow, hb⟩ => by
      obtain ⟨ua, uc, rfl⟩ := row_shape hrow
      exact ⟨ua, uc, he, ints_of_row hrow, hb⟩
  have HAt : Hid (∀ wx ss id, Below W0.heap.size W0 wx → Calls Tryd.prog 29 #[.agg #[.int .i64 d.root, .int .i64 d.next, s], v, .int .i64 ss, .int .i64 id] wx fun e w' => e = .returned (.int .i64 (modeAtP d L ss id)) ∧ Below wx.heap.size wx w') := fun wx ss id hb =>
    specAt07_any n₀ d s v L ss id wx (hN.below (Nat.le_refl _) ((HOld.out wx hb).1.mono hn)) (hV.below (Nat.le_refl _) ((HOld.out wx hb).1.mono hn)) (by have := (HOld.out wx hb).2; omega) hl hkl G hL
  have HMo : Hid (∀ ss id, ModeP (modeAtP d L ss id)) := fun ss id => modeAtP_mode (fun x hx => (hL.mode x hx).modeP) ss id
  obtain ⟨a, cap, rfl⟩ := hV.form
  obtain ⟨sa, sc, rfl, hk⟩ := hN
  have hsl := sessP_len L
  clear hr hkl hV G hw0 hs0 hh0
  go_enter Tryd.func38, Tryd.ntmps38
  go_wp2_with fail
  rw [← hW0]
  clear hW0
  refine HSe.out.mono ?_
  rintro e w1 ⟨ua, uc, rfl, hu, hb1⟩
  have hs1 := hb1.size
  have HFt : Hid (∀ i b a, fitAt d L i b a = fitsB (modeAtP d L ((sessP L)[b]?.getD 0) i) (modeAtP d L ((sessP L)[a]?.getD 0) i)) := fun _ _ _ => rfl
  generalize sessP L = S at *
  obtain ⟨ns, hns⟩ : ∃ ns, ns = S.length := ⟨_, rfl⟩
  rw [← hns] at hu hsl HR ⊢
  have HNs := hide hns
  obtain ⟨nn, hnn⟩ : ∃ nn, nn = d.nodes.length := ⟨_, rfl⟩
  rw [← hnn] at HR
  have HNn := hide hnn
  have HCell : Hid (∀ k, k < ns → ∃ b o, ua = some ⟨b, o, none⟩ ∧ b < w1.heap.size ∧ w1.cell? ⟨b, o + k, none⟩ = some (.int .i64 (S[k]?.getD 0))) := fun k hk' => by
    obtain ⟨a', c', e', h'⟩ := hu.out
    simp only [Value.slice.injEq] at e'
    obtain ⟨rfl, _, rfl⟩ := e'
    obtain ⟨b, o, rfl, h1, h2⟩ := h'.resolve_left (by intro e0; rw [e0] at hns; simp at hns; omega)
    exact ⟨b, o, rfl, h1, h2 k (by omega)⟩
  have HOl1 : Hid (∀ wx, Below w1.heap.size w1 wx → Below W0.heap.size W0 wx) := fun wx hb => hb1.trans (hb.mono hs1)
  clear hns hnn hu HSe
  go_wp2_with fail
  go_loopw [6] (fun i wr => ∃ b : Nat, b ≤ ns ∧ i = .int .i64 b ∧ Hid (∀ b', b' < b → ∀ a', a' < b' → ∀ n, n < nn → fitAt d L (d.nodes[n]?.getD nodeNil).id b' a' = true) ∧ Below w1.heap.size w1 wr) (fun i _ => ns - (intOf i).toNat)
  case atStart => exact ⟨0, Nat.zero_le _, rfl, fun b' hb' => absurd hb' (by omega), Below.refl _ _⟩
  case round =>
    obtain ⟨b, hbn, rfl, hall, hbr⟩ := hrel
    by_cases hltb : b < ns
    · have hltb1 : (b : Int) < (ns : Int) := by omega
      obtain ⟨wo, hwo⟩ : ∃ x, x = wr := ⟨_, rfl⟩
      rw [← hwo] at hbr ⊢
      clear hwo
      go_wp2_with fail
      go_loopw [7] (fun i wr => ∃ a : Nat, a ≤ b ∧ i = .int .i64 a ∧ Hid (∀ a', a' < a → ∀ n, n < nn → fitAt d L (d.nodes[n]?.getD nodeNil).id b a' = true) ∧ Below w1.heap.size w1 wr) (fun i _ => b - (intOf i).toNat)
      case atStart => exact ⟨0, Nat.zero_le _, rfl, fun a' ha' => absurd ha' (by omega), hbr⟩
      case round =>
        obtain ⟨aa, hab, rfl, hall2, hbr2⟩ := hrel
        by_cases hlta : aa < b
        · have hlta1 : (aa : Int) < (b : Int) := by omega
          obtain ⟨wp, hwp⟩ : ∃ x, x = wr := ⟨_, rfl⟩
          rw [← hwp] at hbr2 ⊢
          clear hwp
          go_wp2_with fail
          go_loopw [8] (fun i wr => ∃ n : Nat, n ≤ nn ∧ i = .int .i64 n ∧ Hid (∀ n', n' < n → fitAt d L (d.nodes[n']?.getD nodeNil).id b aa = true) ∧ Below w1.heap.size w1 wr) (fun i _ => nn - (intOf i).toNat)
          case atStart => exact ⟨0, Nat.zero_le _, rfl, fun n' hn' => absurd hn' (by omega), hbr2⟩
          case round =>
            obtain ⟨n, hnl, rfl, hall3, hbr3⟩ := hrel
            have hbr0 := HOl1.out _ hbr3
            obtain ⟨x0, x1, x2⟩ := HB.out _ hbr0
            obtain ⟨hbw, hsz⟩ := HOld.out _ hbr0
            have hz : w.heap.size < wr.heap.size := by omega
            have hNn : (d.nodes.length : Int) = (nn : Int) := by rw [HNn.out]
            by_cases hltn : n < nn
            · have hltn1 : (n : Int) < (d.nodes.length : Int) := by omega
              have hltn2 : n < d.nodes.length := by have := HNn.out; omega
              obtain ⟨nb, noff, rfl, hnb, hnc⟩ := hk.resolve_left (by intro e; rw [e] at hltn2; simp at hltn2)
              have hid := (hbw.cell (p := ⟨nb, noff + n * 5, none⟩) (show nb < w.heap.size by omega)).trans (hnc n hltn2).c0
              obtain ⟨bs, os, hua, hbs, hcb⟩ := HCell.out b hltb
              obtain ⟨bs2, os2, hua2, -, hca⟩ := HCell.out aa (by omega)
              rw [hua] at hua2
              simp only [Option.some.injEq, Addr.mk.injEq, and_true] at hua2
              obtain ⟨rfl, rfl⟩ := hua2
              have ycb := (hbr3.cell (p := ⟨bs, os + b, none⟩) hbs).trans hcb
              have yca := (hbr3.cell (p := ⟨bs, os + aa, none⟩) hbs).trans hca
              have hlta2 : (aa : Int) < (ns : Int) := by omega
              have HFn := hide (HFt.out (d.nodes[n]?.getD nodeNil).id b aa)
              have HNo : Hid (fitAt d L (d.nodes[n]?.getD nodeNil).id b aa = false → r = false) := fun h => no_of HR.out fun h2 => by
                have := h2 b hltb aa (by omega) n hltn
                rw [h] at this; cases this
              have HYes : Hid (fitAt d L (d.nodes[n]?.getD nodeNil).id b aa = true → ∀ n', n' < n + 1 → fitAt d L (d.nodes[n']?.getD nodeNil).id b aa = true) := fun h n' hn' => by
                by_cases e : n' = n
                · subst e; exact h
                · exact hall3.out n' (by omega)
              have hnbz : nb < wr.heap.size := by omega
              have hbsz : bs < wr.heap.size := by have := hbr3.size; omega
              subst hua
              clear hnc hcb hca hk
              generalize (d.nodes[n]?.getD nodeNil).id = y at *
              generalize hqb : S[b]?.getD 0 = qb at *
              generalize hqa : S[aa]?.getD 0 = qa at *
              have hcal := calm_cell wr
              have HA1 : Hid (∀ (t : Calm wr) ss' y', Calls Tryd.prog 29 #[.agg #[.int .i64 d.root, .int .i64 d.next, .slice (some ⟨nb, noff, none⟩) d.nodes.length sc], .slice a L.length cap, .int .i64 ss', .int .i64 y'] t.out fun e w' => e = .returned (.int .i64 (modeAtP d L ss' y')) ∧ Below t.out.heap.size t.out w') := fun t ss' y' =>
                HAt.out t.out ss' y' (hbr0.trans (t.below.mono hbr0.size))
              have HFi : Hid (∀ t : Calm wr, Calls Tryd.prog 63 #[.int .i64 (modeAtP d L qb y), .int .i64 (modeAtP d L qa y)] t.out fun e w' => e = .returned (.bool (fitsB (modeAtP d L qb y) (modeAtP d L qa y))) ∧ w' = t.out) := fun t => specFits_any _ _ (HMo.out qb y) (HMo.out qa y) t.out
              clear hqb hqa
              generalize hf : fitAt d L y b aa = f at *
              clear hf
              have hff := HFn.out
              rw [← hff] at HFi
              clear hff HFn
              cases f
              · have HE := hide (HNo.out rfl)
                go_wp2_with fail
                refine wp_region_calm (by kernel_rfl) (by kernel_rfl) ?_
                repeat (go_big_quiet_step (first | (go_at_call 29; exact calm_of (HA1.out _ _ _)) | (go_at_call 63; exact calm_of_same (HFi.out _))))
                refine wpQuiet_nil ?_
                rintro _ ⟨t, rfl⟩
                have ht := t.below
                go_wp2_with fail
                go_ret
                exact ⟨ret_bool HE.out.symm, hbw.trans (ht.mono (by omega))⟩
              · have HE := hide (HYes.out rfl)
                go_wp2_with fail
                refine wp_region_calm (by kernel_rfl) (by kernel_rfl) ?_
                repeat (go_big_quiet_step (first | (go_at_call 29; exact calm_of (HA1.out _ _ _)) | (go_at_call 63; exact calm_of_same (HFi.out _))))
                refine wpQuiet_nil ?_
                rintro _ ⟨t, rfl⟩
                have ht := t.below
                go_wp2_with fail
                exact ⟨⟨n + 1, by omega, by go_num, HE.out, hbr3.trans (ht.mono hbr3.size)⟩, by simp [intOf]; omega⟩
            · have hltn1 : ¬ (n : Int) < (d.nodes.length : Int) := by omega
              have HE : Hid (∀ a', a' < aa + 1 → ∀ n', n' < nn → fitAt d L (d.nodes[n']?.getD nodeNil).id b a' = true) := fun a' ha' n' hn' => by
                by_cases e : a' = aa
                · subst e; exact hall3.out n' (by omega)
                · exact hall2.out a' (by omega) n' hn'
              go_wp2_with fail
              exact ⟨⟨aa + 1, by omega, by go_num, HE, hbr3⟩, by simp [intOf]; omega⟩
        · have hlta1 : ¬ (aa : Int) < (b : Int) := by omega
          have HE : Hid (∀ b', b' < b + 1 → ∀ a', a' < b' → ∀ n', n' < nn → fitAt d L (d.nodes[n']?.getD nodeNil).id b' a' = true) := fun b' hb' a' ha' n' hn' => by
            by_cases e : b' = b
            · subst e; exact hall2.out a' (by omega) n' hn'
            · exact hall.out b' (by omega) a' ha' n' hn'
          go_wp2_with fail
          exact ⟨⟨b + 1, by omega, by go_num, HE, hbr2⟩, by simp [intOf]; omega⟩
    · have hltb1 : ¬ (b : Int) < (ns : Int) := by omega
      have HE : Hid (r = true) := HR.out.2 fun b' hb' a' ha' n' hn' => hall.out b' (by have := HNs.out; omega) a' ha' n' (by omega)
      go_wp2_with fail
      go_ret
      exact ⟨ret_bool HE.out.symm, (HOld.out _ (HOl1.out _ hbr)).1⟩
end Go.Proofs.YtfjhpfgffbghdaaDoor
