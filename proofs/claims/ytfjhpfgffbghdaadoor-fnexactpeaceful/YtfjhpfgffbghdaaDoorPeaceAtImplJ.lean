/-
  Peace on one node, as the program asks it.
-/
import Derived.Test.YtfjhpfgffbghdaaDoorPeacePlainJ
import Derived.Test.YtfjhpfgffbghdaaDoorNeedsImplJ
import Derived.Test.YtfjhpfgffbghdaaDoorSessImplJ
import Derived.Test.YtfjhpfgffbghdaaDoorJoinI
namespace Go.Proofs.YtfjhpfgffbghdaaDoor
open Go.RowKit

theorem nat_modeP {m : Int} (h : ModeP m) : ∃ n : Nat, n < 6 ∧ m = n := ⟨m.toNat, by obtain ⟨a, b⟩ := h; omega, by obtain ⟨a, b⟩ := h; omega⟩

theorem ints_all (f : Int → Int) (l : List Int) : ∀ u ∈ l.map (fun s => Value.int .i64 (f s)), u.oneCell' = true := by
  intro u hu; obtain ⟨x, _, rfl⟩ := List.mem_map.1 hu; rfl

set_option maxHeartbeats 4000000 in
set_option maxRecDepth 100000 in
theorem peacefulAt_any (d : PDoc) (G : Good d) (n₀ n₁ n₂ lb tb : Nat) (ad : Int → Nat) (up : Int → Option Int) (kv : Int → Value) (L : List PHold) (hL : HoldsP d L) (i : Int) (hi : i ∈ idsOf d.nodes) (w : World) (hgr : Grown n₀ w d tb ad up kv) (hlk : LocksAt n₁ w lb tb ad L) (hn : n₁ ≤ w.heap.size) (ua : Option Addr) (uc : Nat) (hS : IntsAt n₂ w (.slice ua (sessP L).length uc) (sessP L)) (hn2 : n₂ ≤ w.heap.size) (hF : FitsAt w) (hI : IntentsAt w) (r : Bool) (hr : r = true ↔ PeaceAt d L i) :
    Calls Tryd.prog 69 #[.pointer (some ⟨lb, 0, none⟩), .pointer (some ⟨ad i, 0, none⟩), .slice ua (sessP L).length uc] w fun e w' => e = .returned (.bool r) ∧ Below w.heap.size w w' := by
  obtain ⟨i0, hinf, hz0, hz1, hz2⟩ := info_parts specInfoInt'
  have HR := hide hr
  have hsl := sessP_len L
  have hl30 := hL.len
  have HMa : Hid (∀ wx ss, Below w.heap.size w wx → Calls Tryd.prog 32 #[.pointer (some ⟨lb, 0, none⟩), .int .i64 ss, .pointer (some ⟨ad i, 0, none⟩)] wx fun e w' => e = .returned (.int .i64 (modeAtP d L ss i)) ∧ Below wx.heap.size wx w') := fun wx ss hb =>
    modeAt_any d G n₀ w.heap.size lb tb ad up kv L hL ss i hi wx (hgr.below hb) (hlk.below hn (hb.mono hn)|>.below (Nat.le_refl _) (Below.refl _ _)) hb.size (hI.below hb hI.lt)
  have HMo : Hid (∀ ss, ModeP (modeAtP d L ss i)) := fun ss => modeAtP_mode (fun x hx => (hL.mode x hx).modeP) ss i
  have HFx : Hid (∀ wx, Below w.heap.size w wx → FitsAt wx) := fun wx hb => hF.below hb hF.lt
  have hFlt := hF.lt
  have HFt : Hid (∀ b a, fitAt d L i b a = fitsB (modeAtP d L ((sessP L)[b]?.getD 0) i) (modeAtP d L ((sessP L)[a]?.getD 0) i)) := fun _ _ => rfl
  have HRr : Hid (r = true ↔ ∀ b, b < (sessP L).length → ∀ a, a < b → fitAt d L i b a = true) := hr
  have HNone := hide (World.ownsRow_nil w w.heap.size 3 1)
  clear hr hgr hlk hI hF HR
  generalize sessP L = S at *
  obtain ⟨ns, hns⟩ : ∃ ns, ns = S.length := ⟨_, rfl⟩
  rw [← hns] at hS hsl HRr ⊢
  have HNs := hide hns
  have HCell : Hid (∀ k, k < ns → ∃ b o, ua = some ⟨b, o, none⟩ ∧ b < w.heap.size ∧ w.cell? ⟨b, o + k, none⟩ = some (.int .i64 (S[k]?.getD 0))) := fun k hk' => by
    obtain ⟨a', c', e', h'⟩ := hS
    simp only [Value.slice.injEq] at e'
    obtain ⟨rfl, _, rfl⟩ := e'
    obtain ⟨b, o, rfl, h1, h2⟩ := h'.resolve_left (by intro e0; rw [e0] at hns; simp at hns; omega)
    exact ⟨b, o, rfl, by omega, h2 k (by omega)⟩
  clear hns hS
  go_enter Tryd.func69, Tryd.ntmps69
  go_wp2_with fail
  go_loopw [7, 15] (fun ov idx wr => ∃ b : Nat, b ≤ ns ∧ idx = .int .i64 b ∧ Hid (∀ b', b' < b → ∀ a', a' < b' → fitAt d L i b' a' = true) ∧ Hid (wr.ownsRow w.heap.size 3 1 ov b ((S.take b).map fun s => .int .i64 (modeAtP d L s i))) ∧ Below w.heap.size w wr) (fun _ idx _ => ns - (intOf idx).toNat)
  case atStart => exact ⟨0, Nat.zero_le _, rfl, fun b' hb' => absurd hb' (by omega), HNone, Below.refl _ _⟩
  case round =>
    obtain ⟨b, hbn, rfl, hall, hrow, hbr⟩ := hrel
    rename_i ov _
    by_cases hltb : b < ns
    · have hltb1 : (b : Int) < (ns : Int) := by omega
      have hltb2 : b < S.length := by have := HNs.out; omega
      obtain ⟨bs, os, hua, hbs, hcb⟩ := HCell.out b hltb
      have ycb := (hbr.cell (p := ⟨bs, os + b, none⟩) hbs).trans hcb
      subst hua
      have hbsz : bs < wr.heap.size := by have := hbr.size; omega
      have HM1 := hide (HMa.out wr (S[b]?.getD 0) hbr)
      obtain ⟨m, hm6, hmm⟩ := nat_modeP (HMo.out (S[b]?.getD 0))
      have HFt1 : Hid (∀ a, fitAt d L i b a = fitsB (m : Int) (modeAtP d L (S[a]?.getD 0) i)) := fun a => by rw [HFt.out, hmm]
      have HTk : Hid ((S.take (b + 1)).map (fun s => Value.int .i64 (modeAtP d L s i)) = (S.take b).map (fun s => Value.int .i64 (modeAtP d L s i)) ++ [.int .i64 (m : Int)]) := by
        rw [Hid, List.take_succ_eq_append_getElem hltb2, List.map_append]
        have := hmm
        rw [List.getElem?_eq_getElem hltb2, Option.getD_some] at this
        simp [this]
      rw [hmm] at HM1
      clear hcb hmm
      generalize S[b]?.getD 0 = qb at *
      go_wp2_with fail
      refine HM1.out.mono ?_
      rintro e w2 ⟨rfl, hb2⟩
      have hbr2 := hbr.trans (hb2.mono hbr.size)
      have hrow2 := hide (ownsRow_below hrow.out hb2)
      have hs2 := hbr2.size
      obtain ⟨va, vc, hov⟩ := row_shape hrow2.out
      subst hov
      have HFx2 := hide (HFx.out w2 hbr2)
      have hFl2 : 2 < w2.heap.size := by omega
      go_wp2_with fail
      go_loop [25] (fun idx => ∃ a : Nat, a ≤ b ∧ idx = .int .i64 a ∧ Hid (∀ a', a' < a → fitAt d L i b a' = true)) (fun idx => b - (intOf idx).toNat)
      case atStart => exact ⟨0, Nat.zero_le _, rfl, fun a' ha' => absurd ha' (by omega)⟩
      case round =>
        obtain ⟨aa, hab, rfl, hall2⟩ := hrel
        by_cases hlta : aa < b
        · have hlta1 : (aa : Int) < (b : Int) := by omega
          obtain ⟨g, c, hgc⟩ := row_some hrow2.out (by omega)
          simp only [Value.slice.injEq, true_and] at hgc
          obtain ⟨rfl, rfl⟩ := hgc
          obtain ⟨m2, hm26, hmm2⟩ := nat_modeP (HMo.out (S[aa]?.getD 0))
          have hca := hrow2.out.cells (g := g) rfl aa (.int .i64 (m2 : Int)) (by
            have h1 : aa < S.length := by omega
            rw [List.getElem?_eq_getElem h1, Option.getD_some] at hmm2
            simp [hlta, h1, hmm2])
          rw [Go.WideShapes.add_plain, Nat.zero_add] at hca
          have hgl := (hrow2.out.lt g rfl).2
          have hfc := HFx2.out m m2 hm6 hm26
          have HFn : Hid (fitAt d L i b aa = fitsB (m : Int) (m2 : Int)) := by rw [Hid, HFt1.out, hmm2]
          clear hmm2
          generalize fitsB (m : Int) (m2 : Int) = f at *
          cases f
          · have HE : Hid (r = false) := no_of HRr.out fun h2 => by have := h2 b hltb aa hlta; rw [HFn.out] at this; cases this
            go_wp2_with fail
            go_ret
            exact ⟨ret_bool HE.out.symm, hbr2⟩
          · have HE : Hid (∀ a', a' < aa + 1 → fitAt d L i b a' = true) := fun a' ha' => by
              by_cases e : a' = aa
              · subst e; exact HFn.out
              · exact hall2.out a' (by omega)
            go_wp2_with fail
            go_round
            case rel => exact ⟨aa + 1, by omega, by go_num, HE⟩
            case measure => simp [intOf]; omega
        · have hlta1 : ¬ (aa : Int) < (b : Int) := by omega
          have HE : Hid (∀ b', b' < b + 1 → ∀ a', a' < b' → fitAt d L i b' a' = true) := fun b' hb' a' ha' => by
            by_cases e : b' = b
            · subst e; exact hall2.out a' (by omega)
            · exact hall.out b' (by omega) a' ha'
          go_wp2_with (at_builtin; refine wpList_append_own _ rfl _ _ 44 rfl w.heap.size 3 i0 (.int .i64 0) 1 8 Tryd.underlying44 hinf hz0 hz1 hz2 rfl (by decide) _ _ _ rfl (hrow2.out.alloc _) ⟨w2.heap.size, 0, none⟩ 1 1 [.int .i64 (m : Int)] rfl rfl (cell_one_new _ _ _) (ints_one [(m : Int)]) (by unfold maxLen; omega) (by omega) (by simp; omega) ?_)
          intro v' w3 hown' hgrow _
          have hb3 : Below w.heap.size w w3 := (hbr2.alloc hs2 (.cells #[.int .i64 (m : Int)] 3)).grown hgrow (by simp; omega) (fun g' hg' => by have := (hrow2.out.lt g' hg').1; omega)
          have HRow3 : Hid (w3.ownsRow w.heap.size 3 1 v' (b + 1) ((S.take (b + 1)).map fun s => .int .i64 (modeAtP d L s i))) := by
            rw [Hid, HTk.out]; simpa using hown'
          clear hown' hgrow
          go_wp2_with fail
          exact ⟨⟨b + 1, by omega, by go_num, HE, HRow3, hb3⟩, by simp [intOf]; omega⟩
    · have hltb1 : ¬ (b : Int) < (ns : Int) := by omega
      have HE : Hid (r = true) := HRr.out.2 fun b' hb' a' ha' => hall.out b' (by omega) a' ha'
      go_wp2_with fail
      go_ret
      exact ⟨ret_bool HE.out.symm, hbr⟩
end Go.Proofs.YtfjhpfgffbghdaaDoor
