/-
  The path of a node, as the specification reckons it.
-/
import Derived.Test.YtfjhpfgffbghdaaDoorJoinG
import Derived.Test.YtfjhpfgffbghdaaDoorLawIntsJ
import Derived.Deep.AppendLies
namespace Go.Proofs.YtfjhpfgffbghdaaDoor
open Go.RowKit

set_option maxHeartbeats 4000000 in
set_option maxRecDepth 100000 in
theorem specPath_any (n₀ : Nat) (d : PDoc) (G : Good d) (s : Value) (id : Int) (q : Nat) (hq : Dep d.nodes d.root q id) (w : World) (hN : NodesAt n₀ w s d.nodes) (hn : n₀ ≤ w.heap.size) (hl : d.nodes.length ≤ 1048576) (hkl : ∀ x ∈ d.nodes, x.kids.length ≤ 1048576) :
    Calls Tryd.prog 51 #[.agg #[.int .i64 d.root, .int .i64 d.next, s], .int .i64 id] w (IdsPost w (ups d.nodes q id).reverse) := by
  obtain ⟨i0, hinf, hz0, hz1, hz2⟩ := info_parts specInfoInt'
  have HG := hide G
  have HN := hide hN
  have HKL := hide hkl
  have hq40 := G.dep_le hq
  obtain ⟨ch, hch⟩ : ∃ ch, ch = ups d.nodes q id := ⟨_, rfl⟩
  have hchl : ch.length = q + 1 := by rw [hch, ups_len]
  have HLf : Hid (Left d id ch) := .inl ⟨q, hq, hch⟩
  rw [← hch]
  obtain ⟨a, cap, rfl, -⟩ := hN
  clear hq hch G hkl
  have hW1 := (Below.refl w.heap.size w).alloc (Nat.le_refl _) (.cells #[.int .i64 d.root, .int .i64 d.next, .slice a d.nodes.length cap] 32)
  have HR0 : Hid (((w.alloc (.cells #[.int .i64 d.root, .int .i64 d.next, .slice a d.nodes.length cap] 32)).alloc (.cells #[] 3)).ownsRow (w.heap.size + 1) 3 1 (.slice (some ⟨w.heap.size + 1, 0, none⟩) 0 0) 0 []) := by
    have := row_none (w.alloc (.cells #[.int .i64 d.root, .int .i64 d.next, .slice a d.nodes.length cap] 32)) (w.heap.size + 1) (by simp)
    unfold Hid
    simpa using this
  go_enter Tryd.func51, Tryd.ntmps51
  go_wp2_with fail
  go_loopw [5, 6] (fun ov cv wr => ∃ (pre rest : List Int) (cur : Int) (g c : Nat), cv = .int .i64 cur ∧ ov = .slice (some ⟨g, 0, none⟩) pre.length c ∧ Hid (pre ++ rest = ch ∧ Left d cur rest) ∧ pre.length ≤ q + 1 ∧ 0 ≤ cur ∧ Hid (wr.ownsRow (w.heap.size + 1) 3 1 (.slice (some ⟨g, 0, none⟩) pre.length c) pre.length (pre.reverse.map (Value.int .i64))) ∧ Below (w.heap.size + 1) (w.alloc (.cells #[.int .i64 d.root, .int .i64 d.next, .slice a d.nodes.length cap] 32)) wr) (fun ov _ _ => q + 2 - lenOf ov)
  case atStart => exact ⟨[], ch, id, w.heap.size + 1, 0, rfl, rfl, ⟨rfl, HLf.out⟩, by simp, HLf.out.pos HG.out, HR0, (Below.refl _ _).alloc (by simp) _⟩
  case round =>
    obtain ⟨pre, rest, cur, g, c, rfl, rfl, hinv, hpl, hcur, hrow, hbr⟩ := hrel
    have hsz := hbr.size
    simp only [World.size_alloc] at hsz
    obtain ⟨x0, x1, x2⟩ := box_doc' hbr
    have hz : w.heap.size < wr.heap.size := by omega
    by_cases hc0 : 0 < cur
    · obtain ⟨rest', hr1, hr2, hr3⟩ := hinv.out.2.next HG.out (by omega)
      have HInv : Hid ((pre ++ [cur]) ++ rest' = ch ∧ Left d (parentOf d.nodes cur) rest') := ⟨by rw [List.append_assoc, List.singleton_append, ← hr1]; exact hinv.out.1, hr2⟩
      have hpl2 : pre.length + 1 ≤ q + 1 := by
        have := congrArg List.length HInv.out.1
        rw [hchl] at this
        simp at this; omega
      have hcells := (ownsRow_below hrow.out ((Below.refl _ _).alloc (Nat.le_refl _) (.cells #[.int .i64 cur] 3))).cells (g := g) rfl
      have hpos := hr2.pos HG.out
      have HPar : Hid (∀ wx, Below (w.heap.size + 1) (w.alloc (.cells #[.int .i64 d.root, .int .i64 d.next, .slice a d.nodes.length cap] 32)) wx → Calls Tryd.prog 74 #[.agg #[.int .i64 d.root, .int .i64 d.next, .slice a d.nodes.length cap], .int .i64 cur] wx fun e w' => e = .returned (.int .i64 (parentOf d.nodes cur)) ∧ Below wx.heap.size wx w') := fun wx hb =>
        specParent_any n₀ d.root d.next _ d.nodes cur wx (HN.out.below (Nat.le_refl _) ((hW1.mono hn).trans (hb.mono (by omega)))) (by have := hb.size; simp at this; omega) hl HKL.out
      clear hr1 hr2 hr3
      generalize parentOf d.nodes cur = nxt at *
      have HCells := hide hcells
      clear hcells
      go_wp2_with (at_builtin; refine wpList_append_own _ rfl _ _ 44 rfl (w.heap.size + 1) 3 i0 (.int .i64 0) 1 8 Tryd.underlying44 hinf hz0 hz1 hz2 rfl (by decide) _ _ _ rfl (row_one wr (w.heap.size + 1) (by omega) cur) ⟨g, 0, none⟩ pre.length c (pre.reverse.map (Value.int .i64)) rfl (by simp) HCells.out (ints_one _) (by unfold maxLen; omega) (by omega) (by simp; omega) ?_)
      intro v' w1 hown' hgrow _
      have hb3 := (hbr.alloc (by omega) (.cells #[.int .i64 cur] 3)).grown hgrow (by simp; omega) (fun g' hg' => by simp [Value.ownBlock] at hg'; omega)
      have HRow3 : Hid (w1.ownsRow (w.heap.size + 1) 3 1 v' (pre ++ [cur]).length ((pre ++ [cur]).reverse.map (Value.int .i64))) := by
        have e1 : (pre ++ [cur]).length = 1 + pre.length := by simp; omega
        rw [Hid, e1]
        simpa using hown'
      obtain ⟨g3, c3, rfl⟩ := row_some HRow3.out (by simp)
      clear hown' hgrow hrow HCells
      obtain ⟨y0, y1, y2⟩ := box_doc' hb3
      have hs3 := hb3.size
      simp only [World.size_alloc] at hs3
      have hz3 : w.heap.size < w1.heap.size := by omega
      go_wp2_with (go_at_call 74; refine (HPar.out _ hb3).mono ?_; rintro e w2 ⟨rfl, hb4⟩)
      have HRow4 := hide (ownsRow_below HRow3.out hb4)
      exact ⟨⟨pre ++ [cur], rest', nxt, g3, c3, rfl, by simp, HInv, by simp; omega, hpos, HRow4, hb3.trans (hb4.mono (by omega))⟩, by simp [lenOf]; omega⟩
    · obtain rfl : cur = 0 := by omega
      have hd := hinv.out.2.done HG.out
      have HE : Hid (pre = ch) := by have := hinv.out.1; rw [hd, List.append_nil] at this; exact this
      have HRw : Hid (wr.ownsRow (w.heap.size + 1) 3 1 (.slice (some ⟨g, 0, none⟩) pre.length c) ch.reverse.length (ch.reverse.map (Value.int .i64))) := by
        have := hrow.out
        rw [Hid, List.length_reverse, ← HE.out]; exact this
      clear hd hinv hrow
      go_wp2_with fail
      go_ret
      exact ⟨_, rfl, ownsRow_base HRw.out (by omega : w.heap.size ≤ w.heap.size + 1), hW1.trans (hbr.mono (by omega))⟩
end Go.Proofs.YtfjhpfgffbghdaaDoor
