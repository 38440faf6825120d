/-
  Whether two documents are alike but for the Ids: the specification's answer and the program's.
-/
import Derived.Test.YtigkjljknmojhaaSpecLike
namespace Go.Proofs.Ytigkjljknmojhaa
open Go.RowKit

/-- Two right documents, alike but for the Ids. -/
def Alike (d d' : PDoc) : Prop := Like d.nodes d'.nodes d.nodes.length d.root d'.root

theorem Grown.treeBelow {n₀ : Nat} {W W' : World} {d : PDoc} {tb : Nat} {ad : Int → Nat} {up : Int → Option Int} {kv : Int → Value} (h : Grown n₀ W d tb ad up kv) (G : Good d) (hb : Below W.heap.size W W') : TreeAt W.heap.size W' d.nodes ad up := (h.hung.tree G.rise).below (Nat.le_refl _) hb

set_option maxHeartbeats 1000000 in
set_option maxRecDepth 100000 in
theorem specSameShape_any (n₀ : Nat) (d d' : PDoc) (v v' : Value) (w : World) (h : NodesAt n₀ w v d.nodes) (h' : NodesAt n₀ w v' d'.nodes) (hn : n₀ ≤ w.heap.size) (hl : d.nodes.length ≤ 1048576) (hl' : d'.nodes.length ≤ 1048576) (hkl : ∀ x ∈ d.nodes, x.kids.length ≤ 1048576) (hkl' : ∀ x ∈ d'.nodes, x.kids.length ≤ 1048576) (r : Bool) (hr : r = true ↔ Good d ∧ Good d' ∧ Alike d d') :
    Calls Try.prog 37 #[.agg #[.int .i64 d.root, .int .i64 d.next, v], .agg #[.int .i64 d'.root, .int .i64 d'.next, v']] w fun e w' => e = .returned (.bool r) ∧ Below w.heap.size w w' := by
  obtain ⟨r1, hr1⟩ : ∃ r1 : Bool, r1 = true ↔ Good d := by classical exact ⟨decide (Good d), by simp⟩
  obtain ⟨r2, hr2⟩ : ∃ r2 : Bool, r2 = true ↔ Good d' := by classical exact ⟨decide (Good d'), by simp⟩
  obtain ⟨r3, hr3⟩ : ∃ r3 : Bool, r3 = true ↔ Alike d d' := by classical exact ⟨decide (Alike d d'), by simp⟩
  have HE1 : Hid (∀ w1, Below w.heap.size w w1 → Calls Try.prog 49 #[.agg #[.int .i64 d.root, .int .i64 d.next, v]] w1 fun e w' => e = .returned (.bool r1) ∧ Below w1.heap.size w1 w') := fun w1 hb =>
    specOK_any n₀ d v w1 (h.below (Nat.le_refl _) (hb.mono hn)) (by have := hb.size; omega) hl hkl r1 hr1
  have HE2 : Hid (∀ w1, Below w.heap.size w w1 → Calls Try.prog 49 #[.agg #[.int .i64 d'.root, .int .i64 d'.next, v']] w1 fun e w' => e = .returned (.bool r2) ∧ Below w1.heap.size w1 w') := fun w1 hb =>
    specOK_any n₀ d' v' w1 (h'.below (Nat.le_refl _) (hb.mono hn)) (by have := hb.size; omega) hl' hkl' r2 hr2
  have HE3 : Hid (Good d → Good d' → ∀ w1, Below w.heap.size w w1 → Calls Try.prog 66 #[.agg #[.int .i64 d.root, .int .i64 d.next, v], .agg #[.int .i64 d'.root, .int .i64 d'.next, v'], .int .i64 d.root, .int .i64 d'.root] w1 fun e w' => e = .returned (.bool r3) ∧ Below w1.heap.size w1 w') := fun G G' w1 hb =>
    specLike_any n₀ d.root d.next d'.root d'.next v v' d.nodes d'.nodes hl hl' G.toFlat.walkable G'.toFlat.walkable d.nodes.length d.root d'.root w1 (by have := hb.size; omega) G.rootIn G'.rootIn G.toFlat.low (h.below (Nat.le_refl _) (hb.mono hn)) (h'.below (Nat.le_refl _) (hb.mono hn)) r3 hr3
  obtain ⟨a, cap, rfl, -⟩ := h
  obtain ⟨a', cap', rfl, -⟩ := h'
  have HG1 := hide hr1
  have HG2 := hide hr2
  rw [← hr1, ← hr2, ← hr3] at hr
  have HR := hide hr
  clear hkl hkl' hr hr1 hr2 hr3
  have hW2 := ((Below.refl w.heap.size w).alloc (Nat.le_refl _) (.cells #[.int .i64 d.root, .int .i64 d.next, .slice a d.nodes.length cap] 24)).alloc (by simp) (.cells #[.int .i64 d'.root, .int .i64 d'.next, .slice a' d'.nodes.length cap'] 24)
  cases r1 with
  | false =>
    have hf : Hid (r = false) := not_true HR.out (fun e => by cases e.1)
    go_enter Try.func37, Try.ntmps37
    go_wp2_with fail
    refine (HE1.out _ hW2).mono ?_
    rintro e w1 ⟨rfl, hb1⟩
    simp only [World.size_alloc] at hb1
    go_wp2_with fail
    go_ret
    exact ⟨ret_bool hf.out.symm, hW2.trans (hb1.mono (by omega))⟩
  | true =>
    cases r2 with
    | false =>
      have hf : Hid (r = false) := not_true HR.out (fun e => by cases e.2.1)
      go_enter Try.func37, Try.ntmps37
      go_wp2_with fail
      refine (HE1.out _ hW2).mono ?_
      rintro e w1 ⟨rfl, hb1⟩
      simp only [World.size_alloc] at hb1
      have hb1' := hW2.trans (hb1.mono (by omega))
      obtain ⟨x0, x1, x2, y0, y1, y2⟩ := two_docs hb1
      go_wp2_with fail
      refine (HE2.out _ hb1').mono ?_
      rintro e w2 ⟨rfl, hb2⟩
      have hs1 := hb1'.size
      go_wp2_with fail
      go_ret
      exact ⟨ret_bool hf.out.symm, hb1'.trans (hb2.mono hs1)⟩
    | true =>
      have he : Hid (r3 = r) := by
        have := HR.out
        simp only [true_and] at this
        exact Bool.eq_iff_iff.2 this.symm
      have HE4 := hide (HE3.out (HG1.out.1 rfl) (HG2.out.1 rfl))
      clear HE3
      go_enter Try.func37, Try.ntmps37
      go_wp2_with fail
      refine (HE1.out _ hW2).mono ?_
      rintro e w1 ⟨rfl, hb1⟩
      simp only [World.size_alloc] at hb1
      have hb1' := hW2.trans (hb1.mono (by omega))
      have hs1 := hb1.size
      simp only [World.size_alloc] at hs1
      obtain ⟨x0, x1, x2, y0, y1, y2⟩ := two_docs hb1
      go_wp2_with fail
      refine (HE2.out _ hb1').mono ?_
      rintro e w2 ⟨rfl, hb2⟩
      have hb2' := hb1'.trans (hb2.mono (by omega))
      obtain ⟨hcx, hfx⟩ := bcell hb2
      have h0lt : w.heap.size < w1.heap.size := by omega
      have h1lt : w.heap.size + 1 < w1.heap.size := by omega
      go_wp2_with fail
      refine (HE4.out _ hb2').mono ?_
      rintro e w3 ⟨rfl, hb3⟩
      go_wp2_with fail
      go_ret
      have := hb2.size
      exact ⟨ret_bool he.out, hb2'.trans (hb3.mono (by omega))⟩

set_option maxHeartbeats 1000000 in
set_option maxRecDepth 100000 in
theorem implSameShape_any (n₀ : Nat) (d d' : PDoc) (v v' : Value) (w : World) (h : NodesAt n₀ w v d.nodes) (h' : NodesAt n₀ w v' d'.nodes) (hn : n₀ ≤ w.heap.size) (hl : d.nodes.length ≤ 1048576) (hl' : d'.nodes.length ≤ 1048576) (_hkl : ∀ x ∈ d.nodes, x.kids.length ≤ 1048576) (_hkl' : ∀ x ∈ d'.nodes, x.kids.length ≤ 1048576) (hwf : WfDoc d) (hwf' : WfDoc d') (r : Bool) (hr : r = true ↔ Good d ∧ Good d' ∧ Alike d d') :
    Calls Try.prog 38 #[.agg #[.int .i64 d.root, .int .i64 d.next, v], .agg #[.int .i64 d'.root, .int .i64 d'.next, v']] w fun e w' => e = .returned (.bool r) ∧ Below w.heap.size w w' := by
  have HE1 : Hid (∀ w1, Below w.heap.size w w1 → Calls Try.prog 51 #[.agg #[.int .i64 d.root, .int .i64 d.next, v]] w1 (TreePost w1 d)) := fun w1 hb =>
    treeOf_any n₀ d v w1 (h.below (Nat.le_refl _) (hb.mono hn)) (by have := hb.size; omega) hl hwf
  have HE2 : Hid (∀ w1, Below w.heap.size w w1 → Calls Try.prog 51 #[.agg #[.int .i64 d'.root, .int .i64 d'.next, v']] w1 (TreePost w1 d')) := fun w1 hb =>
    treeOf_any n₀ d' v' w1 (h'.below (Nat.le_refl _) (hb.mono hn)) (by have := hb.size; omega) hl' hwf'
  obtain ⟨a, cap, rfl, -⟩ := h
  obtain ⟨a', cap', rfl, -⟩ := h'
  have HR := hide hr
  clear _hkl _hkl' hr hwf hwf'
  have hW2 := ((Below.refl w.heap.size w).alloc (Nat.le_refl _) (.cells #[.int .i64 d.root, .int .i64 d.next, .slice a d.nodes.length cap] 24)).alloc (by simp) (.cells #[.int .i64 d'.root, .int .i64 d'.next, .slice a' d'.nodes.length cap'] 24)
  go_enter Try.func38, Try.ntmps38
  go_wp2_with fail
  refine (HE1.out _ hW2).mono ?_
  rintro e w1 (⟨tb, ad, up, kv, rfl, hg, hgr, htb, hb1⟩ | ⟨rfl, hno, hb1⟩)
  · simp only [World.size_alloc] at hb1
    have hs1 := hb1.size
    simp only [World.size_alloc] at hs1
    have hb1' := hW2.trans (hb1.mono (by omega))
    obtain ⟨x0, x1, x2, y0, y1, y2⟩ := two_docs hb1
    have HGr := hide hgr
    have HG := hide hg
    have htop : w1.cell? ⟨tb, 0, none⟩ = some (.pointer (some ⟨ad d.root, 0, none⟩)) := by simpa using cell_of_heap hgr.top 0
    have htl : tb < w1.heap.size := (Array.getElem?_eq_some_iff.1 hgr.top).1
    clear hgr hg
    go_wp2_with fail
    refine (HE2.out _ hb1').mono ?_
    rintro e w2 (⟨tb', ad', up', kv', rfl, hg', hgr', htb', hb2⟩ | ⟨rfl, hno', hb2⟩)
    · have hs2 := hb2.size
      have htop2 := (hb2.cell (p := ⟨tb, 0, none⟩) htl).trans htop
      have htop' : w2.cell? ⟨tb', 0, none⟩ = some (.pointer (some ⟨ad' d'.root, 0, none⟩)) := by simpa using cell_of_heap hgr'.top 0
      have htl' : tb' < w2.heap.size := (Array.getElem?_eq_some_iff.1 hgr'.top).1
      have htl2 : tb < w2.heap.size := by omega
      have HGr' := hide hgr'
      have HG' := hide hg'
      have HE : Hid (∀ t : Calm w2, Calls Try.prog 67 #[.pointer (some ⟨ad d.root, 0, none⟩), .pointer (some ⟨ad' d'.root, 0, none⟩)] t.out fun e W' => e = .returned (.bool r) ∧ Below t.out.heap.size t.out W') := fun t =>
        sameShape_any d.nodes d'.nodes ad ad' up up' HG.out.toFlat.walkable hg'.toFlat.walkable w2.heap.size d.nodes.length d.root d'.root t.out t.below.size HG.out.rootIn hg'.rootIn HG.out.toFlat.low ((HGr.out.treeBelow HG.out hb2).below hs2 (t.below.mono hs2)) (hgr'.treeBelow hg' t.below) r (by rw [HR.out]; exact ⟨fun e => e.2.2, fun e => ⟨HG.out, hg', e⟩⟩)
      clear hgr' hg' x0 x1 x2 y0 y1 y2 htop
      have hcal := calm_cell w2
      go_wp2_with fail
      refine wp_region_calm (by kernel_rfl) (by kernel_rfl) ?_
      repeat (go_big_quiet_step ((go_at_call 67; exact calm_of (HE.out _))))
      refine wpQuiet_nil ?_
      rintro _ ⟨t, rfl⟩
      have ht := t.below
      go_wp2_with fail
      go_ret
      exact ⟨rfl, hb1'.trans ((hb2.mono (by omega)).trans (ht.mono (by omega)))⟩
    · have hf : Hid (r = false) := not_true HR.out (fun e => hno' e.2.1)
      clear hno' x0 x1 x2 y0 y1 y2 htop
      go_wp2_with fail
      refine wp_region_calm (by kernel_rfl) (by kernel_rfl) ?_
      repeat (go_big_quiet_step (fail))
      refine wpQuiet_nil ?_
      rintro _ ⟨t, rfl⟩
      have ht := t.below
      have hs2 := hb2.size
      go_wp2_with fail
      go_ret
      exact ⟨ret_bool hf.out.symm, hb1'.trans ((hb2.mono (by omega)).trans (ht.mono (by omega)))⟩
  · simp only [World.size_alloc] at hb1
    have hs1 := hb1.size
    simp only [World.size_alloc] at hs1
    have hb1' := hW2.trans (hb1.mono (by omega))
    have hf : Hid (r = false) := not_true HR.out (fun e => hno e.1)
    obtain ⟨x0, x1, x2, y0, y1, y2⟩ := two_docs hb1
    clear hno
    go_wp2_with fail
    refine (HE2.out _ hb1').mono ?_
    rintro e w2 (⟨tb', ad', up', kv', rfl, hg', hgr', htb', hb2⟩ | ⟨rfl, hno', hb2⟩)
    · clear hg' hgr' x0 x1 x2 y0 y1 y2
      have hs2 := hb2.size
      go_wp2_with fail
      refine wp_region_calm (by kernel_rfl) (by kernel_rfl) ?_
      repeat (go_big_quiet_step (fail))
      refine wpQuiet_nil ?_
      rintro _ ⟨t, rfl⟩
      have ht := t.below
      go_wp2_with fail
      go_ret
      exact ⟨ret_bool hf.out.symm, hb1'.trans ((hb2.mono (by omega)).trans (ht.mono (by omega)))⟩
    · clear hno' x0 x1 x2 y0 y1 y2
      have hs2 := hb2.size
      go_wp2_with fail
      refine wp_region_calm (by kernel_rfl) (by kernel_rfl) ?_
      repeat (go_big_quiet_step (fail))
      refine wpQuiet_nil ?_
      rintro _ ⟨t, rfl⟩
      have ht := t.below
      go_wp2_with fail
      go_ret
      exact ⟨ret_bool hf.out.symm, hb1'.trans ((hb2.mono (by omega)).trans (ht.mono (by omega)))⟩
end Go.Proofs.Ytigkjljknmojhaa
