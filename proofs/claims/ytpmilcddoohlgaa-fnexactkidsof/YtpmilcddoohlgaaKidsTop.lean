/-
  KidsOf: what the specification answers.
-/
import Derived.Test.YtpmilcddoohlgaaKidsSpec
import Derived.Test.YtpmilcddoohlgaaKidsImpl
import Derived.Deep.RegionWith
namespace Go.Proofs.Ytpmilcddoohlgaa
open Go.RowKit

set_option maxHeartbeats 4000000 in
set_option maxRecDepth 100000 in
theorem specKidsOf_any (n₀ : Nat) (d : PDoc) (s : Value) (id : Int) (w : World) (hN : NodesAt n₀ w s d.nodes) (hn : n₀ ≤ w.heap.size) (hl : d.nodes.length ≤ 1048576) (hkl : ∀ x ∈ d.nodes, x.kids.length ≤ 1048576) (c : Int) (ks : List Int) (hc : c = askOf d id) (hks : ks = kidsAns d id) :
    Calls Try.prog 5 #[.agg #[.int .i64 d.root, .int .i64 d.next, s], .int .i64 id] w (ListPost w ks c) := by
  have hW := (Below.refl w.heap.size w).alloc (Nat.le_refl _) (.cells #[.int .i64 d.root, .int .i64 d.next, s] 31)
  have HA : Hid (Calls Try.prog 14 #[.agg #[.int .i64 d.root, .int .i64 d.next, s], .int .i64 id] (w.alloc (.cells #[.int .i64 d.root, .int .i64 d.next, s] 31)) fun e w' => e = .returned (.int .i64 c) ∧ Below (w.heap.size + 1) (w.alloc (.cells #[.int .i64 d.root, .int .i64 d.next, s] 31)) w') := by
    have := specAsk_any n₀ d s id (w.alloc (.cells #[.int .i64 d.root, .int .i64 d.next, s] 31)) (hN.below (Nat.le_refl _) (hW.mono hn)) (by simp; omega) hl hkl c hc
    unfold Hid; simpa using this
  have HN := hide hN
  have HNo : Hid (c ≠ 0 → ks = []) := fun h => by rw [hks]; exact kidsAns_no (by rw [← hc]; exact h)
  have HOk : Hid (c = 0 → Good d ∧ id ∈ idsOf d.nodes ∧ ks = kindsFor d.nodes (kidsAt d.nodes id)) := fun h => by
    have ha := hc.symm.trans h
    exact ⟨(askOf_zero ha).1, (askOf_zero ha).2, by rw [hks]; exact kidsAns_ok ha⟩
  obtain ⟨a, cap, rfl, hk'⟩ := hN
  clear hc hks
  by_cases h0 : c = 0
  · obtain ⟨G, hin, hks⟩ := HOk.out h0
    obtain ⟨p, hp, hpl, hpn, hpm⟩ := place_node G.rise hin
    obtain ⟨b, off, rfl, hb, hcc⟩ := hk'.resolve_left (by intro e; simp [e] at hpl)
    have hA := hcc p hpl
    have hki : kidsAt d.nodes id = (d.nodes[p]?.getD nodeNil).kids := by
      obtain ⟨p', h1, h2, h3, h4⟩ := placeOf_lt hin
      rw [hp] at h1
      obtain rfl : p = p' := by omega
      exact h4
    rw [hki] at hks
    have hsub : ∀ k ∈ (d.nodes[p]?.getD nodeNil).kids, k ∈ idsOf d.nodes := fun k hk => G.there k (List.mem_flatMap.2 ⟨_, hpm, hk⟩)
    have hk1 := hkl _ hpm
    have n0 := hA.c0
    have n1 := hA.c1
    have n2 := hA.c2
    have n3 := hA.c3
    obtain ⟨kv, n4, hI⟩ := hA.c4
    have hri := G.rise
    have HKids : Hid (∀ wx, Below w.heap.size w wx → Calls Try.prog 15 #[.agg #[.int .i64 d.root, .int .i64 d.next, .slice (some ⟨b, off, none⟩) d.nodes.length cap], .agg #[.int .i64 (d.nodes[p]?.getD nodeNil).id, .int .i64 (d.nodes[p]?.getD nodeNil).kind, .int .i64 (d.nodes[p]?.getD nodeNil).attr, .string (d.nodes[p]?.getD nodeNil).text, kv]] wx (IdsPost wx ks)) := fun wx hbx => by
      rw [hks]
      exact specKids_any d.nodes n₀ d.root d.next hl hri _ hsub hk1 _ _ wx (HN.out.below (Nat.le_refl _) (hbx.mono hn)) (hI.below (Nat.le_refl _) (hbx.mono hn)) (by have := hbx.size; omega)
    have HAt : Hid (∀ wx, Below w.heap.size w wx → Calls Try.prog 16 #[.agg #[.int .i64 d.root, .int .i64 d.next, .slice (some ⟨b, off, none⟩) d.nodes.length cap], .int .i64 id] wx fun e w' => e = .returned (.int .i64 (p : Int)) ∧ Below wx.heap.size wx w') := fun wx hb => by
      have := specAt_any n₀ d.root d.next _ d.nodes id wx (HN.out.below (Nat.le_refl _) (hb.mono hn)) (by have := hb.size; omega) hl
      rw [hp] at this
      exact this
    obtain ⟨akk, ckk, rfl, -⟩ := hI
    have h00 : (c != 0) = false := by simp [h0]
    have HZ := hide h0
    have hbw : b < w.heap.size := by omega
    have hpl1 : (p : Int) < (d.nodes.length : Int) := by omega
    clear h0 hp hk' hcc hA HOk HNo hki hsub hk1 hri hpn hpm hks G hin hkl
    generalize d.nodes[p]?.getD nodeNil = x at *
    go_enter Try.func5, Try.ntmps5
    go_wp2_with fail
    refine HA.out.mono ?_
    rintro e w1 ⟨rfl, hb1⟩
    have hs1 := hb1.size
    simp only [World.size_alloc] at hs1
    obtain ⟨x0, x1, x2⟩ := box_doc' hb1
    have hw1 := hW.trans (hb1.mono (by omega))
    have m0 := (hw1.cell (p := ⟨b, off + p * 5, none⟩) hbw).trans n0
    have m1 := (hw1.cell (p := ⟨b, off + p * 5 + 1, none⟩) hbw).trans n1
    have m2 := (hw1.cell (p := ⟨b, off + p * 5 + 2, none⟩) hbw).trans n2
    have m3 := (hw1.cell (p := ⟨b, off + p * 5 + 3, none⟩) hbw).trans n3
    have m4 := (hw1.cell (p := ⟨b, off + p * 5 + 4, none⟩) hbw).trans n4
    have hz0 : w.heap.size < w1.heap.size := by omega
    have hbs1 : b < w1.heap.size := by omega
    clear n0 n1 n2 n3 n4
    go_wp2_with fail
    go_region_with (first
      | (go_at_call 16; refine (HAt.out _ hw1.drew).mono ?_; rintro e w2 ⟨rfl, hc2⟩; have hs2 := hc2.size; have z0 := (hc2.cell (p := ⟨w.heap.size, 0, none⟩) hz0).trans x0; have z1 := (hc2.cell (p := ⟨w.heap.size, 1, none⟩) hz0).trans x1; have z2 := (hc2.cell (p := ⟨w.heap.size, 2, none⟩) hz0).trans x2; have y0 := (hc2.cell (p := ⟨b, off + p * 5, none⟩) hbs1).trans m0; have y1 := (hc2.cell (p := ⟨b, off + p * 5 + 1, none⟩) hbs1).trans m1; have y2 := (hc2.cell (p := ⟨b, off + p * 5 + 2, none⟩) hbs1).trans m2; have y3 := (hc2.cell (p := ⟨b, off + p * 5 + 3, none⟩) hbs1).trans m3; have y4 := (hc2.cell (p := ⟨b, off + p * 5 + 4, none⟩) hbs1).trans m4; have hw2 := hw1.drew.trans (hc2.mono (by simp; omega)))
      | (go_at_call 15; refine (HKids.out _ hw2).mono ?_; rintro e w3 ⟨v3, rfl, hr3, hb3⟩; have hw3 := hw2.trans (hb3.mono hw2.size); have HR3 := hide hr3; obtain ⟨ar3, cr3, rfl⟩ := row_shape hr3; have hw2s := hw2.size; clear hr3))
    all_goals
      go_wp2_with fail
      go_ret2
      exact ⟨_, ret_vc HZ.out.symm, ownsRow_base HR3.out hw2s, hw3⟩
  · have h00 : (c != 0) = true := by simp [h0]
    have HX := hide (HNo.out h0)
    clear h0 HOk HNo
    go_enter Try.func5, Try.ntmps5
    go_wp2_with fail
    refine HA.out.mono ?_
    rintro e w1 ⟨rfl, hb1⟩
    have hw1 := hW.trans (hb1.mono (by omega))
    go_wp2_with fail
    go_ret2
    refine ⟨_, rfl, ?_, hw1.alloc hw1.size _⟩
    rw [HX.out]
    exact row_none w1 w.heap.size hw1.size
end Go.Proofs.Ytpmilcddoohlgaa
