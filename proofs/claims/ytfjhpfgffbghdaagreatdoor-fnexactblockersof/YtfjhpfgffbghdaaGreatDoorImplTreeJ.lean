/-
  What the program's treeOf answers: a tree in memory of a right document; none of any other.
-/
import Derived.Test.YtfjhpfgffbghdaaGreatDoorJoinD
import Derived.Deep.DeepCutAuto
namespace Go.Proofs.YtfjhpfgffbghdaaGreatDoor
open Go.RowKit Go.Shelf

/-- Numbers of a document that a program can hold. -/
structure WfDoc (d : PDoc) : Prop where
  root : Wf64 d.root
  kids : ∀ x ∈ d.nodes, ∀ k ∈ x.kids, Wf64 k

/-- A document's tree in memory, and the block that holds its root. -/
structure Grown (n₀ : Nat) (W : World) (d : PDoc) (tb : Nat) (ad : Int → Nat) (up : Int → Option Int) (kv : Int → Value) : Prop where
  hung : Hung n₀ W d.nodes ad up (kidsAt d.nodes) kv
  upNone : ∀ i, up i = none ↔ i ∉ allKids d.nodes
  upKid : ∀ i p, up i = some p → i ∈ kidsAt d.nodes p
  top : W.heap[tb]? = some (.cells #[.pointer (some ⟨ad d.root, 0, none⟩), .int .i64 d.next] 137 (0, 0))

def TreePost (w : World) (d : PDoc) (e : Ending) (w' : World) : Prop :=
  (∃ (tb : Nat) (ad : Int → Nat) (up : Int → Option Int) (kv : Int → Value), e = .returned (.tuple #[.pointer (some ⟨tb, 0, none⟩), .bool true]) ∧ Good d ∧ Grown w.heap.size w' d tb ad up kv ∧ w.heap.size ≤ tb ∧ Below w.heap.size w w') ∨
  (e = .returned (.tuple #[.pointer none, .bool false]) ∧ ¬ Good d ∧ Below w.heap.size w w')

theorem Flat.walkable {d : PDoc} (F : Flat d) : Walkable d.nodes := ⟨fun x hx => by have := (F.fine x hx).2.2.2.2.2.2.2; omega, F.there, F.rise⟩

theorem Base.flat {d : PDoc} (B : Base d) (h1 : ∀ k ∈ allKids d.nodes, k ∈ idsOf d.nodes) (h2 : (allKids d.nodes).Nodup) (h3 : d.root ∉ allKids d.nodes) (h4 : d.root ∈ idsOf d.nodes) : Flat d := ⟨B.n1, B.n40, B.nx2, B.nxm, B.fine, B.rise, h1, h2, h3, h4⟩

theorem Base.wf {d : PDoc} (B : Base d) : ∀ x ∈ d.nodes, Wf64 x.id := fun x hx => by
  have h1 := (B.fine x hx).1
  have h2 := (B.fine x hx).2.1
  have := B.nxm
  exact wf64_of (by omega) (by omega)

theorem Hung.mono {n₀ n₁ : Nat} {W : World} {l : List PNode} {ad : Int → Nat} {up : Int → Option Int} {kd : Int → List Int} {kv : Int → Value} (h : Hung n₀ W l ad up kd kv) (hn : n₁ ≤ n₀) : Hung n₁ W l ad up kd kv :=
  ⟨fun x hx => by have := h.base x hx; omega, h.node, fun x hx => by
    obtain ⟨h1, h2 | ⟨g, cap, cur, hv, hg, r⟩⟩ := h.row x hx
    · exact ⟨h1, .inl h2⟩
    · exact ⟨h1, .inr ⟨g, cap, cur, hv, by omega, r⟩⟩, h.inj, h.apart⟩

set_option maxHeartbeats 1000000 in
set_option maxRecDepth 100000 in
theorem treeOf_any (n₀ : Nat) (d : PDoc) (s : Value) (w : World) (hN : NodesAt n₀ w s d.nodes) (hn : n₀ ≤ w.heap.size) (hl : d.nodes.length ≤ 1048576) (hwf : WfDoc d) :
    Calls Tryz.prog 111 #[.agg #[.int .i64 d.root, .int .i64 d.next, s]] w (TreePost w d) := by
  have hW := (Below.refl w.heap.size w).alloc (Nat.le_refl _) (.cells #[.int .i64 d.root, .int .i64 d.next, s] 38)
  have HBr : Hid (Calls Tryz.prog 129 #[.agg #[.int .i64 d.root, .int .i64 d.next, s]] (w.alloc (.cells #[.int .i64 d.root, .int .i64 d.next, s] 38)) (BranchesPost (w.alloc (.cells #[.int .i64 d.root, .int .i64 d.next, s] 38)) d)) :=
    branchesOf_any n₀ d s _ (hN.below (Nat.le_refl _) (hW.mono hn)) (by simp; omega) hl
  have hN' := hN
  have HWf := hide hwf
  clear hwf
  obtain ⟨a, cap, rfl, -⟩ := hN
  go_enter Tryz.func111, Tryz.ntmps111
  go_wp2_with fail
  refine HBr.out.mono ?_
  rintro e w1 (⟨mb, nm, ad, rfl, hbase, hfr, hpm, hmb, hb1⟩ | ⟨rfl, hno, hb1⟩)
  · simp only [World.size_alloc] at hfr hmb hb1
    have hs1 := hb1.size
    simp only [World.size_alloc] at hs1
    have HHang : Hid (Calls Tryz.prog 130 #[.map (some mb), .slice a d.nodes.length cap] w1 (HangPost (w.heap.size + 1) mb nm w1 d.nodes ad)) :=
      hangUp_any n₀ (w.heap.size + 1) mb nm _ d.nodes ad w1 (hN'.below (Nat.le_refl _) ((hW.trans (hb1.mono (by omega))).mono hn)) (by omega) hs1 hbase.n40 (fun x hx => (hbase.fine x hx).2.2.2.2.2.2.2) hbase.wf HWf.out.kids hbase.rise hfr.hung hpm
    have HBase := hide hbase
    obtain ⟨hcx, hfx⟩ := bcell (W := w.alloc _) (by simpa using hb1)
    clear hbase hfr hpm
    go_wp2_with fail
    refine HHang.out.mono ?_
    rintro e w2 (⟨up, kv, rfl, hth, hon, hhg, hun, huk, hpm, hb2⟩ | ⟨rfl, hno, hb2⟩)
    · have hb2' := hb1.trans hb2
      have hs2 := hb2.size
      have HThere := hide hth
      have HOnce := hide hon
      have HHung := hide hhg
      have HUN := hide hun
      have HUK := hide huk
      have hlook := hpm.look HWf.out.root
      clear hcx hfx hth hon hhg hun huk hpm
      obtain ⟨hcx, hfx⟩ := bcell (W := w.alloc _) (by simpa using hb2')
      by_cases hin : d.root ∈ idsOf d.nodes
      · rw [show idMap d.nodes ad d.root = some (ad d.root) from if_pos hin] at hlook
        simp only [ptrTo, Option.map_some] at hlook
        have HT := hide (HHung.out.tree HBase.out.rise)
        obtain ⟨x, hx, hxr⟩ := node_of hin
        have h4 := (HT.out x hx).c4
        rw [hxr] at h4
        cases hup : up d.root with
        | some p =>
          rw [hup] at h4
          simp only [Option.map_some, ptrTo] at h4
          have hf : Hid (¬ Good d) := fun G => G.rootNo (kidsAt_all (HUK.out _ _ hup))
          clear hup hxr
          go_wp2_with fail
          go_ret2
          exact .inr ⟨rfl, hf.out, hW.trans (hb2'.mono (by omega))⟩
        | none =>
          rw [hup] at h4
          simp only [Option.map_none, ptrTo] at h4
          have F : Flat d := HBase.out.flat HThere.out HOnce.out ((HUN.out _).1 hup) hin
          have HG := hide F.good_iff
          have HCount : Hid (∀ t : Calm w2, Calls Tryz.prog 131 #[.pointer (some ⟨ad d.root, 0, none⟩)] t.out fun e w' => e = .returned (.int .i64 ((order d.nodes d.nodes.length d.root).length : Int)) ∧ Below t.out.heap.size t.out w') := fun t =>
            count_any d.nodes ad up F.walkable w2.heap.size d.nodes.length d.root hin F.low (by have := F.order_le d.nodes.length; have := F.n40; omega) t.out t.below.size (HT.out.below (Nat.le_refl _) t.below)
          have HHeight : Hid (∀ t : Calm w2, Calls Tryz.prog 132 #[.pointer (some ⟨ad d.root, 0, none⟩)] t.out fun e w' => e = .returned (.int .i64 (hgt d.nodes d.nodes.length d.root : Int)) ∧ w' = t.out) := fun t =>
            height_any d.nodes ad up F.walkable w2.heap.size d.nodes.length d.root t.out (by have := F.n40; omega) hin F.low (HT.out.below (Nat.le_refl _) t.below)
          have hol := F.order_le d.nodes.length
          clear hup hxr F
          generalize (order d.nodes d.nodes.length d.root).length = oc at *
          generalize hgt d.nodes d.nodes.length d.root = hg at *
          go_wp2_with fail
          go_cut [44] (fun v44 wc => v44 = .bool (!((oc : Int) == (d.nodes.length : Int)) || decide (6 < (hg : Int))) ∧ Below w2.heap.size w2 wc)
          case first =>
            have hcal := calm_cell w2
            have hszw : w.heap.size < w2.heap.size := by omega
            by_cases heq : oc = d.nodes.length
            · subst heq
              refine wp_region_calm (by kernel_rfl) (by kernel_rfl) ?_
              repeat (go_big_quiet_step (first | (go_at_call 131; exact calm_of (HCount.out _)) | (go_at_call 132; exact calm_of_same (HHeight.out _))))
              refine wpQuiet_nil ?_
              rintro _ ⟨t, rfl⟩
              go_wp2_with fail
              go_meet
              exact ⟨by simp, t.below⟩
            · have hne1 : ((oc : Int) == (d.nodes.length : Int)) = false := by simp; omega
              have hne2 : ((oc : Int) != (d.nodes.length : Int)) = true := by simp; omega
              refine wp_region_calm (by kernel_rfl) (by kernel_rfl) ?_
              repeat (go_big_quiet_step (first | (go_at_call 131; exact calm_of (HCount.out _)) | (go_at_call 132; exact calm_of_same (HHeight.out _))))
              refine wpQuiet_nil ?_
              rintro _ ⟨t, rfl⟩
              go_wp2_with fail
              go_meet
              exact ⟨by simp [hne1], t.below⟩
          case rest =>
            obtain ⟨rfl, hb3⟩ := hcut
            have hb3' := hb2'.trans (hb3.mono (by omega))
            have hs3 := hb3.size
            clear hcx hfx HCount HHeight
            obtain ⟨hcx, hfx⟩ := bcell (W := w.alloc _) (by simpa using hb3')
            cases hbad : (!((oc : Int) == (d.nodes.length : Int)) || decide (6 < (hg : Int))) with
            | true =>
              have hf : Hid (¬ Good d) := fun G => by
                have h := HG.out.1 G
                simp only [Bool.or_eq_true, Bool.not_eq_true', beq_eq_false_iff_ne, decide_eq_true_eq, ne_eq] at hbad
                omega
              go_wp2_with fail
              go_ret2
              exact .inr ⟨rfl, hf.out, hW.trans (hb3'.mono (by omega))⟩
            | false =>
              have hG : Hid (Good d) := HG.out.2 (by
                simp only [Bool.or_eq_false_iff, Bool.not_eq_false', beq_iff_eq, decide_eq_false_iff_not] at hbad
                omega)
              have HH3 : Hid (Hung w.heap.size (wc.alloc (.cells #[.pointer (some ⟨ad d.root, 0, none⟩), .int .i64 d.next] 137)) d.nodes ad up (kidsAt d.nodes) kv) := ((HHung.out.below hb3).below ((Below.refl _ _).alloc (Nat.le_refl _) _)).mono (by omega)
              clear hbad HG
              go_wp2_with fail
              go_ret2
              exact .inl ⟨_, ad, up, kv, rfl, hG.out, ⟨HH3.out, HUN.out, HUK.out, alloc_new wc _⟩, by omega, hW.trans ((hb3'.mono (by omega)).alloc (by omega) _)⟩
      · rw [show idMap d.nodes ad d.root = none from if_neg hin] at hlook
        simp only [ptrTo, Option.map_none] at hlook
        have hf : Hid (¬ Good d) := fun G => hin G.rootIn
        clear hin
        go_wp2_with fail
        go_ret2
        exact .inr ⟨rfl, hf.out, hW.trans (hb2'.mono (by omega))⟩
    · have hf : Hid (¬ Good d) := fun G => hno ⟨G.there, G.once⟩
      clear hno
      go_wp2_with fail
      go_ret2
      exact .inr ⟨rfl, hf.out, hW.trans ((hb1.trans hb2).mono (by omega))⟩
  · simp only [World.size_alloc] at hb1
    have hf : Hid (¬ Good d) := fun G => hno G.base
    clear hno
    go_wp2_with fail
    go_ret2
    exact .inr ⟨rfl, hf.out, hW.trans (hb1.mono (by omega))⟩

end Go.Proofs.YtfjhpfgffbghdaaGreatDoor
