/-
  Whether two subtrees are alike but for the Ids: what the specification's l02Like answers.
-/
import Derived.Test.YtigkjljknmojhaaShapeImpl
import Derived.Test.YtigkjljknmojhaaPairDocs
import Derived.Test.YtigkjljknmojhaaLawTo
namespace Go.Proofs.Ytigkjljknmojhaa
open Go.RowKit

/-- A box holds the node's fields. -/
def Boxed (n : Nat) (W : World) (v : Value) (x : PNode) (kv : Value) : Prop :=
  ∃ b, v = .pointer (some ⟨b, 0, none⟩) ∧ n ≤ b ∧ b < W.heap.size ∧ W.cell? ⟨b, 1, none⟩ = some (.int .i64 x.kind) ∧ W.cell? ⟨b, 2, none⟩ = some (.int .i64 x.attr) ∧ W.cell? ⟨b, 3, none⟩ = some (.string x.text) ∧ W.cell? ⟨b, 4, none⟩ = some kv

theorem Boxed.below {n : Nat} {W W' : World} {v : Value} {x : PNode} {kv : Value} (h : Boxed n W v x kv) (hb : Below W.heap.size W W') : Boxed n W' v x kv := by
  obtain ⟨b, rfl, h1, h2, h3, h4, h5, h6⟩ := h
  exact ⟨b, rfl, h1, by have := hb.size; omega, (hb.cell (p := ⟨b, 1, none⟩) h2).trans h3, (hb.cell (p := ⟨b, 2, none⟩) h2).trans h4, (hb.cell (p := ⟨b, 3, none⟩) h2).trans h5, (hb.cell (p := ⟨b, 4, none⟩) h2).trans h6⟩

/-- The node at its place. -/
theorem place_node {n₀ : Nat} {w : World} {s : Value} {l : List PNode} (h : NodesAt n₀ w s l) (hr : (idsOf l).Pairwise (· < ·)) {x : PNode} (hx : x ∈ l) :
    ∃ p b off cap, placeOf l x.id = ((p : Nat) : Int) ∧ p < l.length ∧ s = .slice (some ⟨b, off, none⟩) l.length cap ∧ b < n₀ ∧ NodeAt n₀ w b (off + p * 5) x := by
  obtain ⟨p, hp, hpl, hpi, -⟩ := placeOf_lt (List.mem_map.2 ⟨x, hx, rfl⟩)
  obtain ⟨a, cap, rfl, hk⟩ := h
  obtain ⟨b, off, rfl, hb, hc⟩ := hk.resolve_left (by intro e; simp [e] at hpl)
  refine ⟨p, b, off, cap, hp, hpl, rfl, hb, ?_⟩
  have he : l[p]?.getD nodeNil = x := by
    have h1 := nodeOf_of hr (x := l[p]?.getD nodeNil) (by simp [hpl])
    rw [hpi, nodeOf_of hr hx] at h1
    exact h1.symm
  have := hc p hpl
  rwa [he] at this

/-- What is known behind the question where a node lies. -/
def LikeFacts (n : Nat) (W w1 wx : World) (rt nx rt' nx' : Int) (l l' : List PNode) (b off cap b' off' cap' bn on : Nat) (x : PNode) (kv : Value) : Prop :=
  Below W.heap.size W w1 ∧ Below wx.heap.size wx w1 ∧
  w1.cell? ⟨n, 0, none⟩ = some (.int .i64 rt) ∧ w1.cell? ⟨n, 1, none⟩ = some (.int .i64 nx) ∧ w1.cell? ⟨n, 2, none⟩ = some (.slice (some ⟨b, off, none⟩) l.length cap) ∧
  w1.cell? ⟨n + 1, 0, none⟩ = some (.int .i64 rt') ∧ w1.cell? ⟨n + 1, 1, none⟩ = some (.int .i64 nx') ∧ w1.cell? ⟨n + 1, 2, none⟩ = some (.slice (some ⟨b', off', none⟩) l'.length cap') ∧
  w1.cell? ⟨bn, on, none⟩ = some (.int .i64 x.id) ∧ w1.cell? ⟨bn, on + 1, none⟩ = some (.int .i64 x.kind) ∧ w1.cell? ⟨bn, on + 2, none⟩ = some (.int .i64 x.attr) ∧ w1.cell? ⟨bn, on + 3, none⟩ = some (.string x.text) ∧ w1.cell? ⟨bn, on + 4, none⟩ = some kv ∧
  bn < w1.heap.size ∧ n < w1.heap.size ∧ n + 1 < w1.heap.size

/-- Five new cells behind a call. -/
theorem five_cells {W w1 : World} {a0 a1 a2 a3 a4 : Value} {t : TypeId} (hb : Below (W.drew.alloc (.cells #[a0, a1, a2, a3, a4] t)).heap.size (W.drew.alloc (.cells #[a0, a1, a2, a3, a4] t)) w1) :
    w1.cell? ⟨W.heap.size, 0, none⟩ = some a0 ∧ w1.cell? ⟨W.heap.size, 1, none⟩ = some a1 ∧ w1.cell? ⟨W.heap.size, 2, none⟩ = some a2 ∧ w1.cell? ⟨W.heap.size, 3, none⟩ = some a3 ∧ w1.cell? ⟨W.heap.size, 4, none⟩ = some a4 ∧
    w1.frozen? ⟨W.heap.size, 0, none⟩ = false ∧ w1.frozen? ⟨W.heap.size, 1, none⟩ = false ∧ w1.frozen? ⟨W.heap.size, 2, none⟩ = false ∧ w1.frozen? ⟨W.heap.size, 3, none⟩ = false ∧ w1.frozen? ⟨W.heap.size, 4, none⟩ = false ∧
    w1.heap[W.heap.size]? = some (.cells #[a0, a1, a2, a3, a4] t) := by
  have hh : w1.heap[W.heap.size]? = some (.cells #[a0, a1, a2, a3, a4] t (0, 0)) := (hb.block W.heap.size (by simp)).trans (alloc_new W.drew _)
  exact ⟨cell_of_heap hh 0, cell_of_heap hh 1, cell_of_heap hh 2, cell_of_heap hh 3, cell_of_heap hh 4, frozen_of_heap hh 0, frozen_of_heap hh 1, frozen_of_heap hh 2, frozen_of_heap hh 3, frozen_of_heap hh 4, hh⟩

theorem boxed_new {n : Nat} {W w1 : World} {x : PNode} {a0 kv : Value} {t : TypeId} (hn : n ≤ W.heap.size) (hb : Below W.heap.size W w1) :
    Boxed n (w1.alloc (.cells #[a0, .int .i64 x.kind, .int .i64 x.attr, .string x.text, kv] t)) (.pointer (some ⟨w1.heap.size, 0, none⟩)) x kv ∧ Below W.heap.size W (w1.alloc (.cells #[a0, .int .i64 x.kind, .int .i64 x.attr, .string x.text, kv] t)) := by
  have hh := alloc_new w1 (.cells #[a0, .int .i64 x.kind, .int .i64 x.attr, .string x.text, kv] t)
  have := hb.size
  exact ⟨⟨_, rfl, by omega, by simp, cell_of_heap hh 1, cell_of_heap hh 2, cell_of_heap hh 3, cell_of_heap hh 4⟩, hb.alloc hb.size _⟩

theorem boxed_set {n : Nat} {W w1 : World} {x : PNode} {a b0 b1 b2 b3 b4 kv : Value} {t : TypeId} (hn : n ≤ W.heap.size) (hb : Below W.heap.size W w1) (hh : w1.heap[W.heap.size]? = some (.cells #[b0, b1, b2, b3, b4] t)) :
    Boxed n (((((w1.setCell ⟨W.heap.size, 0, none⟩ a).setCell ⟨W.heap.size, 1, none⟩ (.int .i64 x.kind)).setCell ⟨W.heap.size, 2, none⟩ (.int .i64 x.attr)).setCell ⟨W.heap.size, 3, none⟩ (.string x.text)).setCell ⟨W.heap.size, 4, none⟩ kv) (.pointer (some ⟨W.heap.size, 0, none⟩)) x kv ∧
      Below W.heap.size W (((((w1.setCell ⟨W.heap.size, 0, none⟩ a).setCell ⟨W.heap.size, 1, none⟩ (.int .i64 x.kind)).setCell ⟨W.heap.size, 2, none⟩ (.int .i64 x.attr)).setCell ⟨W.heap.size, 3, none⟩ (.string x.text)).setCell ⟨W.heap.size, 4, none⟩ kv) := by
  have h5 := (five_world w1 W.heap.size 0 a (.int .i64 x.kind) (.int .i64 x.attr) (.string x.text) kv hh).1
  simp only [Nat.zero_add] at h5
  have hB := ((((hb.setCell (p := ⟨W.heap.size, 0, none⟩) (Nat.le_refl _) a).setCell (p := ⟨W.heap.size, 1, none⟩) (Nat.le_refl _) (.int .i64 x.kind)).setCell (p := ⟨W.heap.size, 2, none⟩) (Nat.le_refl _) (.int .i64 x.attr)).setCell (p := ⟨W.heap.size, 3, none⟩) (Nat.le_refl _) (.string x.text)).setCell (p := ⟨W.heap.size, 4, none⟩) (Nat.le_refl _) kv
  exact ⟨⟨_, rfl, hn, (Array.getElem?_eq_some_iff.1 h5).1, cell_of_heap h5 1, cell_of_heap h5 2, cell_of_heap h5 3, cell_of_heap h5 4⟩, hB⟩

set_option maxHeartbeats 4000000 in
set_option maxRecDepth 100000 in
theorem specLike_any (n₀ : Nat) (rt nx rt' nx' : Int) (s s' : Value) (l l' : List PNode) (hl : l.length ≤ 1048576) (hl' : l'.length ≤ 1048576) (Wk : Walkable l) (Wk' : Walkable l') :
    ∀ (h : Nat) (i k : Int) (w : World), n₀ ≤ w.heap.size → i ∈ idsOf l → k ∈ idsOf l' → Low l h i → NodesAt n₀ w s l → NodesAt n₀ w s' l' → ∀ r : Bool, (r = true ↔ Like l l' h i k) →
      Calls Try.prog 66 #[.agg #[.int .i64 rt, .int .i64 nx, s], .agg #[.int .i64 rt', .int .i64 nx', s'], .int .i64 i, .int .i64 k] w fun e W' => e = .returned (.bool r) ∧ Below w.heap.size w W' := by
  intro h
  induction h with
  | zero => intro i k w _ _ _ hl; exact hl.elim
  | succ h ih =>
    intro i k w hn hi hk hlow hN hN' r hr
    obtain ⟨x, hx, rfl⟩ := node_of hi
    obtain ⟨y, hy, rfl⟩ := node_of hk
    rw [Like, nodeOf_of Wk.rise hx, nodeOf_of Wk'.rise hy] at hr
    obtain ⟨p, b, off, cap, hp, hpl, rfl, hb, hA⟩ := place_node hN Wk.rise hx
    obtain ⟨p', b', off', cap', hp', hpl', rfl, hb', hA'⟩ := place_node hN' Wk'.rise hy
    have g0 := hA.c0
    have g1 := hA.c1
    have g2 := hA.c2
    have g3 := hA.c3
    have f0 := hA'.c0
    have f1 := hA'.c1
    have f2 := hA'.c2
    have f3 := hA'.c3
    obtain ⟨kv, g4, hi4⟩ := hA.c4
    obtain ⟨kv', f4, hi4'⟩ := hA'.c4
    have hI := hi4
    have hI' := hi4'
    obtain ⟨ak, ck, rfl, -⟩ := hi4
    obtain ⟨ak', ck', rfl, -⟩ := hi4'
    have hpl1 : (p : Int) < (l.length : Int) := by omega
    have hpl1' : (p' : Int) < (l'.length : Int) := by omega
    have hbw : b < w.heap.size := by omega
    have hbw' : b' < w.heap.size := by omega
    have HAt : Hid (∀ w1, Below w.heap.size w w1 → Calls Try.prog 54 #[.agg #[.int .i64 rt, .int .i64 nx, .slice (some ⟨b, off, none⟩) l.length cap], .int .i64 x.id] w1 fun e w' => e = .returned (.int .i64 p) ∧ Below w1.heap.size w1 w') := fun w1 hb1 => by
      rw [← hp]; exact specAt_any n₀ rt nx _ l x.id w1 (hN.below (Nat.le_refl _) (hb1.mono hn)) (by have := hb1.size; omega) hl
    have HAt' : Hid (∀ w1, Below w.heap.size w w1 → Calls Try.prog 54 #[.agg #[.int .i64 rt', .int .i64 nx', .slice (some ⟨b', off', none⟩) l'.length cap'], .int .i64 y.id] w1 fun e w' => e = .returned (.int .i64 p') ∧ Below w1.heap.size w1 w') := fun w1 hb1 => by
      rw [← hp']; exact specAt_any n₀ rt' nx' _ l' y.id w1 (hN'.below (Nat.le_refl _) (hb1.mono hn)) (by have := hb1.size; omega) hl'
    have HWk := hide Wk
    have HWk' := hide Wk'
    have IH := hide ih
    have HN := hide hN
    have HN' := hide hN'
    have HLow := hide hlow
    have HR := hide hr
    have HX := hide hx
    have HY := hide hy
    have HI := hide hI
    have HI' := hide hI'
    clear hr ih hlow hN hN' hA hA' hp hp' hi hk hx hy Wk Wk' hI hI'
    have hW2 := ((Below.refl w.heap.size w).alloc (Nat.le_refl _) (.cells #[.int .i64 rt, .int .i64 nx, .slice (some ⟨b, off, none⟩) l.length cap] 24)).alloc (by simp) (.cells #[.int .i64 rt', .int .i64 nx', .slice (some ⟨b', off', none⟩) l'.length cap'] 24)
    have T2 := twoIn_new w (.int .i64 rt) (.int .i64 nx) (.slice (some ⟨b, off, none⟩) l.length cap) (.int .i64 rt') (.int .i64 nx') (.slice (some ⟨b', off', none⟩) l'.length cap') 24 24
    go_enter Try.func66, Try.ntmps66
    go_wp2_with fail
    generalize hWe : ((w.alloc (.cells #[.int .i64 rt, .int .i64 nx, .slice (some ⟨b, off, none⟩) l.length cap] 24)).alloc (.cells #[.int .i64 rt', .int .i64 nx', .slice (some ⟨b', off', none⟩) l'.length cap'] 24)) = W at *
    clear hWe
    have hWs := hW2.size
    have hlt2 := T2.lt
    have hlt1 : w.heap.size < W.heap.size := by omega
    have hltb : b < W.heap.size := by omega
    have hltb' : b' < W.heap.size := by omega
    obtain ⟨x0, x1, x2, y0, y1, y2⟩ := T2.at (Below.refl _ _)
    have hcb := fun o => hW2.cell (p := ⟨b, o, none⟩) hbw
    have hcb' := fun o => hW2.cell (p := ⟨b', o, none⟩) hbw'
    have HG : Hid (∀ wc, Below W.heap.size W wc → wc.cell? ⟨b, off + p * 5, none⟩ = some (.int .i64 x.id) ∧ wc.cell? ⟨b, off + p * 5 + 1, none⟩ = some (.int .i64 x.kind) ∧ wc.cell? ⟨b, off + p * 5 + 2, none⟩ = some (.int .i64 x.attr) ∧ wc.cell? ⟨b, off + p * 5 + 3, none⟩ = some (.string x.text) ∧ wc.cell? ⟨b, off + p * 5 + 4, none⟩ = some (.slice ak x.kids.length ck)) := fun wc hbc => by
      have h0 := fun o => (hbc.cell (p := ⟨b, o, none⟩) (show b < _ by omega)).trans (hcb o)
      exact ⟨(h0 _).trans g0, (h0 _).trans g1, (h0 _).trans g2, (h0 _).trans g3, (h0 _).trans g4⟩
    have HGo : Hid (∀ wx, Below W.heap.size W wx → Calls Try.prog 54 #[.agg #[.int .i64 rt, .int .i64 nx, .slice (some ⟨b, off, none⟩) l.length cap], .int .i64 x.id] wx fun e w1 => e = .returned (.int .i64 p) ∧ LikeFacts w.heap.size W w1 wx rt nx rt' nx' l l' b off cap b' off' cap' b (off + p * 5) x (.slice ak x.kids.length ck)) := fun wx hbx =>
      (HAt.out wx (hW2.trans (hbx.mono (by omega)))).mono fun e w1 ⟨he, hb1⟩ => by
        have hs := hbx.size
        have hbw1 := hbx.trans (hb1.mono hs)
        have hs2 := hbw1.size
        obtain ⟨z0, z1, z2, z3, z4, z5⟩ := T2.at hbw1
        obtain ⟨k0, k1, k2, k3, k4⟩ := HG.out w1 hbw1
        exact ⟨he, hbw1, hb1, z0, z1, z2, z3, z4, z5, k0, k1, k2, k3, k4, by omega, by omega, by omega⟩
    clear hcb hcb'
    go_cut [9] (fun v9 wc => Boxed W.heap.size wc v9 x (.slice ak x.kids.length ck) ∧ Below W.heap.size W wc)
    case first =>
      go_region_with (go_at_call 54; first
        | (refine (HGo.out _ ((Below.refl _ _).drew)).mono ?_; rintro e w1 ⟨rfl, hbw1, hb1, z0, z1, z2, z3, z4, z5, k0, k1, k2, k3, k4, l1, l2, l3⟩)
        | (refine (HGo.out _ (((Below.refl _ _).drew).alloc (by simp) _)).mono ?_; rintro e w1 ⟨rfl, hbw1, hb1, z0, z1, z2, z3, z4, z5, k0, k1, k2, k3, k4, l1, l2, l3⟩; obtain ⟨m0, m1, m2, m3, m4, n0, n1, n2, n3, n4, hfive⟩ := five_cells hb1))
      all_goals
        go_wp2_with fail
        go_meet
        first
        | (with_reducible refine boxed_new ?_ hbw1; exact Nat.le_refl _)
        | (with_reducible refine boxed_set ?_ hbw1 hfive; exact Nat.le_refl _)
    case rest =>
      obtain ⟨hbox, hbc⟩ := hcut
      have hsc := hbc.size
      obtain ⟨wx1, hwx1⟩ : ∃ wx1, wx1 = wc := ⟨_, rfl⟩
      have HBox := hide hbox
      clear x0 x1 x2 y0 y1 y2 HGo HG hbox
      obtain ⟨x0, x1, x2, y0, y1, y2⟩ := T2.at hbc
      have hlt3 : w.heap.size < wc.heap.size := by omega
      have hlt4 : w.heap.size + 1 < wc.heap.size := by omega
      have HGo : Hid (∀ wx, Below wc.heap.size wc wx → Calls Try.prog 54 #[.agg #[.int .i64 rt', .int .i64 nx', .slice (some ⟨b', off', none⟩) l'.length cap'], .int .i64 y.id] wx fun e w1 => e = .returned (.int .i64 p') ∧ LikeFacts w.heap.size wc w1 wx rt nx rt' nx' l l' b off cap b' off' cap' b' (off' + p' * 5) y (.slice ak' y.kids.length ck')) := fun wx hbx =>
        (HAt'.out wx (hW2.trans ((hbc.trans (hbx.mono hsc)).mono (by omega)))).mono fun e w1 ⟨he, hb1⟩ => by
          have hs := hbx.size
          have hbw1 := hbx.trans (hb1.mono hs)
          have hs2 := hbw1.size
          obtain ⟨z0, z1, z2, z3, z4, z5⟩ := T2.at (hbc.trans (hbw1.mono hsc))
          have h0 := fun o => ((hW2.trans ((hbc.trans (hbw1.mono hsc)).mono (by omega))).cell (p := ⟨b', o, none⟩) hbw')
          exact ⟨he, hbw1, hb1, z0, z1, z2, z3, z4, z5, (h0 _).trans f0, (h0 _).trans f1, (h0 _).trans f2, (h0 _).trans f3, (h0 _).trans f4, by omega, by omega, by omega⟩
      go_wp2_with fail
      go_cut [10] (fun v10 wd => Boxed wx1.heap.size wd v10 y (.slice ak' y.kids.length ck') ∧ Below wx1.heap.size wx1 wd)
      case first =>
        subst hwx1
        go_region_with (go_at_call 54; first
          | (refine (HGo.out _ ((Below.refl _ _).drew)).mono ?_; rintro e w1 ⟨rfl, hbw1, hb1, z0, z1, z2, z3, z4, z5, k0, k1, k2, k3, k4, l1, l2, l3⟩)
          | (refine (HGo.out _ (((Below.refl _ _).drew).alloc (by simp) _)).mono ?_; rintro e w1 ⟨rfl, hbw1, hb1, z0, z1, z2, z3, z4, z5, k0, k1, k2, k3, k4, l1, l2, l3⟩; obtain ⟨m0, m1, m2, m3, m4, n0, n1, n2, n3, n4, hfive⟩ := five_cells hb1))
        all_goals
          go_wp2_with fail
          go_meet
          first
          | (with_reducible refine boxed_new ?_ hbw1; exact Nat.le_refl _)
          | (with_reducible refine boxed_set ?_ hbw1 hfive; exact Nat.le_refl _)
      case rest =>
        obtain ⟨hbox2, hbd⟩ := hcut
        subst hwx1
        have hsd := hbd.size
        have HBox1 := HBox.out.below hbd
        obtain ⟨b1, rfl, hb1a, hb1b, p1, p2, p3, p4⟩ := HBox1
        obtain ⟨b2, rfl, hb2a, hb2b, q1, q2, q3, q4⟩ := hbox2
        have hbW := hbc.trans (hbd.mono hsc)
        have hbw2 := hW2.trans (hbW.mono (by omega))
        clear x0 x1 x2 y0 y1 y2 HGo HBox g0 g1 g2 g3 g4 f0 f1 f2 f3 f4
        obtain ⟨x0, x1, x2, y0, y1, y2⟩ := T2.at hbW
        obtain ⟨rj, hrj⟩ : ∃ rj : Nat → Bool, ∀ n, rj n = true ↔ Like l l' h (x.kids[n]?.getD 0) (y.kids[n]?.getD 0) := by classical exact ⟨fun n => decide (Like l l' h (x.kids[n]?.getD 0) (y.kids[n]?.getD 0)), fun n => by simp⟩
        have HRj := hide hrj
        have hkx := HWk.out.kl x HX.out
        have hky := HWk'.out.kl y HY.out
        have HR' : Hid (r = true ↔ x.kind = y.kind ∧ x.attr = y.attr ∧ x.text = y.text ∧ x.kids.length = y.kids.length ∧ ∀ j, j < x.kids.length → rj j = true) := by
          unfold Hid; rw [HR.out]; simp only [hrj]
        have HKX : Hid (∀ j, j < x.kids.length → x.kids[j]?.getD 0 ∈ idsOf l ∧ Low l h (x.kids[j]?.getD 0)) := fun j hj => by
          have hm : x.kids[j]?.getD 0 ∈ x.kids := by rw [List.getElem?_eq_getElem hj]; exact List.getElem_mem hj
          exact ⟨HWk.out.th _ (List.mem_flatMap.2 ⟨x, HX.out, hm⟩), HLow.out _ (by rw [kidsAt_of HWk.out.rise HX.out]; exact hm)⟩
        have HKY : Hid (∀ j, j < y.kids.length → y.kids[j]?.getD 0 ∈ idsOf l') := fun j hj => by
          have hm : y.kids[j]?.getD 0 ∈ y.kids := by rw [List.getElem?_eq_getElem hj]; exact List.getElem_mem hj
          exact HWk'.out.th _ (List.mem_flatMap.2 ⟨y, HY.out, hm⟩)
        clear hrj HR HLow HX HY HAt HAt'
        obtain ⟨xi, xk, xa, xt, xs⟩ := x
        obtain ⟨yi, yk, ya, yt, ys⟩ := y
        dsimp only at *
        by_cases h1 : xk = yk
        · subst h1
          by_cases h2 : xa = ya
          · subst h2
            by_cases h3 : xt = yt
            · subst h3
              have hs : (xt.toList == xt.toList) = true := by simp
              by_cases hle : xs.length = ys.length
              · have hle1 : ((xs.length : Int) != (ys.length : Int)) = false := by simp [hle]
                have HL := hide hle
                clear hle
                go_wp2_with fail
                go_loopw [11] (fun j wr => ∃ m : Nat, m ≤ xs.length ∧ j = .int .i64 m ∧ Hid (∀ n, n < m → rj n = true) ∧ Below wc.heap.size wc wr) (fun j _ => xs.length - (intOf j).toNat)
                case atStart => exact ⟨0, Nat.zero_le _, rfl, fun j hj => absurd hj (by omega), Below.refl _ _⟩
                case round =>
                  obtain ⟨m, hm, rfl, hsame, hbr⟩ := hrel
                  have hsr := hbr.size
                  have hbWr := hbW.trans (hbr.mono (by omega))
                  have hbwr := hbw2.trans (hbr.mono (by omega))
                  have o4 := (hbr.cell (p := ⟨b1, 4, none⟩) hb1b).trans p4
                  have s4 := (hbr.cell (p := ⟨b2, 4, none⟩) hb2b).trans q4
                  have lb1 : b1 < wr.heap.size := by omega
                  have lb2 : b2 < wr.heap.size := by omega
                  have lb3 : w.heap.size < wr.heap.size := by omega
                  have lb4 : w.heap.size + 1 < wr.heap.size := by omega
                  clear x0 x1 x2 y0 y1 y2 p1 p2 p3 p4 q1 q2 q3 q4
                  obtain ⟨x0, x1, x2, y0, y1, y2⟩ := T2.at hbWr
                  by_cases hlt : m < xs.length
                  · have hlt' : m < ys.length := by rw [← HL.out]; exact hlt
                    obtain ⟨ga, gc, ge, gk⟩ := HI.out.below (Nat.le_refl _) (hbwr.mono hn)
                    obtain ⟨ga', gc', ge', gk'⟩ := HI'.out.below (Nat.le_refl _) (hbwr.mono hn)
                    cases ge
                    cases ge'
                    obtain ⟨bk, ok, rfl, hbk, hck⟩ := gk.resolve_left (by intro e; simp [e] at hlt)
                    obtain ⟨bk', ok', rfl, hbk', hck'⟩ := gk'.resolve_left (by intro e; simp [e] at hlt')
                    have hcm := hck m hlt
                    have hcm' := hck' m hlt'
                    have lb5 : bk < wr.heap.size := by omega
                    have lb6 : bk' < wr.heap.size := by omega
                    have hlt1 : (m : Int) < (xs.length : Int) := by omega
                    have hlt1' : (m : Int) < (ys.length : Int) := by omega
                    have hkx' := HKX.out m hlt
                    have HE : Hid (∀ t : Calm wr, Calls Try.prog 66 #[.agg #[.int .i64 rt, .int .i64 nx, .slice (some ⟨b, off, none⟩) l.length cap], .agg #[.int .i64 rt', .int .i64 nx', .slice (some ⟨b', off', none⟩) l'.length cap'], .int .i64 (xs[m]?.getD 0), .int .i64 (ys[m]?.getD 0)] t.out fun e W' => e = .returned (.bool (rj m)) ∧ Below t.out.heap.size t.out W') := fun t => by
                      have hbt : Below n₀ w t.out := (hbwr.mono hn).trans (t.below.mono (by omega))
                      exact IH.out _ _ t.out (by have := t.below.size; omega) hkx'.1 (HKY.out m hlt') hkx'.2 (HN.out.below (Nat.le_refl _) hbt) (HN'.out.below (Nat.le_refl _) hbt) (rj m) (HRj.out m)
                    have HRm : Hid (r = true → rj m = true) := fun e => (HR'.out.1 e).2.2.2.2 m hlt
                    have hcal := calm_cell wr
                    clear hck hck' gk gk' hkx'
                    generalize xs[m]?.getD 0 = u at *
                    generalize ys[m]?.getD 0 = u' at *
                    cases hrk : rj m with
                    | true =>
                      rw [hrk] at HE
                      go_wp2_with fail
                      refine wp_region_calm (by kernel_rfl) (by kernel_rfl) ?_
                      repeat (go_big_quiet_step ((go_at_call 66; exact calm_of (HE.out _))))
                      refine wpQuiet_nil ?_
                      rintro _ ⟨t, rfl⟩
                      have ht := t.below
                      go_wp2_with fail
                      refine ⟨⟨m + 1, by omega, by go_num, fun j hj => ?_, hbr.trans (ht.mono hsr)⟩, by simp [intOf]; omega⟩
                      rcases Nat.lt_succ_iff_lt_or_eq.1 hj with h | rfl
                      · exact hsame.out j h
                      · exact hrk
                    | false =>
                      rw [hrk] at HE HRm
                      have hf : Hid (r = false) := by
                        cases r with
                        | false => rfl
                        | true => have := HRm.out rfl; cases this
                      go_wp2_with fail
                      refine wp_region_calm (by kernel_rfl) (by kernel_rfl) ?_
                      repeat (go_big_quiet_step ((go_at_call 66; exact calm_of (HE.out _))))
                      refine wpQuiet_nil ?_
                      rintro _ ⟨t, rfl⟩
                      have ht := t.below
                      go_wp2_with fail
                      go_ret
                      exact ⟨ret_bool hf.out.symm, hbwr.trans (ht.mono (by omega))⟩
                  · have ht : Hid (r = true) := HR'.out.2 ⟨by trivial, by trivial, by trivial, HL.out, fun j hj => hsame.out j (by omega)⟩
                    go_wp2_with fail
                    go_ret
                    exact ⟨ret_bool ht.out.symm, hbwr⟩
              · have hf : Hid (r = false) := not_true HR'.out (fun e => hle e.2.2.2.1)
                have hle1 : ((xs.length : Int) != (ys.length : Int)) = true := by simp; omega
                clear hle
                go_wp2_with fail
                go_ret
                exact ⟨ret_bool hf.out.symm, hbw2⟩
            · have hf : Hid (r = false) := not_true HR'.out (fun e => h3 e.2.2.1)
              have hs := text_ne h3
              clear h3
              go_wp2_with fail
              go_ret
              exact ⟨ret_bool hf.out.symm, hbw2⟩
          · have hf : Hid (r = false) := not_true HR'.out (fun e => h2 e.2.1)
            have hne := (int_ne h2).2
            clear h2
            go_wp2_with fail
            go_ret
            exact ⟨ret_bool hf.out.symm, hbw2⟩
        · have hf : Hid (r = false) := not_true HR'.out (fun e => h1 e.1)
          have hne := (int_ne h1).2
          clear h1
          go_wp2_with fail
          go_ret
          exact ⟨ret_bool hf.out.symm, hbw2⟩
end Go.Proofs.Ytigkjljknmojhaa
