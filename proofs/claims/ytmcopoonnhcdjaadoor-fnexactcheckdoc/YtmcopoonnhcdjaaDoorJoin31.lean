/-
  The order of nodes, as the specification reckons it.
  CheckDoc: what the specification answers.
-/
import Derived.Test.YtmcopoonnhcdjaaDoorJoin2
import Derived.Test.YtmcopoonnhcdjaaDoorJoin13
import Derived.Test.YtmcopoonnhcdjaaDoorJoin15
import Derived.Deep.RegionLaw
import Derived.Deep.AppendLies
import Derived.Test.YtmcopoonnhcdjaaDoorJoin30
import Derived.Deep.RegionHeld3
namespace Go.Proofs.YtmcopoonnhcdjaaDoor
open Go.RowKit

theorem step_call {P : Program} {ops : Array Oper} {o : Oper} {a : Act} {w : World} {K : Act → World → Prop} {Q : Exit → Act → World → Prop} {E : Prop}
    (hg : o.guard = none) (f : FuncId) (args : Array Value) (hrun : (execOp a.eval o).run P w = .ok (.enter f args) w) (R : Ending → World → Prop)
    (hc : Calls P f args w R) (hK : ∀ e w', R e w' → ∃ v, e = .returned v ∧ K (a.put o.dst v) w') :
    if Region.wanted o (yielded ops a.tmps) = true then Oper.wp P o a w K Q else E := by
  have hw : Region.wanted o (yielded ops a.tmps) = true := by simp [Region.wanted, hg]
  rw [if_pos hw]
  unfold Oper.wp
  rw [hrun, Oper.upon_enter]
  refine hc.mono fun e w' h => ?_
  obtain ⟨v, rfl, h2⟩ := hK e w' h
  exact h2

theorem flatMap_len {α β : Type} {f : α → List β} {ks : List α} {k : α} (h : k ∈ ks) : (f k).length ≤ (ks.flatMap f).length := by
  induction ks with
  | nil => simp at h
  | cons x ks ih =>
    simp only [List.flatMap_cons, List.length_append]
    rcases List.mem_cons.1 h with rfl | h
    · omega
    · have := ih h; omega

theorem flatMap_take_len {α β : Type} {f : α → List β} (ks : List α) (m : Nat) : ((ks.take m).flatMap f).length ≤ (ks.flatMap f).length := by
  rw [← List.take_append_drop m ks]
  simp only [List.flatMap_append, List.length_append]
  rw [List.take_append_drop]
  omega

/-- A list of its own, that is not empty. -/
def OrdPost (w : World) (ks : List Int) (e : Ending) (w' : World) : Prop :=
  ∃ g cap, e = .returned (.slice (some ⟨g, 0, none⟩) ks.length cap) ∧ w'.ownsRow w.heap.size 3 1 (.slice (some ⟨g, 0, none⟩) ks.length cap) ks.length (ks.map (Value.int .i64)) ∧ Below w.heap.size w w'

set_option maxHeartbeats 4000000 in
set_option maxRecDepth 100000 in
theorem specOrder_any (l : List PNode) (n₀ : Nat) (rt nx : Int) (hl : l.length ≤ 1048576) (hkl : ∀ x ∈ l, x.kids.length ≤ 1048576) (hth : ∀ i ∈ idsOf l, ∀ k ∈ kidsAt l i, k ∈ idsOf l) :
    ∀ (h : Nat) (i : Int) (s : Value) (w : World), NodesAt n₀ w s l → n₀ ≤ w.heap.size → i ∈ idsOf l → Low l h i → (order l h i).length ≤ 1048576 →
      Calls Tryd.prog 74 #[.agg #[.int .i64 rt, .int .i64 nx, s], .int .i64 i] w (OrdPost w (order l h i))
  | 0, i, s, w, hN, hn, hi, hlow, hlen => hlow.elim
  | h + 1, i, s, w, hN, hn, hi, hlow, hlen => by
    obtain ⟨i0, hinf, hz0, hz1, hz2⟩ := info_parts specInfoInt'
    obtain ⟨p, hp, hpl, hpi, hpk⟩ := placeOf_lt hi
    have HRec : Hid (∀ k ∈ kidsAt l i, ∀ wx, NodesAt n₀ wx s l → n₀ ≤ wx.heap.size → Calls Tryd.prog 74 #[.agg #[.int .i64 rt, .int .i64 nx, s], .int .i64 k] wx (OrdPost wx (order l h k))) := fun k hk wx h1 h2 =>
      specOrder_any l n₀ rt nx hl hkl hth h k s wx h1 h2 (hth i hi k hk) (hlow k hk) (by
        have := flatMap_len (f := order l h) hk
        simp only [order, List.length_cons] at hlen; omega)
    have HPo : Hid (∀ k ∈ kidsAt l i, 0 < (order l h k).length) := fun k hk => by
      have := hlow k hk
      cases h with
      | zero => exact this.elim
      | succ h => simp [order]
    have hkk := hkl (l[p]?.getD nodeNil) (by simp [hpl])
    have HLen : Hid (∀ m, (i :: ((kidsAt l i).take m).flatMap (order l h)).length ≤ 1048576) := fun m => by
      have := flatMap_take_len (f := order l h) (kidsAt l i) m
      simp only [order, List.length_cons] at hlen ⊢; omega
    have HN := hide hN
    obtain ⟨a, cap, rfl, hk'⟩ := hN
    obtain ⟨b, off, rfl, hb, hc⟩ := hk'.resolve_left (by intro e; simp [e] at hpl)
    have hbw : b < w.heap.size := by omega
    obtain ⟨kv, g4, hik⟩ := (hc p hpl).c4
    rw [hpk] at HRec HLen HPo
    have HO : Hid (order l (h + 1) i = i :: ((l[p]?.getD nodeNil).kids).flatMap (order l h)) := by rw [Hid, order, hpk]
    clear hk' hc hkl hth hi hlow hlen hpi hpk
    obtain ⟨ak, ck, rfl, hka⟩ := hik
    generalize (l[p]?.getD nodeNil).kids = ks at *
    generalize hord : order l (h + 1) i = os at *
    have HOs := hide hord
    clear hord
    obtain ⟨W1, hW1⟩ : ∃ W1, W1 = w.alloc (.cells #[.int .i64 rt, .int .i64 nx, .slice (some ⟨b, off, none⟩) l.length cap] 33) := ⟨_, rfl⟩
    have hW1s : W1.heap.size = w.heap.size + 1 := by rw [hW1]; simp
    have hW1b : Below w.heap.size w W1 := by rw [hW1]; exact (Below.refl _ _).alloc (Nat.le_refl _) _
    have bh : W1.heap[w.heap.size]? = some (.cells #[.int .i64 rt, .int .i64 nx, .slice (some ⟨b, off, none⟩) l.length cap] 33 (0, 0)) := by rw [hW1]; exact alloc_new w _
    obtain ⟨W2, hW2⟩ : ∃ W2, W2 = W1.alloc (.cells #[.int .i64 i] 3) := ⟨_, rfl⟩
    have hW2s : W2.heap.size = w.heap.size + 1 + 1 := by rw [hW2]; simp [hW1s]
    have hW2b : Below W1.heap.size W1 W2 := by rw [hW2]; exact (Below.refl _ _).alloc (Nat.le_refl _) _
    have HRow : Hid (W2.ownsRow (w.heap.size + 1) 3 1 (.slice (some ⟨w.heap.size + 1, 0, none⟩) 1 1) 1 [.int .i64 i]) := by
      have := row_one W1 (w.heap.size + 1) (by omega) i
      rw [Hid, hW2]; rw [hW1s] at this; exact this
    have HAt : Hid (∀ t : Calm W2, Calls Tryd.prog 39 #[.agg #[.int .i64 rt, .int .i64 nx, .slice (some ⟨b, off, none⟩) l.length cap], .int .i64 i] t.out fun e w'' => e = .returned (.int .i64 (p : Int)) ∧ Below t.out.heap.size t.out w'') := fun t => by
      have := specAt_any n₀ rt nx _ l i t.out (HN.out.below (Nat.le_refl _) ((hW1b.mono hn).trans ((hW2b.mono (by omega)).trans (t.below.mono (by omega))))) (by have := t.below.size; omega) hl
      rw [hp] at this
      exact this
    have hw2 : Below w.heap.size w W2 := hW1b.trans (hW2b.mono (by omega))
    have c0 : W2.cell? ⟨w.heap.size, 0, none⟩ = some (.int .i64 rt) := (hW2b.cell (p := ⟨w.heap.size, 0, none⟩) (by simp; omega)).trans (cell_of_heap bh 0)
    have c1 : W2.cell? ⟨w.heap.size, 1, none⟩ = some (.int .i64 nx) := (hW2b.cell (p := ⟨w.heap.size, 1, none⟩) (by simp; omega)).trans (cell_of_heap bh 1)
    have c2 : W2.cell? ⟨w.heap.size, 2, none⟩ = some (.slice (some ⟨b, off, none⟩) l.length cap) := (hW2b.cell (p := ⟨w.heap.size, 2, none⟩) (by simp; omega)).trans (cell_of_heap bh 2)
    have g4' := (hw2.cell (p := ⟨b, off + p * 5 + 4, none⟩) hbw).trans g4
    have hz1 : w.heap.size < W2.heap.size := by omega
    have hz2' : b < W2.heap.size := by omega
    have hpl1 : (p : Int) < (l.length : Int) := by omega
    have hcal := calm_cell W2
    have HW1s := hide hW1s
    have HW2s := hide hW2s
    clear hp hW1s hW2s
    go_enter Tryd.func74, Tryd.ntmps74
    go_wp2_with fail
    rw [← hW1, ← hW2]
    clear hW1 hW2
    go_cut [6] (fun v6 wc => v6 = .slice ak ks.length ck ∧ Below W2.heap.size W2 wc)
    case first =>
      refine wp_region_calm (by kernel_rfl) (by kernel_rfl) ?_
      repeat (go_big_quiet_step ((go_at_call 39; exact calm_of (HAt.out _))))
      refine wpQuiet_nil ?_
      rintro _ ⟨t, rfl⟩
      have ht := t.below
      go_wp2_with fail
      go_meet
      exact ⟨rfl, ht⟩
    case rest =>
      obtain ⟨rfl, hx⟩ := hcut
      have hxs := hx.size
      rw [HW2s.out] at hxs
      have HRow' := hide (ownsRow_below HRow.out hx)
      have hbx : Below (w.heap.size + 1) W1 wc := (hW2b.mono (by rw [HW1s.out]; omega)).trans (hx.mono (by rw [HW2s.out]; omega))
      have HBh := hide bh
      clear hcal HAt c0 c1 c2 g4' hz1 hz2' bh
      go_wp2_with fail
      go_loopw [5, 7] (fun ov jv wr => ∃ (m g c : Nat), m ≤ ks.length ∧ jv = .int .i64 m ∧ ov = .slice (some ⟨g, 0, none⟩) (i :: (ks.take m).flatMap (order l h)).length c ∧ Hid (wr.ownsRow (w.heap.size + 1) 3 1 (.slice (some ⟨g, 0, none⟩) (i :: (ks.take m).flatMap (order l h)).length c) (i :: (ks.take m).flatMap (order l h)).length ((i :: (ks.take m).flatMap (order l h)).map (Value.int .i64))) ∧ Below (w.heap.size + 1) W1 wr) (fun _ jv _ => ks.length - (intOf jv).toNat)
      case atStart => exact ⟨0, w.heap.size + 1, 1, Nat.zero_le _, rfl, rfl, HRow', hbx⟩
      case round =>
        obtain ⟨m, g, c, hml, rfl, rfl, hrow, hbr⟩ := hrel
        have hsz := hbr.size
        rw [HW1s.out] at hsz
        have hw0 : Below w.heap.size w wr := hW1b.trans (hbr.mono (by omega))
        have c0 : wr.cell? ⟨w.heap.size, 0, none⟩ = some (.int .i64 rt) := (hbr.cell (p := ⟨w.heap.size, 0, none⟩) (by simp)).trans (cell_of_heap HBh.out 0)
        have c1 : wr.cell? ⟨w.heap.size, 1, none⟩ = some (.int .i64 nx) := (hbr.cell (p := ⟨w.heap.size, 1, none⟩) (by simp)).trans (cell_of_heap HBh.out 1)
        have c2 : wr.cell? ⟨w.heap.size, 2, none⟩ = some (.slice (some ⟨b, off, none⟩) l.length cap) := (hbr.cell (p := ⟨w.heap.size, 2, none⟩) (by simp)).trans (cell_of_heap HBh.out 2)
        by_cases hlt : m < ks.length
        · obtain ⟨bk, ofk, rfl, hbk, hck⟩ := hka.resolve_left (by intro e; simp [e] at hlt)
          have ckm := (hw0.cell (p := ⟨bk, ofk + m, none⟩) (show bk < w.heap.size by omega)).trans (hck m hlt)
          have hlt1 : (m : Int) < (ks.length : Int) := by omega
          have HCall : Hid (∀ wx, Below wr.heap.size wr wx → Calls Tryd.prog 74 #[.agg #[.int .i64 rt, .int .i64 nx, .slice (some ⟨b, off, none⟩) l.length cap], .int .i64 (ks[m]?.getD 0)] wx (OrdPost wx (order l h (ks[m]?.getD 0)))) := fun wx hbx =>
            HRec.out _ (by rw [List.getElem?_eq_getElem hlt]; exact List.getElem_mem hlt) wx (HN.out.below (Nat.le_refl _) ((hw0.mono hn).trans (hbx.mono (by omega)))) (by have := hbx.size; omega)
          have HTk : Hid ((ks.take (m + 1)).flatMap (order l h) = (ks.take m).flatMap (order l h) ++ order l h (ks[m]?.getD 0)) := by
            rw [Hid, List.take_succ_eq_append_getElem hlt, List.flatMap_append]; simp [hlt, -List.take_append_getElem]
          have HL1 := hide (HLen.out (m + 1))
          have HPos : Hid (0 < (order l h (ks[m]?.getD 0)).length) := HPo.out _ (by rw [List.getElem?_eq_getElem hlt, Option.getD_some]; exact List.getElem_mem hlt)
          clear hck
          generalize ks[m]?.getD 0 = y at *
          have HLm := hide (HLen.out m)
          obtain ⟨xs, hxs'⟩ : ∃ xs, xs = i :: (ks.take m).flatMap (order l h) := ⟨_, rfl⟩
          rw [← hxs'] at hrow HLm ⊢
          have HXs := hide hxs'
          clear hxs'
          have hpos : 0 < (order l h y).length := HPos.out
          have hxl : xs.length + (order l h y).length ≤ 1048576 := by
            have h1 := HL1.out
            rw [HTk.out, ← List.cons_append, ← HXs.out, List.length_append] at h1
            exact h1
          go_wp2_with fail
          go_region_law (first
            | (refine step_append_lies _ rfl (.tmp 24) (.tmp 30) 41 rfl (w.heap.size + 1) 3 i0 (.int .i64 0) 1 8 Tryd.underlying41 hinf hz0 hz1 hz2 rfl (by decide) _ _ _ rfl hr1 ⟨g2, 0, none⟩ (order l h y).length cc2 ((order l h y).map (Value.int .i64)) rfl (by simp) (hrow2.cells rfl) (ints_one _) (hide hpos).out (by unfold maxLen; omega) (by omega) (by omega) _ rfl ?_; intro g3 cc3 w3 hrow3 hgrow hlie hlt3)
            | (go_simp; refine (HCall.out _ (Below.refl _ _).drew).mono ?_; rintro e w1 ⟨g2, cc2, rfl, hrow2, hb2⟩; have hr1 := ownsRow_below (ownsRow_below hrow.out (Below.refl _ _).drew) hb2; have hs2 := hb2.size; simp only [World.size_drew] at hs2; go_simp))
          all_goals
            have hb3 := ((hbr.drew.trans (hb2.mono (by simp; omega))).grown hgrow (by omega) (fun g' hg' => (hr1.lt g' hg').1))
            have HE : Hid (i :: (ks.take (m + 1)).flatMap (order l h) = xs ++ order l h y) := by rw [Hid, HTk.out, ← List.cons_append, ← HXs.out]
            have HRow3 : Hid (w3.ownsRow (w.heap.size + 1) 3 1 (.slice (some ⟨g3, 0, none⟩) (i :: (ks.take (m + 1)).flatMap (order l h)).length cc3) (i :: (ks.take (m + 1)).flatMap (order l h)).length ((i :: (ks.take (m + 1)).flatMap (order l h)).map (Value.int .i64))) := by
              rw [Hid, HE.out, List.length_append, List.map_append]
              exact hrow3
            clear hrow3 hgrow hr1 hrow2
            go_wp2_with fail
            exact ⟨⟨m + 1, g3, cc3, by omega, by go_num, by rw [HE.out, List.length_append], HRow3, hb3⟩, by simp [intOf]; omega⟩
        · obtain rfl : m = ks.length := by omega
          have HE : Hid (i :: (ks.take ks.length).flatMap (order l h) = os) := by rw [Hid, List.take_length, ← HO.out]
          have HRow3 : Hid (wr.ownsRow (w.heap.size + 1) 3 1 (.slice (some ⟨g, 0, none⟩) os.length c) os.length (os.map (Value.int .i64))) := by
            have := hrow.out
            rw [HE.out] at this
            exact this
          rw [HE.out]
          clear hka hrow
          go_wp2_with fail
          go_ret
          exact ⟨g, c, rfl, ownsRow_base HRow3.out (by omega), hw0⟩
end Go.Proofs.YtmcopoonnhcdjaaDoor

namespace Go.Proofs.YtmcopoonnhcdjaaDoor
open Go.RowKit

set_option maxHeartbeats 4000000 in
set_option maxRecDepth 100000 in
theorem specDoc_any (n₀ : Nat) (v : Value) (R : List PRule) (d : PDoc) (s : Value) (w : World) (hV : RulesAt n₀ w v R) (hRo : RulesRoom n₀ w v R) (hR : SmallRules R) (hN : NodesAt n₀ w s d.nodes) (hn : n₀ ≤ w.heap.size) (hP : SchemaP R) (G : Good d) (p : Int × Int) (hp : p = firstBad R d.nodes (order d.nodes d.nodes.length d.root)) :
    Calls Tryd.prog 47 #[v, .agg #[.int .i64 d.root, .int .i64 d.next, s]] w fun e w' => e = .returned (.tuple #[.int .i64 p.1, .int .i64 p.2]) ∧ Below w.heap.size w w' := by
  have F := G.toFlat
  have h40 := F.n40
  have hol := F.order_le d.nodes.length
  obtain ⟨W0, hW0⟩ : ∃ W0, W0 = w.alloc (.cells #[.int .i64 d.root, .int .i64 d.next, s] 33) := ⟨_, rfl⟩
  have hs0 : W0.heap.size = w.heap.size + 1 := by rw [hW0]; simp
  have hw0 : Below w.heap.size w W0 := by rw [hW0]; exact (Below.refl w.heap.size w).alloc (Nat.le_refl _) _
  have hh0 : W0.heap[w.heap.size]? = some (.cells #[.int .i64 d.root, .int .i64 d.next, s] 33 (0, 0)) := by rw [hW0]; exact alloc_new w _
  have HOld : Hid (∀ wx, Below (w.heap.size + 1) W0 wx → Below w.heap.size w wx ∧ w.heap.size + 1 ≤ wx.heap.size) := fun wx hb => ⟨hw0.trans (hb.mono (by omega)), by have := hb.size; omega⟩
  have HOrd := hide (specOrder_any d.nodes n₀ d.root d.next (by omega) (fun x hx => by have := (F.fine x hx).2.2.2.2.2.2.2; omega) (fun i _ k hk => F.there k (kidsAt_all hk)) d.nodes.length d.root s W0 (hN.below (Nat.le_refl _) (hw0.mono hn)) (by omega) F.rootIn F.low (by omega))
  have HIn := hide (fun y (hy : y ∈ order d.nodes d.nodes.length d.root) => (G.order_iff y).1 hy)
  generalize horder : order d.nodes d.nodes.length d.root = os at *
  have HV := hide hV
  have HRo := hide hRo
  have HRs := hide hR
  have HN := hide hN
  have HPs := hide hP
  have HF := hide F
  have HPp := hide hp
  obtain ⟨sa, sc, rfl, hk'⟩ := hN
  obtain ⟨ra, rc, rfl, -⟩ := hV
  have HB : Hid (∀ wx, Below (w.heap.size + 1) W0 wx → wx.cell? ⟨w.heap.size, 0, none⟩ = some (.int .i64 d.root) ∧ wx.cell? ⟨w.heap.size, 1, none⟩ = some (.int .i64 d.next) ∧ wx.cell? ⟨w.heap.size, 2, none⟩ = some (.slice sa d.nodes.length sc)) := fun wx hb => by
    have j1 := (hb.block w.heap.size (by omega)).trans hh0
    exact ⟨cell_of_heap j1 0, cell_of_heap j1 1, cell_of_heap j1 2⟩
  clear hp hRo hR hP F G hh0 horder
  go_enter Tryd.func47, Tryd.ntmps47
  go_wp2_with fail
  rw [← hW0]
  clear hW0
  refine HOrd.out.mono ?_
  rintro e w1 ⟨g, cap, rfl, hrow, hb1⟩
  rw [hs0] at hb1 hrow
  have hz1 := (HOld.out _ hb1).2
  have HGc : Hid (∀ m : Nat, m < os.length → w1.cell? ⟨g, m, none⟩ = some (.int .i64 (os[m]?.getD 0))) := fun m hm => by
    have := hrow.cells (g := g) rfl m (.int .i64 (os[m]?.getD 0)) (by simp [hm])
    unfold Addr.add at this; split at this <;> simp_all
  have hgl : g < w1.heap.size := (hrow.lt g rfl).2
  have HT1 : Hid (∀ wx, Below w1.heap.size w1 wx → Below (w.heap.size + 1) W0 wx) := fun wx hb => hb1.trans (hb.mono hz1)
  clear HOrd hrow
  go_wp2_with fail
  go_loopw [7] (fun jv wr => ∃ m : Nat, m ≤ os.length ∧ jv = .int .i64 m ∧ Hid (∀ y ∈ os.take m, checkOf R d.nodes (nodeOf d.nodes y) = 0) ∧ Below w1.heap.size w1 wr) (fun jv _ => os.length - (intOf jv).toNat)
  case atStart => exact ⟨0, Nat.zero_le _, rfl, by simp [Hid], Below.refl _ _⟩
  case round =>
    obtain ⟨m, hm, rfl, hok, hbr⟩ := hrel
    have hzr := hbr.size
    by_cases hlt : m < os.length
    · have hin := HIn.out (os[m]?.getD 0) (by rw [List.getElem?_eq_getElem hlt]; exact List.getElem_mem hlt)
      have hTake : os.take (m + 1) = os.take m ++ [os[m]?.getD 0] := int_snoc hlt
      have hSplit : os = os.take m ++ (os[m]?.getD 0) :: os.drop (m + 1) := by rw [List.getElem?_eq_getElem hlt]; simp
      have HTk := hide hTake
      have HSpl := hide hSplit
      have HGm := hide (HGc.out m hlt)
      clear hTake hSplit
      obtain ⟨pl, hpl0, hpl, hpn, hpm⟩ := place_node HF.out.rise hin
      obtain ⟨b, off, rfl, hb, hcc⟩ := hk'.resolve_left (by intro e; simp [e] at hpl)
      have hAt := hcc pl hpl
      have n0 := hAt.c0
      have n1 := hAt.c1
      have n2 := hAt.c2
      have n3 := hAt.c3
      obtain ⟨kv, n4, hI⟩ := hAt.c4
      have hfine := HF.out.fine _ hpm
      obtain ⟨k, hk⟩ : ∃ k, k = checkOf R d.nodes (d.nodes[pl]?.getD nodeNil) := ⟨_, rfl⟩
      have HNd : Hid (∀ wx, Below wr.heap.size wr wx → Calls Tryd.prog 38 #[.slice ra R.length rc, .agg #[.int .i64 d.root, .int .i64 d.next, .slice (some ⟨b, off, none⟩) d.nodes.length sc], .agg #[.int .i64 (d.nodes[pl]?.getD nodeNil).id, .int .i64 (d.nodes[pl]?.getD nodeNil).kind, .int .i64 (d.nodes[pl]?.getD nodeNil).attr, .string (d.nodes[pl]?.getD nodeNil).text, kv]] wx fun e w' => e = .returned (.int .i64 k) ∧ Below wr.heap.size wr w') := fun wx hbx => by
        have ho := HOld.out wx (HT1.out wx (hbr.trans (hbx.mono hzr)))
        exact (specNodeOK_any d.nodes n₀ d.root d.next _ R _ _ kv wx HF.out.rise (fun k hk => HF.out.there k (List.mem_flatMap.2 ⟨_, hpm, hk⟩)) hfine.2.2.2.2.2.2.2 hfine.2.2.1 (HV.out.below (Nat.le_refl _) (ho.1.mono hn)) (HRo.out.below HV.out (ho.1.mono hn)) (by have := ho.2; omega) HPs.out HRs.out (HN.out.below (Nat.le_refl _) (ho.1.mono hn)) (hI.below (Nat.le_refl _) (ho.1.mono hn)) (by omega) k hk).mono fun e w' ⟨he, hb'⟩ => ⟨he, hbx.trans (hb'.mono hbx.size)⟩
      have HAt : Hid (∀ wx, Below wr.heap.size wr wx → Calls Tryd.prog 39 #[.agg #[.int .i64 d.root, .int .i64 d.next, .slice (some ⟨b, off, none⟩) d.nodes.length sc], .int .i64 (os[m]?.getD 0)] wx fun e w' => e = .returned (.int .i64 (pl : Int)) ∧ Below wr.heap.size wr w') := fun wx hbx => by
        have ho := HOld.out wx (HT1.out wx (hbr.trans (hbx.mono hzr)))
        have := specAt_any n₀ d.root d.next _ d.nodes (os[m]?.getD 0) wx (HN.out.below (Nat.le_refl _) (ho.1.mono hn)) (by have := ho.2; omega) (by omega)
        rw [hpl0] at this
        exact this.mono fun e w' ⟨he, hb'⟩ => ⟨he, hbx.trans (hb'.mono hbx.size)⟩
      have hbw : b < w.heap.size := by omega
      have HS : Hid (∀ wx, Below wr.heap.size wr wx → wx.cell? ⟨w.heap.size, 0, none⟩ = some (.int .i64 d.root) ∧ wx.cell? ⟨w.heap.size, 1, none⟩ = some (.int .i64 d.next) ∧ wx.cell? ⟨w.heap.size, 2, none⟩ = some (.slice (some ⟨b, off, none⟩) d.nodes.length sc) ∧ wx.cell? ⟨b, off + pl * 5, none⟩ = some (.int .i64 (d.nodes[pl]?.getD nodeNil).id) ∧ wx.cell? ⟨b, off + pl * 5 + 1, none⟩ = some (.int .i64 (d.nodes[pl]?.getD nodeNil).kind) ∧ wx.cell? ⟨b, off + pl * 5 + 2, none⟩ = some (.int .i64 (d.nodes[pl]?.getD nodeNil).attr) ∧ wx.cell? ⟨b, off + pl * 5 + 3, none⟩ = some (.string (d.nodes[pl]?.getD nodeNil).text) ∧ wx.cell? ⟨b, off + pl * 5 + 4, none⟩ = some kv ∧ wx.cell? ⟨g, m, none⟩ = some (.int .i64 (os[m]?.getD 0))) := fun wx hbx => by
        have h1 := hbr.trans (hbx.mono hzr)
        have h0 := HT1.out wx h1
        have ho := (HOld.out wx h0).1
        obtain ⟨x0, x1, x2⟩ := HB.out wx h0
        exact ⟨x0, x1, x2, (ho.cell (p := ⟨b, off + pl * 5, none⟩) hbw).trans n0, (ho.cell (p := ⟨b, off + pl * 5 + 1, none⟩) hbw).trans n1, (ho.cell (p := ⟨b, off + pl * 5 + 2, none⟩) hbw).trans n2, (ho.cell (p := ⟨b, off + pl * 5 + 3, none⟩) hbw).trans n3, (ho.cell (p := ⟨b, off + pl * 5 + 4, none⟩) hbw).trans n4, (h1.cell (p := ⟨g, m, none⟩) hgl).trans HGm.out⟩
      have HKy : Hid (k = checkOf R d.nodes (nodeOf d.nodes (os[m]?.getD 0))) := by rw [Hid, ← hpn]; exact hk
      obtain ⟨akk, ckk, rfl, -⟩ := hI
      have hpl1 : (pl : Int) < (d.nodes.length : Int) := by omega
      have hlt1 : (m : Int) < (os.length : Int) := by omega
      have hdr : Below wr.heap.size wr wr.drew := (Below.refl _ _).drew
      clear hk hin hpl0 hpn hpm hcc hAt hfine n0 n1 n2 n3 n4 HGm HGc HIn
      generalize d.nodes[pl]?.getD nodeNil = x at *
      generalize os[m]?.getD 0 = y at *
      go_wp2_with fail
      go_cut [8] (fun v8 wc => v8 = .int .i64 k ∧ Below wr.heap.size wr wc)
      case first =>
        go_region_held3 (fun wx => wx.cell? ⟨w.heap.size, 0, none⟩ = some (.int .i64 d.root) ∧ wx.cell? ⟨w.heap.size, 1, none⟩ = some (.int .i64 d.next) ∧ wx.cell? ⟨w.heap.size, 2, none⟩ = some (.slice (some ⟨b, off, none⟩) d.nodes.length sc) ∧ wx.cell? ⟨b, off + pl * 5, none⟩ = some (.int .i64 x.id) ∧ wx.cell? ⟨b, off + pl * 5 + 1, none⟩ = some (.int .i64 x.kind) ∧ wx.cell? ⟨b, off + pl * 5 + 2, none⟩ = some (.int .i64 x.attr) ∧ wx.cell? ⟨b, off + pl * 5 + 3, none⟩ = some (.string x.text) ∧ wx.cell? ⟨b, off + pl * 5 + 4, none⟩ = some (.slice akk x.kids.length ckk) ∧ wx.cell? ⟨g, m, none⟩ = some (.int .i64 y)) (first | exact HS.out _ (by assumption) | go_keep)
          (first
            | (go_at_call 39; refine (HAt.out _ (by assumption)).mono ?_; rintro e w3 ⟨rfl, hb3⟩)
            | (go_at_call 38; refine (HNd.out _ (by assumption)).mono ?_; rintro e w4 ⟨rfl, hb4⟩))
        all_goals
          go_wp2_with fail
          go_meet
          exact ⟨rfl, hb4⟩
      case rest =>
        obtain ⟨rfl, hbc⟩ := hcut
        have hb1c := hbr.trans (hbc.mono hzr)
        have HOc := hide (HOld.out _ (HT1.out _ hb1c)).1
        obtain ⟨-, -, -, -, -, -, -, -, xg⟩ := HS.out _ hbc
        have hgc : g < wc.heap.size := by have := hb1c.size; omega
        by_cases hkz : k = 0
        · have HOk1 : Hid (∀ y ∈ os.take (m + 1), checkOf R d.nodes (nodeOf d.nodes y) = 0) := by
            rw [Hid, HTk.out]
            intro z hz
            rcases List.mem_append.1 hz with hz | hz
            · exact hok.out z hz
            · simp at hz; rw [hz, ← HKy.out]; exact hkz
          subst hkz
          clear HKy HS HAt HNd hok HTk HSpl
          go_wp2_with fail
          exact ⟨⟨m + 1, by omega, by go_num, HOk1, hb1c⟩, by simp [intOf]; omega⟩
        · have hkn : (k != 0) = true := by simp [hkz]
          have HX : Hid (p = (y, k)) := by
            rw [Hid, HPp.out, HSpl.out, firstBad_ok hok.out, firstBad_bad (by rw [← HKy.out]; exact hkz), ← HKy.out]
          clear HKy HS HAt HNd hok HTk HSpl hkz HPp
          go_wp2_with fail
          go_ret2
          obtain rfl := HX.out
          exact ⟨rfl, HOc.out⟩
    · have e : os.take m = os := List.take_of_length_le (by omega)
      have HX : Hid (p = (0, 0)) := by
        rw [Hid, HPp.out]
        have := firstBad_ok hok.out []
        rwa [List.append_nil, e] at this
      have HOc := hide (HOld.out _ (HT1.out _ hbr)).1
      clear hok HPp e hk'
      go_wp2_with fail
      go_ret2
      obtain rfl := HX.out
      exact ⟨rfl, HOc.out⟩

set_option maxHeartbeats 4000000 in
set_option maxRecDepth 100000 in
theorem specCheckDoc_any (n₀ : Nat) (v : Value) (R : List PRule) (d : PDoc) (s : Value) (w : World) (hV : RulesAt n₀ w v R) (hRo : RulesRoom n₀ w v R) (hR : SmallRules R) (hN : NodesAt n₀ w s d.nodes) (hn : n₀ ≤ w.heap.size) (hl : d.nodes.length ≤ 1048576) (hkl : ∀ x ∈ d.nodes, x.kids.length ≤ 1048576) (p : Int × Int) (hp : p = docAns R d) :
    Calls Tryd.prog 16 #[v, .agg #[.int .i64 d.root, .int .i64 d.next, s]] w fun e w' => e = .returned (.tuple #[.int .i64 p.1, .int .i64 p.2]) ∧ Below w.heap.size w w' := by
  obtain ⟨W0, hW0⟩ : ∃ W0, W0 = w.alloc (.cells #[.int .i64 d.root, .int .i64 d.next, s] 33) := ⟨_, rfl⟩
  have hs0 : W0.heap.size = w.heap.size + 1 := by rw [hW0]; simp
  have hw0 : Below w.heap.size w W0 := by rw [hW0]; exact (Below.refl w.heap.size w).alloc (Nat.le_refl _) _
  have hh0 : W0.heap[w.heap.size]? = some (.cells #[.int .i64 d.root, .int .i64 d.next, s] 33 (0, 0)) := by rw [hW0]; exact alloc_new w _
  have HOld : Hid (∀ wx, Below (w.heap.size + 1) W0 wx → Below w.heap.size w wx ∧ w.heap.size + 1 ≤ wx.heap.size) := fun wx hb => ⟨hw0.trans (hb.mono (by omega)), by have := hb.size; omega⟩
  obtain ⟨r, hr⟩ : ∃ r : Bool, r = true ↔ SchemaP R := ⟨dec _, dec_iff _⟩
  have HSch := hide (specSchOK_any n₀ v R W0 (hV.below (Nat.le_refl _) (hw0.mono hn)) (by omega) hR r hr)
  rw [hs0] at HSch
  obtain ⟨gb, hgb⟩ : ∃ gb : Bool, gb = true ↔ Good d := ⟨dec _, dec_iff _⟩
  have HOK : Hid (∀ wx, Below (w.heap.size + 1) W0 wx → Calls Tryd.prog 46 #[.agg #[.int .i64 d.root, .int .i64 d.next, s]] wx fun e w' => e = .returned (.bool gb) ∧ Below (w.heap.size + 1) W0 w') := fun wx hb =>
    (specOK_any n₀ d s wx (hN.below (Nat.le_refl _) ((HOld.out wx hb).1.mono hn)) (by have := (HOld.out wx hb).2; omega) hl hkl gb hgb).mono fun e w' ⟨he, hb'⟩ => ⟨he, hb.trans (hb'.mono (HOld.out wx hb).2)⟩
  have HDc : Hid (∀ wx, SchemaP R → Good d → p = firstBad R d.nodes (order d.nodes d.nodes.length d.root) → Below (w.heap.size + 1) W0 wx → Calls Tryd.prog 47 #[v, .agg #[.int .i64 d.root, .int .i64 d.next, s]] wx fun e w' => e = .returned (.tuple #[.int .i64 p.1, .int .i64 p.2]) ∧ Below (w.heap.size + 1) W0 w') := fun wx h1 h2 h3 hb =>
    (specDoc_any n₀ v R d s wx (hV.below (Nat.le_refl _) ((HOld.out wx hb).1.mono hn)) (hRo.below hV ((HOld.out wx hb).1.mono hn)) hR (hN.below (Nat.le_refl _) ((HOld.out wx hb).1.mono hn)) (by have := (HOld.out wx hb).2; omega) h1 h2 p h3).mono fun e w' ⟨he, hb'⟩ => ⟨he, hb.trans (hb'.mono (HOld.out wx hb).2)⟩
  have HP := hide hp
  have HRr := hide hr
  have HGb := hide hgb
  have hlen := hR.len
  obtain ⟨sa, sc, rfl, -⟩ := hN
  obtain ⟨ra, rc, rfl, -⟩ := hV
  have HB : Hid (∀ wx, Below (w.heap.size + 1) W0 wx → wx.cell? ⟨w.heap.size, 0, none⟩ = some (.int .i64 d.root) ∧ wx.cell? ⟨w.heap.size, 1, none⟩ = some (.int .i64 d.next) ∧ wx.cell? ⟨w.heap.size, 2, none⟩ = some (.slice sa d.nodes.length sc)) := fun wx hb => by
    have j1 := (hb.block w.heap.size (by omega)).trans hh0
    exact ⟨cell_of_heap j1 0, cell_of_heap j1 1, cell_of_heap j1 2⟩
  clear hp hR hRo hr hkl hgb hh0
  by_cases hlo : 4096 < R.length
  · have HX : Hid (p = (0, 2)) := by rw [Hid, HP.out, docAns_sch (by rw [schAsk_long hlo]; decide), schAsk_long hlo]
    rw [hW0] at hw0
    clear HP HRr HGb HSch HOK HDc HOld HB hW0 hs0
    go_enter Tryd.func16, Tryd.ntmps16
    go_wp2_with fail
    go_ret2
    obtain rfl := HX.out
    exact ⟨rfl, hw0⟩
  cases r with
  | false =>
    have HX : Hid (p = (0, 1)) := by
      have h2 := schAsk_bad hlo (fun h => by have := HRr.out.2 h; cases this)
      rw [Hid, HP.out, docAns_sch (by rw [h2]; decide), h2]
    clear HP HRr HGb HOK HDc HB
    go_enter Tryd.func16, Tryd.ntmps16
    go_wp2_with fail
    rw [← hW0]
    clear hW0
    refine HSch.out.mono ?_
    rintro e w1 ⟨rfl, hb1⟩
    go_wp2_with fail
    go_ret2
    obtain rfl := HX.out
    exact ⟨rfl, (HOld.out _ hb1).1⟩
  | true =>
    have HZ := hide (schAsk_ok (HRr.out.1 rfl))
    cases gb with
    | false =>
      have HX : Hid (p = (0, 1)) := HP.out.trans (docAns_bad HZ.out (fun h => by have := HGb.out.2 h; cases this))
      clear HP HRr HGb HDc
      go_enter Tryd.func16, Tryd.ntmps16
      go_wp2_with fail
      rw [← hW0]
      clear hW0
      refine HSch.out.mono ?_
      rintro e w1 ⟨rfl, hb1⟩
      obtain ⟨x0, x1, x2⟩ := HB.out _ hb1
      have hz1 := (HOld.out _ hb1).2
      go_wp2_with fail
      refine (HOK.out _ hb1).mono ?_
      rintro e w2 ⟨rfl, hb2⟩
      go_wp2_with fail
      go_ret2
      obtain rfl := HX.out
      exact ⟨rfl, (HOld.out _ hb2).1⟩
    | true =>
      have HX := hide (HP.out.trans (docAns_ok HZ.out (HGb.out.1 rfl)))
      have HD1 := hide (fun wx => HDc.out wx (HRr.out.1 rfl) (HGb.out.1 rfl) HX.out)
      clear HP HRr HGb HDc
      go_enter Tryd.func16, Tryd.ntmps16
      go_wp2_with fail
      rw [← hW0]
      clear hW0
      refine HSch.out.mono ?_
      rintro e w1 ⟨rfl, hb1⟩
      obtain ⟨x0, x1, x2⟩ := HB.out _ hb1
      have hz1 := (HOld.out _ hb1).2
      go_wp2_with fail
      refine (HOK.out _ hb1).mono ?_
      rintro e w2 ⟨rfl, hb2⟩
      clear x0 x1 x2
      obtain ⟨x0, x1, x2⟩ := HB.out _ hb2
      have hz2 := (HOld.out _ hb2).2
      go_wp2_with fail
      refine (HD1.out _ hb2).mono ?_
      rintro e w3 ⟨rfl, hb3⟩
      go_wp2_with fail
      go_ret2
      exact ⟨rfl, (HOld.out _ hb3).1⟩
end Go.Proofs.YtmcopoonnhcdjaaDoor
