/-
  The order of nodes, as the specification reckons it.
-/
import Derived.Test.YtkfklaapoaocdabInOrder
import Derived.Test.YtkfklaapoaocdabLawInts
import Derived.Deep.RegionLaw
import Derived.Deep.AppendLies
namespace Go.Proofs.Ytkfklaapoaocdab
open Go.RowKit

theorem step_call {P : Program} {ops : Array Oper} {o : Oper} {a : Act} {w : World} {K : Act → World → Prop} {Q : Exit → Act → World → Prop} {E : Prop}
    (hg : o.guard = none) (f : FuncId) (args : Array Value) (hrun : (execOp a.eval o).run P w = .ok (.enter f args) w) (R : Ending → World → Prop)
    (hc : Calls P f args w R) (hK : ∀ e w', R e w' → ∃ v, e = .returned v ∧ K (a.put o.dst v) w') :
    if Region.wanted o (yielded ops a.tmps) = true then Oper.wp P o a w K Q else E := by
  have hw : Region.wanted o (yielded ops a.tmps) = true := by simp [Region.wanted, hg]
  rw [if_pos hw]
  unfold Oper.wp
  rw [hrun, Oper.upon_enter]
  refine hc.mono fun e w' h => ?_
  obtain ⟨v, rfl, h2⟩ := hK e w' h
  exact h2

theorem flatMap_len {α β : Type} {f : α → List β} {ks : List α} {k : α} (h : k ∈ ks) : (f k).length ≤ (ks.flatMap f).length := by
  induction ks with
  | nil => simp at h
  | cons x ks ih =>
    simp only [List.flatMap_cons, List.length_append]
    rcases List.mem_cons.1 h with rfl | h
    · omega
    · have := ih h; omega

theorem flatMap_take_len {α β : Type} {f : α → List β} (ks : List α) (m : Nat) : ((ks.take m).flatMap f).length ≤ (ks.flatMap f).length := by
  rw [← List.take_append_drop m ks]
  simp only [List.flatMap_append, List.length_append]
  rw [List.take_append_drop]
  omega

theorem ints_one (xs : List Int) : ∀ u ∈ xs.map (Value.int .i64), u.oneCell' = true := by
  intro u hu
  obtain ⟨x, _, rfl⟩ := List.mem_map.1 hu
  rfl

/-- A list of its own, that is not empty. -/
def OrdPost (w : World) (ks : List Int) (e : Ending) (w' : World) : Prop :=
  ∃ g cap, e = .returned (.slice (some ⟨g, 0, none⟩) ks.length cap) ∧ w'.ownsRow w.heap.size 3 1 (.slice (some ⟨g, 0, none⟩) ks.length cap) ks.length (ks.map (Value.int .i64)) ∧ Below w.heap.size w w'

theorem row_one (w : World) (base : Nat) (hb : base ≤ w.heap.size) (i : Int) : (w.alloc (.cells #[.int .i64 i] 3)).ownsRow base 3 1 (.slice (some ⟨w.heap.size, 0, none⟩) 1 1) 1 [.int .i64 i] :=
  ⟨by simp, .inr ⟨w.heap.size, 1, #[.int .i64 i], rfl, hb, (MapKept.heap_alloc w _).1, Nat.le_refl _, by unfold maxLen; omega, rfl, by simp⟩⟩

theorem ownsRow_base {w : World} {b b' : Nat} {e : TypeId} {size : Nat} {v : Value} {n : Nat} {xs : List Value} (h : w.ownsRow b e size v n xs) (hb : b' ≤ b) : w.ownsRow b' e size v n xs := by
  obtain ⟨hl, h | ⟨g, cap, cur, rfl, hg, hh, h1, h2, h3, h4⟩⟩ := h
  · exact ⟨hl, .inl h⟩
  · exact ⟨hl, .inr ⟨g, cap, cur, rfl, by omega, hh, h1, h2, h3, h4⟩⟩

set_option maxHeartbeats 4000000 in
set_option maxRecDepth 100000 in
theorem specOrder_any (l : List PNode) (n₀ : Nat) (rt nx : Int) (hl : l.length ≤ 1048576) (hkl : ∀ x ∈ l, x.kids.length ≤ 1048576) (hth : ∀ i ∈ idsOf l, ∀ k ∈ kidsAt l i, k ∈ idsOf l) :
    ∀ (h : Nat) (i : Int) (s : Value) (w : World), NodesAt n₀ w s l → n₀ ≤ w.heap.size → i ∈ idsOf l → Low l h i → (order l h i).length ≤ 1048576 →
      Calls Try.prog 40 #[.agg #[.int .i64 rt, .int .i64 nx, s], .int .i64 i] w (OrdPost w (order l h i))
  | 0, i, s, w, hN, hn, hi, hlow, hlen => hlow.elim
  | h + 1, i, s, w, hN, hn, hi, hlow, hlen => by
    obtain ⟨i0, hinf, hz0, hz1, hz2⟩ := info_parts specInfoInt'
    obtain ⟨p, hp, hpl, hpi, hpk⟩ := placeOf_lt hi
    have HRec : Hid (∀ k ∈ kidsAt l i, ∀ wx, NodesAt n₀ wx s l → n₀ ≤ wx.heap.size → Calls Try.prog 40 #[.agg #[.int .i64 rt, .int .i64 nx, s], .int .i64 k] wx (OrdPost wx (order l h k))) := fun k hk wx h1 h2 =>
      specOrder_any l n₀ rt nx hl hkl hth h k s wx h1 h2 (hth i hi k hk) (hlow k hk) (by
        have := flatMap_len (f := order l h) hk
        simp only [order, List.length_cons] at hlen; omega)
    have HPo : Hid (∀ k ∈ kidsAt l i, 0 < (order l h k).length) := fun k hk => by
      have := hlow k hk
      cases h with
      | zero => exact this.elim
      | succ h => simp [order]
    have hkk := hkl (l[p]?.getD nodeNil) (by simp [hpl])
    have HLen : Hid (∀ m, (i :: ((kidsAt l i).take m).flatMap (order l h)).length ≤ 1048576) := fun m => by
      have := flatMap_take_len (f := order l h) (kidsAt l i) m
      simp only [order, List.length_cons] at hlen ⊢; omega
    have HN := hide hN
    obtain ⟨a, cap, rfl, hk'⟩ := hN
    obtain ⟨b, off, rfl, hb, hc⟩ := hk'.resolve_left (by intro e; simp [e] at hpl)
    have hbw : b < w.heap.size := by omega
    obtain ⟨kv, g4, hik⟩ := (hc p hpl).c4
    rw [hpk] at HRec HLen HPo
    have HO : Hid (order l (h + 1) i = i :: ((l[p]?.getD nodeNil).kids).flatMap (order l h)) := by rw [Hid, order, hpk]
    clear hk' hc hkl hth hi hlow hlen hpi hpk
    obtain ⟨ak, ck, rfl, hka⟩ := hik
    generalize (l[p]?.getD nodeNil).kids = ks at *
    generalize hord : order l (h + 1) i = os at *
    have HOs := hide hord
    clear hord
    obtain ⟨W1, hW1⟩ : ∃ W1, W1 = w.alloc (.cells #[.int .i64 rt, .int .i64 nx, .slice (some ⟨b, off, none⟩) l.length cap] 33) := ⟨_, rfl⟩
    have hW1s : W1.heap.size = w.heap.size + 1 := by rw [hW1]; simp
    have hW1b : Below w.heap.size w W1 := by rw [hW1]; exact (Below.refl _ _).alloc (Nat.le_refl _) _
    have bh : W1.heap[w.heap.size]? = some (.cells #[.int .i64 rt, .int .i64 nx, .slice (some ⟨b, off, none⟩) l.length cap] 33 (0, 0)) := by rw [hW1]; exact alloc_new w _
    obtain ⟨W2, hW2⟩ : ∃ W2, W2 = W1.alloc (.cells #[.int .i64 i] 3) := ⟨_, rfl⟩
    have hW2s : W2.heap.size = w.heap.size + 1 + 1 := by rw [hW2]; simp [hW1s]
    have hW2b : Below W1.heap.size W1 W2 := by rw [hW2]; exact (Below.refl _ _).alloc (Nat.le_refl _) _
    have HRow : Hid (W2.ownsRow (w.heap.size + 1) 3 1 (.slice (some ⟨w.heap.size + 1, 0, none⟩) 1 1) 1 [.int .i64 i]) := by
      have := row_one W1 (w.heap.size + 1) (by omega) i
      rw [Hid, hW2]; rw [hW1s] at this; exact this
    have HAt : Hid (∀ t : Calm W2, Calls Try.prog 31 #[.agg #[.int .i64 rt, .int .i64 nx, .slice (some ⟨b, off, none⟩) l.length cap], .int .i64 i] t.out fun e w'' => e = .returned (.int .i64 (p : Int)) ∧ Below t.out.heap.size t.out w'') := fun t => by
      have := specAt_any n₀ rt nx _ l i t.out (HN.out.below (Nat.le_refl _) ((hW1b.mono hn).trans ((hW2b.mono (by omega)).trans (t.below.mono (by omega))))) (by have := t.below.size; omega) hl
      rw [hp] at this
      exact this
    have hw2 : Below w.heap.size w W2 := hW1b.trans (hW2b.mono (by omega))
    have c0 : W2.cell? ⟨w.heap.size, 0, none⟩ = some (.int .i64 rt) := (hW2b.cell (p := ⟨w.heap.size, 0, none⟩) (by simp; omega)).trans (cell_of_heap bh 0)
    have c1 : W2.cell? ⟨w.heap.size, 1, none⟩ = some (.int .i64 nx) := (hW2b.cell (p := ⟨w.heap.size, 1, none⟩) (by simp; omega)).trans (cell_of_heap bh 1)
    have c2 : W2.cell? ⟨w.heap.size, 2, none⟩ = some (.slice (some ⟨b, off, none⟩) l.length cap) := (hW2b.cell (p := ⟨w.heap.size, 2, none⟩) (by simp; omega)).trans (cell_of_heap bh 2)
    have g4' := (hw2.cell (p := ⟨b, off + p * 5 + 4, none⟩) hbw).trans g4
    have hz1 : w.heap.size < W2.heap.size := by omega
    have hz2' : b < W2.heap.size := by omega
    have hpl1 : (p : Int) < (l.length : Int) := by omega
    have hcal := calm_cell W2
    have HW1s := hide hW1s
    have HW2s := hide hW2s
    clear hp hW1s hW2s
    go_enter Try.func40, Try.ntmps40
    go_wp2_with fail
    rw [← hW1, ← hW2]
    clear hW1 hW2
    go_cut [6] (fun v6 wc => v6 = .slice ak ks.length ck ∧ Below W2.heap.size W2 wc)
    case first =>
      refine wp_region_calm (by kernel_rfl) (by kernel_rfl) ?_
      repeat (go_big_quiet_step ((go_at_call 31; exact calm_of (HAt.out _))))
      refine wpQuiet_nil ?_
      rintro _ ⟨t, rfl⟩
      have ht := t.below
      go_wp2_with fail
      go_meet
      exact ⟨rfl, ht⟩
    case rest =>
      obtain ⟨rfl, hx⟩ := hcut
      have hxs := hx.size
      rw [HW2s.out] at hxs
      have HRow' := hide (ownsRow_below HRow.out hx)
      have hbx : Below (w.heap.size + 1) W1 wc := (hW2b.mono (by rw [HW1s.out]; omega)).trans (hx.mono (by rw [HW2s.out]; omega))
      have HBh := hide bh
      clear hcal HAt c0 c1 c2 g4' hz1 hz2' bh
      go_wp2_with fail
      go_loopw [5, 7] (fun ov jv wr => ∃ (m g c : Nat), m ≤ ks.length ∧ jv = .int .i64 m ∧ ov = .slice (some ⟨g, 0, none⟩) (i :: (ks.take m).flatMap (order l h)).length c ∧ Hid (wr.ownsRow (w.heap.size + 1) 3 1 (.slice (some ⟨g, 0, none⟩) (i :: (ks.take m).flatMap (order l h)).length c) (i :: (ks.take m).flatMap (order l h)).length ((i :: (ks.take m).flatMap (order l h)).map (Value.int .i64))) ∧ Below (w.heap.size + 1) W1 wr) (fun _ jv _ => ks.length - (intOf jv).toNat)
      case atStart => exact ⟨0, w.heap.size + 1, 1, Nat.zero_le _, rfl, rfl, HRow', hbx⟩
      case round =>
        obtain ⟨m, g, c, hml, rfl, rfl, hrow, hbr⟩ := hrel
        have hsz := hbr.size
        rw [HW1s.out] at hsz
        have hw0 : Below w.heap.size w wr := hW1b.trans (hbr.mono (by omega))
        have c0 : wr.cell? ⟨w.heap.size, 0, none⟩ = some (.int .i64 rt) := (hbr.cell (p := ⟨w.heap.size, 0, none⟩) (by simp)).trans (cell_of_heap HBh.out 0)
        have c1 : wr.cell? ⟨w.heap.size, 1, none⟩ = some (.int .i64 nx) := (hbr.cell (p := ⟨w.heap.size, 1, none⟩) (by simp)).trans (cell_of_heap HBh.out 1)
        have c2 : wr.cell? ⟨w.heap.size, 2, none⟩ = some (.slice (some ⟨b, off, none⟩) l.length cap) := (hbr.cell (p := ⟨w.heap.size, 2, none⟩) (by simp)).trans (cell_of_heap HBh.out 2)
        by_cases hlt : m < ks.length
        · obtain ⟨bk, ofk, rfl, hbk, hck⟩ := hka.resolve_left (by intro e; simp [e] at hlt)
          have ckm := (hw0.cell (p := ⟨bk, ofk + m, none⟩) (show bk < w.heap.size by omega)).trans (hck m hlt)
          have hlt1 : (m : Int) < (ks.length : Int) := by omega
          have HCall : Hid (∀ wx, Below wr.heap.size wr wx → Calls Try.prog 40 #[.agg #[.int .i64 rt, .int .i64 nx, .slice (some ⟨b, off, none⟩) l.length cap], .int .i64 (ks[m]?.getD 0)] wx (OrdPost wx (order l h (ks[m]?.getD 0)))) := fun wx hbx =>
            HRec.out _ (by rw [List.getElem?_eq_getElem hlt]; exact List.getElem_mem hlt) wx (HN.out.below (Nat.le_refl _) ((hw0.mono hn).trans (hbx.mono (by omega)))) (by have := hbx.size; omega)
          have HTk : Hid ((ks.take (m + 1)).flatMap (order l h) = (ks.take m).flatMap (order l h) ++ order l h (ks[m]?.getD 0)) := by
            rw [Hid, List.take_succ_eq_append_getElem hlt, List.flatMap_append]; simp [hlt, -List.take_append_getElem]
          have HL1 := hide (HLen.out (m + 1))
          have HPos : Hid (0 < (order l h (ks[m]?.getD 0)).length) := HPo.out _ (by rw [List.getElem?_eq_getElem hlt, Option.getD_some]; exact List.getElem_mem hlt)
          clear hck
          generalize ks[m]?.getD 0 = y at *
          have HLm := hide (HLen.out m)
          obtain ⟨xs, hxs'⟩ : ∃ xs, xs = i :: (ks.take m).flatMap (order l h) := ⟨_, rfl⟩
          rw [← hxs'] at hrow HLm ⊢
          have HXs := hide hxs'
          clear hxs'
          have hpos : 0 < (order l h y).length := HPos.out
          have hxl : xs.length + (order l h y).length ≤ 1048576 := by
            have h1 := HL1.out
            rw [HTk.out, ← List.cons_append, ← HXs.out, List.length_append] at h1
            exact h1
          go_wp2_with fail
          go_region_law (first
            | (refine step_append_lies _ rfl (.tmp 24) (.tmp 30) 26 rfl (w.heap.size + 1) 3 i0 (.int .i64 0) 1 8 Try.underlying26 hinf hz0 hz1 hz2 rfl (by decide) _ _ _ rfl hr1 ⟨g2, 0, none⟩ (order l h y).length cc2 ((order l h y).map (Value.int .i64)) rfl (by simp) (hrow2.cells rfl) (ints_one _) (hide hpos).out (by unfold maxLen; omega) (by omega) (by omega) _ rfl ?_; intro g3 cc3 w3 hrow3 hgrow hlie hlt3)
            | (go_simp; refine (HCall.out _ (Below.refl _ _).drew).mono ?_; rintro e w1 ⟨g2, cc2, rfl, hrow2, hb2⟩; have hr1 := ownsRow_below (ownsRow_below hrow.out (Below.refl _ _).drew) hb2; have hs2 := hb2.size; simp only [World.size_drew] at hs2; go_simp))
          all_goals
            have hb3 := ((hbr.drew.trans (hb2.mono (by simp; omega))).grown hgrow (by omega) (fun g' hg' => (hr1.lt g' hg').1))
            have HE : Hid (i :: (ks.take (m + 1)).flatMap (order l h) = xs ++ order l h y) := by rw [Hid, HTk.out, ← List.cons_append, ← HXs.out]
            have HRow3 : Hid (w3.ownsRow (w.heap.size + 1) 3 1 (.slice (some ⟨g3, 0, none⟩) (i :: (ks.take (m + 1)).flatMap (order l h)).length cc3) (i :: (ks.take (m + 1)).flatMap (order l h)).length ((i :: (ks.take (m + 1)).flatMap (order l h)).map (Value.int .i64))) := by
              rw [Hid, HE.out, List.length_append, List.map_append]
              exact hrow3
            clear hrow3 hgrow hr1 hrow2
            go_wp2_with fail
            exact ⟨⟨m + 1, g3, cc3, by omega, by go_num, by rw [HE.out, List.length_append], HRow3, hb3⟩, by simp [intOf]; omega⟩
        · obtain rfl : m = ks.length := by omega
          have HE : Hid (i :: (ks.take ks.length).flatMap (order l h) = os) := by rw [Hid, List.take_length, ← HO.out]
          have HRow3 : Hid (wr.ownsRow (w.heap.size + 1) 3 1 (.slice (some ⟨g, 0, none⟩) os.length c) os.length (os.map (Value.int .i64))) := by
            have := hrow.out
            rw [HE.out] at this
            exact this
          rw [HE.out]
          clear hka hrow
          go_wp2_with fail
          go_ret
          exact ⟨g, c, rfl, ownsRow_base HRow3.out (by omega), hw0⟩
end Go.Proofs.Ytkfklaapoaocdab
