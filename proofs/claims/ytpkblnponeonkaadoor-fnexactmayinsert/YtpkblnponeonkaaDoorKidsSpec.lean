/-
  The kinds of a node's kids: what the specification answers.
-/
import Derived.Test.YtpkblnponeonkaaDoorKidsPlain
import Derived.Test.YtpkblnponeonkaaDoorLawInts
import Derived.Deep.RegionLaw
import Derived.Deep.AppendLies
namespace Go.Proofs.YtpkblnponeonkaaDoor
open Go.RowKit

theorem place_node {l : List PNode} (hr : (idsOf l).Pairwise (· < ·)) {i : Int} (h : i ∈ idsOf l) : ∃ p : Nat, placeOf l i = p ∧ p < l.length ∧ l[p]?.getD nodeNil = nodeOf l i ∧ l[p]?.getD nodeNil ∈ l := by
  obtain ⟨p, h1, h2, h3, -⟩ := placeOf_lt h
  have hm : l[p]?.getD nodeNil ∈ l := by simp [h2]
  exact ⟨p, h1, h2, by rw [← nodeOf_of hr hm, h3], hm⟩

set_option maxHeartbeats 4000000 in
set_option maxRecDepth 100000 in
theorem specKids_any (l : List PNode) (n₀ : Nat) (rt nx : Int) (hl : l.length ≤ 1048576) (hr : (idsOf l).Pairwise (· < ·)) (x : PNode) (hks : ∀ k ∈ x.kids, k ∈ idsOf l) (hkl : x.kids.length ≤ 1048576) (s kv : Value) (w : World) (hN : NodesAt n₀ w s l) (hK : IntsAt n₀ w kv x.kids) (hn : n₀ ≤ w.heap.size) :
    Calls Tryd.prog 48 #[.agg #[.int .i64 rt, .int .i64 nx, s], .agg #[.int .i64 x.id, .int .i64 x.kind, .int .i64 x.attr, .string x.text, kv]] w (IdsPost w (kindsFor l x.kids)) := by
  obtain ⟨i0, hinf, hz0, hz1, hz2⟩ := info_parts specInfoInt'
  have HN := hide hN
  have HKS := hide hks
  have HRi := hide hr
  obtain ⟨a, cap, rfl, hk'⟩ := hN
  obtain ⟨ak, ck, rfl, hka⟩ := hK
  clear hks hr
  obtain ⟨W2, hW2⟩ : ∃ W2, W2 = (w.alloc (.cells #[.int .i64 rt, .int .i64 nx, .slice a l.length cap] 48)).alloc (.cells #[.int .i64 x.id, .int .i64 x.kind, .int .i64 x.attr, .string x.text, .slice ak x.kids.length ck] 83) := ⟨_, rfl⟩
  have hs2 : W2.heap.size = w.heap.size + 1 + 1 := by rw [hW2]; simp
  have hb2 : Below w.heap.size w W2 := by rw [hW2]; exact ((Below.refl _ _).alloc (Nat.le_refl _) _).alloc (by simp) _
  have h1 : W2.heap[w.heap.size]? = some (.cells #[.int .i64 rt, .int .i64 nx, .slice a l.length cap] 48 (0, 0)) := by
    rw [hW2, Below.heap_alloc _ _ _ (by simp)]; exact alloc_new w _
  have h2 : W2.heap[w.heap.size + 1]? = some (.cells #[.int .i64 x.id, .int .i64 x.kind, .int .i64 x.attr, .string x.text, .slice ak x.kids.length ck] 83 (0, 0)) := by
    rw [hW2]
    have := alloc_new (w.alloc (.cells #[.int .i64 rt, .int .i64 nx, .slice a l.length cap] 48)) (.cells #[.int .i64 x.id, .int .i64 x.kind, .int .i64 x.attr, .string x.text, .slice ak x.kids.length ck] 83)
    simp only [World.size_alloc] at this
    exact this
  have HRow0 : Hid ((W2.alloc (.cells #[] 3)).ownsRow (w.heap.size + 1 + 1) 3 1 (.slice (some ⟨w.heap.size + 1 + 1, 0, none⟩) 0 0) 0 []) := by
    have := row_none W2 (w.heap.size + 1 + 1) (by omega)
    rw [hs2] at this
    exact this
  have HH1 := hide h1
  have HH2 := hide h2
  have HS2 := hide hs2
  have HB0 : Hid (Below (w.heap.size + 1 + 1) W2 (W2.alloc (.cells #[] 3))) := (Below.refl _ _).alloc (by omega) _
  clear h1 h2 hs2
  go_enter Tryd.func48, Tryd.ntmps48
  go_wp2_with fail
  rw [← hW2]
  clear hW2
  go_loopw [5, 6] (fun ov jv wr => ∃ (m g c : Nat), m ≤ x.kids.length ∧ jv = .int .i64 m ∧ ov = .slice (some ⟨g, 0, none⟩) m c ∧ Hid (wr.ownsRow (w.heap.size + 1 + 1) 3 1 (.slice (some ⟨g, 0, none⟩) m c) m ((kindsFor l (x.kids.take m)).map (Value.int .i64))) ∧ Below (w.heap.size + 1 + 1) W2 wr) (fun _ jv _ => x.kids.length - (intOf jv).toNat)
  case atStart => exact ⟨0, _, 0, Nat.zero_le _, rfl, rfl, by simpa [kindsFor] using HRow0, HB0.out⟩
  case round =>
    obtain ⟨m, g, c, hml, rfl, rfl, hrow, hbr⟩ := hrel
    have hsz := hbr.size
    rw [HS2.out] at hsz
    have hw0 : Below w.heap.size w wr := hb2.trans (hbr.mono (by omega))
    have k1 := (hbr.block w.heap.size (by omega)).trans HH1.out
    have k2 := (hbr.block (w.heap.size + 1) (by omega)).trans HH2.out
    have c0 := cell_of_heap k1 0
    have c1 := cell_of_heap k1 1
    have c2 := cell_of_heap k1 2
    have d4 := cell_of_heap k2 4
    simp only [List.getElem?_toArray, List.getElem?_cons_succ, List.getElem?_cons_zero] at c0 c1 c2 d4
    have hza : w.heap.size < wr.heap.size := by omega
    have hzb : w.heap.size + 1 < wr.heap.size := by omega
    clear k1 k2
    by_cases hlt : m < x.kids.length
    · obtain ⟨bk, ofk, rfl, hbk, hck⟩ := hka.resolve_left (by intro e; simp [e] at hlt)
      have ckm := (hw0.cell (p := ⟨bk, ofk + m, none⟩) (show bk < w.heap.size by omega)).trans (hck m hlt)
      have hlt1 : (m : Int) < (x.kids.length : Int) := by omega
      have hin := HKS.out (x.kids[m]?.getD 0) (by rw [List.getElem?_eq_getElem hlt]; exact List.getElem_mem hlt)
      obtain ⟨p, hp, hpl, hpn, hpm⟩ := place_node HRi.out hin
      have HTS : Hid (kindsFor l (x.kids.take (m + 1)) = kindsFor l (x.kids.take m) ++ [(nodeOf l (x.kids[m]?.getD 0)).kind]) := by rw [Hid, int_snoc hlt]; simp [kindsFor]
      rw [← hpn] at HTS
      obtain ⟨b, off, rfl, hb, hc⟩ := hk'.resolve_left (by intro e; simp [e] at hpl)
      have n1 := (hw0.cell (p := ⟨b, off + p * 5 + 1, none⟩) (show b < w.heap.size by omega)).trans (hc p hpl).c1
      have hbw : b < wr.heap.size := by omega
      have hbk2 : bk < wr.heap.size := by omega
      have hpl1 : (p : Int) < (l.length : Int) := by omega
      have HAt : Hid (∀ wx, Below wr.heap.size wr wx → Calls Tryd.prog 47 #[.agg #[.int .i64 rt, .int .i64 nx, .slice (some ⟨b, off, none⟩) l.length cap], .int .i64 (x.kids[m]?.getD 0)] wx fun e w' => e = .returned (.int .i64 (p : Int)) ∧ Below wx.heap.size wx w') := fun wx hbx => by
        have := specAt_any n₀ rt nx _ l (x.kids[m]?.getD 0) wx (HN.out.below (Nat.le_refl _) ((hw0.mono hn).trans (hbx.mono (by omega)))) (by have := hbx.size; omega) hl
        rw [hp] at this
        exact this
      clear hck hc hk' hka hp hpn hpm hin
      generalize x.kids[m]?.getD 0 = y at *
      generalize (l[p]?.getD nodeNil).kind = kd at *
      go_wp2_with fail
      go_region_law (first
        | (refine step_append_lies _ rfl (.tmp 15) (.tmp 28) 41 rfl (w.heap.size + 1 + 1) 3 i0 (.int .i64 0) 1 8 Tryd.underlying41 hinf hz0 hz1 hz2 rfl (by decide) _ _ _ rfl (hr1.alloc _) ⟨w1.heap.size, 0, none⟩ 1 1 [.int .i64 kd] rfl rfl (cell_one_new _ _ _) (one_int _) (by decide) (by unfold maxLen; omega) (by omega) (by simp; omega) _ rfl ?_; intro g3 cc3 w3 hrow3 hgrow hlie hlt3)
        | (go_simp; refine (HAt.out _ (Below.refl _ _).drew).mono ?_; rintro e w1 ⟨rfl, hc1⟩; have hr1 := ownsRow_below (ownsRow_below hrow.out (Below.refl _ _).drew) hc1; have hs1 := hc1.size; simp only [World.size_drew] at hs1; have z1 := (hc1.cell (p := ⟨b, off + p * 5 + 1, none⟩) hbw).trans n1; have z2 := (hc1.cell (p := ⟨w.heap.size, 2, none⟩) hza).trans c2; have hbw1 : b < w1.heap.size := (by omega); have hza1 : w.heap.size < w1.heap.size := (by omega); go_simp))
      all_goals
        have hb3 := (((hbr.drew.trans (hc1.mono (by simp; omega))).alloc (by omega) (.cells #[.int .i64 kd] 3)).grown hgrow (by simp; omega) (fun g' hg' => (hr1.lt g' hg').1))
        have HRow3 : Hid (w3.ownsRow (w.heap.size + 1 + 1) 3 1 (.slice (some ⟨g3, 0, none⟩) (m + 1) cc3) (m + 1) ((kindsFor l (x.kids.take (m + 1))).map (Value.int .i64))) := by
          rw [Hid, HTS.out, List.map_append]
          exact hrow3
        clear hrow3 hgrow hr1
        go_wp2_with fail
        exact ⟨⟨m + 1, g3, cc3, by omega, by go_num, rfl, HRow3, hb3⟩, by simp [intOf]; omega⟩
    · obtain rfl : m = x.kids.length := by omega
      have HRow3 := hide hrow.out
      rw [List.take_length] at HRow3
      clear hka hrow hk'
      go_wp2_with fail
      go_ret
      refine ⟨_, rfl, ?_, hw0⟩
      rw [kindsFor_len]
      exact ownsRow_base HRow3.out (by omega)
end Go.Proofs.YtpkblnponeonkaaDoor
