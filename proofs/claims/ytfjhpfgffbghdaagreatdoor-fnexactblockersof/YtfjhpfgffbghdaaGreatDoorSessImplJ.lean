/-
  The sessions that have locks: what the program answers.
-/
import Derived.Test.YtfjhpfgffbghdaaGreatDoorJoinE
import Derived.Test.YtfjhpfgffbghdaaGreatDoorJoinH
import Derived.Test.YtfjhpfgffbghdaaGreatDoorJoinC
import Derived.Test.YtfjhpfgffbghdaaGreatDoorJoinG
import Derived.Test.YtfjhpfgffbghdaaGreatDoorShelfC
import Derived.Sort.OwnSortedInts
namespace Go.Proofs.YtfjhpfgffbghdaaGreatDoor
open Go.RowKit Go.Shelf

theorem sess_map_take {L : List PHold} {k : Nat} (h : k < L.length) : ((L.take (k + 1)).map PHold.session).map (Value.int .i64) = ((L.take k).map PHold.session).map (Value.int .i64) ++ [.int .i64 (L[k]?.getD holdNil).session] := by
  rw [List.take_succ_eq_append_getElem h, List.getElem?_eq_getElem h, Option.getD_some]; simp only [List.map_append, List.map_cons, List.map_nil]

set_option maxHeartbeats 1000000 in
/-- slices.Compact at a row of numbers of one's own. -/
theorem compactInts_any (B : Nat) (v : Value) (zs : List Int) (w : World) (hrow : w.ownsRow B 3 1 v zs.length (zs.map (Value.int .i64))) :
    Calls Tryz.prog 119 #[v] w fun e w' => ∃ a cap, e = .returned (.slice a (sessL zs).length cap) ∧ IntsAt w'.heap.size w' (.slice a (sessL zs).length cap) (sessL zs) ∧ Below B w w' := by
  have hrow' := hrow
  by_cases h0 : zs.length = 0
  · have hz : zs = [] := List.eq_nil_of_length_eq_zero h0
    subst hz
    obtain ⟨a, cap, rfl⟩ := row_shape hrow
    refine (Tryz.slices_Compact_int_empty a cap w).mono ?_
    rintro e w' ⟨rfl, rfl⟩
    exact ⟨a, cap, rfl, ⟨a, cap, rfl, .inl rfl⟩, Below.refl _ _⟩
  · obtain ⟨g, cap, rfl⟩ := row_some hrow (by omega)
    obtain ⟨_, ⟨e0, h1⟩ | ⟨g', cap', cur, e1, hg, hh, hl1, hl2, hl3, hl4⟩⟩ := hrow
    · exact absurd h1 h0
    · simp only [Value.slice.injEq, Option.some.injEq, Addr.mk.injEq, and_true, true_and] at e1
      obtain ⟨rfl, rfl⟩ := e1
      have hH : Go.Sort.Holds (Value.int .i64) w g 0 zs.toArray := fun j hj => by
        have hj' : j < zs.length := by simpa using hj
        refine ⟨?_, frozen_of_heap hh _⟩
        have := hrow'.cells (g := g) rfl j (.int .i64 (zs.toArray[j]!)) (by simp [hj', getElem!_pos])
        rwa [Go.WideShapes.add_plain] at this
      refine (Tryz.slices_Compact_int g 0 cap zs w hH (by have := hl2; unfold maxLen at this; omega) hl1).mono ?_
      rintro e w' ⟨rfl, q, rfl⟩
      rw [compact_sess]
      have hlen := sessL_len zs
      have hsz : (sessL zs ++ List.replicate (zs.length - (sessL zs).length) (0 : Int)).toArray.size = zs.toArray.size := by simp; omega
      have hgb : w.grownBy (Go.Sort.putRow (Value.int .i64) (Go.Sort.ahead w q) g 0 (sessL zs ++ List.replicate (zs.length - (sessL zs).length) (0 : Int)).toArray) (some g) := by
        have := grownBy_sortedI (w := w) (g := g) (n := q) (os := #[]) (sessL zs ++ List.replicate (zs.length - (sessL zs).length) (0 : Int)).toArray
        simpa using this
      have hbl : Below B w (Go.Sort.putRow (Value.int .i64) (Go.Sort.ahead w q) g 0 (sessL zs ++ List.replicate (zs.length - (sessL zs).length) (0 : Int)).toArray) :=
        (Below.refl B w).grown hgb (by have := (Array.getElem?_eq_some_iff.1 hh).1; omega) (fun k hk => by cases hk; exact hg)
      have hcell : ∀ j, j < (sessL zs).length → (Go.Sort.putRow (Value.int .i64) (Go.Sort.ahead w q) g 0 (sessL zs ++ List.replicate (zs.length - (sessL zs).length) (0 : Int)).toArray).cell? ⟨g, 0 + j, none⟩ = some (.int .i64 ((sessL zs)[j]?.getD 0)) := fun j hj => by
        rw [Go.Sort.cell?_putRow (Value.int .i64) (Go.Sort.ahead w q) g 0 zs.toArray _ hH hsz j (by rw [hsz]; simp; omega)]
        congr 2
        rw [getElem!_pos _ j (by rw [hsz]; simp; omega)]
        simp [List.getElem_append_left hj, hj]
      refine ⟨_, cap, rfl, ⟨_, cap, rfl, ?_⟩, hbl⟩
      exact .inr ⟨g, 0, rfl, by have := (Array.getElem?_eq_some_iff.1 hh).1; have := hbl.size; omega, hcell⟩

set_option maxHeartbeats 1000000 in
set_option maxRecDepth 100000 in
theorem sessions_any (n₁ lb tb : Nat) (ad : Int → Nat) (L : List PHold) (w : World) (hlk : LocksAt n₁ w lb tb ad L) (hn : n₁ ≤ w.heap.size) (hL : L.length ≤ 30) :
    Calls Tryz.prog 101 #[.pointer (some ⟨lb, 0, none⟩)] w fun e w' => ∃ a cap, e = .returned (.slice a (sessP L).length cap) ∧ IntsAt w'.heap.size w' (.slice a (sessP L).length cap) (sessP L) ∧ Below w.heap.size w w' := by
  obtain ⟨i0, hinf, hz0, hz1, hz2⟩ := info_parts specInfoInt'
  obtain ⟨hlb, hc0, a, cap, hc1, hk⟩ := hlk
  have hlb2 : lb < w.heap.size := by omega
  have HNone := hide (World.ownsRow_nil w w.heap.size 3 1)
  go_enter Tryz.func101, Tryz.ntmps101
  go_wp2_with fail
  go_loopw [3, 11] (fun ov i wr => ∃ k : Nat, k ≤ L.length ∧ i = .int .i64 k ∧ Hid (wr.ownsRow w.heap.size 3 1 ov k (((L.take k).map PHold.session).map (Value.int .i64))) ∧ Below w.heap.size w wr) (fun _ i _ => L.length - (intOf i).toNat)
  case atStart => exact ⟨0, Nat.zero_le _, rfl, HNone, Below.refl _ _⟩
  case round =>
    obtain ⟨k, hkl, rfl, hrow, hbr⟩ := hrel
    rename_i u3 _
    have hsz := hbr.size
    by_cases hlt : k < L.length
    · obtain ⟨b, rfl, hb, hc⟩ := hk.resolve_left (by intro e; simp [e] at hlt)
      have hA := (hc k hlt).below (by omega) hbr
      have g0 := hA.c0
      have g1 := hA.c1
      have g2 := hA.c2
      have hlt1 : (k : Int) < (L.length : Int) := by omega
      have hbl : b < wr.heap.size := by omega
      have HTk := hide (sess_map_take hlt)
      clear hc hk hA
      generalize L[k]?.getD holdNil = x at *
      have hb1 : Below w.heap.size w (wr.alloc (.cells #[.int .i64 x.session, .int .i64 x.mode, .pointer (some ⟨ad x.node, 0, none⟩)] 109)) := hbr.alloc hsz _
      have hrow1 := hide (hrow.out.alloc (.cells #[.int .i64 x.session, .int .i64 x.mode, .pointer (some ⟨ad x.node, 0, none⟩)] 109))
      have hnew : Hid (∀ j u, [Value.int .i64 x.session][j]? = some u → ((wr.alloc (.cells #[.int .i64 x.session, .int .i64 x.mode, .pointer (some ⟨ad x.node, 0, none⟩)] 109)).alloc (.cells #[.int .i64 x.session] 3)).cell? ((⟨wr.heap.size + 1, 0, none⟩ : Addr).add j) = some u) := fun j u hu => by
        have := World.news_of_block (alloc_new (wr.alloc (.cells #[.int .i64 x.session, .int .i64 x.mode, .pointer (some ⟨ad x.node, 0, none⟩)] 109)) (.cells #[.int .i64 x.session] 3)) j u hu
        simpa using this
      go_wp2_with (at_builtin; refine wpList_append_own _ rfl _ _ 33 rfl w.heap.size 3 i0 (.int .i64 0) 1 8 Tryz.underlying33 hinf hz0 hz1 hz2 rfl (by decide) _ _ _ rfl (hrow1.out.alloc _) ⟨wr.heap.size + 1, 0, none⟩ 1 1 [.int .i64 x.session] rfl rfl hnew.out (ints_one [x.session]) (by unfold maxLen; omega) (by omega) (by simp; omega) ?_)
      intro v' w1 hown' hgrow _
      have hb3 : Below w.heap.size w w1 := (hb1.alloc (by simp; omega) (.cells #[.int .i64 x.session] 3)).grown hgrow (by simp; omega) (fun g' hg' => by have := (hrow1.out.lt g' hg').1; omega)
      have HRow3 : Hid (w1.ownsRow w.heap.size 3 1 v' (k + 1) (((L.take (k + 1)).map PHold.session).map (Value.int .i64))) := by
        rw [Hid, HTk.out]; simpa using hown'
      clear hown' hgrow
      go_wp2_with fail
      exact ⟨⟨k + 1, by omega, by go_num, HRow3, hb3⟩, by simp [intOf]; omega⟩
    · have hkL : k = L.length := by omega
      have HRw : Hid (wr.ownsRow w.heap.size 3 1 u3 (L.map PHold.session).length ((L.map PHold.session).map (Value.int .i64))) := by
        have := hrow.out
        rw [hkL, List.take_length] at this
        rw [Hid, List.length_map]; exact this
      have HCo := hide (compactInts_any w.heap.size u3 _ wr HRw.out)
      clear hk hkL
      go_wp2_with (go_at_call 119; refine HCo.out.mono ?_; rintro e w2 ⟨a2, c2, rfl, hi2, hb2⟩)
      go_ret
      exact ⟨a2, c2, rfl, hi2, hbr.trans hb2⟩
end Go.Proofs.YtfjhpfgffbghdaaGreatDoor
