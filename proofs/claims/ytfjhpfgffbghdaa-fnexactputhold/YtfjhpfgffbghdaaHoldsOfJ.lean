/-
  The holds of a list of locks, as the program tells them: a list of its own.
-/
import Derived.Test.YtfjhpfgffbghdaaPlaceImplJ
import Derived.Test.YtfjhpfgffbghdaaHoldRowsJ
import Derived.Test.YtfjhpfgffbghdaaHoldToJ
import Derived.Test.YtfjhpfgffbghdaaLocksOfJ
import Derived.Deep.RegionLaw
namespace Go.Proofs.Ytfjhpfgffbghdaa
open Go.RowKit

theorem holdVals_take {L : List PHold} {k : Nat} (hk : k < L.length) : holdVals (L.take (k + 1)) = holdVals (L.take k) ++ holdCells (L[k]?.getD holdNil) := by
  rw [List.take_succ_eq_append_getElem hk, holdVals_snoc, List.getElem?_eq_getElem hk, Option.getD_some]

set_option maxHeartbeats 4000000 in
set_option maxRecDepth 100000 in
theorem holdsOf_any (B n₁ tb : Nat) (d : PDoc) (ad : Int → Nat) (up : Int → Option Int) (kv : Int → Value) (v : Value) (L : List PHold) (w : World) (hrow : w.ownsRow B 72 3 v L.length (lockVals ad L)) (hgr : Grown n₁ w d tb ad up kv) (hin : ∀ j, j < L.length → (L[j]?.getD holdNil).node ∈ idsOf d.nodes) (hL : L.length ≤ 1048576) :
    Calls Try.prog 44 #[v] w fun e w' => ∃ u, e = .returned u ∧ w'.ownsRow w.heap.size 42 3 u L.length (holdVals L) ∧ Below w.heap.size w w' := by
  obtain ⟨i0, hinf, hq0, hq1, hq2⟩ := info_parts holdInfo
  obtain ⟨a, cap, rfl⟩ := slice_form hrow
  have HCell : Hid (∀ k, k < L.length → ∃ b, a = some ⟨b, 0, none⟩ ∧ ∀ wx, Below w.heap.size w wx → b < wx.heap.size ∧ LockAt wx ad b (k * 3) (L[k]?.getD holdNil)) := fun k hk => by
    obtain ⟨b, cap', e, hbz, _⟩ := row_block hrow (by omega)
    simp only [Value.slice.injEq, true_and] at e
    obtain ⟨rfl, rfl⟩ := e
    exact ⟨b, rfl, fun wx hb => ⟨by have := hb.size; omega, (row_lockAt hrow hk).below hbz hb⟩⟩
  have HId : Hid (∀ k wx, k < L.length → Below w.heap.size w wx → wx.cell? ⟨ad (L[k]?.getD holdNil).node, 0, none⟩ = some (.int .i64 (L[k]?.getD holdNil).node) ∧ ad (L[k]?.getD holdNil).node < wx.heap.size) := fun k wx hk hb => (hgr.below hb).idCell (hin k hk)
  have HTk := hide (fun k => @holdVals_take L k)
  have HNone := hide (World.ownsRow_nil w w.heap.size 42 3)
  clear hrow hgr hin
  go_enter Try.func44, Try.ntmps44
  go_wp2_with fail
  go_loopw [3, 8] (fun hv i wr => ∃ (k : Nat) (u : Value), u = hv ∧ k ≤ L.length ∧ i = .int .i64 k ∧ Hid (wr.ownsRow w.heap.size 42 3 u k (holdVals (L.take k))) ∧ Below w.heap.size w wr) (fun _ i _ => L.length - (intOf i).toNat)
  case atStart => exact ⟨0, _, rfl, Nat.zero_le _, rfl, HNone, Below.refl _ _⟩
  case round =>
    obtain ⟨k, u, hu, hkl, rfl, hrow, hbr⟩ := hrel
    subst hu
    have hsz := hbr.size
    by_cases hlt : k < L.length
    · obtain ⟨b, rfl, hc⟩ := HCell.out k hlt
      obtain ⟨hbz, hA⟩ := hc wr hbr
      have g0 := hA.c0
      have g1 := hA.c1
      have g2 := hA.c2
      have hlt1 : (k : Int) < (L.length : Int) := by omega
      obtain ⟨n0, nz⟩ := HId.out k wr hlt hbr
      have HTk1 := hide (HTk.out k hlt)
      clear hc hA
      generalize L[k]?.getD holdNil = x at *
      generalize ad x.node = px at *
      obtain ⟨W3, hW3⟩ : ∃ W3, W3 = wr.alloc (.cells #[.int .i64 x.session, .int .i64 x.mode, .pointer (some ⟨px, 0, none⟩)] 72) := ⟨_, rfl⟩
      have hb3 : Below wr.heap.size wr W3 := by rw [hW3]; exact (Below.refl _ _).alloc (Nat.le_refl _) _
      have hh3 : W3.heap[wr.heap.size]? = some (.cells #[.int .i64 x.session, .int .i64 x.mode, .pointer (some ⟨px, 0, none⟩)] 72 (0, 0)) := by rw [hW3]; exact alloc_new wr _
      have hz3 : wr.heap.size < W3.heap.size := (Array.getElem?_eq_some_iff.1 hh3).1
      have z0 := cell_of_heap hh3 0
      have z1 := cell_of_heap hh3 1
      have z2 := cell_of_heap hh3 2
      simp only [List.getElem?_toArray, List.getElem?_cons_succ, List.getElem?_cons_zero] at z0 z1 z2
      have n3 := (hb3.cell (p := ⟨px, 0, none⟩) nz).trans n0
      have nz3 : px < W3.heap.size := by omega
      have hbr3 : Below w.heap.size w W3 := hbr.trans (hb3.mono hsz)
      have hbr5 : Below w.heap.size w W3.drew := hbr3.drew
      have HRowc := hide (ownsRow_below hrow.out (hb3.drew))
      have hkl30 : k ≤ 1048576 := by omega
      clear hh3 hrow
      go_wp2_with fail
      rw [← hW3]
      clear hW3
      go_region_law (refine step_append_lies _ rfl (.tmp 12) (.tmp 23) 33 rfl w.heap.size 42 i0 (.agg #[.int .i64 0, .int .i64 0, .int .i64 0]) 3 24 Try.underlying33 hinf hq0 hq1 hq2 rfl (by decide) _ _ _ rfl (HRowc.out.alloc _) ⟨W3.heap.size, 0, none⟩ 1 1 (holdCells x) rfl rfl (World.news_of_block (alloc_new W3.drew _)) (holdCells_one x) (by decide) (by unfold maxLen; omega) (by omega) (by simp; omega) _ rfl ?_; intro g7 c7 w7 hown7 hgrow7 hgg7 hlt7)
      all_goals
        have hb7 : Below w.heap.size w w7 := (hbr5.alloc (by simp; omega) _).grown hgrow7 (by simp; omega) (fun g' hg' => by have := (HRowc.out.lt g' hg').1; omega)
        have HR8 : Hid (w7.ownsRow w.heap.size 42 3 (.slice (some ⟨g7, 0, none⟩) (k + 1) c7) (k + 1) (holdVals (L.take (k + 1)))) := by
          rw [Hid, HTk1.out]; exact hown7
        clear hown7 hgrow7 hgg7
        go_wp2_with fail
        exact ⟨⟨k + 1, _, rfl, by omega, by go_num, HR8, hb7⟩, by simp [intOf]; omega⟩
    · have hlt1 : ¬ (k : Int) < (L.length : Int) := by omega
      have hkk : k = L.length := by omega
      have HE : Hid (wr.ownsRow w.heap.size 42 3 u L.length (holdVals L)) := by
        have := hrow.out; rw [hkk, List.take_length] at this; exact this
      clear hkk hrow
      go_wp2_with fail
      go_ret
      exact ⟨_, rfl, HE.out, hbr⟩
end Go.Proofs.Ytfjhpfgffbghdaa
