/-
  The program's ways: steps behind pointers, and the kids that they tell.
-/
import Derived.Test.YtlbfjmfjakhmdaaRevInts
import Derived.Test.YtlbfjmfjakhmdaaFirstPlain
import Derived.Deep.AppendLies
namespace Go.Proofs.Ytlbfjmfjakhmdaa
open Go.RowKit

/-- The last step of a way to a state. -/
inductive StepAt (w : World) : Nat → Nat → List Int → Prop
  | first (b s : Nat) (kid : Int) (h : w.heap[b]? = some (.cells #[.int .i64 s, .int .i64 kid, .pointer none] 61 (0, 0))) : StepAt w b s []
  | next (b s : Nat) (kid : Int) (b' s' : Nat) (ks : List Int) (h : w.heap[b]? = some (.cells #[.int .i64 s, .int .i64 kid, .pointer (some ⟨b', 0, none⟩)] 61 (0, 0))) (h' : StepAt w b' s' ks) : StepAt w b s (ks ++ [kid])

theorem StepAt.kept {w w' : World} (hk : ∀ (b : Nat) cs, w.heap[b]? = some (Obj.cells cs 61 (0, 0)) → w'.heap[b]? = w.heap[b]?) {b s : Nat} {ks : List Int} (h : StepAt w b s ks) : StepAt w' b s ks := by
  induction h with
  | first b s kid h => exact .first b s kid ((hk b _ h).trans h)
  | next b s kid b' s' ks h _ ih => exact .next b s kid b' s' ks ((hk b _ h).trans h) ih

theorem StepAt.under {w w' : World} (hb : Below w.heap.size w w') {b s : Nat} {ks : List Int} (h : StepAt w b s ks) : StepAt w' b s ks :=
  h.kept fun b _ hh => hb.block b (Array.getElem?_eq_some_iff.1 hh).1

theorem StepAt.lt {w : World} {b s : Nat} {ks : List Int} (h : StepAt w b s ks) : b < w.heap.size := by
  cases h with
  | first _ _ _ h => exact (Array.getElem?_eq_some_iff.1 h).1
  | next _ _ _ _ _ _ h _ => exact (Array.getElem?_eq_some_iff.1 h).1

theorem StepAt.state {w : World} {b s : Nat} {ks : List Int} (h : StepAt w b s ks) : w.cell? ⟨b, 0, none⟩ = some (.int .i64 s) := by
  cases h with
  | first _ _ _ h => rw [cell_of_heap h]; rfl
  | next _ _ _ _ _ _ h _ => rw [cell_of_heap h]; rfl

set_option maxHeartbeats 1000000 in
set_option maxRecDepth 100000 in
theorem stepKids_any (b s : Nat) (ks : List Int) (w : World) (h : StepAt w b s ks) (hl : ks.length ≤ 1048576) :
    Calls Try.prog 36 #[.pointer (some ⟨b, 0, none⟩)] w (IdsPost w ks) := by
  obtain ⟨i0, hinf, hz0, hz1, hz2⟩ := info_parts specInfoInt'
  go_enter Try.func36, Try.ntmps36
  go_wp2_with fail
  go_loopw [0, 3] (fun sv lv wr => ∃ (b s : Nat) (pre suf : List Int), sv = .pointer (some ⟨b, 0, none⟩) ∧ Hid (StepAt w b s pre) ∧ Hid (ks = pre ++ suf) ∧ (∃ a c, lv = .slice a suf.length c) ∧ Hid (wr.ownsRow w.heap.size 3 1 lv suf.reverse.length (suf.reverse.map (Value.int .i64))) ∧ Below w.heap.size w wr) (fun _ lv _ => ks.length - lenOf lv)
  case atStart => exact ⟨b, s, ks, [], rfl, h, by simp [Hid], ⟨none, 0, rfl⟩, World.ownsRow_nil _ _ _ _, Below.refl _ _⟩
  case round =>
    clear h
    obtain ⟨b, s, pre, suf, rfl, hst, hks, ⟨al, cl, rfl⟩, hrow, hbr⟩ := hrel
    have hsz := hbr.size
    have hlen : pre.length + suf.length = ks.length := by rw [hks.out]; simp
    have hst' := hst.out
    generalize hpre : pre = pre' at hst'
    have HPre := hide hpre
    cases hst' with
    | first _ _ kid hh =>
      clear hpre
      have hh := (hbr.block b (Array.getElem?_eq_some_iff.1 hh).1).trans hh
      have c2 : wr.cell? ⟨b, 2, none⟩ = some (.pointer none) := by rw [cell_of_heap hh]; rfl
      have hbl := (Array.getElem?_eq_some_iff.1 hh).1
      have HE : Hid (ks = suf) := by have := hks.out; rw [HPre.out] at this; exact this
      have HRv := hide (reverseRow_any w.heap.size _ suf.reverse (by rw [List.length_reverse]; omega) wr hrow.out)
      rw [List.reverse_reverse] at HRv
      clear hh
      go_wp2_with fail
      refine HRv.out.mono ?_
      rintro e w1 ⟨rfl, hown, hs1, hb1⟩
      have HO : Hid (w1.ownsRow w.heap.size 3 1 (.slice al suf.length cl) suf.length (suf.map (Value.int .i64))) := hown
      clear hown
      go_wp2_with fail
      go_ret
      exact ⟨_, rfl, by rw [HE.out]; exact HO.out, hbr.trans hb1⟩
    | next _ _ kid b' s' pre2 hh hst2 =>
      clear hpre
      have hbw := (Array.getElem?_eq_some_iff.1 hh).1
      have hh := (hbr.block b hbw).trans hh
      have HH := hide hh
      have HSt := hide hst2
      have c1 : wr.cell? ⟨b, 1, none⟩ = some (.int .i64 kid) := by rw [cell_of_heap hh]; rfl
      have c2 : wr.cell? ⟨b, 2, none⟩ = some (.pointer (some ⟨b', 0, none⟩)) := by rw [cell_of_heap hh]; rfl
      have hbl := (Array.getElem?_eq_some_iff.1 hh).1
      have hpl : pre.length = pre2.length + 1 := by rw [HPre.out]; simp
      have hsl : suf.reverse.length = suf.length := by simp
      have HE : Hid (ks = pre2 ++ (kid :: suf)) := by have := hks.out; rw [HPre.out] at this; rw [Hid, this]; simp
      have HRow : Hid (wr.ownsRow w.heap.size 3 1 (.slice al suf.length cl) suf.length (suf.reverse.map (Value.int .i64))) := by have := hrow.out; rwa [hsl] at this
      clear hh hst2 hst hrow hks
      go_wp2_with (at_builtin; refine wpList_append_own _ rfl _ _ 32 rfl w.heap.size 3 i0 (.int .i64 0) 1 8 Try.underlying32 hinf hz0 hz1 hz2 rfl (by decide) _ _ _ rfl (HRow.out.alloc _) ⟨wr.heap.size, 0, none⟩ 1 1 [.int .i64 kid] rfl rfl (cell_one_new _ _ _) (ints_one [kid]) (by unfold maxLen; omega) (by omega) (by simp; omega) ?_)
      intro v' w1 hown' hgrow _
      have hb3 := (hbr.alloc (by omega) (.cells #[.int .i64 kid] 3)).grown hgrow (by simp; omega) (fun g hg => (HRow.out.lt g hg).1)
      have HRow3 : Hid (w1.ownsRow w.heap.size 3 1 v' (kid :: suf).reverse.length ((kid :: suf).reverse.map (Value.int .i64))) := by
        unfold Hid; simpa using hown'
      obtain ⟨g3, c3, rfl⟩ := row_some HRow3.out (by simp)
      have e2 : w1.cell? ⟨b, 2, none⟩ = some (.pointer (some ⟨b', 0, none⟩)) := (hb3.cell (p := ⟨b, 2, none⟩) hbw).trans (((hbr.cell (p := ⟨b, 2, none⟩) hbw).symm).trans c2)
      have hs3 := hb3.size
      have hbl3 : b < w1.heap.size := by omega
      clear hown' hgrow HRow c1 c2
      go_wp2_with fail
      exact ⟨⟨b', s', pre2, kid :: suf, rfl, HSt, HE, ⟨_, c3, by simp; rfl⟩, HRow3, hb3⟩, by simp [lenOf]; omega⟩
end Go.Proofs.Ytlbfjmfjakhmdaa
