/-
  What a schema takes, plainly: the content of a node, a node, a schema ahead of all else.
  The kinds of a list of pointers to branches: what the program's kindsOf answers; KidsOf, the program's.
-/
import Derived.Test.YtmcopoonnhcdjaaDoorJoin13
import Derived.Test.YtmcopoonnhcdjaaDoorJoin14
import Derived.Test.YtmcopoonnhcdjaaDoorJoin2
import Derived.Test.YtmcopoonnhcdjaaDoorJoin15
import Derived.Test.YtmcopoonnhcdjaaDoorJoin20
namespace Go.Proofs.YtmcopoonnhcdjaaDoor
open Go.RowKit

theorem row_roomy {w : World} {B : Nat} {e : TypeId} {size : Nat} {v : Value} {n : Nat} {xs : List Value} (h : w.ownsRow B e size v n xs) : Roomy v n := by
  obtain ⟨_, ⟨rfl, rfl⟩ | ⟨g, cap, cur, rfl, hg, hh, h1, h2, h3, h4⟩⟩ := h
  · exact ⟨none, 0, rfl, Nat.le_refl _⟩
  · exact ⟨_, cap, rfl, by first | assumption | omega⟩

theorem TermsP.eight {r : Int} {l : List PTerm} (h : TermsP r l) (h8 : r ≤ 8) : TermsP 8 l :=
  ⟨h.len, fun t ht => ⟨(h.all t ht).some, fun j hj => ⟨((h.all t ht).up j hj).1, Int.le_trans ((h.all t ht).up j hj).2.1 h8, ((h.all t ht).up j hj).2.2⟩, (h.all t ht).many0, (h.all t ht).many3⟩⟩

noncomputable def contentB (r : PRule) (text : ByteArray) (kk : List Int) : Bool := by
  classical exact if r.leaf = true then decide (kk.length = 0) else decide (text.size = 0 ∧ MatchP r.terms kk)

theorem contentB_leaf {r : PRule} {t : ByteArray} {kk : List Int} (h : r.leaf = true) : contentB r t kk = decide (kk.length = 0) := by unfold contentB; rw [if_pos h]
theorem contentB_not {r : PRule} {t : ByteArray} {kk : List Int} (h : r.leaf = false) : contentB r t kk = true ↔ t.size = 0 ∧ MatchP r.terms kk := by unfold contentB; rw [if_neg (by simp [h])]; simp

noncomputable def checkOf (R : List PRule) (l : List PNode) (x : PNode) : Int := if (R.length : Int) < x.kind then 10 else if contentB (R[(x.kind - 1).toNat]?.getD ruleNil) x.text (kindsFor l x.kids) = true then 0 else 12

end Go.Proofs.YtmcopoonnhcdjaaDoor

namespace Go.Proofs.YtmcopoonnhcdjaaDoor
open Go.RowKit Go.Shelf

set_option maxHeartbeats 1000000 in
set_option maxRecDepth 100000 in
theorem kindsOf_any (l : List PNode) (ad : Int → Nat) (up : Int → Option Int) (n₁ : Nat) (ks : List Int) (hks : ∀ k ∈ ks, k ∈ idsOf l) (v : Value) (w : World) (hr : (idsOf l).Pairwise (· < ·)) (hT : TreeAt n₁ w l ad up) (hP : PtrsAt n₁ w v ks ad) (hn : n₁ ≤ w.heap.size) (hl : ks.length ≤ 1048576) :
    Calls Tryd.prog 84 #[v] w (IdsPost w (kindsFor l ks)) := by
  obtain ⟨i0, hi, hz0, hz1, hz2⟩ := info_parts specInfoInt
  obtain ⟨g, cap, rfl, hk⟩ := hP
  have HT := hide hT
  have HKS := hide hks
  have HRi := hide hr
  clear hT hks hr
  go_enter Tryd.func84, Tryd.ntmps84
  go_wp2_with fail
  go_loopw [3, 8] (fun sv i' wr => ∃ m : Nat, m ≤ ks.length ∧ i' = .int .i64 m ∧ wr.ownsRow w.heap.size 3 1 sv m ((kindsFor l (ks.take m)).map (Value.int .i64)) ∧ Below w.heap.size w wr) (fun _ i' _ => ks.length - (intOf i').toNat)
  case atStart => exact ⟨0, Nat.zero_le _, rfl, by simpa [kindsFor] using World.ownsRow_nil _ _ _ _, Below.refl _ _⟩
  case round =>
    obtain ⟨m, hm, rfl, hown, hbr⟩ := hrel
    have hsz := hbr.size
    by_cases hlt : m < ks.length
    · obtain ⟨b, rfl, hb, hc⟩ := hk.resolve_left (by intro e; simp [e] at hlt)
      have hcm := (hbr.cell (p := ⟨b, m, none⟩) (show b < _ by omega)).trans (hc m hlt)
      have hin := HKS.out (ks[m]?.getD 0) (by rw [List.getElem?_eq_getElem hlt]; exact List.getElem_mem hlt)
      have HTS : Hid (kindsFor l (ks.take (m + 1)) = kindsFor l (ks.take m) ++ [(nodeOf l (ks[m]?.getD 0)).kind]) := by rw [Hid, int_snoc hlt]; simp [kindsFor]
      have hlt1 : (m : Int) < (ks.length : Int) := by omega
      clear hc hk
      generalize ks[m]?.getD 0 = y at *
      obtain ⟨x, hx, rfl⟩ := node_of hin
      rw [nodeOf_of HRi.out hx] at HTS
      have hB := HT.out x hx
      have hxl := hB.lt
      have c1 := (hbr.cell (p := ⟨ad x.id, 1, none⟩) (show ad x.id < _ by omega)).trans hB.c1
      obtain ⟨ar, cr, rfl⟩ := row_shape hown
      clear hB hin
      go_wp2_with (at_builtin; refine wpList_append_own _ rfl _ _ 41 rfl w.heap.size 3 i0 (.int .i64 0) 1 8 Tryd.underlying41 hi hz0 hz1 hz2 rfl (by decide) _ _ _ rfl (hown.alloc _) ⟨wr.heap.size, 0, none⟩ 1 1 [Value.int .i64 x.kind] rfl rfl (cell_one_new _ _ _) (one_int _) (by unfold maxLen; omega) (by omega) (by simp; omega) ?_)
      intro v' w1 hown' hgrow _
      have hb3 := (hbr.alloc (by omega) (.cells #[.int .i64 x.kind] 3)).grown hgrow (by simp; omega) (fun g hg => (hown.lt g hg).1)
      have HRow : Hid (w1.ownsRow w.heap.size 3 1 v' (m + 1) ((kindsFor l (ks.take (m + 1))).map (Value.int .i64))) := by
        unfold Hid; rw [HTS.out]; simpa using hown'
      clear hown' hgrow hown
      go_wp2_with fail
      go_roundw
      case rel => exact ⟨m + 1, by omega, by go_num, HRow.out, hb3⟩
      case measure => simp [intOf]; omega
    · have HRow : Hid (wr.ownsRow w.heap.size 3 1 u3 (kindsFor l ks).length ((kindsFor l ks).map (Value.int .i64))) := by
        have := hown
        rw [List.take_of_length_le (by omega), show m = (kindsFor l ks).length by rw [kindsFor_len]; omega] at this
        exact this
      obtain ⟨ar, cr, rfl⟩ := row_shape hown
      clear hk hown
      go_wp2_with fail
      go_ret
      exact ⟨_, rfl, HRow.out, hbr⟩
end Go.Proofs.YtmcopoonnhcdjaaDoor
