/-
  What the specification's l03Lines answers.
-/
import Derived.Test.YtmcopoonnhcdjaaDoorSchLineOf
import Derived.Maps.AppendAt
namespace Go.Proofs.YtmcopoonnhcdjaaDoor
open Go.RowKit

/-- The value is a list of texts, in a block below n₀. -/
def TextsAt (n₀ : Nat) (w : World) (v : Value) (ss : List ByteArray) : Prop :=
  ∃ (a : Option Addr) (cap : Nat), v = .slice a ss.length cap ∧ (ss = [] ∨ ∃ b off, a = some ⟨b, off, none⟩ ∧ b < n₀ ∧ ∀ j, j < ss.length → w.cell? ⟨b, off + j, none⟩ = some (.string (ss[j]?.getD ByteArray.empty)))

theorem TextsAt.below {n₀ n₁ : Nat} {w w' : World} {v : Value} {ss : List ByteArray} (h : TextsAt n₀ w v ss) (hn : n₀ ≤ n₁) (hb : Below n₀ w w') : TextsAt n₁ w' v ss := by
  obtain ⟨a, cap, rfl, h⟩ := h
  refine ⟨a, cap, rfl, h.imp id ?_⟩
  rintro ⟨b, off, rfl, hlt, hc⟩
  exact ⟨b, off, rfl, by omega, fun j hj => (hb.cell (p := ⟨b, off + j, none⟩) hlt).trans (hc j hj)⟩

theorem texts_of_row {w : World} {B : Nat} {v : Value} {ss : List ByteArray} (h : w.ownsRow B 9 1 v ss.length (ss.map Value.string)) : TextsAt w.heap.size w v ss := by
  obtain ⟨hl, ⟨rfl, h⟩ | ⟨g, cap, cur, rfl, hg, hh, h1, h2, h3, h4⟩⟩ := h
  · exact ⟨none, 0, by rw [h], .inl (List.eq_nil_of_length_eq_zero h)⟩
  · refine ⟨_, cap, rfl, .inr ⟨g, 0, rfl, (Array.getElem?_eq_some_iff.1 hh).1, fun j hj => ?_⟩⟩
    have hrow : w.ownsRow B 9 1 (.slice (some ⟨g, 0, none⟩) ss.length cap) ss.length (ss.map Value.string) := ⟨hl, .inr ⟨g, cap, cur, rfl, hg, hh, h1, h2, h3, h4⟩⟩
    have := hrow.cells (g := g) rfl j (.string (ss[j]?.getD ByteArray.empty)) (by simp [hj])
    rw [Go.WideShapes.add_plain] at this
    exact this

theorem infoText : (Tryd.prog.info? 9).map (fun i => (i.zero, i.size, i.bytes)) = some (some (.string ⟨#[]⟩), 1, 16) := by kernel_rfl
theorem one_text (s : ByteArray) : ∀ u ∈ [Value.string s], u.oneCell' = true := by
  intro u hu; simp at hu; subst hu; rfl

/-- The lines. -/
def linesB (l : List PRule) : List ByteArray := l.map fun x => bt (lineT l x)
theorem linesB_inj {l l' : List PRule} (h : SchemaP l) (h' : SchemaP l') : linesB l = linesB l' ↔ l = l' := by
  refine ⟨fun e => lines_inj h h' ?_, fun e => by rw [e]⟩
  have e2 := congrArg (List.map fun b : ByteArray => b.data.toList) e
  simpa [linesB, List.map_map, Function.comp_def, bt] using e2

theorem text_row_none (w : World) (base : Nat) (hb : base ≤ w.heap.size) : (w.alloc (.cells #[] 9)).ownsRow base 9 1 (.slice (some ⟨w.heap.size, 0, none⟩) 0 0) 0 [] :=
  World.ownsRow_made w #[] 0 hb (Nat.zero_le _) rfl

theorem text_row_shape {w : World} {B : Nat} {e : TypeId} {size : Nat} {v : Value} {n : Nat} {xs : List Value} (h : w.ownsRow B e size v n xs) : ∃ a cap, v = .slice a n cap := by
  obtain ⟨_, ⟨rfl, rfl⟩ | ⟨g, cap, cur, rfl, _⟩⟩ := h
  · exact ⟨none, 0, rfl⟩
  · exact ⟨_, cap, rfl⟩

set_option maxHeartbeats 2000000 in
set_option maxRecDepth 100000 in
theorem specLinesRow_any (n₀ : Nat) (v : Value) (l : List PRule) (w : World) (h : RulesAt n₀ w v l) (hn : n₀ ≤ w.heap.size) (hs : SchemaP l) :
    Calls Tryd.prog 60 #[v] w fun e w' => ∃ u, e = .returned u ∧ w'.ownsRow w.heap.size 9 1 u (linesB l).length ((linesB l).map Value.string) ∧ Below w.heap.size w w' := by
  obtain ⟨i0, hinf, hz0, hz1, hz2⟩ := info_parts infoText
  have HD := hide h
  obtain ⟨a, cap, rfl, hk⟩ := h
  have hfew := hs.few
  have HSch := hide hs
  obtain ⟨ls, hls⟩ : ∃ ls, ls = linesB l := ⟨_, rfl⟩
  have hll : ls.length = l.length := by rw [hls]; simp [linesB]
  have HLs := hide hls
  have HLine : Hid (∀ x ∈ l, ∀ kv wx, TermsAt n₀ wx kv x.terms → Below w.heap.size w wx → Calls Tryd.prog 86 #[.slice a l.length cap, .agg #[.string x.name, .bool x.leaf, kv]] wx fun e w' => ∃ s, e = .returned (.string s) ∧ Hid (s = bt (lineT l x)) ∧ Below wx.heap.size wx w') := fun x hx kv wx hi hb =>
    specLine_any n₀ _ _ l x wx (HD.out.below (Nat.le_refl _) (hb.mono hn)) ⟨kv, rfl, hi⟩ (by have := hb.size; omega) HSch.out (HSch.out.rules x hx)
  rw [← hls]
  have HR0 := hide (text_row_none w w.heap.size (Nat.le_refl _))
  clear hs hls
  go_enter Tryd.func60, Tryd.ntmps60
  go_wp2_with fail
  go_loopw [3, 4] (fun ov i wr => ∃ k : Nat, k ≤ l.length ∧ i = .int .i64 k ∧ Hid (wr.ownsRow w.heap.size 9 1 ov k ((ls.take k).map Value.string)) ∧ Below w.heap.size w wr) (fun _ i _ => l.length - (intOf i).toNat)
  case atStart => exact ⟨0, Nat.zero_le _, rfl, HR0, (Below.refl _ _).alloc (Nat.le_refl _) _⟩
  case round =>
    obtain ⟨k, hkl, rfl, hrow, hbr⟩ := hrel
    have hsz := hbr.size
    obtain ⟨ar, cr, rfl⟩ := text_row_shape hrow.out
    by_cases hlt : k < l.length
    · obtain ⟨b, off, rfl, hb, hc⟩ := hk.resolve_left (by intro e; simp [e] at hlt)
      have hA := (hc k hlt).below hb (Nat.le_refl _) (hbr.mono hn)
      have HLk := hide (HLine.out (l[k]?.getD ruleNil) (by simp [hlt]))
      have HNx : Hid ((ls.take (k + 1)).map Value.string = (ls.take k).map Value.string ++ [Value.string (bt (lineT l (l[k]?.getD ruleNil)))]) := by
        rw [Hid, HLs.out, take_map_next Value.string (linesB l) ByteArray.empty (by rw [← HLs.out, hll]; exact hlt)]
        simp [linesB, hlt]
      have g0 := hA.c0
      have g1 := hA.c1
      obtain ⟨kv, g2, hi⟩ := hA.c2
      have HIk := hide hi
      obtain ⟨ai, ci, rfl, -⟩ := hi
      have hbW : b < wr.heap.size := by omega
      have hlt1 : (k : Int) < (l.length : Int) := by omega
      clear hc hk hA HLine HLs
      generalize l[k]?.getD ruleNil = x at *
      go_wp2_with fail
      refine (HLk.out _ _ HIk.out hbr).mono ?_
      rintro e w1 ⟨u, rfl, hu, hb1⟩
      have hrow1 := ownsRow_below hrow.out hb1
      have hs1 := hb1.size
      have hbr1 := hbr.trans (hb1.mono hsz)
      clear hrow
      go_wp2_with (at_builtin; refine wpList_append_own _ rfl _ _ 55 rfl w.heap.size 9 i0 (.string ⟨#[]⟩) 1 16 Tryd.underlying55 hinf hz0 hz1 hz2 rfl (by decide) _ _ _ rfl (hrow1.alloc _) ⟨w1.heap.size, 0, none⟩ 1 1 [Value.string u] rfl rfl (cell_one_new _ _ _) (one_text _) (by unfold maxLen; omega) (by omega) (by simp; omega) ?_; intro v' w2 hown' hgrow _)
      have hb3 := (hbr1.alloc (by omega) (.cells #[.string u] 9)).grown hgrow (by simp; omega) (fun g hg => (hrow1.lt g hg).1)
      refine ⟨⟨k + 1, by omega, by go_num, ?_, hb3⟩, by simp [intOf]; omega⟩
      rw [Hid, HNx.out, ← hu.out]; exact hown'
    · clear hk
      go_wp2_with fail
      go_ret
      refine ⟨_, rfl, ?_, hbr⟩
      have := hrow.out
      rw [List.take_of_length_le (by omega)] at this
      have e : k = ls.length := by omega
      rw [← e]; exact this

theorem specLines_any (n₀ : Nat) (v : Value) (l : List PRule) (w : World) (h : RulesAt n₀ w v l) (hn : n₀ ≤ w.heap.size) (hs : SchemaP l) :
    Calls Tryd.prog 60 #[v] w fun e w' => ∃ u, e = .returned u ∧ TextsAt w'.heap.size w' u (linesB l) ∧ Below w.heap.size w w' :=
  (specLinesRow_any n₀ v l w h hn hs).mono fun _ _ ⟨u, he, hr, hb⟩ => ⟨u, he, texts_of_row hr, hb⟩
end Go.Proofs.YtmcopoonnhcdjaaDoor
