/-
  SchemaLines: what the program and the specification answer.
-/
import Derived.Test.YtmcopoonnhcdjaaDoorRuleLine
import Derived.Test.YtmcopoonnhcdjaaDoorAskSchema
namespace Go.Proofs.YtmcopoonnhcdjaaDoor
open Go.RowKit

/-- A list of texts of its own, and a code. -/
def TextPost (w : World) (ss : List ByteArray) (c : Int) (e : Ending) (w' : World) : Prop :=
  ∃ v, e = .returned (.tuple #[v, .int .i64 c]) ∧ w'.ownsRow w.heap.size 9 1 v ss.length (ss.map Value.string) ∧ Below w.heap.size w w'

theorem ret_tc {v : Value} {a b : Int} (h : a = b) : Ending.returned (.tuple #[v, .int .i64 a]) = Ending.returned (.tuple #[v, .int .i64 b]) := by rw [h]

def linesAns (r : Bool) (l : List PRule) : List ByteArray := if 4096 < l.length then [] else if r = true then linesB l else []
def linesCode (r : Bool) (l : List PRule) : Int := if 4096 < l.length then 2 else if r = true then 0 else 1

theorem linesAns_len {r : Bool} {l : List PRule} : (linesAns r l).length ≤ 1048576 := by
  unfold linesAns
  split
  · simp
  · split
    · simp [linesB]; omega
    · simp

set_option maxHeartbeats 400000 in
theorem specSchemaLines_any (n₀ : Nat) (v : Value) (l : List PRule) (w : World) (h : RulesAt n₀ w v l) (hn : n₀ ≤ w.heap.size) (hl : SmallRules l) (r : Bool) (hr : r = true ↔ SchemaP l) (ss : List ByteArray) (c : Int) (hss : ss = linesAns r l) (hc : c = linesCode r l) :
    Calls Tryd.prog 29 #[v] w (TextPost w ss c) := by
  have HS := hide (specSchOK_any n₀ v l w h hn hl r hr)
  have HL : Hid (SchemaP l → ∀ wx, Below w.heap.size w wx → Calls Tryd.prog 60 #[v] wx fun e w' => ∃ u, e = .returned u ∧ w'.ownsRow wx.heap.size 9 1 u (linesB l).length ((linesB l).map Value.string) ∧ Below wx.heap.size wx w') := fun hs wx hb => specLinesRow_any n₀ v l wx (h.below (Nat.le_refl _) (hb.mono hn)) (by have := hb.size; omega) hs
  have HR := hide hr
  have hl1 := hl.len
  obtain ⟨a, cap, rfl, -⟩ := h
  clear hl hr
  by_cases hm : 4096 < l.length
  · have e1 : Hid (ss = []) := by rw [Hid, hss, linesAns, if_pos hm]
    have e2 : Hid (c = 2) := by rw [Hid, hc, linesCode, if_pos hm]
    clear hss hc
    go_enter Tryd.func29, Tryd.ntmps29
    go_wp2_with fail
    go_ret2
    refine ⟨_, ret_tc e2.out.symm, ?_, (Below.refl _ _).alloc (Nat.le_refl _) _⟩
    rw [e1.out]; exact text_row_none w _ (Nat.le_refl _)
  · rw [linesAns, if_neg hm] at hss
    rw [linesCode, if_neg hm] at hc
    cases r with
    | false =>
      have e1 : Hid (ss = []) := hss
      have e2 : Hid (c = 1) := hc
      clear hss hc
      go_enter Tryd.func29, Tryd.ntmps29
      go_wp2_with fail
      refine HS.out.mono ?_
      rintro e w1 ⟨rfl, hb1⟩
      have hs1 := hb1.size
      go_wp2_with fail
      go_ret2
      refine ⟨_, ret_tc e2.out.symm, ?_, hb1.alloc (by omega) _⟩
      rw [e1.out]; exact text_row_none w1 _ (by omega)
    | true =>
      have e1 : Hid (ss = linesB l) := hss
      have e2 : Hid (c = 0) := hc
      have HSP := hide (HR.out.1 rfl)
      clear hss hc
      go_enter Tryd.func29, Tryd.ntmps29
      go_wp2_with fail
      refine HS.out.mono ?_
      rintro e w1 ⟨rfl, hb1⟩
      have hs1 := hb1.size
      go_wp2_with fail
      refine (HL.out HSP.out _ hb1).mono ?_
      rintro e w2 ⟨u, rfl, hrow, hb2⟩
      have HRow := hide hrow
      obtain ⟨a2, c2, rfl⟩ := text_row_shape hrow
      clear hrow
      go_wp2_with fail
      go_ret2
      refine ⟨_, ret_tc e2.out.symm, ?_, hb1.trans (hb2.mono (by omega))⟩
      rw [e1.out]
      obtain ⟨hq, h | ⟨g, cp, cur, h1, h2, h3⟩⟩ := HRow.out
      · exact ⟨hq, .inl h⟩
      · exact ⟨hq, .inr ⟨g, cp, cur, h1, by omega, h3⟩⟩

theorem linesCode_ask {r : Bool} {l : List PRule} (hr : r = true ↔ SchemaP l) : linesCode r l = schAsk l := by
  unfold linesCode
  split
  · exact (schAsk_long (by assumption)).symm
  · split
    · exact (schAsk_ok (hr.1 (by assumption))).symm
    · exact (schAsk_bad (by assumption) (fun h => by have := hr.2 h; contradiction)).symm

set_option maxHeartbeats 2000000 in
set_option maxRecDepth 100000 in
theorem implSchemaLines_any (n₀ : Nat) (v : Value) (l : List PRule) (w : World) (h : RulesAt n₀ w v l) (hroom : Roomy v l.length) (hn : n₀ ≤ w.heap.size) (hl : SmallRules l) (hA : AmtAt w) (r : Bool) (hr : r = true ↔ SchemaP l) (ss : List ByteArray) (c : Int) (hss : ss = linesAns r l) (hc : c = linesCode r l) :
    Calls Tryd.prog 30 #[v] w (TextPost w ss c) := by
  obtain ⟨i0, hinf, hz0, hz1, hz2⟩ := info_parts infoText
  have HS := hide (askSchema_any n₀ v l w h hroom hn hl c (hc.trans (linesCode_ask hr)))
  have HD := hide h
  have HAm := hide hA
  have HR := hide hr
  have hl1 := hl.len
  obtain ⟨a, cap, rfl, hk⟩ := h
  clear hl hr hA
  by_cases hm : 4096 < l.length
  · have e1 : Hid (ss = []) := by rw [Hid, hss, linesAns, if_pos hm]
    have e2 : Hid (c = 2) := by rw [Hid, hc, linesCode, if_pos hm]
    clear hss hc hk
    obtain rfl : c = 2 := e2.out
    go_enter Tryd.func30, Tryd.ntmps30
    go_wp2_with fail
    refine HS.out.mono ?_
    rintro e w1 ⟨rfl, hb1⟩
    go_wp2_with fail
    go_ret2
    refine ⟨_, rfl, ?_, hb1⟩
    rw [e1.out]; exact World.ownsRow_nil _ _ _ _
  · rw [linesAns, if_neg hm] at hss
    rw [linesCode, if_neg hm] at hc
    cases r with
    | false =>
      have e1 : Hid (ss = []) := hss
      have e2 : Hid (c = 1) := hc
      clear hss hc hk
      obtain rfl : c = 1 := e2.out
      go_enter Tryd.func30, Tryd.ntmps30
      go_wp2_with fail
      refine HS.out.mono ?_
      rintro e w1 ⟨rfl, hb1⟩
      go_wp2_with fail
      go_ret2
      refine ⟨_, rfl, ?_, hb1⟩
      rw [e1.out]; exact World.ownsRow_nil _ _ _ _
    | true =>
      have e1 : Hid (ss = linesB l) := hss
      have e2 : Hid (c = 0) := hc
      have HSch := hide (HR.out.1 rfl)
      have hll : ss.length = l.length := by rw [hss]; simp [linesB]
      have HLine : Hid (∀ x ∈ l, ∀ kv wx, TermsAt n₀ wx kv x.terms → Below w.heap.size w wx → Calls Tryd.prog 61 #[.slice a l.length cap, .agg #[.string x.name, .bool x.leaf, kv]] wx fun e w' => ∃ s, e = .returned (.string s) ∧ Hid (s = bt (lineT l x)) ∧ Below wx.heap.size wx w') := fun x hx kv wx hi hb =>
        ruleLine_any n₀ _ _ l x wx (HD.out.below (Nat.le_refl _) (hb.mono hn)) ⟨kv, rfl, hi⟩ (by have := hb.size; omega) HSch.out (HSch.out.rules x hx) (HAm.out.below hb)
      clear hss hc HR
      obtain rfl : c = 0 := e2.out
      go_enter Tryd.func30, Tryd.ntmps30
      go_wp2_with fail
      refine HS.out.mono ?_
      rintro e w1 ⟨rfl, hb1⟩
      have HR0 : Hid (w1.ownsRow w.heap.size 9 1 (.slice none 0 0) 0 []) := World.ownsRow_nil _ _ _ _
      clear HS
      go_wp2_with fail
      go_loopw [5, 15] (fun ov i wr => ∃ k : Nat, k ≤ l.length ∧ i = .int .i64 k ∧ Hid (wr.ownsRow w.heap.size 9 1 ov k ((ss.take k).map Value.string)) ∧ Below w.heap.size w wr) (fun _ i _ => l.length - (intOf i).toNat)
      case atStart => exact ⟨0, Nat.zero_le _, rfl, HR0, hb1⟩
      case round =>
        obtain ⟨k, hkl, rfl, hrow, hbr⟩ := hrel
        clear hb1 HR0
        have hsz := hbr.size
        obtain ⟨ar, cr, rfl⟩ := text_row_shape hrow.out
        by_cases hlt : k < l.length
        · obtain ⟨b, off, rfl, hb, hc⟩ := hk.resolve_left (by intro e; simp [e] at hlt)
          have hA := (hc k hlt).below hb (Nat.le_refl _) (hbr.mono hn)
          have HLk := hide (HLine.out (l[k]?.getD ruleNil) (by simp [hlt]))
          have HNx : Hid ((ss.take (k + 1)).map Value.string = (ss.take k).map Value.string ++ [Value.string (bt (lineT l (l[k]?.getD ruleNil)))]) := by
            rw [Hid, e1.out, take_map_next Value.string (linesB l) ByteArray.empty (by rw [← e1.out, hll]; exact hlt)]
            simp [linesB, hlt]
          have g0 := hA.c0
          have g1 := hA.c1
          obtain ⟨kv, g2, hi⟩ := hA.c2
          have HIk := hide hi
          obtain ⟨ai, ci, rfl, -⟩ := hi
          have hbW : b < wr.heap.size := by omega
          have hlt1 : (k : Int) < (l.length : Int) := by omega
          clear hc hk hA HLine
          generalize l[k]?.getD ruleNil = x at *
          have hbox := hbr.alloc hsz (.cells #[.string x.name, .bool x.leaf, .slice ai x.terms.length ci] 72)
          go_wp2_with fail
          refine (HLk.out _ _ (HIk.out.below (Nat.le_refl _) ((Below.refl _ _).alloc (by omega) _)) hbox).mono ?_
          rintro e w1 ⟨u, rfl, hu, hb1⟩
          simp only [World.size_alloc] at hb1
          have hrow1 := ownsRow_below (ownsRow_below hrow.out ((Below.refl _ _).alloc (Nat.le_refl _) (.cells #[.string x.name, .bool x.leaf, .slice ai x.terms.length ci] 72))) (by simpa using hb1)
          have hs1 := hb1.size
          simp only [World.size_alloc] at hs1
          have hbr1 := hbox.trans (hb1.mono (by omega))
          clear hrow hbox
          go_wp2_with (at_builtin; refine wpList_append_own _ rfl _ _ 55 rfl w.heap.size 9 i0 (.string ⟨#[]⟩) 1 16 Tryd.underlying55 hinf hz0 hz1 hz2 rfl (by decide) _ _ _ rfl (hrow1.alloc _) ⟨w1.heap.size, 0, none⟩ 1 1 [Value.string u] rfl rfl (cell_one_new _ _ _) (one_text _) (by unfold maxLen; omega) (by omega) (by simp; omega) ?_; intro v' w2 hown' hgrow _)
          have hb3 := (hbr1.alloc (by omega) (.cells #[.string u] 9)).grown hgrow (by simp; omega) (fun g hg => (hrow1.lt g hg).1)
          refine ⟨⟨k + 1, by omega, by go_num, ?_, hb3⟩, by simp [intOf]; omega⟩
          rw [Hid, HNx.out, ← hu.out]; exact hown'
        · clear hk
          go_wp2_with fail
          go_ret2
          refine ⟨_, rfl, ?_, hbr⟩
          have := hrow.out
          rw [List.take_of_length_le (by omega)] at this
          have e : k = ss.length := by omega
          rw [← e]; exact this
end Go.Proofs.YtmcopoonnhcdjaaDoor
