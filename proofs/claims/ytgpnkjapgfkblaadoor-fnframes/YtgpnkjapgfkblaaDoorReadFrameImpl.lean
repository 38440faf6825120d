/-
  What the program's inner function behind ReadFrame answers (where the four variables hold four sentinels at different places): the plain function's text, and an error of its code. It makes new memory alone.
-/
import Derived.Test.YtgpnkjapgfkblaaDoorReadFramePlain
import Derived.Deep.RegionWith
namespace Go.Proofs.YtgpnkjapgfkblaaDoor
open Go.RowKit

/-- An ending answers a text, and an error of the code. -/
def ReadSays (aF aR aS aM : Addr) (r : ByteArray × Int) (e : Ending) : Prop := ∃ v, e = .returned (.tuple #[.string r.1, v]) ∧ FaultV aF aR aS aM v r.2
theorem read_says {aF aR aS aM : Addr} {r : ByteArray × Int} {x : ByteArray} {c : Int} {v : Value} (hr : r = (x, c)) (hv : FaultV aF aR aS aM v c) : ReadSays aF aR aS aM r (.returned (.tuple #[.string x, v])) := by
  subst hr; exact ⟨v, rfl, hv⟩

theorem readFrame_short {aF aR aS aM : Addr} (s : ByteArray) (w : World) (h : Sents w aF aR aS aM) (h0 : s.size < 5) :
    Calls Tryd.prog 34 #[.string s] w fun e w' => ReadSays aF aR aS aM (frameRead s) e ∧ Below w.heap.size w w' := by
  have HR : Hid (frameRead s = (⟨#[]⟩, 3)) := read_form (.inl h0)
  have kF := h.cF
  clear h
  go_enter Tryd.func34, Tryd.ntmps34
  go_wp2
  go_region
  all_goals go_wp2
  all_goals go_ret2
  all_goals exact ⟨read_says HR.out fault_F, (Below.refl _ _).drew⟩

set_option maxHeartbeats 1000000 in
theorem readFrame_letters {aF aR aS aM : Addr} (s : ByteArray) (w : World) (h : Sents w aF aR aS aM) (h0 : ¬ s.size < 5) (h1 : s.extract 0 2 ≠ ⟨#[67, 79]⟩) :
    Calls Tryd.prog 34 #[.string s] w fun e w' => ReadSays aF aR aS aM (frameRead s) e ∧ Below w.heap.size w w' := by
  have HR : Hid (frameRead s = (⟨#[]⟩, 3)) := read_form (.inr h1)
  have kF := h.cF
  have hd : decide ((s.size : Int) < 5) = false := by simp; omega
  have hb := letters_no h1
  clear h h1
  go_enter Tryd.func34, Tryd.ntmps34
  go_wp2
  go_region
  all_goals go_wp2
  all_goals go_ret2
  all_goals exact ⟨read_says HR.out fault_F, (Below.refl _ _).drew⟩

set_option maxHeartbeats 1000000 in
theorem readFrame_code {aF aR aS aM : Addr} (s : ByteArray) (w : World) (hs : s.size ≤ 1048576) (h : Sents w aF aR aS aM) (h0 : ¬ s.size < 5) (h1 : s.extract 0 2 = ⟨#[67, 79]⟩) (h2 : (textAt s 2).2.2 ≠ 0) :
    Calls Tryd.prog 34 #[.string s] w fun e w' => ReadSays aF aR aS aM (frameRead s) e ∧ Below w.heap.size w w' := by
  have HR : Hid (frameRead s = (⟨#[]⟩, (textAt s 2).2.2)) := read_code h0 h1 h2
  have HC : Hid ((textAt s 2).2.2 ≠ 0) := h2
  have H : Hid (Sents w aF aR aS aM) := h
  have hd : decide ((s.size : Int) < 5) = false := by simp; omega
  have hb := letters_yes h1
  clear h h1 h2
  go_enter Tryd.func34, Tryd.ntmps34
  go_wp2_with fail
  refine (takeText_any s 2 _ hs H.out).mono ?_
  rintro e w1 ⟨⟨v, rfl, hv⟩, hb1⟩
  have HV : Hid (FaultV aF aR aS aM v (textAt s 2).2.2) := hv
  rcases fault_cases hv with ⟨_, h0⟩ | ⟨t, y, rfl, _⟩
  · exact absurd h0 HC.out
  · clear hv
    go_wp2
    go_ret2
    exact ⟨read_says HR.out HV.out, hb1⟩

set_option maxHeartbeats 1000000 in
theorem readFrame_size {aF aR aS aM : Addr} (s : ByteArray) (m : Nat) (b : ByteArray) (w : World) (hs : s.size ≤ 1048576) (h : Sents w aF aR aS aM) (h0 : ¬ s.size < 5) (h1 : s.extract 0 2 = ⟨#[67, 79]⟩) (h2 : textAt s 2 = (b, (m : Int), 0)) (h3 : ¬ m + 2 = s.size) (hm : m ≤ s.size) :
    Calls Tryd.prog 34 #[.string s] w fun e w' => ReadSays aF aR aS aM (frameRead s) e ∧ Below w.heap.size w w' := by
  have HR : Hid (frameRead s = (⟨#[]⟩, 8)) := read_size h0 h1 h2 h3
  have HT : Hid (textAt s 2 = (b, (m : Int), 0)) := h2
  have H : Hid (Sents w aF aR aS aM) := h
  have hd : decide ((s.size : Int) < 5) = false := by simp; omega
  have hb := letters_yes h1
  clear h h1 h2
  go_enter Tryd.func34, Tryd.ntmps34
  go_wp2_with fail
  refine (takeText_any s 2 _ hs H.out).mono ?_
  rw [HT.out]
  rintro e w1 ⟨⟨v, rfl, hv⟩, hb1⟩
  rcases fault_cases hv with ⟨rfl, _⟩ | ⟨t, y, _, h0⟩
  · clear hv
    have kS := (H.out.below hb1).cS
    go_wp2_with fail
    refine (checkInt_out _ _ _ aS _ (by omega)).mono ?_
    rintro e w2 ⟨rfl, rfl⟩
    clear kS
    go_wp2
    go_ret2
    exact ⟨read_says HR.out (fault_wrapS _ _ _), hb1⟩
  · exact absurd rfl h0

set_option maxHeartbeats 1000000 in
theorem readFrame_sum {aF aR aS aM : Addr} (s : ByteArray) (m : Nat) (b : ByteArray) (w : World) (hs : s.size ≤ 1048576) (h : Sents w aF aR aS aM) (h0 : ¬ s.size < 5) (h1 : s.extract 0 2 = ⟨#[67, 79]⟩) (h2 : textAt s 2 = (b, (m : Int), 0)) (h3 : m + 2 = s.size)
    (h4 : s.extract m s.size ≠ sumB (s.extract 0 m)) :
    Calls Tryd.prog 34 #[.string s] w fun e w' => ReadSays aF aR aS aM (frameRead s) e ∧ Below w.heap.size w w' := by
  have HR : Hid (frameRead s = (⟨#[]⟩, 9)) := read_sum h0 h1 h2 h3 h4
  have HT : Hid (textAt s 2 = (b, (m : Int), 0)) := h2
  have H : Hid (Sents w aF aR aS aM) := h
  have hd : decide ((s.size : Int) < 5) = false := by simp; omega
  have hb := letters_yes h1
  have hne := other_bytes h4
  have ha : m + 2 ≤ s.size := by omega
  have hc : s.size ≤ m + 2 := by omega
  clear h h1 h2 h3 h4
  go_enter Tryd.func34, Tryd.ntmps34
  go_wp2_with fail
  refine (takeText_any s 2 _ hs H.out).mono ?_
  rw [HT.out]
  rintro e w1 ⟨⟨v, rfl, hv⟩, hb1⟩
  rcases fault_cases hv with ⟨rfl, _⟩ | ⟨t, y, _, h0⟩
  · clear hv
    have kS := (H.out.below hb1).cS
    go_wp2_with fail
    refine (checkInt_in _ _ _ _ _ (by omega) (by omega)).mono ?_
    rintro e w2 ⟨rfl, rfl⟩
    clear kS
    go_wp2_with fail
    go_region_with (go_at_call 32; refine (sumText_any _ _ ?_).mono ?_; (simp [ByteArray.size_extract]; unfold maxLen; omega); rintro e w3 ⟨rfl, hb3⟩)
    all_goals
      have hbx : Below w.heap.size w w3 := hb1.drew.trans (hb3.mono hb1.size)
      have kM := (H.out.below hbx).cM
      clear hb1 hb3
      go_wp2
      go_region
    all_goals go_wp2
    all_goals go_ret2
    all_goals exact ⟨read_says HR.out fault_M, hbx.drew⟩
  · exact absurd rfl h0

set_option maxHeartbeats 1000000 in
theorem readFrame_good {aF aR aS aM : Addr} (s : ByteArray) (m : Nat) (b : ByteArray) (w : World) (hs : s.size ≤ 1048576) (h : Sents w aF aR aS aM) (h0 : ¬ s.size < 5) (h1 : s.extract 0 2 = ⟨#[67, 79]⟩) (h2 : textAt s 2 = (b, (m : Int), 0)) (h3 : m + 2 = s.size)
    (h4 : s.extract m s.size = sumB (s.extract 0 m)) :
    Calls Tryd.prog 34 #[.string s] w fun e w' => ReadSays aF aR aS aM (frameRead s) e ∧ Below w.heap.size w w' := by
  have HR : Hid (frameRead s = (b, 0)) := read_good h0 h1 h2 h3 h4
  have HT : Hid (textAt s 2 = (b, (m : Int), 0)) := h2
  have H : Hid (Sents w aF aR aS aM) := h
  have hd : decide ((s.size : Int) < 5) = false := by simp; omega
  have hb := letters_yes h1
  have hne := same_bytes h4
  have ha : m + 2 ≤ s.size := by omega
  have hc : s.size ≤ m + 2 := by omega
  clear h h1 h2 h3 h4
  go_enter Tryd.func34, Tryd.ntmps34
  go_wp2_with fail
  refine (takeText_any s 2 _ hs H.out).mono ?_
  rw [HT.out]
  rintro e w1 ⟨⟨v, rfl, hv⟩, hb1⟩
  rcases fault_cases hv with ⟨rfl, _⟩ | ⟨t, y, _, h0⟩
  · clear hv
    have kS := (H.out.below hb1).cS
    go_wp2_with fail
    refine (checkInt_in _ _ _ _ _ (by omega) (by omega)).mono ?_
    rintro e w2 ⟨rfl, rfl⟩
    clear kS
    go_wp2_with fail
    go_region_with (go_at_call 32; refine (sumText_any _ _ ?_).mono ?_; (simp [ByteArray.size_extract]; unfold maxLen; omega); rintro e w3 ⟨rfl, hb3⟩)
    all_goals
      have hbx : Below w.heap.size w w3 := hb1.drew.trans (hb3.mono hb1.size)
      clear hb1 hb3
      go_wp2
    all_goals go_ret2
    all_goals exact ⟨read_says HR.out fault_nil, hbx⟩
  · exact absurd rfl h0

theorem readFrame_any {aF aR aS aM : Addr} (s : ByteArray) (w : World) (hs : s.size ≤ 1048576) (h : Sents w aF aR aS aM) :
    Calls Tryd.prog 34 #[.string s] w fun e w' => ReadSays aF aR aS aM (frameRead s) e ∧ Below w.heap.size w w' := by
  by_cases h0 : s.size < 5
  · exact readFrame_short s w h h0
  by_cases h1 : s.extract 0 2 = ⟨#[67, 79]⟩
  · rcases textAt_parts s 2 with ⟨hc, _, _⟩ | ⟨b, m, ht, hm⟩
    · exact readFrame_code s w hs h h0 h1 hc
    · by_cases h3 : m + 2 = s.size
      · by_cases h4 : s.extract m s.size = sumB (s.extract 0 m)
        · exact readFrame_good s m b w hs h h0 h1 ht h3 h4
        · exact readFrame_sum s m b w hs h h0 h1 ht h3 h4
      · exact readFrame_size s m b w hs h h0 h1 ht h3 hm
  · exact readFrame_letters s w h h0 h1

/-- What ReadFrame answers: the text and the code. -/
def readTop (s : ByteArray) : ByteArray × Int := if s.size ≤ 65536 then frameRead s else (⟨#[]⟩, 2)

theorem implReadFrame_any {aF aR aS aM : Addr} (s : ByteArray) (w : World) (hs : s.size ≤ 1048576) (h : Sents w aF aR aS aM) :
    Calls Tryd.prog 15 #[.string s] w fun e w' => e = .returned (.tuple #[.string (readTop s).1, .int .i64 (readTop s).2]) ∧ Below w.heap.size w w' := by
  have H : Hid (Sents w aF aR aS aM) := h
  clear h
  by_cases hl : s.size ≤ 65536
  · have HA : Hid (readTop s = frameRead s) := if_pos hl
    go_enter Tryd.func15, Tryd.ntmps15
    go_wp2_with fail
    refine (readFrame_any s _ hs H.out).mono ?_
    rintro e w1 ⟨⟨v, rfl, hv⟩, hb1⟩
    have HV : Hid (FaultV aF aR aS aM v (frameRead s).2) := hv
    clear hv
    go_wp2_with fail
    refine (codeOfFault_any v _ _ (H.out.below hb1) HV.out).mono ?_
    rintro e w2 ⟨rfl, hb2⟩
    have hb := hb1.trans (hb2.mono hb1.size)
    clear hb1 hb2
    go_wp2
    go_ret2
    exact ⟨by rw [HA.out]; rfl, hb⟩
  · have HA : Hid (readTop s = (⟨#[]⟩, 2)) := if_neg hl
    go_enter Tryd.func15, Tryd.ntmps15
    go_wp2
    go_ret2
    exact ⟨by rw [HA.out]; rfl, Below.refl _ _⟩
end Go.Proofs.YtgpnkjapgfkblaaDoor
