/-
  What the inner functions behind TakeText answer, the program's (where the four variables hold four sentinels at different places) and the specification's: the text, the place behind it, an error or its code. They make new memory alone.
-/
import Derived.Test.YtgpnkjapgfkblaaDoorTakeAt
import Derived.Test.YtgpnkjapgfkblaaDoorNewText
namespace Go.Proofs.YtgpnkjapgfkblaaDoor
open Go.RowKit

theorem takeAt_parts (s : ByteArray) (x : Int) : ((takeAt s x).2.2 ≠ 0 ∧ (takeAt s x).1 = 0 ∧ (takeAt s x).2.1 = 0) ∨
    ∃ n m : Nat, takeAt s x = ((n : Int), (m : Int), 0) ∧ n ≤ 999999 ∧ m ≤ s.size := by
  by_cases h : 0 ≤ x ∧ x ≤ (s.size : Int)
  · rw [takeAt_in h]
    rcases take0_parts s x.toNat with h1 | ⟨n, m, h1, h2, h3, _⟩
    · exact .inl h1
    · exact .inr ⟨n, m, h1, h2, h3⟩
  · rw [takeAt_out h]; exact .inl ⟨by decide, rfl, rfl⟩

/-- The text whose length and bytes stand from a place on, the place behind it, the code. -/
def textAt (s : ByteArray) (x : Int) : ByteArray × Int × Int :=
  if (takeAt s x).2.2 = 0 then
    if (takeAt s x).2.1 + (takeAt s x).1 ≤ (s.size : Int) then (s.extract (takeAt s x).2.1.toNat ((takeAt s x).2.1.toNat + (takeAt s x).1.toNat), (takeAt s x).2.1 + (takeAt s x).1, 0)
    else (⟨#[]⟩, 0, 8)
  else (⟨#[]⟩, 0, (takeAt s x).2.2)

theorem textAt_code {s : ByteArray} {x : Int} (h : (takeAt s x).2.2 ≠ 0) : textAt s x = (⟨#[]⟩, 0, (takeAt s x).2.2) := if_neg h
theorem textAt_short {s : ByteArray} {x : Int} {n m : Nat} (h : takeAt s x = ((n : Int), (m : Int), 0)) (hl : s.size < m + n) : textAt s x = (⟨#[]⟩, 0, 8) := by
  rw [textAt, h]; simp; omega
theorem textAt_whole {s : ByteArray} {x : Int} {n m : Nat} (h : takeAt s x = ((n : Int), (m : Int), 0)) (hl : m + n ≤ s.size) : textAt s x = (s.extract m (m + n), (m : Int) + (n : Int), 0) := by
  rw [textAt, h]; simp; omega

/-- An ending answers a text, a place, and an error of the code. -/
def TextSays (aF aR aS aM : Addr) (r : ByteArray × Int × Int) (e : Ending) : Prop := ∃ v, e = .returned (.tuple #[.string r.1, .int .i64 r.2.1, v]) ∧ FaultV aF aR aS aM v r.2.2
theorem text_says {aF aR aS aM : Addr} {r : ByteArray × Int × Int} {x : ByteArray} {y c : Int} {v : Value} (hr : r = (x, y, c)) (hv : FaultV aF aR aS aM v c) : TextSays aF aR aS aM r (.returned (.tuple #[.string x, .int .i64 y, v])) := by
  subst hr; exact ⟨v, rfl, hv⟩
/-- An ending answers a text, a place, and the code. -/
def TextIs (r : ByteArray × Int × Int) (e : Ending) : Prop := e = .returned (.tuple #[.string r.1, .int .i64 r.2.1, .int .i64 r.2.2])
theorem text_is {r : ByteArray × Int × Int} {x : ByteArray} {y c : Int} (hr : r = (x, y, c)) : TextIs r (.returned (.tuple #[.string x, .int .i64 y, .int .i64 c])) := by
  subst hr; rfl

set_option maxHeartbeats 1000000 in
theorem takeText_any {aF aR aS aM : Addr} (s : ByteArray) (x : Int) (w : World) (hs : s.size ≤ 1048576) (h : Sents w aF aR aS aM) :
    Calls Tryd.prog 31 #[.string s, .int .i64 x] w fun e w' => TextSays aF aR aS aM (textAt s x) e ∧ Below w.heap.size w w' := by
  have H : Hid (Sents w aF aR aS aM) := h
  clear h
  rcases takeAt_parts s x with ⟨hc, hx, hy⟩ | ⟨n, m, ht, hn, hm⟩
  · have HT : Hid (textAt s x = (⟨#[]⟩, 0, (takeAt s x).2.2)) := textAt_code hc
    have HC : Hid ((takeAt s x).2.2 ≠ 0) := hc
    clear hc hx hy
    go_enter Tryd.func31, Tryd.ntmps31
    go_wp2_with fail
    refine (takeNumber_any s x _ hs H.out).mono ?_
    rintro e w1 ⟨⟨v, rfl, hv⟩, hb1⟩
    have HV : Hid (FaultV aF aR aS aM v (takeAt s x).2.2) := hv
    rcases fault_cases hv with ⟨_, h0⟩ | ⟨t, y, rfl, _⟩
    · exact absurd h0 HC.out
    · clear hv
      go_wp2
      go_ret3
      exact ⟨text_says HT.out HV.out, hb1⟩
  · have HT0 : Hid (takeAt s x = ((n : Int), (m : Int), 0)) := ht
    clear ht
    by_cases hl : m + n ≤ s.size
    · have HT : Hid (textAt s x = (s.extract m (m + n), (m : Int) + (n : Int), 0)) := textAt_whole HT0.out hl
      go_enter Tryd.func31, Tryd.ntmps31
      go_wp2_with fail
      refine (takeNumber_any s x _ hs H.out).mono ?_
      rw [HT0.out]
      rintro e w1 ⟨⟨v, rfl, hv⟩, hb1⟩
      rcases fault_cases hv with ⟨rfl, _⟩ | ⟨t, y, _, h0⟩
      · clear hv
        have kS := (H.out.below hb1).cS
        go_wp2_with fail
        refine (checkInt_in _ _ _ _ _ (by omega) (by omega)).mono ?_
        rintro e w2 ⟨rfl, rfl⟩
        go_wp2_with fail
        refine (newText_any _ _).mono ?_
        rintro e w3 ⟨rfl, hb3⟩
        have hb := hb1.trans (hb3.mono hb1.size)
        clear hb1 hb3 kS
        go_wp2
        go_ret3
        exact ⟨text_says HT.out fault_nil, hb⟩
      · exact absurd rfl h0
    · have HT : Hid (textAt s x = (⟨#[]⟩, 0, 8)) := textAt_short HT0.out (by omega)
      go_enter Tryd.func31, Tryd.ntmps31
      go_wp2_with fail
      refine (takeNumber_any s x _ hs H.out).mono ?_
      rw [HT0.out]
      rintro e w1 ⟨⟨v, rfl, hv⟩, hb1⟩
      rcases fault_cases hv with ⟨rfl, _⟩ | ⟨t, y, _, h0⟩
      · clear hv
        have kS := (H.out.below hb1).cS
        go_wp2_with fail
        refine (checkInt_out _ _ _ aS _ (by omega)).mono ?_
        rintro e w2 ⟨rfl, rfl⟩
        clear kS
        go_wp2
        go_ret3
        exact ⟨text_says HT.out (fault_wrapS _ _ _), hb1⟩
      · exact absurd rfl h0

end Go.Proofs.YtgpnkjapgfkblaaDoor
