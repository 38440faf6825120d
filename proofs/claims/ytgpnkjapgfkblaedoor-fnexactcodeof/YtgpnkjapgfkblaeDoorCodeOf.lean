/-
  What CodeOf answers, the program's (where its table holds the words) and the specification's: the code of a word, -1 of any other text. They make new memory alone.
-/
import Derived.Test.YtgpnkjapgfkblaeDoorWordLaid
import Derived.Laws.Rows
namespace Go.Proofs.YtgpnkjapgfkblaeDoor
open Go.RowKit

/-- The words as the table's cells hold them. -/
def wordsA : Array Value := #[.string ⟨#[111, 107]⟩, .string ⟨#[98, 97, 100]⟩, .string ⟨#[108, 111, 110, 103]⟩, .string ⟨#[102, 111, 114, 109]⟩, .string ⟨#[114, 97, 110, 103, 101]⟩, .string ⟨#[110, 111, 110, 101]⟩, .string ⟨#[109, 97, 110, 121]⟩, .string ⟨#[102, 117, 108, 108]⟩, .string ⟨#[115, 105, 122, 101]⟩, .string ⟨#[115, 117, 109]⟩, .string ⟨#[107, 105, 110, 100]⟩, .string ⟨#[100, 101, 101, 112]⟩, .string ⟨#[99, 111, 110, 116, 101, 110, 116]⟩, .string ⟨#[114, 111, 111, 116]⟩, .string ⟨#[119, 97, 105, 116]⟩, .string ⟨#[118, 105, 99, 116, 105, 109]⟩, .string ⟨#[108, 97, 112, 115, 101, 100]⟩, .string ⟨#[104, 101, 108, 100]⟩, .string ⟨#[119, 111, 114, 107]⟩, .string ⟨#[109, 111, 100, 101]⟩, .string ⟨#[111, 114, 100, 101, 114]⟩, .string ⟨#[115, 97, 109, 101]⟩]

/-- The table's block holds the words. -/
def WordsBlk (w : World) : Prop := ∃ t fr, w.heap[0]? = some (.cells wordsA t fr)

theorem place_cases {k : Nat} (hk : k < 22) : k = 0 ∨ k = 1 ∨ k = 2 ∨ k = 3 ∨ k = 4 ∨ k = 5 ∨ k = 6 ∨ k = 7 ∨ k = 8 ∨ k = 9 ∨ k = 10 ∨ k = 11 ∨ k = 12 ∨ k = 13 ∨ k = 14 ∨ k = 15 ∨ k = 16 ∨ k = 17 ∨ k = 18 ∨ k = 19 ∨ k = 20 ∨ k = 21 := by omega

theorem wordsA_at (k : Nat) (hk : k < 22) : wordsA[k]? = some (.string (wordB (k : Int))) := by
  rw [← word_at k hk]
  rcases place_cases hk with rfl | rfl | rfl | rfl | rfl | rfl | rfl | rfl | rfl | rfl | rfl | rfl | rfl | rfl | rfl | rfl | rfl | rfl | rfl | rfl | rfl | rfl <;> rfl

theorem wordsBlk_of_laid {W : World} {rest : List (String × DataW Unit)} (h : laidMet Tryd.prog (("loop.example/g00701/impl.codeWords", Rows.laid_loop_example_g00701_impl_codeWords) :: rest) W) : WordsBlk W := by
  have hw := wordsAt_of_laid h
  obtain ⟨ps, ⟨g, t, cs, fuel, p, q, hg, ht, hv, hd, _, _⟩, _, _⟩ := h
  obtain rfl := Option.some.inj ((show Tryd.prog.globalNamed "loop.example/g00701/impl.codeWords" = some 0 by kernel_rfl).symm.trans hg)
  obtain rfl := Option.some.inj ((show (Tryd.prog.globals[0]?).map (·.type) = some 33 by kernel_rfl).symm.trans ht)
  have cT : Tryd.prog.cellsOf 33 = 22 := by kernel_rfl
  obtain ⟨xs, m, _, ex, hlen, hl, hel⟩ := DataW.trod_array Tryd.underlying33 hd
  rw [cT] at hlen
  have hs : wordsA.size = 22 := rfl
  have e : cs = wordsA := by
    apply Array.ext_getElem?
    intro k
    by_cases hk : k < 22
    · rw [wordsA_at k hk, ← World.var?_cell hg hv k, hw k hk]
    · rw [Array.getElem?_eq_none (by simp at hlen; omega), Array.getElem?_eq_none (by omega)]
  subst e
  simp only [World.var?, hg, Option.bind_some] at hv
  split at hv
  · rename_i cs t fr hh
    simp at hv
    subst hv
    exact ⟨t, fr, hh⟩
  · simp at hv

theorem WordsBlk.below {w w' : World} (ht : WordsBlk w) (hb : Below w.heap.size w w') : WordsBlk w' := by
  obtain ⟨t, fr, h⟩ := ht
  exact ⟨t, fr, by rw [hb.block _ (by have := (Array.getElem?_eq_some_iff.1 h).1; exact this)]; exact h⟩

/-- A number is the code of a text. -/
def IsCode (s : ByteArray) (r : Int) : Prop := (∃ k : Nat, k < 22 ∧ r = k ∧ wordB (k : Int) = s ∧ ∀ j : Nat, j < k → wordB (j : Int) ≠ s) ∨ (r = -1 ∧ ∀ j : Nat, j < 22 → wordB (j : Int) ≠ s)

theorem IsCode.one {s : ByteArray} {a b : Int} (ha : IsCode s a) (hb : IsCode s b) : a = b := by
  rcases ha with ⟨k, hk, rfl, hw, hn⟩ | ⟨rfl, hn⟩
  · rcases hb with ⟨k', hk', rfl, hw', hn'⟩ | ⟨rfl, hn'⟩
    · rcases Nat.lt_trichotomy k k' with h | h | h
      · exact absurd hw (hn' k h)
      · rw [h]
      · exact absurd hw' (hn k' h)
    · exact absurd hw (hn' k hk)
  · rcases hb with ⟨k', hk', rfl, hw', hn'⟩ | ⟨rfl, hn'⟩
    · exact absurd hw' (hn k' hk')
    · rfl

theorem word_index (k : Nat) (hk : k < 22) (w : World) : (Instr.index 33 (.agg wordsA) (.int .i64 (k : Int))).run Tryd.prog w = .ok (.string (wordB (k : Int))) w := by
  rw [← word_at k hk]
  rcases place_cases hk with rfl | rfl | rfl | rfl | rfl | rfl | rfl | rfl | rfl | rfl | rfl | rfl | rfl | rfl | rfl | rfl | rfl | rfl | rfl | rfl | rfl | rfl <;> kernel_rfl

theorem same_text {a b : ByteArray} (h : a = b) : (a.toList == b.toList) = true := by rw [h]; simp
theorem other_text {a b : ByteArray} (h : a ≠ b) : (a.toList == b.toList) = false := by
  rw [beq_eq_false_iff_ne]
  intro e
  rw [ByteArray.toList_eq, ByteArray.toList_eq] at e
  exact h (ByteArray.ext (Array.ext' e))

/-- An ending answers a text's code. -/
def Codes (e : Ending) (s : ByteArray) : Prop := ∃ r, e = .returned (.int .i64 r) ∧ IsCode s r

theorem none_next {s : ByteArray} {k : Nat} (h : ∀ j : Nat, j < k → wordB (j : Int) ≠ s) (hk : wordB (k : Int) ≠ s) : ∀ j : Nat, j < k + 1 → wordB (j : Int) ≠ s := by
  intro j hj
  by_cases e : j = k
  · rw [e]; exact hk
  · exact h j (by omega)

set_option maxHeartbeats 1000000 in
set_option maxRecDepth 100000 in
theorem specCodeOf_any (s : ByteArray) (w : World) :
    Calls Tryd.prog 7 #[.string s] w fun e w' => Codes e s ∧ Below w.heap.size w w' := by
  go_enter Tryd.func7, Tryd.ntmps7
  go_wp2
  go_loopw [3] (fun i wr => ∃ k : Nat, k ≤ 22 ∧ i = .int .i64 k ∧ Hid (∀ j : Nat, j < k → wordB (j : Int) ≠ s) ∧ Below w.heap.size w wr) (fun i _ => 22 - (intOf i).toNat)
  case atStart => exact ⟨0, by omega, rfl, fun j hj => absurd hj (Nat.not_lt_zero _), Below.refl _ _⟩
  case round =>
    obtain ⟨k, hk, rfl, HN, hnx⟩ := hrel
    by_cases hlt : k < 22
    · by_cases he : wordB (k : Int) = s
      · have hb := same_text he
        have HC : Hid (IsCode s (k : Int)) := .inl ⟨k, hlt, rfl, he, HN.out⟩
        clear he
        go_wp2_with (go_at_call 15; refine (specWord_any _ _).mono ?_; rintro e w1 ⟨rfl, hb1⟩)
        go_ret
        exact ⟨⟨_, rfl, HC.out⟩, hnx.trans (hb1.mono hnx.size)⟩
      · have hb := other_text he
        have HN' : Hid (∀ j : Nat, j < k + 1 → wordB (j : Int) ≠ s) := none_next HN.out he
        clear he
        go_wp2_with (go_at_call 15; refine (specWord_any _ _).mono ?_; rintro e w1 ⟨rfl, hb1⟩)
        go_roundw
        case rel => exact ⟨k + 1, by omega, by go_num, HN', hnx.trans (hb1.mono hnx.size)⟩
        case measure => simp [intOf]; omega
    · have HC : Hid (IsCode s (-1)) := .inr ⟨rfl, fun j hj => HN.out j (by omega)⟩
      go_wp2
      go_ret
      exact ⟨⟨_, rfl, HC.out⟩, hnx⟩

set_option maxHeartbeats 1000000 in
set_option maxRecDepth 100000 in
theorem implCodeOf_any (s : ByteArray) (w : World) (ht : WordsBlk w) :
    Calls Tryd.prog 8 #[.string s] w fun e w' => Codes e s ∧ w' = w := by
  obtain ⟨tt, fr, hg⟩ := ht
  go_enter Tryd.func8, Tryd.ntmps8
  go_wp2_with (refine wpList_load_row rfl 33 _ rfl 0 rfl tt _ fr _ hg Tryd.underlying33 rfl (by kernel_rfl) ?_)
  clear hg
  go_loop [6] (fun i => ∃ k : Nat, k ≤ 22 ∧ i = .int .i64 k ∧ Hid (∀ j : Nat, j < k → wordB (j : Int) ≠ s)) (fun i => 22 - (intOf i).toNat)
  case atStart => exact ⟨0, by omega, rfl, fun j hj => absurd hj (Nat.not_lt_zero _)⟩
  case round =>
    obtain ⟨k, hk, rfl, HN⟩ := hrel
    by_cases hlt : k < 22
    · have hi := word_index k hlt
      by_cases he : wordB (k : Int) = s
      · have hb := same_text he
        have HC : Hid (IsCode s (k : Int)) := .inl ⟨k, hlt, rfl, he, HN.out⟩
        clear he
        go_wp2
        go_ret
        exact ⟨⟨_, rfl, HC.out⟩, rfl⟩
      · have hb := other_text he
        have HN' : Hid (∀ j : Nat, j < k + 1 → wordB (j : Int) ≠ s) := none_next HN.out he
        clear he
        go_wp2
        go_round
        case rel => exact ⟨k + 1, by omega, by go_num, HN'⟩
        case measure => simp [intOf]; omega
    · have HC : Hid (IsCode s (-1)) := .inr ⟨rfl, fun j hj => HN.out j (by omega)⟩
      go_wp2
      go_ret
      exact ⟨⟨_, rfl, HC.out⟩, rfl⟩

theorem codeOfLaw_any (s : ByteArray) (w : World) (hs : s.size ≤ maxLen) (ht : WordsBlk w) :
    Calls Tryd.prog 3 #[.string s] w fun e w' => e = .returned (.bool true) ∧ Below w.heap.size w w' := by
  unfold maxLen at hs
  by_cases hlt : 1048576 < s.size
  · clear ht
    go_enter Tryd.func3, Tryd.ntmps3
    go_wp2
    go_ret
    exact ⟨rfl, Below.refl _ _⟩
  · have HT : Hid (WordsBlk w) := ht
    clear ht
    go_enter Tryd.func3, Tryd.ntmps3
    go_wp2_with fail
    refine (specCodeOf_any s _).mono ?_
    rintro e w1 ⟨⟨r, rfl, hr⟩, hb1⟩
    have HR : Hid (IsCode s r) := hr
    clear hr
    go_wp2_with fail
    refine (implCodeOf_any s _ (HT.out.below hb1)).mono ?_
    rintro e w2 ⟨⟨r', rfl, hr'⟩, rfl⟩
    obtain rfl : r' = r := hr'.one HR.out
    clear hr'
    go_wp2
    go_ret
    exact ⟨rfl, hb1⟩
end Go.Proofs.YtgpnkjapgfkblaeDoor
