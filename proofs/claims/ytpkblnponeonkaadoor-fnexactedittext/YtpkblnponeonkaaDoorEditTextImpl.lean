/-
  EditText: what the program answers.
-/
import Derived.Test.YtpkblnponeonkaaDoorEditWords
import Derived.Test.YtpkblnponeonkaaDoorEditImpl
import Derived.Test.YtpkblnponeonkaaDoorHexWalks
import Derived.Test.YtpkblnponeonkaaDoorKeptBut
import Derived.Test.YtpkblnponeonkaaDoorShelfT
import Derived.Deep.RegionWith
import Derived.Lib.AppendIntMem
import Derived.Lib.Join
namespace Go.Proofs.YtpkblnponeonkaaDoor
open Go.RowKit

theorem hexWord_any (t : ByteArray) (w : World) (ht : t.size ≤ 1048576) :
    Calls Tryd.prog 37 #[.string t] w fun e w' => e = .returned (.string (bt (hexWL t))) ∧ Below w.heap.size w w' := by
  by_cases h : t.size = 0
  · have h1 : t.toList = [] := toList_nil.2 h
    have h2 : t.toList.isEmpty = true := by rw [h1]; rfl
    have HE : Hid (hexWL t = [45]) := by unfold Hid hexWL; rw [if_pos h]
    have h3 := empty_iff.2 h
    subst h3
    go_enter Tryd.func37, Tryd.ntmps37
    go_wp2_with fail
    go_ret
    exact ⟨by rw [HE.out]; rfl, Below.refl _ _⟩
  · have hte : ¬ t.toList = [] := fun h' => h (toList_nil.1 h')
    have hte6 : t.toList.isEmpty = false := by rw [List.isEmpty_eq_false_iff]; exact hte
    have HE : Hid (hexWL t = hexL t.data.toList) := by unfold Hid hexWL; rw [if_neg h]
    go_enter Tryd.func37, Tryd.ntmps37
    go_wp2_with (go_at_call 64; refine (hexOf_any t _ ht).mono ?_; rintro e w1 ⟨rfl, hb⟩)
    go_ret
    exact ⟨by rw [HE.out]; rfl, hb⟩

/-- What a form has, told by its bounds. -/
theorem hasA_any (wd : Value) (a b c d : Int) (w : World) :
    Calls Tryd.prog 34 #[.agg #[wd, .int .i64 a, .int .i64 b, .int .i64 c, .int .i64 d]] w fun e w' => e = .returned (.bool (decide (0 < b))) ∧ Below w.heap.size w w' := by
  go_enter Tryd.func34, Tryd.ntmps34
  go_wp2_with fail
  all_goals
    go_ret
    exact ⟨by simp_all, (Below.refl _ _).alloc (Nat.le_refl _) _⟩

theorem hasB_of (wd : Value) (a b c d : Int) (w : World) :
    Calls Tryd.prog 35 #[.agg #[wd, .int .i64 a, .int .i64 b, .int .i64 c, .int .i64 d]] w fun e w' => e = .returned (.bool (decide (0 < c))) ∧ Below w.heap.size w w' := by
  go_enter Tryd.func35, Tryd.ntmps35
  go_wp2_with fail
  all_goals
    go_ret
    exact ⟨by simp_all, (Below.refl _ _).alloc (Nat.le_refl _) _⟩

theorem hasText_of (wd : Value) (a b c d : Int) (w : World) :
    Calls Tryd.prog 36 #[.agg #[wd, .int .i64 a, .int .i64 b, .int .i64 c, .int .i64 d]] w fun e w' => e = .returned (.bool (decide (0 < d))) ∧ Below w.heap.size w w' := by
  go_enter Tryd.func36, Tryd.ntmps36
  go_wp2_with fail
  all_goals
    go_ret
    exact ⟨by simp_all, (Below.refl _ _).alloc (Nat.le_refl _) _⟩

/-- The table of powers of ten, as the library's numerals read it. -/
def PowAt (w : World) : Prop := Lib.TabIs Tryd.prog w "internal/strconv.uint64pow10" .u64 Lib.pow10Tab

theorem PowAt.below {w w' : World} (h : PowAt w) (hb : Below w.heap.size w w') : PowAt w' := by
  unfold PowAt Lib.TabIs World.var? at *
  cases hg : Tryd.prog.globalNamed "internal/strconv.uint64pow10" with
  | none => simp [hg] at h
  | some g =>
    simp only [hg, Option.bind_some] at h ⊢
    have hlt : g < w.heap.size := by
      rcases Nat.lt_or_ge g w.heap.size with h' | h'
      · exact h'
      · rw [Array.getElem?_eq_none h'] at h; simp at h
    rw [hb.block g hlt]
    exact h

theorem itoa_any (n : Int) (h0 : -9223372036854775808 ≤ n) (h1 : n ≤ 9223372036854775807) (w : World) (h : PowAt w) :
    Calls Tryd.prog 33 #[.int .i64 n] w fun e w' => e = .returned (.string (bt (Lib.itoa n))) ∧ Below w.heap.size w w' :=
  (Tryd.strconv_Itoa n h0 h1 w h).mono fun e w' ⟨he, k, os, hw⟩ => ⟨he, by rw [hw]; exact Lib.below_grow _ w (Nat.le_refl _) k os⟩

theorem infoStr : (Tryd.prog.info? 9).map (fun i => (i.zero, i.size, i.bytes)) = some (some (.string ⟨#[]⟩), 1, 16) := by kernel_rfl
theorem one_str (s : ByteArray) : ∀ u ∈ [Value.string s], u.oneCell' = true := by
  intro u hu; rw [List.mem_singleton] at hu; subst hu; rfl

/-- strings.Join of words with blanks between. -/
theorem joinWords_any (B : Nat) (v : Value) (ws : List (List UInt8)) (w : World) (h : w.ownsRow B 9 1 v ws.length (ws.map fun l => Value.string (bt l))) (hn : 0 < ws.length) (hl : ws.length ≤ 1000) (hs : (spaced ws).length ≤ 1000) :
    Calls Tryd.prog 38 #[v, .string ⟨#[32]⟩] w fun e w' => e = .returned (.string (bt (spaced ws))) ∧ Below w.heap.size w w' := by
  have h' := h
  obtain ⟨_, ⟨rfl, h0⟩ | ⟨g, cap, cur, rfl, hg, hh, h1, h2, h3, h4⟩⟩ := h
  · omega
  · have hm : (ws.map bt).map (·.data.toList) = ws := by
      rw [List.map_map]
      conv => rhs; rw [← List.map_id ws]
      apply List.map_congr_left
      intro l _
      simp [bt]
    have hj : Lib.join ((ws.map bt).map (·.data.toList)) (⟨#[32]⟩ : ByteArray).data.toList = spaced ws := by rw [hm]; exact join_spaced ws
    have := Tryd.strings_Join g 0 cap (ws.map bt) ⟨#[32]⟩ w (fun j x hx => by
      have := h'.cells (g := g) rfl j (.string x) (by
        rw [List.getElem?_map] at hx ⊢
        obtain ⟨l, hl, rfl⟩ := Option.map_eq_some_iff.1 hx
        rw [hl]; rfl)
      rw [Go.WideShapes.add_plain] at this
      exact this) (Array.getElem?_eq_some_iff.1 hh).1 (by simp; omega) (by simp; omega) (by rw [hj]; omega)
    rw [hj, List.length_map] at this
    exact this
end Go.Proofs.YtpkblnponeonkaaDoor
