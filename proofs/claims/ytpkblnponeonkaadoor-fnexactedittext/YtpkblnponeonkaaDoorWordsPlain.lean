/-
  The words of a text, plainly: runs of bytes that are not blanks.
-/
import Derived.Lib.ItoaMem
namespace Go.Proofs.YtpkblnponeonkaaDoor

/-- The words of what is left, behind the beginning of a word. -/
def scanW (cur : List UInt8) : List UInt8 → List (List UInt8)
  | [] => if cur = [] then [] else [cur]
  | c :: r => if c = 32 then (if cur = [] then scanW [] r else cur :: scanW [] r) else scanW (cur ++ [c]) r

/-- The words of a text. -/
def wordsP (l : List UInt8) : List (List UInt8) := scanW [] l

/-- No blank in it, and not empty. -/
def WordT (w : List UInt8) : Prop := w ≠ [] ∧ ∀ c ∈ w, c ≠ 32

theorem scan_run : ∀ (w r cur : List UInt8), (∀ c ∈ w, c ≠ 32) → scanW cur (w ++ r) = scanW (cur ++ w) r
  | [], r, cur, _ => by simp
  | c :: w, r, cur, h => by
    rw [List.cons_append, scanW, if_neg (h c (by simp)), scan_run w r _ (fun x hx => h x (by simp [hx]))]
    simp

theorem scan_blank (r : List UInt8) : wordsP (32 :: r) = wordsP r := by simp [wordsP, scanW]

theorem scan_blanks : ∀ (b r : List UInt8), (∀ c ∈ b, c = 32) → wordsP (b ++ r) = wordsP r
  | [], r, _ => rfl
  | c :: b, r, h => by
    have := h c (by simp)
    subst this
    rw [List.cons_append, scan_blank, scan_blanks b r (fun x hx => h x (by simp [hx]))]

theorem scan_end {w : List UInt8} (h : WordT w) : wordsP w = [w] := by
  have := scan_run w [] [] h.2
  rw [List.append_nil, List.nil_append] at this
  rw [wordsP, this, scanW, if_neg h.1]

theorem scan_word {w : List UInt8} (h : WordT w) (r : List UInt8) : wordsP (w ++ 32 :: r) = w :: wordsP r := by
  rw [wordsP, scan_run w _ [] h.2, List.nil_append, scanW, if_pos rfl, if_neg h.1]
  rfl

/-- Words with a blank between each two of them. -/
def spaced : List (List UInt8) → List UInt8
  | [] => []
  | w :: ws => w ++ ws.flatMap (32 :: ·)

theorem scan_glue : ∀ (ws : List (List UInt8)), (∀ w ∈ ws, WordT w) → wordsP (ws.flatMap (32 :: ·)) = ws
  | [], _ => rfl
  | w :: ws, h => by
    have ih := scan_glue ws (fun x hx => h x (by simp [hx]))
    have hw := h w (by simp)
    rw [List.flatMap_cons, List.cons_append, scan_blank]
    cases ws with
    | nil => rw [List.flatMap_nil, List.append_nil, scan_end hw]
    | cons w' ws' =>
      rw [List.flatMap_cons, List.cons_append, scan_word hw]
      rw [List.flatMap_cons, List.cons_append, scan_blank] at ih
      rw [ih]

theorem scan_spaced (ws : List (List UInt8)) (h : ∀ w ∈ ws, WordT w) : wordsP (spaced ws) = ws := by
  cases ws with
  | nil => rfl
  | cons w ws =>
    have := scan_glue (w :: ws) h
    rw [List.flatMap_cons, List.cons_append, scan_blank] at this
    exact this

/-- Every word is one. -/
theorem scan_all : ∀ (l cur : List UInt8), (∀ c ∈ cur, c ≠ 32) → ∀ w ∈ scanW cur l, WordT w
  | [], cur, hc, w, hw => by
    unfold scanW at hw
    split at hw
    · cases hw
    · rename_i h; simp at hw; subst hw; exact ⟨h, hc⟩
  | c :: l, cur, hc, w, hw => by
    unfold scanW at hw
    split at hw
    · split at hw
      · exact scan_all l [] (by simp) w hw
      · rename_i h
        rcases List.mem_cons.1 hw with rfl | hw
        · exact ⟨h, hc⟩
        · exact scan_all l [] (by simp) w hw
    · rename_i h
      exact scan_all l _ (by intro x hx; rcases List.mem_append.1 hx with hx | hx; exact hc x hx; simp at hx; subst hx; exact h) w hw

theorem words_all (l : List UInt8) : ∀ w ∈ wordsP l, WordT w := scan_all l [] (by simp)

/-- What is read next: blanks, a run of others, and what is behind it. -/
theorem words_next {b w r : List UInt8} (hb : ∀ c ∈ b, c = 32) (hw : ∀ c ∈ w, c ≠ 32) (hr : r = [] ∨ w ≠ [] ∧ ∃ r', r = 32 :: r') :
    (wordsP (b ++ w ++ r)).head?.getD [] = w ∧ wordsP r = (wordsP (b ++ w ++ r)).tail := by
  rw [List.append_assoc, scan_blanks b _ hb]
  by_cases h : w = []
  · subst h
    rw [List.nil_append]
    rcases hr with rfl | ⟨h, _⟩
    · exact ⟨rfl, rfl⟩
    · exact absurd rfl h
  · rcases hr with rfl | ⟨_, r', rfl⟩
    · rw [List.append_nil, scan_end ⟨h, hw⟩]; exact ⟨rfl, rfl⟩
    · rw [scan_word ⟨h, hw⟩, scan_blank]; exact ⟨rfl, rfl⟩
end Go.Proofs.YtpkblnponeonkaaDoor
