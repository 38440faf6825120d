/-
  The words of the codes as a plain function: the word of a code from 0 to 21, the empty text of any other number.
-/
namespace Go.Proofs.YtgpnkjapgfkblaeDoor

/-- The words, by their codes. -/
def wordsL : List (List UInt8) := [[111, 107], [98, 97, 100], [108, 111, 110, 103], [102, 111, 114, 109], [114, 97, 110, 103, 101], [110, 111, 110, 101], [109, 97, 110, 121], [102, 117, 108, 108], [115, 105, 122, 101], [115, 117, 109], [107, 105, 110, 100], [100, 101, 101, 112], [99, 111, 110, 116, 101, 110, 116], [114, 111, 111, 116], [119, 97, 105, 116], [118, 105, 99, 116, 105, 109], [108, 97, 112, 115, 101, 100], [104, 101, 108, 100], [119, 111, 114, 107], [109, 111, 100, 101], [111, 114, 100, 101, 114], [115, 97, 109, 101]]
/-- The word of a code. -/
def wordB (c : Int) : ByteArray := if 0 ≤ c ∧ c ≤ 21 then ⟨(wordsL.getD c.toNat []).toArray⟩ else ⟨#[]⟩

theorem wordB_out {c : Int} (h : ¬ (0 ≤ c ∧ c ≤ 21)) : wordB c = ⟨#[]⟩ := if_neg h

theorem code_cases {c : Int} (h0 : 0 ≤ c) (h1 : c ≤ 21) : c = 0 ∨ c = 1 ∨ c = 2 ∨ c = 3 ∨ c = 4 ∨ c = 5 ∨ c = 6 ∨ c = 7 ∨ c = 8 ∨ c = 9 ∨ c = 10 ∨ c = 11 ∨ c = 12 ∨ c = 13 ∨ c = 14 ∨ c = 15 ∨ c = 16 ∨ c = 17 ∨ c = 18 ∨ c = 19 ∨ c = 20 ∨ c = 21 := by omega
end Go.Proofs.YtgpnkjapgfkblaeDoor
