/-
  A text that is copied is the same text. It makes new memory alone.
-/
import Derived.Test.YtkfklaapoaocdabRows
import Derived.Laws.IdiomStrings
import Derived.WalkKit
import Derived.WalkSpells
namespace Go.Proofs.Ytkfklaapoaocdab
open Go.RowKit

theorem copy_text (s : ByteArray) (w : World) : ∃ cap w2, (convert 9 44 (.string s)).run Try.prog w = .ok (.slice (some ⟨w.heap.size, 0, none⟩) s.size cap) w2 ∧
    (convert 44 9 (.slice (some ⟨w.heap.size, 0, none⟩) s.size cap)).run Try.prog w2 = .ok (.string s) w2 ∧ Below w.heap.size w w2 := by
  refine ⟨_, _, run_bytes_of_string (P := Try.prog) w 9 44 5 s Try.underlying9 Try.underlying44 Try.underlying5, ?_, ?_⟩
  · have hl : s.data.toList.length = s.size := by simp
    have hb := run_convert_bytes_back (P := Try.prog) (w.drew.alloc (.cells (bytesRow s (grownCap w s.size 0 5)) 5 ((bytesRow s (grownCap w s.size 0 5)).size, (bytesRow s (grownCap w s.size 0 5)).size + 1))) 44 9 5 ⟨w.heap.size, 0, none⟩ (grownCap w s.size 0 5) s.data.toList Try.underlying44 Try.underlying5 Try.underlying9 (fun j hj => by
      have e : (⟨w.heap.size, 0, none⟩ : Addr).add j = ⟨w.heap.size, j, none⟩ := by simp [Addr.add]; omega
      rw [e]
      have h := World.cell?_alloc_mark w.drew (bytesRow s (grownCap w s.size 0 5)) 5 ((bytesRow s (grownCap w s.size 0 5)).size, (bytesRow s (grownCap w s.size 0 5)).size + 1) j
      rw [bytesRow_at s _ j (by simpa using hj)] at h
      simpa using h)
    rw [hl] at hb
    simpa using hb
  · exact (Below.refl _ _).drew.alloc (Nat.le_refl _) _

theorem newText_any (s : ByteArray) (w : World) :
    Calls Try.prog 52 #[.string s] w fun e w' => e = .returned (.string s) ∧ Below w.heap.size w w' := by
  obtain ⟨cap, w2, h1, h2, hb⟩ := copy_text s w
  go_enter Try.func52, Try.ntmps52
  go_wp2
  go_ret
  exact ⟨rfl, hb⟩
end Go.Proofs.Ytkfklaapoaocdab
