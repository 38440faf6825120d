/-
  A text that is copied is the same text. It makes new memory alone.
-/
import Derived.Test.YtgpnkjapgfkblaaDoorRows
import Derived.Laws.IdiomStrings
import Derived.WalkKit
import Derived.WalkSpells
namespace Go.Proofs.YtgpnkjapgfkblaaDoor
open Go.RowKit

theorem copy_text (s : ByteArray) (w : World) : ∃ cap w2, (convert 9 22 (.string s)).run Tryd.prog w = .ok (.slice (some ⟨w.heap.size, 0, none⟩) s.size cap) w2 ∧
    (convert 22 9 (.slice (some ⟨w.heap.size, 0, none⟩) s.size cap)).run Tryd.prog w2 = .ok (.string s) w2 ∧ Below w.heap.size w w2 := by
  refine ⟨_, _, run_bytes_of_string (P := Tryd.prog) w 9 22 5 s Tryd.underlying9 Tryd.underlying22 Tryd.underlying5, ?_, ?_⟩
  · have hl : s.data.toList.length = s.size := by simp
    have hb := run_convert_bytes_back (P := Tryd.prog) (w.drew.alloc (.cells (bytesRow s (grownCap w s.size 0 5)) 5 ((bytesRow s (grownCap w s.size 0 5)).size, (bytesRow s (grownCap w s.size 0 5)).size + 1))) 22 9 5 ⟨w.heap.size, 0, none⟩ (grownCap w s.size 0 5) s.data.toList Tryd.underlying22 Tryd.underlying5 Tryd.underlying9 (fun j hj => by
      have e : (⟨w.heap.size, 0, none⟩ : Addr).add j = ⟨w.heap.size, j, none⟩ := by simp [Addr.add]; omega
      rw [e]
      have h := World.cell?_alloc_mark w.drew (bytesRow s (grownCap w s.size 0 5)) 5 ((bytesRow s (grownCap w s.size 0 5)).size, (bytesRow s (grownCap w s.size 0 5)).size + 1) j
      rw [bytesRow_at s _ j (by simpa using hj)] at h
      simpa using h)
    rw [hl] at hb
    simpa using hb
  · exact (Below.refl _ _).drew.alloc (Nat.le_refl _) _

theorem newText_any (s : ByteArray) (w : World) :
    Calls Tryd.prog 43 #[.string s] w fun e w' => e = .returned (.string s) ∧ Below w.heap.size w w' := by
  obtain ⟨cap, w2, h1, h2, hb⟩ := copy_text s w
  go_enter Tryd.func43, Tryd.ntmps43
  go_wp2
  go_ret
  exact ⟨rfl, hb⟩
end Go.Proofs.YtgpnkjapgfkblaaDoor
