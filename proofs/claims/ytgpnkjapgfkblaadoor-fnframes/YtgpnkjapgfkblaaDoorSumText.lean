/-
  What the function that writes a sum's two bytes answers: the lower byte, the upper one. It makes new memory alone.
-/
import Derived.Test.YtgpnkjapgfkblaaDoorSumWalks
import Derived.Laws.IdiomStrings
namespace Go.Proofs.YtgpnkjapgfkblaaDoor
open Go.RowKit

/-- A sum's two bytes, the lower one first. -/
def sumB (s : ByteArray) : ByteArray := ⟨#[(sumL s.data.toList % 256).toNat.toUInt8, (sumL s.data.toList / 256).toNat.toUInt8]⟩

/-- A slice of two bytes that was written out reads back as the text of these bytes. -/
theorem pair_text (w : World) (x y : Int) (hx : 0 ≤ x) (hx' : x < 256) (hy : 0 ≤ y) (hy' : y < 256) :
    (convert 22 9 (.slice (some ⟨w.heap.size, 0, none⟩) 2 2)).run Tryd.prog (w.alloc (.cells #[.int .u8 x, .int .u8 y] 5)) = .ok (.string ⟨#[x.toNat.toUInt8, y.toNat.toUInt8]⟩) (w.alloc (.cells #[.int .u8 x, .int .u8 y] 5)) :=
  run_convert_bytes_back (P := Tryd.prog) _ 22 9 5 ⟨w.heap.size, 0, none⟩ 2 [x.toNat.toUInt8, y.toNat.toUInt8] Tryd.underlying22 Tryd.underlying5 Tryd.underlying9 (fun j hj => by
    match j, hj with
    | 0, _ => simp [Addr.add]; omega
    | 1, _ => simp [Addr.add]; omega)

theorem sumText_any (s : ByteArray) (w : World) (hs : s.size ≤ maxLen) :
    Calls Tryd.prog 32 #[.string s] w fun e w' => e = .returned (.string (sumB s)) ∧ Below w.heap.size w w' := by
  have hb := sumL_bound s.data.toList
  go_enter Tryd.func32, Tryd.ntmps32
  go_wp2_with fail
  refine (sumOf_any s _ hs).mono ?_
  rintro e w1 ⟨rfl, rfl⟩
  have hcv := pair_text w1 (sumL s.data.toList % 256) (sumL s.data.toList / 256) (by omega) (by omega) (by omega) (by omega)
  go_wp2
  go_ret
  exact ⟨rfl, (Below.refl _ _).alloc (Nat.le_refl _) _⟩

end Go.Proofs.YtgpnkjapgfkblaaDoor
