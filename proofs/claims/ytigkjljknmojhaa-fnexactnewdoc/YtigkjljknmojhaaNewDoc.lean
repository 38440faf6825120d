/-
  A new document: the specification's answer and the program's, and the law's marks on it.
-/
import Derived.Test.YtigkjljknmojhaaMarkOne
import Derived.Test.YtigkjljknmojhaaImplNode
import Derived.Test.YtigkjljknmojhaaLawEq
import Derived.Test.YtigkjljknmojhaaDocOKLaw
import Derived.Test.YtigkjljknmojhaaImplAt
namespace Go.Proofs.Ytigkjljknmojhaa
open Go.RowKit

def newNode (kind : Int) : PNode := ⟨1, kind, 0, ⟨#[]⟩, []⟩
def newPlain (kind : Int) : PDoc := ⟨1, 2, [newNode kind]⟩
def noPlain : PDoc := ⟨0, 0, []⟩

set_option maxHeartbeats 400000 in
theorem markNodes_nil (w : World) : Calls Try.prog 46 #[.slice none 0 0, .int .i64 1] w fun e w' => e = .returned (.int .i64 1) ∧ w' = w := by
  go_enter Try.func46, Try.ntmps46
  go_wp2_with fail
  go_loopw [1, 5] (fun kv i wr => kv = .int .i64 1 ∧ i = .int .i64 0 ∧ wr = w) (fun _ _ _ => 0)
  case atStart => exact ⟨rfl, rfl, rfl⟩
  case round =>
    obtain ⟨rfl, rfl, rfl⟩ := hrel
    go_wp2_with fail
    go_ret
    exact ⟨rfl, rfl⟩

set_option maxHeartbeats 400000 in
theorem heldNodes_nil (w : World) : Calls Try.prog 47 #[.slice none 0 0, .int .i64 1] w fun e w' => e = .returned (.int .i64 1) ∧ w' = w := by
  go_enter Try.func47, Try.ntmps47
  go_wp2_with fail
  go_loopw [1, 5] (fun kv i wr => kv = .int .i64 1 ∧ i = .int .i64 0 ∧ wr = w) (fun _ _ _ => 0)
  case atStart => exact ⟨rfl, rfl, rfl⟩
  case round =>
    obtain ⟨rfl, rfl, rfl⟩ := hrel
    go_wp2_with fail
    go_ret
    exact ⟨rfl, rfl⟩

set_option maxHeartbeats 400000 in
theorem markDoc_one (b cap : Nat) (r n : Int) (c0 c1 c2 c3 : Value) (w : World) (hh : w.heap[b]? = some (.cells #[c0, c1, c2, c3, .slice none 0 0] 39 (0, 0))) :
    Calls Try.prog 15 #[.agg #[.int .i64 r, .int .i64 n, .slice (some ⟨b, 0, none⟩) 1 cap], .int .i64 1] w (MarkOnePost w b) := by
  have hbw : b < w.heap.size := (Array.getElem?_eq_some_iff.1 hh).1
  have hW := (Below.refl w.heap.size w).alloc (Nat.le_refl _) (.cells #[.int .i64 r, .int .i64 n, .slice (some ⟨b, 0, none⟩) 1 cap] 24)
  have HM := hide (markNodes_one b cap c0 c1 c2 c3 (w.alloc (.cells #[.int .i64 r, .int .i64 n, .slice (some ⟨b, 0, none⟩) 1 cap] 24)) ((hW.block b hbw).trans hh))
  clear hh
  go_enter Try.func15, Try.ntmps15
  go_wp2_with fail
  refine HM.out.mono ?_
  rintro e w1 ⟨rfl, h1, h2, h3⟩
  have H1 := hide h1
  have H3 := hide h3
  clear h1 h3
  go_wp2_with fail
  go_ret
  exact ⟨rfl, H1.out, (hW.mono (by omega)).trans h2, fun m hm hlt => (H3.out m hm (by simp; omega)).trans (hW.block m hlt)⟩

set_option maxHeartbeats 400000 in
theorem markDoc_nil (r n : Int) (w : World) :
    Calls Try.prog 15 #[.agg #[.int .i64 r, .int .i64 n, .slice none 0 0], .int .i64 1] w fun e w' => e = .returned (.int .i64 1) ∧ Below w.heap.size w w' := by
  have hW := (Below.refl w.heap.size w).alloc (Nat.le_refl _) (.cells #[.int .i64 r, .int .i64 n, .slice none 0 0] 24)
  go_enter Try.func15, Try.ntmps15
  go_wp2_with (go_at_call 46; refine (markNodes_nil _).mono ?_; rintro e w1 ⟨rfl, rfl⟩)
  go_ret
  exact ⟨rfl, hW⟩

set_option maxHeartbeats 400000 in
theorem heldDoc_one (b cap : Nat) (r n : Int) (w : World) (hh : w.heap[b]? = some markedOne) :
    Calls Try.prog 16 #[.agg #[.int .i64 r, .int .i64 n, .slice (some ⟨b, 0, none⟩) 1 cap], .int .i64 1] w fun e w' => e = .returned (.int .i64 5) ∧ Below w.heap.size w w' := by
  have hbw : b < w.heap.size := (Array.getElem?_eq_some_iff.1 hh).1
  have hW := (Below.refl w.heap.size w).alloc (Nat.le_refl _) (.cells #[.int .i64 r, .int .i64 n, .slice (some ⟨b, 0, none⟩) 1 cap] 24)
  have HM := hide (heldNodes_one b cap (w.alloc (.cells #[.int .i64 r, .int .i64 n, .slice (some ⟨b, 0, none⟩) 1 cap] 24)) ((hW.block b hbw).trans hh))
  clear hh
  go_enter Try.func16, Try.ntmps16
  go_wp2_with (go_at_call 47; refine HM.out.mono ?_; rintro e w1 ⟨rfl, hb1⟩)
  go_ret
  exact ⟨rfl, hW.trans (hb1.mono (by simp))⟩

set_option maxHeartbeats 400000 in
theorem heldDoc_nil (r n : Int) (w : World) :
    Calls Try.prog 16 #[.agg #[.int .i64 r, .int .i64 n, .slice none 0 0], .int .i64 1] w fun e w' => e = .returned (.int .i64 1) ∧ Below w.heap.size w w' := by
  have hW := (Below.refl w.heap.size w).alloc (Nat.le_refl _) (.cells #[.int .i64 r, .int .i64 n, .slice none 0 0] 24)
  go_enter Try.func16, Try.ntmps16
  go_wp2_with (go_at_call 47; refine (heldNodes_nil _).mono ?_; rintro e w1 ⟨rfl, rfl⟩)
  go_ret
  exact ⟨rfl, hW⟩
end Go.Proofs.Ytigkjljknmojhaa
