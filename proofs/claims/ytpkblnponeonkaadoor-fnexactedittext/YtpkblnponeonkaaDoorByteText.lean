/-
  The text of a list of bytes.
-/
import Derived.Test.YtpkblnponeonkaaDoorRows
import Derived.WalkKit
namespace Go.Proofs.YtpkblnponeonkaaDoor

/-- The text of these bytes. -/
def bt (xs : List UInt8) : ByteArray := ⟨xs.toArray⟩
theorem bt_add (xs ys : List UInt8) : bt xs ++ bt ys = bt (xs ++ ys) := by
  refine ByteArray.ext ?_
  simp [bt, ByteArray.data_append]
theorem bt_of (s : ByteArray) : s = bt s.data.toList := by
  refine ByteArray.ext ?_
  simp [bt]
theorem bt_inj {xs ys : List UInt8} (h : bt xs = bt ys) : xs = ys := by
  have := congrArg (fun z => z.data.toList) h
  simpa [bt] using this
end Go.Proofs.YtpkblnponeonkaaDoor
