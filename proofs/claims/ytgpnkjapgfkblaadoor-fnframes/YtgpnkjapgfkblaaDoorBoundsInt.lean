/-
  What checkBounds answers at whole numbers: nil within the bounds, else a bound's error that wraps the fault. It leaves the world as it was.
-/
import Derived.Test.YtgpnkjapgfkblaaDoorRows
import Derived.WalkKit
import Derived.WalkSpells
namespace Go.Proofs.YtgpnkjapgfkblaaDoor
open Go.RowKit

theorem checkInt_in (n lo hi : Int) (v : Value) (w : World) (h0 : lo ≤ n) (h1 : n ≤ hi) :
    Calls Tryd.prog 23 #[.int .i64 n, .int .i64 lo, .int .i64 hi, v] w fun e w' => e = .returned .nilIface ∧ w' = w := by
  go_enter Tryd.func23, Tryd.ntmps23
  go_wp2
  go_ret
  exact ⟨rfl, rfl⟩

theorem checkInt_out (n lo hi : Int) (a : Addr) (w : World) (h : ¬ (lo ≤ n ∧ n ≤ hi)) :
    Calls Tryd.prog 23 #[.int .i64 n, .int .i64 lo, .int .i64 hi, .iface 76 (.pointer (some a))] w fun e w' => e = .returned (.iface 53 (.agg #[.int .i64 n, .int .i64 lo, .int .i64 hi, .iface 76 (.pointer (some a))])) ∧ w' = w := by
  by_cases h0 : lo ≤ n
  · have h1 : ¬ n ≤ hi := by omega
    clear h
    go_enter Tryd.func23, Tryd.ntmps23
    go_wp2
    go_ret
    exact ⟨rfl, rfl⟩
  · clear h
    go_enter Tryd.func23, Tryd.ntmps23
    go_wp2
    go_ret
    exact ⟨rfl, rfl⟩
end Go.Proofs.YtgpnkjapgfkblaaDoor
