/-
  What takeNumber answers, the program's inner function (where the four variables hold four sentinels at different places): the plain function's number and place, and an error whose code is the plain function's. It makes new memory alone.
-/
import Derived.Test.YtgpnkjapgfkblaaDoorErrCode
import Derived.Test.YtgpnkjapgfkblaaDoorBoundsInt
import Derived.Test.YtgpnkjapgfkblaaDoorTakePlain
import Derived.RegionTactic
namespace Go.Proofs.YtgpnkjapgfkblaaDoor
open Go.RowKit

/-- An error of this program, and its code. -/
def FaultV (aF aR aS aM : Addr) (v : Value) (c : Int) : Prop :=
  (v = .nilIface ∧ c = 0) ∨
  (v = .iface 76 (.pointer (some aF)) ∧ c = 3) ∨
  (∃ n lo hi : Int, v = .iface 53 (.agg #[.int .i64 n, .int .i64 lo, .int .i64 hi, .iface 76 (.pointer (some aF))]) ∧ c = 3) ∨
  (v = .iface 76 (.pointer (some aR)) ∧ c = 4) ∨
  (∃ n lo hi : Int, v = .iface 53 (.agg #[.int .i64 n, .int .i64 lo, .int .i64 hi, .iface 76 (.pointer (some aR))]) ∧ c = 4) ∨
  (v = .iface 76 (.pointer (some aS)) ∧ c = 8) ∨
  (∃ n lo hi : Int, v = .iface 53 (.agg #[.int .i64 n, .int .i64 lo, .int .i64 hi, .iface 76 (.pointer (some aS))]) ∧ c = 8) ∨
  (v = .iface 76 (.pointer (some aM)) ∧ c = 9) ∨
  (∃ n lo hi : Int, v = .iface 53 (.agg #[.int .i64 n, .int .i64 lo, .int .i64 hi, .iface 76 (.pointer (some aM))]) ∧ c = 9)

theorem codeOfFault_any {aF aR aS aM : Addr} (v : Value) (c : Int) (w : World) (h : Sents w aF aR aS aM) (hv : FaultV aF aR aS aM v c) :
    Calls Tryd.prog 24 #[v] w fun e w' => e = .returned (.int .i64 c) ∧ Below w.heap.size w w' := by
  rcases hv with ⟨rfl, rfl⟩ | ⟨rfl, rfl⟩ | ⟨n, lo, hi, rfl, rfl⟩ | ⟨rfl, rfl⟩ | ⟨n, lo, hi, rfl, rfl⟩ | ⟨rfl, rfl⟩ | ⟨n, lo, hi, rfl, rfl⟩ | ⟨rfl, rfl⟩ | ⟨n, lo, hi, rfl, rfl⟩
  · exact (codeOfFault_nil w).mono fun e w' ⟨he, hw⟩ => ⟨he, by subst hw; exact Below.refl _ _⟩
  · exact (codeOfFault_F w h).mono fun e w' ⟨he, hw⟩ => ⟨he, by subst hw; exact Below.refl _ _⟩
  · exact codeOfFault_wrapF n lo hi w h
  · exact (codeOfFault_R w h).mono fun e w' ⟨he, hw⟩ => ⟨he, by subst hw; exact Below.refl _ _⟩
  · exact codeOfFault_wrapR n lo hi w h
  · exact (codeOfFault_S w h).mono fun e w' ⟨he, hw⟩ => ⟨he, by subst hw; exact Below.refl _ _⟩
  · exact codeOfFault_wrapS n lo hi w h
  · exact (codeOfFault_M w h).mono fun e w' ⟨he, hw⟩ => ⟨he, by subst hw; exact Below.refl _ _⟩
  · exact codeOfFault_wrapM n lo hi w h

theorem fault_cases {aF aR aS aM : Addr} {v : Value} {c : Int} (h : FaultV aF aR aS aM v c) : (v = .nilIface ∧ c = 0) ∨ ∃ t x, v = .iface t x ∧ c ≠ 0 := by
  rcases h with ⟨rfl, rfl⟩ | ⟨rfl, rfl⟩ | ⟨n, lo, hi, rfl, rfl⟩ | ⟨rfl, rfl⟩ | ⟨n, lo, hi, rfl, rfl⟩ | ⟨rfl, rfl⟩ | ⟨n, lo, hi, rfl, rfl⟩ | ⟨rfl, rfl⟩ | ⟨n, lo, hi, rfl, rfl⟩
  · exact .inl ⟨rfl, rfl⟩
  all_goals exact .inr ⟨_, _, rfl, by decide⟩

theorem fault_nil {aF aR aS aM : Addr} : FaultV aF aR aS aM .nilIface 0 := .inl ⟨rfl, rfl⟩
theorem fault_F {aF aR aS aM : Addr} : FaultV aF aR aS aM (.iface 76 (.pointer (some aF))) 3 := .inr (.inl (⟨rfl, rfl⟩))
theorem fault_wrapF {aF aR aS aM : Addr} (n lo hi : Int) : FaultV aF aR aS aM (.iface 53 (.agg #[.int .i64 n, .int .i64 lo, .int .i64 hi, .iface 76 (.pointer (some aF))])) 3 := .inr (.inr (.inl (⟨n, lo, hi, rfl, rfl⟩)))
theorem fault_R {aF aR aS aM : Addr} : FaultV aF aR aS aM (.iface 76 (.pointer (some aR))) 4 := .inr (.inr (.inr (.inl (⟨rfl, rfl⟩))))
theorem fault_wrapR {aF aR aS aM : Addr} (n lo hi : Int) : FaultV aF aR aS aM (.iface 53 (.agg #[.int .i64 n, .int .i64 lo, .int .i64 hi, .iface 76 (.pointer (some aR))])) 4 := .inr (.inr (.inr (.inr (.inl (⟨n, lo, hi, rfl, rfl⟩)))))
theorem fault_S {aF aR aS aM : Addr} : FaultV aF aR aS aM (.iface 76 (.pointer (some aS))) 8 := .inr (.inr (.inr (.inr (.inr (.inl (⟨rfl, rfl⟩))))))
theorem fault_wrapS {aF aR aS aM : Addr} (n lo hi : Int) : FaultV aF aR aS aM (.iface 53 (.agg #[.int .i64 n, .int .i64 lo, .int .i64 hi, .iface 76 (.pointer (some aS))])) 8 := .inr (.inr (.inr (.inr (.inr (.inr (.inl (⟨n, lo, hi, rfl, rfl⟩)))))))
theorem fault_M {aF aR aS aM : Addr} : FaultV aF aR aS aM (.iface 76 (.pointer (some aM))) 9 := .inr (.inr (.inr (.inr (.inr (.inr (.inr (.inl (⟨rfl, rfl⟩))))))))
theorem fault_wrapM {aF aR aS aM : Addr} (n lo hi : Int) : FaultV aF aR aS aM (.iface 53 (.agg #[.int .i64 n, .int .i64 lo, .int .i64 hi, .iface 76 (.pointer (some aM))])) 9 := .inr (.inr (.inr (.inr (.inr (.inr (.inr (.inr (⟨n, lo, hi, rfl, rfl⟩))))))))

/-- An ending answers what is taken, and an error of its code. -/
def TakeSays (aF aR aS aM : Addr) (r : Int × Int × Int) (e : Ending) : Prop := ∃ v, e = .returned (.tuple #[.int .i64 r.1, .int .i64 r.2.1, v]) ∧ FaultV aF aR aS aM v r.2.2

theorem take_says {aF aR aS aM : Addr} {r : Int × Int × Int} {x y c : Int} {v : Value} (hr : r = (x, y, c)) (hv : FaultV aF aR aS aM v c) : TakeSays aF aR aS aM r (.returned (.tuple #[.int .i64 x, .int .i64 y, v])) := by
  subst hr; exact ⟨v, rfl, hv⟩
end Go.Proofs.YtgpnkjapgfkblaaDoor
