/-
  What the rows' list gives of the four sentinels: the four variables hold four sentinels at different places, each in a row of cells of its own.
-/
import Derived.Test.YtgpnkjapgfkblaaDoorErrCode
import Derived.LaidLaws
import Derived.MakeChecks
namespace Go.Proofs.YtgpnkjapgfkblaaDoor
open Go.RowKit

theorem err_star : "*" ++ "errors.errorString" = "*errors.errorString" := by decide
theorem row_err (u : TypeId) (h : Tryd.prog.typeName? 3 u = some "*errors.errorString") : u = 76 :=
  typeName_ptr_named (nm := "errors.errorString") (by rw [err_star]; kernel_rfl) (by kernel_rfl) (by decide) u (by rw [err_star]; exact h)

/-- The list of the four as the rows bear it. -/
def errsLaid : List (String × DataW Unit) := [("loop.example/g00701/impl.errForm", Rows.laid_loop_example_g00701_impl_errForm), ("loop.example/g00701/impl.errRange", Rows.laid_loop_example_g00701_impl_errRange), ("loop.example/g00701/impl.errSize", Rows.laid_loop_example_g00701_impl_errSize), ("loop.example/g00701/impl.errSum", Rows.laid_loop_example_g00701_impl_errSum)]

theorem sents_of_laid {W : World} (h : laidMet Tryd.prog errsLaid W) : ∃ aF aR aS aM, Sents W aF aR aS aM := by
  have hcE : Tryd.prog.cellsOf 101 = 1 := by kernel_rfl
  have hcS : Tryd.prog.cellsOf 9 = 1 := by kernel_rfl
  obtain ⟨ps, ⟨g0, t0, cs0, f0, p0, q0, hg0, ht0, hv0, hd0, ⟨g1, t1, cs1, f1, p1, q1, hg1, ht1, hv1, hd1, ⟨g2, t2, cs2, f2, p2, q2, hg2, ht2, hv2, hd2, ⟨g3, t3, cs3, f3, p3, q3, hg3, ht3, hv3, hd3, hq, e3⟩, e2⟩, e1⟩, e0⟩, hnd, hrows⟩ := h
  obtain rfl := Option.some.inj ((show Tryd.prog.globalNamed "loop.example/g00701/impl.errForm" = some 1 by kernel_rfl).symm.trans hg0)
  obtain rfl := Option.some.inj ((show (Tryd.prog.globals[1]?).map (·.type) = some 39 by kernel_rfl).symm.trans ht0)
  obtain rfl := Option.some.inj ((show Tryd.prog.globalNamed "loop.example/g00701/impl.errRange" = some 0 by kernel_rfl).symm.trans hg1)
  obtain rfl := Option.some.inj ((show (Tryd.prog.globals[0]?).map (·.type) = some 39 by kernel_rfl).symm.trans ht1)
  obtain rfl := Option.some.inj ((show Tryd.prog.globalNamed "loop.example/g00701/impl.errSize" = some 2 by kernel_rfl).symm.trans hg2)
  obtain rfl := Option.some.inj ((show (Tryd.prog.globals[2]?).map (·.type) = some 39 by kernel_rfl).symm.trans ht2)
  obtain rfl := Option.some.inj ((show Tryd.prog.globalNamed "loop.example/g00701/impl.errSum" = some 3 by kernel_rfl).symm.trans hg3)
  obtain rfl := Option.some.inj ((show (Tryd.prog.globals[3]?).map (·.type) = some 39 by kernel_rfl).symm.trans ht3)
  subst e3
  subst e2
  subst e1
  subst e0
  obtain ⟨l0⟩ := cs0
  have ok0 : ∀ u v, l0 = [.iface u v] → Value.okWide Tryd.prog W .any 0 u v := fun u v e => by
    subst e
    exact (hrows 1 0 (by simp [MemPlace.row])).2 u v (by simpa using World.var?_cell hg0 hv0 0)
  obtain ⟨l1⟩ := cs1
  have ok1 : ∀ u v, l1 = [.iface u v] → Value.okWide Tryd.prog W .any 0 u v := fun u v e => by
    subst e
    exact (hrows 0 0 (by simp [MemPlace.row])).2 u v (by simpa using World.var?_cell hg1 hv1 0)
  obtain ⟨l2⟩ := cs2
  have ok2 : ∀ u v, l2 = [.iface u v] → Value.okWide Tryd.prog W .any 0 u v := fun u v e => by
    subst e
    exact (hrows 2 0 (by simp [MemPlace.row])).2 u v (by simpa using World.var?_cell hg2 hv2 0)
  obtain ⟨l3⟩ := cs3
  have ok3 : ∀ u v, l3 = [.iface u v] → Value.okWide Tryd.prog W .any 0 u v := fun u v e => by
    subst e
    exact (hrows 3 0 (by simp [MemPlace.row])).2 u v (by simpa using World.var?_cell hg3 hv3 0)
  obtain ⟨a0, s0, rfl, hc0, hs0, hz0, rfl⟩ := errorString_of_trod Tryd.underlying39 row_err Tryd.underlying76 Tryd.underlying101 rfl rfl Tryd.underlying9 hcE hcS hd0 ok0
  obtain ⟨a1, s1, rfl, hc1, hs1, hz1, rfl⟩ := errorString_of_trod Tryd.underlying39 row_err Tryd.underlying76 Tryd.underlying101 rfl rfl Tryd.underlying9 hcE hcS hd1 ok1
  obtain ⟨a2, s2, rfl, hc2, hs2, hz2, rfl⟩ := errorString_of_trod Tryd.underlying39 row_err Tryd.underlying76 Tryd.underlying101 rfl rfl Tryd.underlying9 hcE hcS hd2 ok2
  obtain ⟨a3, s3, rfl, hc3, hs3, hz3, rfl⟩ := errorString_of_trod Tryd.underlying39 row_err Tryd.underlying76 Tryd.underlying101 rfl rfl Tryd.underlying9 hcE hcS hd3 ok3
  refine ⟨a0, a1, a2, a3, { cF := ?cF, cR := ?cR, cS := ?cS, cM := ?cM, bF := ?bF, bR := ?bR, bS := ?bS, bM := ?bM, nFR := ?nFR, nFS := ?nFS, nFM := ?nFM, nRF := ?nRF, nRS := ?nRS, nRM := ?nRM, nSF := ?nSF, nSR := ?nSR, nSM := ?nSM, nMF := ?nMF, nMR := ?nMR, nMS := ?nMS }⟩
  case cF => simpa using World.var?_cell hg0 hv0 0
  case bF => exact (hrows a0.block a0.off (by simp [MemPlace.row])).1
  case cR => simpa using World.var?_cell hg1 hv1 0
  case bR => exact (hrows a1.block a1.off (by simp [MemPlace.row])).1
  case cS => simpa using World.var?_cell hg2 hv2 0
  case bS => exact (hrows a2.block a2.off (by simp [MemPlace.row])).1
  case cM => simpa using World.var?_cell hg3 hv3 0
  case bM => exact (hrows a3.block a3.off (by simp [MemPlace.row])).1
  all_goals (rintro rfl; simp [MemPlace.row] at hnd)
end Go.Proofs.YtgpnkjapgfkblaaDoor
