/-
  NARROWER THAN 'FOR EVERY INPUT', by the rows' own cells (each row's printed sentence says how): FnExactModeAt: laid · FnExactCoverOf: laid · FnExactPeaceful: laid · FnExactConflictsOf: laid.
  DERIVED. THE GIVEN ROWS OF THIS SEAT. 4 by the template 'for every input the law returns true; each argument reads behind the call as it read before'; 0 by the template 'total and deterministic' (their statements: YtfjhpfgffbghdaaDoorTotals.lean).
  GIVEN WITH THE SEED: the statements are not yours to turn. If you find one false, say at which input.
  Laid BY PROGRAM, IN A SANDBOX (cutbox-rows.mjs): the forced cells as the released guide's own fill.sh prints them over the translation a2fb4ae13ae9c494… (all of the seat's roots in one cut). By AI agents, Wed Nov 11 2026. No macro, syntax, notation, axiom, sorry.
-/
import Derived.Test.YtfjhpfgffbghdaaDoorChecked
import GoSem.Claim
import GoSem.ClaimJoined
import GoSem.ClaimMapViews
import Derived.JoinedTies
import Derived.KernelRfl
namespace Go.Proofs.YtfjhpfgffbghdaaDoor
/- THE CELL 'sum', in the pinned program and in every row, IS THE sha256 OF THE DUMP (.gsa) THAT YtfjhpfgffbghdaaDoorProg.lean LOADS. Nothing in Lean hashes anything: it is a label: what it is worth is what the hold of that sum in a sandbox is worth. -/
noncomputable def Tryd.pinned : Pinned := { name := "ytfjhpfgffbghdaadoor", sum := "a2fb4ae13ae9c494e667e97bf88026ab3007b240ad7e521b9b9e8bd3d354a39e", checked := Tryd.checked }
namespace Rows
def none {H : Type} : Left H := { results := [], args := [] }

/- WHAT THE LISTED PACKAGE-LEVEL VARIABLES READ AS WHEN THE CALL BEGINS. Each datum BY PROGRAM (the guide's laid-datum.mjs) off the statement by which the dump's own 'gosem.cut.vars' lays the variable. In a bare row this is a premise. The card (YtfjhpfgffbghdaaDoorCards.lean) ties it to the program's text. -/
def laid_loop_example_g00701_impl_intents {H : Type} : DataW H := .agg [.lit (.int .i64 0), .lit (.int .i64 1), .lit (.int .i64 2), .lit (.int .i64 1), .lit (.int .i64 2), .lit (.int .i64 2)]
def laid_loop_example_g00701_impl_coversBelow {H : Type} : DataW H := .agg [.lit (.int .i64 0), .lit (.int .i64 0), .lit (.int .i64 0), .lit (.int .i64 3), .lit (.int .i64 3), .lit (.int .i64 5)]
def laid_loop_example_g00701_impl_fits {H : Type} : DataW H := .agg [.agg [.lit (.bool true), .lit (.bool true), .lit (.bool true), .lit (.bool true), .lit (.bool true), .lit (.bool true)], .agg [.lit (.bool true), .lit (.bool true), .lit (.bool true), .lit (.bool true), .lit (.bool true), .lit (.bool false)], .agg [.lit (.bool true), .lit (.bool true), .lit (.bool true), .lit (.bool false), .lit (.bool false), .lit (.bool false)], .agg [.lit (.bool true), .lit (.bool true), .lit (.bool false), .lit (.bool true), .lit (.bool false), .lit (.bool false)], .agg [.lit (.bool true), .lit (.bool true), .lit (.bool false), .lit (.bool false), .lit (.bool false), .lit (.bool false)], .agg [.lit (.bool true), .lit (.bool false), .lit (.bool false), .lit (.bool false), .lit (.bool false), .lit (.bool false)]]

/-- 'laws.FnExactModeAt': WHATEVER THE INPUT: true; the input reads as it did. -/
def fnExactModeAtSpec : ChangeSpec := { name := "fnExactModeAt", vars := ["loop.example/g00701/impl.intents"], fn := fun _ => fun
  | [d1, d2, d3, d4, g1] => { results := [.lit (.bool true)], args := [d1, d2, d3, d4], vars := [g1] }
  | _ => none }
def fnExactModeAtRow : OpenClaim := { program := "ytfjhpfgffbghdaadoor", sum := "a2fb4ae13ae9c494e667e97bf88026ab3007b240ad7e521b9b9e8bd3d354a39e", func := "loop.example/g00701/laws.FnExactModeAt", spec := "fnExactModeAt", unfollowed := true, recurses := true, named := ["loop.example/g00701/impl.intents"], apart := false, laid := [("loop.example/g00701/impl.intents", laid_loop_example_g00701_impl_intents)] }
def FnExactModeAtSaid : Prop := fnExactModeAtRow.holds Tryd.pinned (OpenSpec.ofChange fnExactModeAtSpec)

/-- ITS FALSE NEIGHBOUR: 'it returns false'. Refute it at one input. -/
def fnExactModeAtWrong : ChangeSpec := { name := "fnExactModeAt", vars := ["loop.example/g00701/impl.intents"], fn := fun _ => fun
  | [d1, d2, d3, d4, g1] => { results := [.lit (.bool false)], args := [d1, d2, d3, d4], vars := [g1] }
  | _ => none }
def FnExactModeAtWrongFalsely : Prop := fnExactModeAtRow.holds Tryd.pinned (OpenSpec.ofChange fnExactModeAtWrong)

/-- 'laws.FnExactCoverOf': WHATEVER THE INPUT: true; the input reads as it did. -/
def fnExactCoverOfSpec : ChangeSpec := { name := "fnExactCoverOf", vars := ["loop.example/g00701/impl.coversBelow"], fn := fun _ => fun
  | [d1, d2, d3, d4, g1] => { results := [.lit (.bool true)], args := [d1, d2, d3, d4], vars := [g1] }
  | _ => none }
def fnExactCoverOfRow : OpenClaim := { program := "ytfjhpfgffbghdaadoor", sum := "a2fb4ae13ae9c494e667e97bf88026ab3007b240ad7e521b9b9e8bd3d354a39e", func := "loop.example/g00701/laws.FnExactCoverOf", spec := "fnExactCoverOf", unfollowed := true, recurses := true, named := ["loop.example/g00701/impl.coversBelow"], apart := false, laid := [("loop.example/g00701/impl.coversBelow", laid_loop_example_g00701_impl_coversBelow)] }
def FnExactCoverOfSaid : Prop := fnExactCoverOfRow.holds Tryd.pinned (OpenSpec.ofChange fnExactCoverOfSpec)

/-- ITS FALSE NEIGHBOUR: 'it returns false'. Refute it at one input. -/
def fnExactCoverOfWrong : ChangeSpec := { name := "fnExactCoverOf", vars := ["loop.example/g00701/impl.coversBelow"], fn := fun _ => fun
  | [d1, d2, d3, d4, g1] => { results := [.lit (.bool false)], args := [d1, d2, d3, d4], vars := [g1] }
  | _ => none }
def FnExactCoverOfWrongFalsely : Prop := fnExactCoverOfRow.holds Tryd.pinned (OpenSpec.ofChange fnExactCoverOfWrong)

/-- 'laws.FnExactPeaceful': WHATEVER THE INPUT: true; the input reads as it did. -/
def fnExactPeacefulSpec : ChangeSpec := { name := "fnExactPeaceful", vars := ["loop.example/g00701/impl.fits", "loop.example/g00701/impl.intents"], fn := fun _ => fun
  | [d1, d2, g1, g2] => { results := [.lit (.bool true)], args := [d1, d2], vars := [g1, g2] }
  | _ => none }
def fnExactPeacefulRow : OpenClaim := { program := "ytfjhpfgffbghdaadoor", sum := "a2fb4ae13ae9c494e667e97bf88026ab3007b240ad7e521b9b9e8bd3d354a39e", func := "loop.example/g00701/laws.FnExactPeaceful", spec := "fnExactPeaceful", unfollowed := true, recurses := true, named := ["loop.example/g00701/impl.fits", "loop.example/g00701/impl.intents"], apart := false, laid := [("loop.example/g00701/impl.fits", laid_loop_example_g00701_impl_fits), ("loop.example/g00701/impl.intents", laid_loop_example_g00701_impl_intents)] }
def FnExactPeacefulSaid : Prop := fnExactPeacefulRow.holds Tryd.pinned (OpenSpec.ofChange fnExactPeacefulSpec)

/-- ITS FALSE NEIGHBOUR: 'it returns false'. Refute it at one input. -/
def fnExactPeacefulWrong : ChangeSpec := { name := "fnExactPeaceful", vars := ["loop.example/g00701/impl.fits", "loop.example/g00701/impl.intents"], fn := fun _ => fun
  | [d1, d2, g1, g2] => { results := [.lit (.bool false)], args := [d1, d2], vars := [g1, g2] }
  | _ => none }
def FnExactPeacefulWrongFalsely : Prop := fnExactPeacefulRow.holds Tryd.pinned (OpenSpec.ofChange fnExactPeacefulWrong)

/-- 'laws.FnExactConflictsOf': WHATEVER THE INPUT: true; the input reads as it did. -/
def fnExactConflictsOfSpec : ChangeSpec := { name := "fnExactConflictsOf", vars := ["loop.example/g00701/impl.fits", "loop.example/g00701/impl.intents"], fn := fun _ => fun
  | [d1, d2, d3, g1, g2] => { results := [.lit (.bool true)], args := [d1, d2, d3], vars := [g1, g2] }
  | _ => none }
def fnExactConflictsOfRow : OpenClaim := { program := "ytfjhpfgffbghdaadoor", sum := "a2fb4ae13ae9c494e667e97bf88026ab3007b240ad7e521b9b9e8bd3d354a39e", func := "loop.example/g00701/laws.FnExactConflictsOf", spec := "fnExactConflictsOf", unfollowed := true, recurses := true, named := ["loop.example/g00701/impl.fits", "loop.example/g00701/impl.intents"], apart := false, laid := [("loop.example/g00701/impl.fits", laid_loop_example_g00701_impl_fits), ("loop.example/g00701/impl.intents", laid_loop_example_g00701_impl_intents)] }
def FnExactConflictsOfSaid : Prop := fnExactConflictsOfRow.holds Tryd.pinned (OpenSpec.ofChange fnExactConflictsOfSpec)

/-- ITS FALSE NEIGHBOUR: 'it returns false'. Refute it at one input. -/
def fnExactConflictsOfWrong : ChangeSpec := { name := "fnExactConflictsOf", vars := ["loop.example/g00701/impl.fits", "loop.example/g00701/impl.intents"], fn := fun _ => fun
  | [d1, d2, d3, g1, g2] => { results := [.lit (.bool false)], args := [d1, d2, d3], vars := [g1, g2] }
  | _ => none }
def FnExactConflictsOfWrongFalsely : Prop := fnExactConflictsOfRow.holds Tryd.pinned (OpenSpec.ofChange fnExactConflictsOfWrong)

/- THE SECOND FORM. 'bulk': how many values and letters a reading holds, each counted each time it is reached (what is shared counts as often as it is met; a slice's spare places count too). A statement '..UptoSaid' is the law's where the arguments, and the package variables that the reading takes, are together of bulk at most 1048576: NARROWER than '..Said'. Prove '..Said' where nothing that the law and all that it calls make is longer than what came in: it says more and counts as full. Else prove '..UptoSaid'. A law counts once. -/
mutual
def uptoBulk {H : Type} : DataW H → Nat
  | .lit (.string bytes) => bytes.length + 1
  | .lit _ => 1
  | .nil => 1
  | .ptr d => uptoBulk d + 1
  | .slice elems spare => uptoBulkAll elems + uptoBulkAll spare + 1
  | .agg parts => uptoBulkAll parts + 1
  | .iface _ d => uptoBulk d + 1
  | .map entries => uptoBulkEntries entries + 1
  | .held _ => 1
def uptoBulkAll {H : Type} : List (DataW H) → Nat
  | [] => 0
  | d :: r => uptoBulk d + uptoBulkAll r
def uptoBulkEntries {H : Type} : List (Lit × DataW H) → Nat
  | [] => 0
  | x :: r => uptoBulkEntry x + uptoBulkEntries r
def uptoBulkEntry {H : Type} : Lit × DataW H → Nat
  | (.string bytes, d) => bytes.length + uptoBulk d + 1
  | (_, d) => uptoBulk d + 1
 end
def uptoSmall : (H : Type) → List (DataW H) → Bool := fun _ ds => decide (uptoBulkAll ds ≤ 1048576)
def OpenSpec.upto (s : _root_.Go.ChangeSpec) : _root_.Go.OpenSpec := { _root_.Go.OpenSpec.ofChange s with cond := some uptoSmall }

/-- 'laws.FnExactModeAt', WHERE WHAT IT READS IS OF BULK AT MOST 1048576: true; the input reads as it did. -/
def fnExactModeAtUptoRow : OpenClaim := { program := "ytfjhpfgffbghdaadoor", sum := "a2fb4ae13ae9c494e667e97bf88026ab3007b240ad7e521b9b9e8bd3d354a39e", func := "loop.example/g00701/laws.FnExactModeAt", spec := "fnExactModeAt", unfollowed := true, recurses := true, named := ["loop.example/g00701/impl.intents"], apart := false, laid := [("loop.example/g00701/impl.intents", laid_loop_example_g00701_impl_intents)], narrowed := true }
def FnExactModeAtUptoSaid : Prop := fnExactModeAtUptoRow.holds Tryd.pinned (OpenSpec.upto fnExactModeAtSpec)

/-- 'laws.FnExactCoverOf', WHERE WHAT IT READS IS OF BULK AT MOST 1048576: true; the input reads as it did. -/
def fnExactCoverOfUptoRow : OpenClaim := { program := "ytfjhpfgffbghdaadoor", sum := "a2fb4ae13ae9c494e667e97bf88026ab3007b240ad7e521b9b9e8bd3d354a39e", func := "loop.example/g00701/laws.FnExactCoverOf", spec := "fnExactCoverOf", unfollowed := true, recurses := true, named := ["loop.example/g00701/impl.coversBelow"], apart := false, laid := [("loop.example/g00701/impl.coversBelow", laid_loop_example_g00701_impl_coversBelow)], narrowed := true }
def FnExactCoverOfUptoSaid : Prop := fnExactCoverOfUptoRow.holds Tryd.pinned (OpenSpec.upto fnExactCoverOfSpec)

/-- 'laws.FnExactPeaceful', WHERE WHAT IT READS IS OF BULK AT MOST 1048576: true; the input reads as it did. -/
def fnExactPeacefulUptoRow : OpenClaim := { program := "ytfjhpfgffbghdaadoor", sum := "a2fb4ae13ae9c494e667e97bf88026ab3007b240ad7e521b9b9e8bd3d354a39e", func := "loop.example/g00701/laws.FnExactPeaceful", spec := "fnExactPeaceful", unfollowed := true, recurses := true, named := ["loop.example/g00701/impl.fits", "loop.example/g00701/impl.intents"], apart := false, laid := [("loop.example/g00701/impl.fits", laid_loop_example_g00701_impl_fits), ("loop.example/g00701/impl.intents", laid_loop_example_g00701_impl_intents)], narrowed := true }
def FnExactPeacefulUptoSaid : Prop := fnExactPeacefulUptoRow.holds Tryd.pinned (OpenSpec.upto fnExactPeacefulSpec)

/-- 'laws.FnExactConflictsOf', WHERE WHAT IT READS IS OF BULK AT MOST 1048576: true; the input reads as it did. -/
def fnExactConflictsOfUptoRow : OpenClaim := { program := "ytfjhpfgffbghdaadoor", sum := "a2fb4ae13ae9c494e667e97bf88026ab3007b240ad7e521b9b9e8bd3d354a39e", func := "loop.example/g00701/laws.FnExactConflictsOf", spec := "fnExactConflictsOf", unfollowed := true, recurses := true, named := ["loop.example/g00701/impl.fits", "loop.example/g00701/impl.intents"], apart := false, laid := [("loop.example/g00701/impl.fits", laid_loop_example_g00701_impl_fits), ("loop.example/g00701/impl.intents", laid_loop_example_g00701_impl_intents)], narrowed := true }
def FnExactConflictsOfUptoSaid : Prop := fnExactConflictsOfUptoRow.holds Tryd.pinned (OpenSpec.upto fnExactConflictsOfSpec)

end Rows
end Go.Proofs.YtfjhpfgffbghdaaDoor
