/-
  NARROWER THAN 'FOR EVERY INPUT', by the rows' own cells (each row's printed sentence says how): FnExactFreeLock: laid · FnExactLeaveTable: laid · FnExactBlockersOf: laid.
  DERIVED. THE GIVEN ROWS OF THIS SEAT. 3 by the template 'for every input the law returns true; each argument reads behind the call as it read before'; 0 by the template 'total and deterministic' (their statements: YtfjhpfgffbghdaaGreatDoorTotals.lean).
  GIVEN WITH THE SEED: the statements are not yours to turn. If you find one false, say at which input.
  Laid BY PROGRAM, IN A SANDBOX (cutbox-rows.mjs): the forced cells as the released guide's own fill.sh prints them over the translation ab05d7d8832379bb… (all of the seat's roots in one cut). By AI agents, Wed Nov 11 2026. No macro, syntax, notation, axiom, sorry.
-/
import Derived.Test.YtfjhpfgffbghdaaGreatDoorChecked
import GoSem.Claim
import GoSem.ClaimJoined
import GoSem.ClaimMapViews
import Derived.JoinedTies
import Derived.KernelRfl
namespace Go.Proofs.YtfjhpfgffbghdaaGreatDoor
/- THE CELL 'sum', in the pinned program and in every row, IS THE sha256 OF THE DUMP (.gsa) THAT YtfjhpfgffbghdaaGreatDoorProg.lean LOADS. Nothing in Lean hashes anything: it is a label: what it is worth is what the hold of that sum in a sandbox is worth. -/
noncomputable def Tryz.pinned : Pinned := { name := "ytfjhpfgffbghdaagreatdoor", sum := "ab05d7d8832379bb49b22fc8dc9a339959fe00d4b68c9c7f47d0f143d8d98a3a", checked := Tryz.checked }
namespace Rows
def none {H : Type} : Left H := { results := [], args := [] }

/- WHAT THE LISTED PACKAGE-LEVEL VARIABLES READ AS WHEN THE CALL BEGINS. Each datum BY PROGRAM (the guide's laid-datum.mjs) off the statement by which the dump's own 'gosem.cut.vars' lays the variable. In a bare row this is a premise. The card (YtfjhpfgffbghdaaGreatDoorCards.lean) ties it to the program's text. -/
def laid_loop_example_g00701_impl_fits {H : Type} : DataW H := .agg [.agg [.lit (.bool true), .lit (.bool true), .lit (.bool true), .lit (.bool true), .lit (.bool true), .lit (.bool true)], .agg [.lit (.bool true), .lit (.bool true), .lit (.bool true), .lit (.bool true), .lit (.bool true), .lit (.bool false)], .agg [.lit (.bool true), .lit (.bool true), .lit (.bool true), .lit (.bool false), .lit (.bool false), .lit (.bool false)], .agg [.lit (.bool true), .lit (.bool true), .lit (.bool false), .lit (.bool true), .lit (.bool false), .lit (.bool false)], .agg [.lit (.bool true), .lit (.bool true), .lit (.bool false), .lit (.bool false), .lit (.bool false), .lit (.bool false)], .agg [.lit (.bool true), .lit (.bool false), .lit (.bool false), .lit (.bool false), .lit (.bool false), .lit (.bool false)]]
def laid_loop_example_g00701_impl_intents {H : Type} : DataW H := .agg [.lit (.int .i64 0), .lit (.int .i64 1), .lit (.int .i64 2), .lit (.int .i64 1), .lit (.int .i64 2), .lit (.int .i64 2)]

/-- 'laws.FnExactFreeLock': WHATEVER THE INPUT: true; the input reads as it did. -/
def fnExactFreeLockSpec : ChangeSpec := { name := "fnExactFreeLock", vars := ["loop.example/g00701/impl.fits", "loop.example/g00701/impl.intents"], fn := fun _ => fun
  | [d1, d2, d3, d4, g1, g2] => { results := [.lit (.bool true)], args := [d1, d2, d3, d4], vars := [g1, g2] }
  | _ => none }
def fnExactFreeLockRow : OpenClaim := { program := "ytfjhpfgffbghdaagreatdoor", sum := "ab05d7d8832379bb49b22fc8dc9a339959fe00d4b68c9c7f47d0f143d8d98a3a", func := "loop.example/g00701/laws.FnExactFreeLock", spec := "fnExactFreeLock", inPlace := ["slices.overlaps[loop.example/g00701/impl.lock]"], unfollowed := true, recurses := true, named := ["loop.example/g00701/impl.fits", "loop.example/g00701/impl.intents"], apart := false, laid := [("loop.example/g00701/impl.fits", laid_loop_example_g00701_impl_fits), ("loop.example/g00701/impl.intents", laid_loop_example_g00701_impl_intents)] }
def FnExactFreeLockSaid : Prop := fnExactFreeLockRow.holds Tryz.pinned (OpenSpec.ofChange fnExactFreeLockSpec)

/-- ITS FALSE NEIGHBOUR: 'it returns false'. Refute it at one input. -/
def fnExactFreeLockWrong : ChangeSpec := { name := "fnExactFreeLock", vars := ["loop.example/g00701/impl.fits", "loop.example/g00701/impl.intents"], fn := fun _ => fun
  | [d1, d2, d3, d4, g1, g2] => { results := [.lit (.bool false)], args := [d1, d2, d3, d4], vars := [g1, g2] }
  | _ => none }
def FnExactFreeLockWrongFalsely : Prop := fnExactFreeLockRow.holds Tryz.pinned (OpenSpec.ofChange fnExactFreeLockWrong)

/-- 'laws.FnExactLeaveTable': WHATEVER THE INPUT: true; the input reads as it did. -/
def fnExactLeaveTableSpec : ChangeSpec := { name := "fnExactLeaveTable", vars := ["loop.example/g00701/impl.fits", "loop.example/g00701/impl.intents"], fn := fun _ => fun
  | [d1, d2, d3, g1, g2] => { results := [.lit (.bool true)], args := [d1, d2, d3], vars := [g1, g2] }
  | _ => none }
def fnExactLeaveTableRow : OpenClaim := { program := "ytfjhpfgffbghdaagreatdoor", sum := "ab05d7d8832379bb49b22fc8dc9a339959fe00d4b68c9c7f47d0f143d8d98a3a", func := "loop.example/g00701/laws.FnExactLeaveTable", spec := "fnExactLeaveTable", inPlace := ["slices.overlaps[loop.example/g00701/impl.lock]"], unfollowed := true, recurses := true, named := ["loop.example/g00701/impl.fits", "loop.example/g00701/impl.intents"], apart := false, laid := [("loop.example/g00701/impl.fits", laid_loop_example_g00701_impl_fits), ("loop.example/g00701/impl.intents", laid_loop_example_g00701_impl_intents)] }
def FnExactLeaveTableSaid : Prop := fnExactLeaveTableRow.holds Tryz.pinned (OpenSpec.ofChange fnExactLeaveTableSpec)

/-- ITS FALSE NEIGHBOUR: 'it returns false'. Refute it at one input. -/
def fnExactLeaveTableWrong : ChangeSpec := { name := "fnExactLeaveTable", vars := ["loop.example/g00701/impl.fits", "loop.example/g00701/impl.intents"], fn := fun _ => fun
  | [d1, d2, d3, g1, g2] => { results := [.lit (.bool false)], args := [d1, d2, d3], vars := [g1, g2] }
  | _ => none }
def FnExactLeaveTableWrongFalsely : Prop := fnExactLeaveTableRow.holds Tryz.pinned (OpenSpec.ofChange fnExactLeaveTableWrong)

/-- 'laws.FnExactBlockersOf': WHATEVER THE INPUT: true; the input reads as it did. -/
def fnExactBlockersOfSpec : ChangeSpec := { name := "fnExactBlockersOf", vars := ["loop.example/g00701/impl.fits", "loop.example/g00701/impl.intents"], fn := fun _ => fun
  | [d1, d2, d3, g1, g2] => { results := [.lit (.bool true)], args := [d1, d2, d3], vars := [g1, g2] }
  | _ => none }
def fnExactBlockersOfRow : OpenClaim := { program := "ytfjhpfgffbghdaagreatdoor", sum := "ab05d7d8832379bb49b22fc8dc9a339959fe00d4b68c9c7f47d0f143d8d98a3a", func := "loop.example/g00701/laws.FnExactBlockersOf", spec := "fnExactBlockersOf", unfollowed := true, recurses := true, named := ["loop.example/g00701/impl.fits", "loop.example/g00701/impl.intents"], apart := false, laid := [("loop.example/g00701/impl.fits", laid_loop_example_g00701_impl_fits), ("loop.example/g00701/impl.intents", laid_loop_example_g00701_impl_intents)] }
def FnExactBlockersOfSaid : Prop := fnExactBlockersOfRow.holds Tryz.pinned (OpenSpec.ofChange fnExactBlockersOfSpec)

/-- ITS FALSE NEIGHBOUR: 'it returns false'. Refute it at one input. -/
def fnExactBlockersOfWrong : ChangeSpec := { name := "fnExactBlockersOf", vars := ["loop.example/g00701/impl.fits", "loop.example/g00701/impl.intents"], fn := fun _ => fun
  | [d1, d2, d3, g1, g2] => { results := [.lit (.bool false)], args := [d1, d2, d3], vars := [g1, g2] }
  | _ => none }
def FnExactBlockersOfWrongFalsely : Prop := fnExactBlockersOfRow.holds Tryz.pinned (OpenSpec.ofChange fnExactBlockersOfWrong)

/- THE SECOND FORM. 'bulk': how many values and letters a reading holds, each counted each time it is reached (what is shared counts as often as it is met; a slice's spare places count too). A statement '..UptoSaid' is the law's where the arguments, and the package variables that the reading takes, are together of bulk at most 1048576: NARROWER than '..Said'. Prove '..Said' where nothing that the law and all that it calls make is longer than what came in: it says more and counts as full. Else prove '..UptoSaid'. A law counts once. -/
mutual
def uptoBulk {H : Type} : DataW H → Nat
  | .lit (.string bytes) => bytes.length + 1
  | .lit _ => 1
  | .nil => 1
  | .ptr d => uptoBulk d + 1
  | .slice elems spare => uptoBulkAll elems + uptoBulkAll spare + 1
  | .agg parts => uptoBulkAll parts + 1
  | .iface _ d => uptoBulk d + 1
  | .map entries => uptoBulkEntries entries + 1
  | .held _ => 1
def uptoBulkAll {H : Type} : List (DataW H) → Nat
  | [] => 0
  | d :: r => uptoBulk d + uptoBulkAll r
def uptoBulkEntries {H : Type} : List (Lit × DataW H) → Nat
  | [] => 0
  | x :: r => uptoBulkEntry x + uptoBulkEntries r
def uptoBulkEntry {H : Type} : Lit × DataW H → Nat
  | (.string bytes, d) => bytes.length + uptoBulk d + 1
  | (_, d) => uptoBulk d + 1
 end
def uptoSmall : (H : Type) → List (DataW H) → Bool := fun _ ds => decide (uptoBulkAll ds ≤ 1048576)
def OpenSpec.upto (s : _root_.Go.ChangeSpec) : _root_.Go.OpenSpec := { _root_.Go.OpenSpec.ofChange s with cond := some uptoSmall }

/-- 'laws.FnExactFreeLock', WHERE WHAT IT READS IS OF BULK AT MOST 1048576: true; the input reads as it did. -/
def fnExactFreeLockUptoRow : OpenClaim := { program := "ytfjhpfgffbghdaagreatdoor", sum := "ab05d7d8832379bb49b22fc8dc9a339959fe00d4b68c9c7f47d0f143d8d98a3a", func := "loop.example/g00701/laws.FnExactFreeLock", spec := "fnExactFreeLock", inPlace := ["slices.overlaps[loop.example/g00701/impl.lock]"], unfollowed := true, recurses := true, named := ["loop.example/g00701/impl.fits", "loop.example/g00701/impl.intents"], apart := false, laid := [("loop.example/g00701/impl.fits", laid_loop_example_g00701_impl_fits), ("loop.example/g00701/impl.intents", laid_loop_example_g00701_impl_intents)], narrowed := true }
def FnExactFreeLockUptoSaid : Prop := fnExactFreeLockUptoRow.holds Tryz.pinned (OpenSpec.upto fnExactFreeLockSpec)

/-- 'laws.FnExactLeaveTable', WHERE WHAT IT READS IS OF BULK AT MOST 1048576: true; the input reads as it did. -/
def fnExactLeaveTableUptoRow : OpenClaim := { program := "ytfjhpfgffbghdaagreatdoor", sum := "ab05d7d8832379bb49b22fc8dc9a339959fe00d4b68c9c7f47d0f143d8d98a3a", func := "loop.example/g00701/laws.FnExactLeaveTable", spec := "fnExactLeaveTable", inPlace := ["slices.overlaps[loop.example/g00701/impl.lock]"], unfollowed := true, recurses := true, named := ["loop.example/g00701/impl.fits", "loop.example/g00701/impl.intents"], apart := false, laid := [("loop.example/g00701/impl.fits", laid_loop_example_g00701_impl_fits), ("loop.example/g00701/impl.intents", laid_loop_example_g00701_impl_intents)], narrowed := true }
def FnExactLeaveTableUptoSaid : Prop := fnExactLeaveTableUptoRow.holds Tryz.pinned (OpenSpec.upto fnExactLeaveTableSpec)

/-- 'laws.FnExactBlockersOf', WHERE WHAT IT READS IS OF BULK AT MOST 1048576: true; the input reads as it did. -/
def fnExactBlockersOfUptoRow : OpenClaim := { program := "ytfjhpfgffbghdaagreatdoor", sum := "ab05d7d8832379bb49b22fc8dc9a339959fe00d4b68c9c7f47d0f143d8d98a3a", func := "loop.example/g00701/laws.FnExactBlockersOf", spec := "fnExactBlockersOf", unfollowed := true, recurses := true, named := ["loop.example/g00701/impl.fits", "loop.example/g00701/impl.intents"], apart := false, laid := [("loop.example/g00701/impl.fits", laid_loop_example_g00701_impl_fits), ("loop.example/g00701/impl.intents", laid_loop_example_g00701_impl_intents)], narrowed := true }
def FnExactBlockersOfUptoSaid : Prop := fnExactBlockersOfUptoRow.holds Tryz.pinned (OpenSpec.upto fnExactBlockersOfSpec)

end Rows
end Go.Proofs.YtfjhpfgffbghdaaGreatDoor
