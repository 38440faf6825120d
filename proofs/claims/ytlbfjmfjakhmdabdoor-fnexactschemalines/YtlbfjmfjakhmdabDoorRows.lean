/-
  NARROWER THAN 'FOR EVERY INPUT', by the rows' own cells (each row's printed sentence says how): FnExactSchemaLines: laid · FnExactReadSchema: ifaces, laid · FnExactDemoSchema: ifaces, laid · FnSchema: ifaces, laid.
  DERIVED. THE GIVEN ROWS OF THIS SEAT. 4 by the template 'for every input the law returns true; each argument reads behind the call as it read before'; 0 by the template 'total and deterministic' (their statements: YtlbfjmfjakhmdabDoorTotals.lean).
  GIVEN WITH THE SEED: the statements are not yours to turn. If you find one false, say at which input.
  Laid BY PROGRAM, IN A SANDBOX (cutbox-rows.mjs): the forced cells as the released guide's own fill.sh prints them over the translation 4b3acccb99949614… (all of the seat's roots in one cut). By AI agents, Wed Nov 11 2026. No macro, syntax, notation, axiom, sorry.
-/
import Derived.Test.YtlbfjmfjakhmdabDoorChecked
import GoSem.Claim
import GoSem.ClaimJoined
import GoSem.ClaimMapViews
import Derived.JoinedTies
import Derived.KernelRfl
namespace Go.Proofs.YtlbfjmfjakhmdabDoor
/- THE CELL 'sum', in the pinned program and in every row, IS THE sha256 OF THE DUMP (.gsa) THAT YtlbfjmfjakhmdabDoorProg.lean LOADS. Nothing in Lean hashes anything: it is a label: what it is worth is what the hold of that sum in a sandbox is worth. -/
noncomputable def Tryd.pinned : Pinned := { name := "ytlbfjmfjakhmdabdoor", sum := "4b3acccb99949614aed56432ea09bd2ae51553dba55bb2dee292446745eb6e70", checked := Tryd.checked }
namespace Rows
def none {H : Type} : Left H := { results := [], args := [] }

/- WHAT THE LISTED PACKAGE-LEVEL VARIABLES READ AS WHEN THE CALL BEGINS. Each datum BY PROGRAM (the guide's laid-datum.mjs) off the statement by which the dump's own 'gosem.cut.vars' lays the variable. In a bare row this is a premise. The card (YtlbfjmfjakhmdabDoorCards.lean) ties it to the program's text. -/
def laid_loop_example_g00701_impl_amounts {H : Type} : DataW H := .agg [.agg [.lit (.string []), .lit (.int .i64 1), .lit (.int .i64 1)], .agg [.lit (.string [63]), .lit (.int .i64 0), .lit (.int .i64 1)], .agg [.lit (.string [42]), .lit (.int .i64 0), .lit (.int .i64 12)], .agg [.lit (.string [43]), .lit (.int .i64 1), .lit (.int .i64 12)]]
def laid_loop_example_g00701_impl_errForm {H : Type} : DataW H := .iface "*errors.errorString" (.ptr (.agg [.lit (.string [110, 111, 32, 115, 117, 99, 104, 32, 116, 104, 105, 110, 103])]))
def laid_loop_example_g00701_impl_errRange {H : Type} : DataW H := .iface "*errors.errorString" (.ptr (.agg [.lit (.string [97, 32, 110, 117, 109, 98, 101, 114, 32, 116, 104, 97, 116, 32, 105, 115, 32, 111, 117, 116, 32, 111, 102, 32, 105, 116, 115, 32, 98, 111, 117, 110, 100, 115])]))
def laid_loop_example_g00701_impl_errSize {H : Type} : DataW H := .iface "*errors.errorString" (.ptr (.agg [.lit (.string [111, 102, 32, 97, 110, 111, 116, 104, 101, 114, 32, 108, 101, 110, 103, 116, 104])]))
def laid_loop_example_g00701_impl_errSum {H : Type} : DataW H := .iface "*errors.errorString" (.ptr (.agg [.lit (.string [97, 32, 115, 117, 109, 32, 116, 104, 97, 116, 32, 105, 115, 32, 119, 114, 111, 110, 103])]))

/-- 'laws.FnExactSchemaLines': WHATEVER THE INPUT: true; the input reads as it did. -/
def fnExactSchemaLinesSpec : ChangeSpec := { name := "fnExactSchemaLines", vars := ["loop.example/g00701/impl.amounts"], fn := fun _ => fun
  | [d, g1] => { results := [.lit (.bool true)], args := [d], vars := [g1] }
  | _ => none }
def fnExactSchemaLinesRow : OpenClaim := { program := "ytlbfjmfjakhmdabdoor", sum := "4b3acccb99949614aed56432ea09bd2ae51553dba55bb2dee292446745eb6e70", func := "loop.example/g00701/laws.FnExactSchemaLines", spec := "fnExactSchemaLines", inPlace := ["internal/abi.NoEscape", "internal/bytealg.MakeNoZero"], unfollowed := true, recurses := true, named := ["loop.example/g00701/impl.amounts"], apart := false, laid := [("loop.example/g00701/impl.amounts", laid_loop_example_g00701_impl_amounts)] }
def FnExactSchemaLinesSaid : Prop := fnExactSchemaLinesRow.holds Tryd.pinned (OpenSpec.ofChange fnExactSchemaLinesSpec)

/-- ITS FALSE NEIGHBOUR: 'it returns false'. Refute it at one input. -/
def fnExactSchemaLinesWrong : ChangeSpec := { name := "fnExactSchemaLines", vars := ["loop.example/g00701/impl.amounts"], fn := fun _ => fun
  | [d, g1] => { results := [.lit (.bool false)], args := [d], vars := [g1] }
  | _ => none }
def FnExactSchemaLinesWrongFalsely : Prop := fnExactSchemaLinesRow.holds Tryd.pinned (OpenSpec.ofChange fnExactSchemaLinesWrong)

/-- 'laws.FnExactReadSchema': WHATEVER THE INPUT: true; the input reads as it did. -/
def fnExactReadSchemaSpec : ChangeSpec := { name := "fnExactReadSchema", vars := ["loop.example/g00701/impl.errForm", "loop.example/g00701/impl.amounts", "loop.example/g00701/impl.errRange", "loop.example/g00701/impl.errSize", "loop.example/g00701/impl.errSum"], fn := fun _ => fun
  | [d, g1, g2, g3, g4, g5] => { results := [.lit (.bool true)], args := [d], vars := [g1, g2, g3, g4, g5] }
  | _ => none }
def fnExactReadSchemaRow : OpenClaim := { program := "ytlbfjmfjakhmdabdoor", sum := "4b3acccb99949614aed56432ea09bd2ae51553dba55bb2dee292446745eb6e70", func := "loop.example/g00701/laws.FnExactReadSchema", spec := "fnExactReadSchema", inPlace := ["internal/bytealg.IndexByteString", "internal/bytealg.IndexString", "internal/reflectlite.TypeOf"], unfollowed := true, recurses := true, named := ["loop.example/g00701/impl.errForm", "loop.example/g00701/impl.amounts", "internal/bytealg.MaxLen", "loop.example/g00701/impl.errRange", "loop.example/g00701/impl.errSize", "loop.example/g00701/impl.errSum"], ifaces := true, apart := false, laid := [("loop.example/g00701/impl.errForm", laid_loop_example_g00701_impl_errForm), ("loop.example/g00701/impl.errRange", laid_loop_example_g00701_impl_errRange), ("loop.example/g00701/impl.errSize", laid_loop_example_g00701_impl_errSize), ("loop.example/g00701/impl.errSum", laid_loop_example_g00701_impl_errSum), ("loop.example/g00701/impl.amounts", laid_loop_example_g00701_impl_amounts)] }
def FnExactReadSchemaSaid : Prop := fnExactReadSchemaRow.holds Tryd.pinned (OpenSpec.ofChange fnExactReadSchemaSpec)

/-- ITS FALSE NEIGHBOUR: 'it returns false'. Refute it at one input. -/
def fnExactReadSchemaWrong : ChangeSpec := { name := "fnExactReadSchema", vars := ["loop.example/g00701/impl.errForm", "loop.example/g00701/impl.amounts", "loop.example/g00701/impl.errRange", "loop.example/g00701/impl.errSize", "loop.example/g00701/impl.errSum"], fn := fun _ => fun
  | [d, g1, g2, g3, g4, g5] => { results := [.lit (.bool false)], args := [d], vars := [g1, g2, g3, g4, g5] }
  | _ => none }
def FnExactReadSchemaWrongFalsely : Prop := fnExactReadSchemaRow.holds Tryd.pinned (OpenSpec.ofChange fnExactReadSchemaWrong)

/-- 'laws.FnExactDemoSchema': WHATEVER THE INPUT: true; the input reads as it did. -/
def fnExactDemoSchemaSpec : ChangeSpec := { name := "fnExactDemoSchema", vars := ["loop.example/g00701/impl.errForm", "loop.example/g00701/impl.amounts"], fn := fun _ => fun
  | [g1, g2] => { results := [.lit (.bool true)], args := [], vars := [g1, g2] }
  | _ => none }
def fnExactDemoSchemaRow : OpenClaim := { program := "ytlbfjmfjakhmdabdoor", sum := "4b3acccb99949614aed56432ea09bd2ae51553dba55bb2dee292446745eb6e70", func := "loop.example/g00701/laws.FnExactDemoSchema", spec := "fnExactDemoSchema", inPlace := ["internal/bytealg.IndexByteString", "internal/bytealg.IndexString"], unfollowed := true, recurses := true, named := ["loop.example/g00701/impl.errForm", "loop.example/g00701/impl.amounts", "internal/bytealg.MaxLen"], ifaces := true, apart := false, laid := [("loop.example/g00701/impl.errForm", laid_loop_example_g00701_impl_errForm), ("loop.example/g00701/impl.amounts", laid_loop_example_g00701_impl_amounts)] }
def FnExactDemoSchemaSaid : Prop := fnExactDemoSchemaRow.holds Tryd.pinned (OpenSpec.ofChange fnExactDemoSchemaSpec)

/-- ITS FALSE NEIGHBOUR: 'it returns false'. Refute it at one input. -/
def fnExactDemoSchemaWrong : ChangeSpec := { name := "fnExactDemoSchema", vars := ["loop.example/g00701/impl.errForm", "loop.example/g00701/impl.amounts"], fn := fun _ => fun
  | [g1, g2] => { results := [.lit (.bool false)], args := [], vars := [g1, g2] }
  | _ => none }
def FnExactDemoSchemaWrongFalsely : Prop := fnExactDemoSchemaRow.holds Tryd.pinned (OpenSpec.ofChange fnExactDemoSchemaWrong)

/-- 'laws.FnSchema': WHATEVER THE INPUT: true; the input reads as it did. -/
def fnSchemaSpec : ChangeSpec := { name := "fnSchema", vars := ["loop.example/g00701/impl.amounts", "loop.example/g00701/impl.errForm", "loop.example/g00701/impl.errRange", "loop.example/g00701/impl.errSize", "loop.example/g00701/impl.errSum"], fn := fun _ => fun
  | [d1, d2, g1, g2, g3, g4, g5] => { results := [.lit (.bool true)], args := [d1, d2], vars := [g1, g2, g3, g4, g5] }
  | _ => none }
def fnSchemaRow : OpenClaim := { program := "ytlbfjmfjakhmdabdoor", sum := "4b3acccb99949614aed56432ea09bd2ae51553dba55bb2dee292446745eb6e70", func := "loop.example/g00701/laws.FnSchema", spec := "fnSchema", inPlace := ["internal/abi.NoEscape", "internal/bytealg.MakeNoZero", "internal/bytealg.IndexByteString", "internal/bytealg.IndexString", "internal/reflectlite.TypeOf"], unfollowed := true, recurses := true, named := ["loop.example/g00701/impl.amounts", "loop.example/g00701/impl.errForm", "internal/bytealg.MaxLen", "loop.example/g00701/impl.errRange", "loop.example/g00701/impl.errSize", "loop.example/g00701/impl.errSum"], ifaces := true, apart := false, laid := [("loop.example/g00701/impl.errForm", laid_loop_example_g00701_impl_errForm), ("loop.example/g00701/impl.errRange", laid_loop_example_g00701_impl_errRange), ("loop.example/g00701/impl.errSize", laid_loop_example_g00701_impl_errSize), ("loop.example/g00701/impl.errSum", laid_loop_example_g00701_impl_errSum), ("loop.example/g00701/impl.amounts", laid_loop_example_g00701_impl_amounts)] }
def FnSchemaSaid : Prop := fnSchemaRow.holds Tryd.pinned (OpenSpec.ofChange fnSchemaSpec)

/-- ITS FALSE NEIGHBOUR: 'it returns false'. Refute it at one input. -/
def fnSchemaWrong : ChangeSpec := { name := "fnSchema", vars := ["loop.example/g00701/impl.amounts", "loop.example/g00701/impl.errForm", "loop.example/g00701/impl.errRange", "loop.example/g00701/impl.errSize", "loop.example/g00701/impl.errSum"], fn := fun _ => fun
  | [d1, d2, g1, g2, g3, g4, g5] => { results := [.lit (.bool false)], args := [d1, d2], vars := [g1, g2, g3, g4, g5] }
  | _ => none }
def FnSchemaWrongFalsely : Prop := fnSchemaRow.holds Tryd.pinned (OpenSpec.ofChange fnSchemaWrong)

/- THE SECOND FORM. 'bulk': how many values and letters a reading holds, each counted each time it is reached (what is shared counts as often as it is met; a slice's spare places count too). A statement '..UptoSaid' is the law's where the arguments, and the package variables that the reading takes, are together of bulk at most 1048576: NARROWER than '..Said'. Prove '..Said' where nothing that the law and all that it calls make is longer than what came in: it says more and counts as full. Else prove '..UptoSaid'. A law counts once. -/
mutual
def uptoBulk {H : Type} : DataW H → Nat
  | .lit (.string bytes) => bytes.length + 1
  | .lit _ => 1
  | .nil => 1
  | .ptr d => uptoBulk d + 1
  | .slice elems spare => uptoBulkAll elems + uptoBulkAll spare + 1
  | .agg parts => uptoBulkAll parts + 1
  | .iface _ d => uptoBulk d + 1
  | .map entries => uptoBulkEntries entries + 1
  | .held _ => 1
def uptoBulkAll {H : Type} : List (DataW H) → Nat
  | [] => 0
  | d :: r => uptoBulk d + uptoBulkAll r
def uptoBulkEntries {H : Type} : List (Lit × DataW H) → Nat
  | [] => 0
  | x :: r => uptoBulkEntry x + uptoBulkEntries r
def uptoBulkEntry {H : Type} : Lit × DataW H → Nat
  | (.string bytes, d) => bytes.length + uptoBulk d + 1
  | (_, d) => uptoBulk d + 1
 end
def uptoSmall : (H : Type) → List (DataW H) → Bool := fun _ ds => decide (uptoBulkAll ds ≤ 1048576)
def OpenSpec.upto (s : _root_.Go.ChangeSpec) : _root_.Go.OpenSpec := { _root_.Go.OpenSpec.ofChange s with cond := some uptoSmall }

/-- 'laws.FnExactSchemaLines', WHERE WHAT IT READS IS OF BULK AT MOST 1048576: true; the input reads as it did. -/
def fnExactSchemaLinesUptoRow : OpenClaim := { program := "ytlbfjmfjakhmdabdoor", sum := "4b3acccb99949614aed56432ea09bd2ae51553dba55bb2dee292446745eb6e70", func := "loop.example/g00701/laws.FnExactSchemaLines", spec := "fnExactSchemaLines", inPlace := ["internal/abi.NoEscape", "internal/bytealg.MakeNoZero"], unfollowed := true, recurses := true, named := ["loop.example/g00701/impl.amounts"], apart := false, laid := [("loop.example/g00701/impl.amounts", laid_loop_example_g00701_impl_amounts)], narrowed := true }
def FnExactSchemaLinesUptoSaid : Prop := fnExactSchemaLinesUptoRow.holds Tryd.pinned (OpenSpec.upto fnExactSchemaLinesSpec)

/-- 'laws.FnExactReadSchema', WHERE WHAT IT READS IS OF BULK AT MOST 1048576: true; the input reads as it did. -/
def fnExactReadSchemaUptoRow : OpenClaim := { program := "ytlbfjmfjakhmdabdoor", sum := "4b3acccb99949614aed56432ea09bd2ae51553dba55bb2dee292446745eb6e70", func := "loop.example/g00701/laws.FnExactReadSchema", spec := "fnExactReadSchema", inPlace := ["internal/bytealg.IndexByteString", "internal/bytealg.IndexString", "internal/reflectlite.TypeOf"], unfollowed := true, recurses := true, named := ["loop.example/g00701/impl.errForm", "loop.example/g00701/impl.amounts", "internal/bytealg.MaxLen", "loop.example/g00701/impl.errRange", "loop.example/g00701/impl.errSize", "loop.example/g00701/impl.errSum"], ifaces := true, apart := false, laid := [("loop.example/g00701/impl.errForm", laid_loop_example_g00701_impl_errForm), ("loop.example/g00701/impl.errRange", laid_loop_example_g00701_impl_errRange), ("loop.example/g00701/impl.errSize", laid_loop_example_g00701_impl_errSize), ("loop.example/g00701/impl.errSum", laid_loop_example_g00701_impl_errSum), ("loop.example/g00701/impl.amounts", laid_loop_example_g00701_impl_amounts)], narrowed := true }
def FnExactReadSchemaUptoSaid : Prop := fnExactReadSchemaUptoRow.holds Tryd.pinned (OpenSpec.upto fnExactReadSchemaSpec)

/-- 'laws.FnExactDemoSchema', WHERE WHAT IT READS IS OF BULK AT MOST 1048576: true; the input reads as it did. -/
def fnExactDemoSchemaUptoRow : OpenClaim := { program := "ytlbfjmfjakhmdabdoor", sum := "4b3acccb99949614aed56432ea09bd2ae51553dba55bb2dee292446745eb6e70", func := "loop.example/g00701/laws.FnExactDemoSchema", spec := "fnExactDemoSchema", inPlace := ["internal/bytealg.IndexByteString", "internal/bytealg.IndexString"], unfollowed := true, recurses := true, named := ["loop.example/g00701/impl.errForm", "loop.example/g00701/impl.amounts", "internal/bytealg.MaxLen"], ifaces := true, apart := false, laid := [("loop.example/g00701/impl.errForm", laid_loop_example_g00701_impl_errForm), ("loop.example/g00701/impl.amounts", laid_loop_example_g00701_impl_amounts)], narrowed := true }
def FnExactDemoSchemaUptoSaid : Prop := fnExactDemoSchemaUptoRow.holds Tryd.pinned (OpenSpec.upto fnExactDemoSchemaSpec)

/-- 'laws.FnSchema', WHERE WHAT IT READS IS OF BULK AT MOST 1048576: true; the input reads as it did. -/
def fnSchemaUptoRow : OpenClaim := { program := "ytlbfjmfjakhmdabdoor", sum := "4b3acccb99949614aed56432ea09bd2ae51553dba55bb2dee292446745eb6e70", func := "loop.example/g00701/laws.FnSchema", spec := "fnSchema", inPlace := ["internal/abi.NoEscape", "internal/bytealg.MakeNoZero", "internal/bytealg.IndexByteString", "internal/bytealg.IndexString", "internal/reflectlite.TypeOf"], unfollowed := true, recurses := true, named := ["loop.example/g00701/impl.amounts", "loop.example/g00701/impl.errForm", "internal/bytealg.MaxLen", "loop.example/g00701/impl.errRange", "loop.example/g00701/impl.errSize", "loop.example/g00701/impl.errSum"], ifaces := true, apart := false, laid := [("loop.example/g00701/impl.errForm", laid_loop_example_g00701_impl_errForm), ("loop.example/g00701/impl.errRange", laid_loop_example_g00701_impl_errRange), ("loop.example/g00701/impl.errSize", laid_loop_example_g00701_impl_errSize), ("loop.example/g00701/impl.errSum", laid_loop_example_g00701_impl_errSum), ("loop.example/g00701/impl.amounts", laid_loop_example_g00701_impl_amounts)], narrowed := true }
def FnSchemaUptoSaid : Prop := fnSchemaUptoRow.holds Tryd.pinned (OpenSpec.upto fnSchemaSpec)

end Rows
end Go.Proofs.YtlbfjmfjakhmdabDoor
