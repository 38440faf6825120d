/-
  NARROWER THAN 'FOR EVERY INPUT', by the rows' own cells (each row's printed sentence says how): FnExactCheckNode: laid · FnExactCheckDoc: laid · FnExactMayInsert: laid · FnExactEditOK: laid · FnExactSchemaLines: laid.
  DERIVED. THE GIVEN ROWS OF THIS SEAT. 5 by the template 'for every input the law returns true; each argument reads behind the call as it read before'; 0 by the template 'total and deterministic' (their statements: YtmcopoonnhcdjaaDoorTotals.lean).
  GIVEN WITH THE SEED: the statements are not yours to turn. If you find one false, say at which input.
  Laid BY PROGRAM, IN A SANDBOX (cutbox-rows.mjs): the forced cells as the released guide's own fill.sh prints them over the translation 4552d53dd9e6f038… (all of the seat's roots in one cut). By AI agents, Wed Nov 11 2026. No macro, syntax, notation, axiom, sorry.
-/
import Derived.Test.YtmcopoonnhcdjaaDoorChecked
import GoSem.Claim
import GoSem.ClaimJoined
import GoSem.ClaimMapViews
import Derived.JoinedTies
import Derived.KernelRfl
namespace Go.Proofs.YtmcopoonnhcdjaaDoor
/- THE CELL 'sum', in the pinned program and in every row, IS THE sha256 OF THE DUMP (.gsa) THAT YtmcopoonnhcdjaaDoorProg.lean LOADS. Nothing in Lean hashes anything: it is a label: what it is worth is what the hold of that sum in a sandbox is worth. -/
noncomputable def Tryd.pinned : Pinned := { name := "ytmcopoonnhcdjaadoor", sum := "4552d53dd9e6f038983f0215ce58a396da643f4452ebe032cd4ad02d2810fdb6", checked := Tryd.checked }
namespace Rows
def none {H : Type} : Left H := { results := [], args := [] }

/- WHAT THE LISTED PACKAGE-LEVEL VARIABLES READ AS WHEN THE CALL BEGINS. Each datum BY PROGRAM (the guide's laid-datum.mjs) off the statement by which the dump's own 'gosem.cut.vars' lays the variable. In a bare row this is a premise. The card (YtmcopoonnhcdjaaDoorCards.lean) ties it to the program's text. -/
def laid_loop_example_g00701_impl_amounts {H : Type} : DataW H := .agg [.agg [.lit (.string []), .lit (.int .i64 1), .lit (.int .i64 1)], .agg [.lit (.string [63]), .lit (.int .i64 0), .lit (.int .i64 1)], .agg [.lit (.string [42]), .lit (.int .i64 0), .lit (.int .i64 12)], .agg [.lit (.string [43]), .lit (.int .i64 1), .lit (.int .i64 12)]]
def laid_loop_example_g00701_impl_editRows {H : Type} : DataW H := .agg [.agg [.lit (.int .i64 0), .lit (.int .i64 0), .lit (.int .i64 0), .lit (.int .i64 0)], .agg [.lit (.int .i64 1), .lit (.int .i64 8), .lit (.int .i64 12), .lit (.int .i64 0)], .agg [.lit (.int .i64 0), .lit (.int .i64 0), .lit (.int .i64 0), .lit (.int .i64 0)], .agg [.lit (.int .i64 0), .lit (.int .i64 0), .lit (.int .i64 0), .lit (.int .i64 20)], .agg [.lit (.int .i64 0), .lit (.int .i64 99), .lit (.int .i64 0), .lit (.int .i64 0)], .agg [.lit (.int .i64 1), .lit (.int .i64 999999), .lit (.int .i64 12), .lit (.int .i64 0)], .agg [.lit (.int .i64 1), .lit (.int .i64 8), .lit (.int .i64 0), .lit (.int .i64 0)], .agg [.lit (.int .i64 0), .lit (.int .i64 0), .lit (.int .i64 0), .lit (.int .i64 0)], .agg [.lit (.int .i64 0), .lit (.int .i64 20), .lit (.int .i64 0), .lit (.int .i64 0)], .agg [.lit (.int .i64 0), .lit (.int .i64 0), .lit (.int .i64 0), .lit (.int .i64 0)]]

/-- 'laws.FnExactCheckNode': WHATEVER THE INPUT: true; the input reads as it did. -/
def fnExactCheckNodeSpec : ChangeSpec := { name := "fnExactCheckNode", vars := ["loop.example/g00701/impl.amounts"], fn := fun _ => fun
  | [d1, d2, d3, g1] => { results := [.lit (.bool true)], args := [d1, d2, d3], vars := [g1] }
  | _ => none }
def fnExactCheckNodeRow : OpenClaim := { program := "ytmcopoonnhcdjaadoor", sum := "4552d53dd9e6f038983f0215ce58a396da643f4452ebe032cd4ad02d2810fdb6", func := "loop.example/g00701/laws.FnExactCheckNode", spec := "fnExactCheckNode", unfollowed := true, recurses := true, named := ["loop.example/g00701/impl.amounts"], apart := false, laid := [("loop.example/g00701/impl.amounts", laid_loop_example_g00701_impl_amounts)] }
def FnExactCheckNodeSaid : Prop := fnExactCheckNodeRow.holds Tryd.pinned (OpenSpec.ofChange fnExactCheckNodeSpec)

/-- ITS FALSE NEIGHBOUR: 'it returns false'. Refute it at one input. -/
def fnExactCheckNodeWrong : ChangeSpec := { name := "fnExactCheckNode", vars := ["loop.example/g00701/impl.amounts"], fn := fun _ => fun
  | [d1, d2, d3, g1] => { results := [.lit (.bool false)], args := [d1, d2, d3], vars := [g1] }
  | _ => none }
def FnExactCheckNodeWrongFalsely : Prop := fnExactCheckNodeRow.holds Tryd.pinned (OpenSpec.ofChange fnExactCheckNodeWrong)

/-- 'laws.FnExactCheckDoc': WHATEVER THE INPUT: true; the input reads as it did. -/
def fnExactCheckDocSpec : ChangeSpec := { name := "fnExactCheckDoc", vars := ["loop.example/g00701/impl.amounts"], fn := fun _ => fun
  | [d1, d2, g1] => { results := [.lit (.bool true)], args := [d1, d2], vars := [g1] }
  | _ => none }
def fnExactCheckDocRow : OpenClaim := { program := "ytmcopoonnhcdjaadoor", sum := "4552d53dd9e6f038983f0215ce58a396da643f4452ebe032cd4ad02d2810fdb6", func := "loop.example/g00701/laws.FnExactCheckDoc", spec := "fnExactCheckDoc", unfollowed := true, recurses := true, named := ["loop.example/g00701/impl.amounts"], apart := false, laid := [("loop.example/g00701/impl.amounts", laid_loop_example_g00701_impl_amounts)] }
def FnExactCheckDocSaid : Prop := fnExactCheckDocRow.holds Tryd.pinned (OpenSpec.ofChange fnExactCheckDocSpec)

/-- ITS FALSE NEIGHBOUR: 'it returns false'. Refute it at one input. -/
def fnExactCheckDocWrong : ChangeSpec := { name := "fnExactCheckDoc", vars := ["loop.example/g00701/impl.amounts"], fn := fun _ => fun
  | [d1, d2, g1] => { results := [.lit (.bool false)], args := [d1, d2], vars := [g1] }
  | _ => none }
def FnExactCheckDocWrongFalsely : Prop := fnExactCheckDocRow.holds Tryd.pinned (OpenSpec.ofChange fnExactCheckDocWrong)

/-- 'laws.FnExactMayInsert': WHATEVER THE INPUT: true; the input reads as it did. -/
def fnExactMayInsertSpec : ChangeSpec := { name := "fnExactMayInsert", vars := ["loop.example/g00701/impl.amounts"], fn := fun _ => fun
  | [d1, d2, d3, g1] => { results := [.lit (.bool true)], args := [d1, d2, d3], vars := [g1] }
  | _ => none }
def fnExactMayInsertRow : OpenClaim := { program := "ytmcopoonnhcdjaadoor", sum := "4552d53dd9e6f038983f0215ce58a396da643f4452ebe032cd4ad02d2810fdb6", func := "loop.example/g00701/laws.FnExactMayInsert", spec := "fnExactMayInsert", inPlace := ["slices.overlaps[int]"], unfollowed := true, recurses := true, named := ["loop.example/g00701/impl.amounts"], apart := false, laid := [("loop.example/g00701/impl.amounts", laid_loop_example_g00701_impl_amounts)] }
def FnExactMayInsertSaid : Prop := fnExactMayInsertRow.holds Tryd.pinned (OpenSpec.ofChange fnExactMayInsertSpec)

/-- ITS FALSE NEIGHBOUR: 'it returns false'. Refute it at one input. -/
def fnExactMayInsertWrong : ChangeSpec := { name := "fnExactMayInsert", vars := ["loop.example/g00701/impl.amounts"], fn := fun _ => fun
  | [d1, d2, d3, g1] => { results := [.lit (.bool false)], args := [d1, d2, d3], vars := [g1] }
  | _ => none }
def FnExactMayInsertWrongFalsely : Prop := fnExactMayInsertRow.holds Tryd.pinned (OpenSpec.ofChange fnExactMayInsertWrong)

/-- 'laws.FnExactEditOK': WHATEVER THE INPUT: true; the input reads as it did. -/
def fnExactEditOKSpec : ChangeSpec := { name := "fnExactEditOK", vars := ["loop.example/g00701/impl.editRows"], fn := fun _ => fun
  | [d, g1] => { results := [.lit (.bool true)], args := [d], vars := [g1] }
  | _ => none }
def fnExactEditOKRow : OpenClaim := { program := "ytmcopoonnhcdjaadoor", sum := "4552d53dd9e6f038983f0215ce58a396da643f4452ebe032cd4ad02d2810fdb6", func := "loop.example/g00701/laws.FnExactEditOK", spec := "fnExactEditOK", named := ["loop.example/g00701/impl.editRows"], apart := false, laid := [("loop.example/g00701/impl.editRows", laid_loop_example_g00701_impl_editRows)] }
def FnExactEditOKSaid : Prop := fnExactEditOKRow.holds Tryd.pinned (OpenSpec.ofChange fnExactEditOKSpec)

/-- ITS FALSE NEIGHBOUR: 'it returns false'. Refute it at one input. -/
def fnExactEditOKWrong : ChangeSpec := { name := "fnExactEditOK", vars := ["loop.example/g00701/impl.editRows"], fn := fun _ => fun
  | [d, g1] => { results := [.lit (.bool false)], args := [d], vars := [g1] }
  | _ => none }
def FnExactEditOKWrongFalsely : Prop := fnExactEditOKRow.holds Tryd.pinned (OpenSpec.ofChange fnExactEditOKWrong)

/-- 'laws.FnExactSchemaLines': WHATEVER THE INPUT: true; the input reads as it did. -/
def fnExactSchemaLinesSpec : ChangeSpec := { name := "fnExactSchemaLines", vars := ["loop.example/g00701/impl.amounts"], fn := fun _ => fun
  | [d, g1] => { results := [.lit (.bool true)], args := [d], vars := [g1] }
  | _ => none }
def fnExactSchemaLinesRow : OpenClaim := { program := "ytmcopoonnhcdjaadoor", sum := "4552d53dd9e6f038983f0215ce58a396da643f4452ebe032cd4ad02d2810fdb6", func := "loop.example/g00701/laws.FnExactSchemaLines", spec := "fnExactSchemaLines", inPlace := ["internal/abi.NoEscape", "internal/bytealg.MakeNoZero"], unfollowed := true, recurses := true, named := ["loop.example/g00701/impl.amounts"], apart := false, laid := [("loop.example/g00701/impl.amounts", laid_loop_example_g00701_impl_amounts)] }
def FnExactSchemaLinesSaid : Prop := fnExactSchemaLinesRow.holds Tryd.pinned (OpenSpec.ofChange fnExactSchemaLinesSpec)

/-- ITS FALSE NEIGHBOUR: 'it returns false'. Refute it at one input. -/
def fnExactSchemaLinesWrong : ChangeSpec := { name := "fnExactSchemaLines", vars := ["loop.example/g00701/impl.amounts"], fn := fun _ => fun
  | [d, g1] => { results := [.lit (.bool false)], args := [d], vars := [g1] }
  | _ => none }
def FnExactSchemaLinesWrongFalsely : Prop := fnExactSchemaLinesRow.holds Tryd.pinned (OpenSpec.ofChange fnExactSchemaLinesWrong)

/- THE SECOND FORM. 'bulk': how many values and letters a reading holds, each counted each time it is reached (what is shared counts as often as it is met; a slice's spare places count too). A statement '..UptoSaid' is the law's where the arguments, and the package variables that the reading takes, are together of bulk at most 1048576: NARROWER than '..Said'. Prove '..Said' where nothing that the law and all that it calls make is longer than what came in: it says more and counts as full. Else prove '..UptoSaid'. A law counts once. -/
mutual
def uptoBulk {H : Type} : DataW H → Nat
  | .lit (.string bytes) => bytes.length + 1
  | .lit _ => 1
  | .nil => 1
  | .ptr d => uptoBulk d + 1
  | .slice elems spare => uptoBulkAll elems + uptoBulkAll spare + 1
  | .agg parts => uptoBulkAll parts + 1
  | .iface _ d => uptoBulk d + 1
  | .map entries => uptoBulkEntries entries + 1
  | .held _ => 1
def uptoBulkAll {H : Type} : List (DataW H) → Nat
  | [] => 0
  | d :: r => uptoBulk d + uptoBulkAll r
def uptoBulkEntries {H : Type} : List (Lit × DataW H) → Nat
  | [] => 0
  | x :: r => uptoBulkEntry x + uptoBulkEntries r
def uptoBulkEntry {H : Type} : Lit × DataW H → Nat
  | (.string bytes, d) => bytes.length + uptoBulk d + 1
  | (_, d) => uptoBulk d + 1
 end
def uptoSmall : (H : Type) → List (DataW H) → Bool := fun _ ds => decide (uptoBulkAll ds ≤ 1048576)
def OpenSpec.upto (s : _root_.Go.ChangeSpec) : _root_.Go.OpenSpec := { _root_.Go.OpenSpec.ofChange s with cond := some uptoSmall }

/-- 'laws.FnExactCheckNode', WHERE WHAT IT READS IS OF BULK AT MOST 1048576: true; the input reads as it did. -/
def fnExactCheckNodeUptoRow : OpenClaim := { program := "ytmcopoonnhcdjaadoor", sum := "4552d53dd9e6f038983f0215ce58a396da643f4452ebe032cd4ad02d2810fdb6", func := "loop.example/g00701/laws.FnExactCheckNode", spec := "fnExactCheckNode", unfollowed := true, recurses := true, named := ["loop.example/g00701/impl.amounts"], apart := false, laid := [("loop.example/g00701/impl.amounts", laid_loop_example_g00701_impl_amounts)], narrowed := true }
def FnExactCheckNodeUptoSaid : Prop := fnExactCheckNodeUptoRow.holds Tryd.pinned (OpenSpec.upto fnExactCheckNodeSpec)

/-- 'laws.FnExactCheckDoc', WHERE WHAT IT READS IS OF BULK AT MOST 1048576: true; the input reads as it did. -/
def fnExactCheckDocUptoRow : OpenClaim := { program := "ytmcopoonnhcdjaadoor", sum := "4552d53dd9e6f038983f0215ce58a396da643f4452ebe032cd4ad02d2810fdb6", func := "loop.example/g00701/laws.FnExactCheckDoc", spec := "fnExactCheckDoc", unfollowed := true, recurses := true, named := ["loop.example/g00701/impl.amounts"], apart := false, laid := [("loop.example/g00701/impl.amounts", laid_loop_example_g00701_impl_amounts)], narrowed := true }
def FnExactCheckDocUptoSaid : Prop := fnExactCheckDocUptoRow.holds Tryd.pinned (OpenSpec.upto fnExactCheckDocSpec)

/-- 'laws.FnExactMayInsert', WHERE WHAT IT READS IS OF BULK AT MOST 1048576: true; the input reads as it did. -/
def fnExactMayInsertUptoRow : OpenClaim := { program := "ytmcopoonnhcdjaadoor", sum := "4552d53dd9e6f038983f0215ce58a396da643f4452ebe032cd4ad02d2810fdb6", func := "loop.example/g00701/laws.FnExactMayInsert", spec := "fnExactMayInsert", inPlace := ["slices.overlaps[int]"], unfollowed := true, recurses := true, named := ["loop.example/g00701/impl.amounts"], apart := false, laid := [("loop.example/g00701/impl.amounts", laid_loop_example_g00701_impl_amounts)], narrowed := true }
def FnExactMayInsertUptoSaid : Prop := fnExactMayInsertUptoRow.holds Tryd.pinned (OpenSpec.upto fnExactMayInsertSpec)

/-- 'laws.FnExactEditOK', WHERE WHAT IT READS IS OF BULK AT MOST 1048576: true; the input reads as it did. -/
def fnExactEditOKUptoRow : OpenClaim := { program := "ytmcopoonnhcdjaadoor", sum := "4552d53dd9e6f038983f0215ce58a396da643f4452ebe032cd4ad02d2810fdb6", func := "loop.example/g00701/laws.FnExactEditOK", spec := "fnExactEditOK", named := ["loop.example/g00701/impl.editRows"], apart := false, laid := [("loop.example/g00701/impl.editRows", laid_loop_example_g00701_impl_editRows)], narrowed := true }
def FnExactEditOKUptoSaid : Prop := fnExactEditOKUptoRow.holds Tryd.pinned (OpenSpec.upto fnExactEditOKSpec)

/-- 'laws.FnExactSchemaLines', WHERE WHAT IT READS IS OF BULK AT MOST 1048576: true; the input reads as it did. -/
def fnExactSchemaLinesUptoRow : OpenClaim := { program := "ytmcopoonnhcdjaadoor", sum := "4552d53dd9e6f038983f0215ce58a396da643f4452ebe032cd4ad02d2810fdb6", func := "loop.example/g00701/laws.FnExactSchemaLines", spec := "fnExactSchemaLines", inPlace := ["internal/abi.NoEscape", "internal/bytealg.MakeNoZero"], unfollowed := true, recurses := true, named := ["loop.example/g00701/impl.amounts"], apart := false, laid := [("loop.example/g00701/impl.amounts", laid_loop_example_g00701_impl_amounts)], narrowed := true }
def FnExactSchemaLinesUptoSaid : Prop := fnExactSchemaLinesUptoRow.holds Tryd.pinned (OpenSpec.upto fnExactSchemaLinesSpec)

end Rows
end Go.Proofs.YtmcopoonnhcdjaaDoor
