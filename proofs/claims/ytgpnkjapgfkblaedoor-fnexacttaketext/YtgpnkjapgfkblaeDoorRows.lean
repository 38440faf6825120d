/-
  NARROWER THAN 'FOR EVERY INPUT', by the rows' own cells (each row's printed sentence says how): FnExactCodeOf: laid · FnExactPutNumber: ifaces, laid · FnExactTakeNumber: ifaces, laid · FnExactTakeText: ifaces, laid.
  DERIVED. THE GIVEN ROWS OF THIS SEAT. 4 by the template 'for every input the law returns true; each argument reads behind the call as it read before'; 0 by the template 'total and deterministic' (their statements: YtgpnkjapgfkblaeDoorTotals.lean).
  GIVEN WITH THE SEED: the statements are not yours to turn. If you find one false, say at which input.
  Laid BY PROGRAM, IN A SANDBOX (cutbox-rows.mjs): the forced cells as the released guide's own fill.sh prints them over the translation 4879a3d33a255c09… (all of the seat's roots in one cut). By AI agents, Wed Nov 11 2026. No macro, syntax, notation, axiom, sorry.
-/
import Derived.Test.YtgpnkjapgfkblaeDoorChecked
import GoSem.Claim
import GoSem.ClaimJoined
import GoSem.ClaimMapViews
import Derived.JoinedTies
import Derived.KernelRfl
namespace Go.Proofs.YtgpnkjapgfkblaeDoor
/- THE CELL 'sum', in the pinned program and in every row, IS THE sha256 OF THE DUMP (.gsa) THAT YtgpnkjapgfkblaeDoorProg.lean LOADS. Nothing in Lean hashes anything: it is a label: what it is worth is what the hold of that sum in a sandbox is worth. -/
noncomputable def Tryd.pinned : Pinned := { name := "ytgpnkjapgfkblaedoor", sum := "4879a3d33a255c09b10e5fd7eea02d56354d8445ba7d6cf71d4cf3bf69c36961", checked := Tryd.checked }
namespace Rows
def none {H : Type} : Left H := { results := [], args := [] }

/- WHAT THE LISTED PACKAGE-LEVEL VARIABLES READ AS WHEN THE CALL BEGINS. Each datum BY PROGRAM (the guide's laid-datum.mjs) off the statement by which the dump's own 'gosem.cut.vars' lays the variable. In a bare row this is a premise. The card (YtgpnkjapgfkblaeDoorCards.lean) ties it to the program's text. -/
def laid_loop_example_g00701_impl_codeWords {H : Type} : DataW H := .agg [.lit (.string [111, 107]), .lit (.string [98, 97, 100]), .lit (.string [108, 111, 110, 103]), .lit (.string [102, 111, 114, 109]), .lit (.string [114, 97, 110, 103, 101]), .lit (.string [110, 111, 110, 101]), .lit (.string [109, 97, 110, 121]), .lit (.string [102, 117, 108, 108]), .lit (.string [115, 105, 122, 101]), .lit (.string [115, 117, 109]), .lit (.string [107, 105, 110, 100]), .lit (.string [100, 101, 101, 112]), .lit (.string [99, 111, 110, 116, 101, 110, 116]), .lit (.string [114, 111, 111, 116]), .lit (.string [119, 97, 105, 116]), .lit (.string [118, 105, 99, 116, 105, 109]), .lit (.string [108, 97, 112, 115, 101, 100]), .lit (.string [104, 101, 108, 100]), .lit (.string [119, 111, 114, 107]), .lit (.string [109, 111, 100, 101]), .lit (.string [111, 114, 100, 101, 114]), .lit (.string [115, 97, 109, 101])]
def laid_loop_example_g00701_impl_errForm {H : Type} : DataW H := .iface "*errors.errorString" (.ptr (.agg [.lit (.string [110, 111, 32, 115, 117, 99, 104, 32, 116, 104, 105, 110, 103])]))
def laid_loop_example_g00701_impl_errRange {H : Type} : DataW H := .iface "*errors.errorString" (.ptr (.agg [.lit (.string [97, 32, 110, 117, 109, 98, 101, 114, 32, 116, 104, 97, 116, 32, 105, 115, 32, 111, 117, 116, 32, 111, 102, 32, 105, 116, 115, 32, 98, 111, 117, 110, 100, 115])]))
def laid_loop_example_g00701_impl_errSize {H : Type} : DataW H := .iface "*errors.errorString" (.ptr (.agg [.lit (.string [111, 102, 32, 97, 110, 111, 116, 104, 101, 114, 32, 108, 101, 110, 103, 116, 104])]))
def laid_loop_example_g00701_impl_errSum {H : Type} : DataW H := .iface "*errors.errorString" (.ptr (.agg [.lit (.string [97, 32, 115, 117, 109, 32, 116, 104, 97, 116, 32, 105, 115, 32, 119, 114, 111, 110, 103])]))

/-- 'laws.FnExactCodeOf': WHATEVER THE INPUT: true; the input reads as it did. -/
def fnExactCodeOfSpec : ChangeSpec := { name := "fnExactCodeOf", vars := ["loop.example/g00701/impl.codeWords"], fn := fun _ => fun
  | [d, g1] => { results := [.lit (.bool true)], args := [d], vars := [g1] }
  | _ => none }
def fnExactCodeOfRow : OpenClaim := { program := "ytgpnkjapgfkblaedoor", sum := "4879a3d33a255c09b10e5fd7eea02d56354d8445ba7d6cf71d4cf3bf69c36961", func := "loop.example/g00701/laws.FnExactCodeOf", spec := "fnExactCodeOf", named := ["loop.example/g00701/impl.codeWords"], apart := false, laid := [("loop.example/g00701/impl.codeWords", laid_loop_example_g00701_impl_codeWords)] }
def FnExactCodeOfSaid : Prop := fnExactCodeOfRow.holds Tryd.pinned (OpenSpec.ofChange fnExactCodeOfSpec)

/-- ITS FALSE NEIGHBOUR: 'it returns false'. Refute it at one input. -/
def fnExactCodeOfWrong : ChangeSpec := { name := "fnExactCodeOf", vars := ["loop.example/g00701/impl.codeWords"], fn := fun _ => fun
  | [d, g1] => { results := [.lit (.bool false)], args := [d], vars := [g1] }
  | _ => none }
def FnExactCodeOfWrongFalsely : Prop := fnExactCodeOfRow.holds Tryd.pinned (OpenSpec.ofChange fnExactCodeOfWrong)

/-- 'laws.FnExactPutNumber': WHATEVER THE INPUT: true; the input reads as it did. -/
def fnExactPutNumberSpec : ChangeSpec := { name := "fnExactPutNumber", vars := ["loop.example/g00701/impl.errRange", "loop.example/g00701/impl.errForm", "loop.example/g00701/impl.errSize", "loop.example/g00701/impl.errSum"], fn := fun _ => fun
  | [d, g1, g2, g3, g4] => { results := [.lit (.bool true)], args := [d], vars := [g1, g2, g3, g4] }
  | _ => none }
def fnExactPutNumberRow : OpenClaim := { program := "ytgpnkjapgfkblaedoor", sum := "4879a3d33a255c09b10e5fd7eea02d56354d8445ba7d6cf71d4cf3bf69c36961", func := "loop.example/g00701/laws.FnExactPutNumber", spec := "fnExactPutNumber", inPlace := ["internal/reflectlite.TypeOf"], unfollowed := true, recurses := true, named := ["loop.example/g00701/impl.errRange", "loop.example/g00701/impl.errForm", "loop.example/g00701/impl.errSize", "loop.example/g00701/impl.errSum"], ifaces := true, apart := false, laid := [("loop.example/g00701/impl.errForm", laid_loop_example_g00701_impl_errForm), ("loop.example/g00701/impl.errRange", laid_loop_example_g00701_impl_errRange), ("loop.example/g00701/impl.errSize", laid_loop_example_g00701_impl_errSize), ("loop.example/g00701/impl.errSum", laid_loop_example_g00701_impl_errSum)] }
def FnExactPutNumberSaid : Prop := fnExactPutNumberRow.holds Tryd.pinned (OpenSpec.ofChange fnExactPutNumberSpec)

/-- ITS FALSE NEIGHBOUR: 'it returns false'. Refute it at one input. -/
def fnExactPutNumberWrong : ChangeSpec := { name := "fnExactPutNumber", vars := ["loop.example/g00701/impl.errRange", "loop.example/g00701/impl.errForm", "loop.example/g00701/impl.errSize", "loop.example/g00701/impl.errSum"], fn := fun _ => fun
  | [d, g1, g2, g3, g4] => { results := [.lit (.bool false)], args := [d], vars := [g1, g2, g3, g4] }
  | _ => none }
def FnExactPutNumberWrongFalsely : Prop := fnExactPutNumberRow.holds Tryd.pinned (OpenSpec.ofChange fnExactPutNumberWrong)

/-- 'laws.FnExactTakeNumber': WHATEVER THE INPUT: true; the input reads as it did. -/
def fnExactTakeNumberSpec : ChangeSpec := { name := "fnExactTakeNumber", vars := ["loop.example/g00701/impl.errSize", "loop.example/g00701/impl.errForm", "loop.example/g00701/impl.errRange", "loop.example/g00701/impl.errSum"], fn := fun _ => fun
  | [d1, d2, g1, g2, g3, g4] => { results := [.lit (.bool true)], args := [d1, d2], vars := [g1, g2, g3, g4] }
  | _ => none }
def fnExactTakeNumberRow : OpenClaim := { program := "ytgpnkjapgfkblaedoor", sum := "4879a3d33a255c09b10e5fd7eea02d56354d8445ba7d6cf71d4cf3bf69c36961", func := "loop.example/g00701/laws.FnExactTakeNumber", spec := "fnExactTakeNumber", inPlace := ["internal/reflectlite.TypeOf"], unfollowed := true, recurses := true, named := ["loop.example/g00701/impl.errSize", "loop.example/g00701/impl.errForm", "loop.example/g00701/impl.errRange", "loop.example/g00701/impl.errSum"], ifaces := true, apart := false, laid := [("loop.example/g00701/impl.errForm", laid_loop_example_g00701_impl_errForm), ("loop.example/g00701/impl.errRange", laid_loop_example_g00701_impl_errRange), ("loop.example/g00701/impl.errSize", laid_loop_example_g00701_impl_errSize), ("loop.example/g00701/impl.errSum", laid_loop_example_g00701_impl_errSum)] }
def FnExactTakeNumberSaid : Prop := fnExactTakeNumberRow.holds Tryd.pinned (OpenSpec.ofChange fnExactTakeNumberSpec)

/-- ITS FALSE NEIGHBOUR: 'it returns false'. Refute it at one input. -/
def fnExactTakeNumberWrong : ChangeSpec := { name := "fnExactTakeNumber", vars := ["loop.example/g00701/impl.errSize", "loop.example/g00701/impl.errForm", "loop.example/g00701/impl.errRange", "loop.example/g00701/impl.errSum"], fn := fun _ => fun
  | [d1, d2, g1, g2, g3, g4] => { results := [.lit (.bool false)], args := [d1, d2], vars := [g1, g2, g3, g4] }
  | _ => none }
def FnExactTakeNumberWrongFalsely : Prop := fnExactTakeNumberRow.holds Tryd.pinned (OpenSpec.ofChange fnExactTakeNumberWrong)

/-- 'laws.FnExactTakeText': WHATEVER THE INPUT: true; the input reads as it did. -/
def fnExactTakeTextSpec : ChangeSpec := { name := "fnExactTakeText", vars := ["loop.example/g00701/impl.errSize", "loop.example/g00701/impl.errForm", "loop.example/g00701/impl.errRange", "loop.example/g00701/impl.errSum"], fn := fun _ => fun
  | [d1, d2, g1, g2, g3, g4] => { results := [.lit (.bool true)], args := [d1, d2], vars := [g1, g2, g3, g4] }
  | _ => none }
def fnExactTakeTextRow : OpenClaim := { program := "ytgpnkjapgfkblaedoor", sum := "4879a3d33a255c09b10e5fd7eea02d56354d8445ba7d6cf71d4cf3bf69c36961", func := "loop.example/g00701/laws.FnExactTakeText", spec := "fnExactTakeText", inPlace := ["internal/reflectlite.TypeOf"], unfollowed := true, recurses := true, named := ["loop.example/g00701/impl.errSize", "loop.example/g00701/impl.errForm", "loop.example/g00701/impl.errRange", "loop.example/g00701/impl.errSum"], ifaces := true, apart := false, laid := [("loop.example/g00701/impl.errForm", laid_loop_example_g00701_impl_errForm), ("loop.example/g00701/impl.errRange", laid_loop_example_g00701_impl_errRange), ("loop.example/g00701/impl.errSize", laid_loop_example_g00701_impl_errSize), ("loop.example/g00701/impl.errSum", laid_loop_example_g00701_impl_errSum)] }
def FnExactTakeTextSaid : Prop := fnExactTakeTextRow.holds Tryd.pinned (OpenSpec.ofChange fnExactTakeTextSpec)

/-- ITS FALSE NEIGHBOUR: 'it returns false'. Refute it at one input. -/
def fnExactTakeTextWrong : ChangeSpec := { name := "fnExactTakeText", vars := ["loop.example/g00701/impl.errSize", "loop.example/g00701/impl.errForm", "loop.example/g00701/impl.errRange", "loop.example/g00701/impl.errSum"], fn := fun _ => fun
  | [d1, d2, g1, g2, g3, g4] => { results := [.lit (.bool false)], args := [d1, d2], vars := [g1, g2, g3, g4] }
  | _ => none }
def FnExactTakeTextWrongFalsely : Prop := fnExactTakeTextRow.holds Tryd.pinned (OpenSpec.ofChange fnExactTakeTextWrong)

/- THE SECOND FORM. 'bulk': how many values and letters a reading holds, each counted each time it is reached (what is shared counts as often as it is met; a slice's spare places count too). A statement '..UptoSaid' is the law's where the arguments, and the package variables that the reading takes, are together of bulk at most 1048576: NARROWER than '..Said'. Prove '..Said' where nothing that the law and all that it calls make is longer than what came in: it says more and counts as full. Else prove '..UptoSaid'. A law counts once. -/
mutual
def uptoBulk {H : Type} : DataW H → Nat
  | .lit (.string bytes) => bytes.length + 1
  | .lit _ => 1
  | .nil => 1
  | .ptr d => uptoBulk d + 1
  | .slice elems spare => uptoBulkAll elems + uptoBulkAll spare + 1
  | .agg parts => uptoBulkAll parts + 1
  | .iface _ d => uptoBulk d + 1
  | .map entries => uptoBulkEntries entries + 1
  | .held _ => 1
def uptoBulkAll {H : Type} : List (DataW H) → Nat
  | [] => 0
  | d :: r => uptoBulk d + uptoBulkAll r
def uptoBulkEntries {H : Type} : List (Lit × DataW H) → Nat
  | [] => 0
  | x :: r => uptoBulkEntry x + uptoBulkEntries r
def uptoBulkEntry {H : Type} : Lit × DataW H → Nat
  | (.string bytes, d) => bytes.length + uptoBulk d + 1
  | (_, d) => uptoBulk d + 1
 end
def uptoSmall : (H : Type) → List (DataW H) → Bool := fun _ ds => decide (uptoBulkAll ds ≤ 1048576)
def OpenSpec.upto (s : _root_.Go.ChangeSpec) : _root_.Go.OpenSpec := { _root_.Go.OpenSpec.ofChange s with cond := some uptoSmall }

/-- 'laws.FnExactCodeOf', WHERE WHAT IT READS IS OF BULK AT MOST 1048576: true; the input reads as it did. -/
def fnExactCodeOfUptoRow : OpenClaim := { program := "ytgpnkjapgfkblaedoor", sum := "4879a3d33a255c09b10e5fd7eea02d56354d8445ba7d6cf71d4cf3bf69c36961", func := "loop.example/g00701/laws.FnExactCodeOf", spec := "fnExactCodeOf", named := ["loop.example/g00701/impl.codeWords"], apart := false, laid := [("loop.example/g00701/impl.codeWords", laid_loop_example_g00701_impl_codeWords)], narrowed := true }
def FnExactCodeOfUptoSaid : Prop := fnExactCodeOfUptoRow.holds Tryd.pinned (OpenSpec.upto fnExactCodeOfSpec)

/-- 'laws.FnExactPutNumber', WHERE WHAT IT READS IS OF BULK AT MOST 1048576: true; the input reads as it did. -/
def fnExactPutNumberUptoRow : OpenClaim := { program := "ytgpnkjapgfkblaedoor", sum := "4879a3d33a255c09b10e5fd7eea02d56354d8445ba7d6cf71d4cf3bf69c36961", func := "loop.example/g00701/laws.FnExactPutNumber", spec := "fnExactPutNumber", inPlace := ["internal/reflectlite.TypeOf"], unfollowed := true, recurses := true, named := ["loop.example/g00701/impl.errRange", "loop.example/g00701/impl.errForm", "loop.example/g00701/impl.errSize", "loop.example/g00701/impl.errSum"], ifaces := true, apart := false, laid := [("loop.example/g00701/impl.errForm", laid_loop_example_g00701_impl_errForm), ("loop.example/g00701/impl.errRange", laid_loop_example_g00701_impl_errRange), ("loop.example/g00701/impl.errSize", laid_loop_example_g00701_impl_errSize), ("loop.example/g00701/impl.errSum", laid_loop_example_g00701_impl_errSum)], narrowed := true }
def FnExactPutNumberUptoSaid : Prop := fnExactPutNumberUptoRow.holds Tryd.pinned (OpenSpec.upto fnExactPutNumberSpec)

/-- 'laws.FnExactTakeNumber', WHERE WHAT IT READS IS OF BULK AT MOST 1048576: true; the input reads as it did. -/
def fnExactTakeNumberUptoRow : OpenClaim := { program := "ytgpnkjapgfkblaedoor", sum := "4879a3d33a255c09b10e5fd7eea02d56354d8445ba7d6cf71d4cf3bf69c36961", func := "loop.example/g00701/laws.FnExactTakeNumber", spec := "fnExactTakeNumber", inPlace := ["internal/reflectlite.TypeOf"], unfollowed := true, recurses := true, named := ["loop.example/g00701/impl.errSize", "loop.example/g00701/impl.errForm", "loop.example/g00701/impl.errRange", "loop.example/g00701/impl.errSum"], ifaces := true, apart := false, laid := [("loop.example/g00701/impl.errForm", laid_loop_example_g00701_impl_errForm), ("loop.example/g00701/impl.errRange", laid_loop_example_g00701_impl_errRange), ("loop.example/g00701/impl.errSize", laid_loop_example_g00701_impl_errSize), ("loop.example/g00701/impl.errSum", laid_loop_example_g00701_impl_errSum)], narrowed := true }
def FnExactTakeNumberUptoSaid : Prop := fnExactTakeNumberUptoRow.holds Tryd.pinned (OpenSpec.upto fnExactTakeNumberSpec)

/-- 'laws.FnExactTakeText', WHERE WHAT IT READS IS OF BULK AT MOST 1048576: true; the input reads as it did. -/
def fnExactTakeTextUptoRow : OpenClaim := { program := "ytgpnkjapgfkblaedoor", sum := "4879a3d33a255c09b10e5fd7eea02d56354d8445ba7d6cf71d4cf3bf69c36961", func := "loop.example/g00701/laws.FnExactTakeText", spec := "fnExactTakeText", inPlace := ["internal/reflectlite.TypeOf"], unfollowed := true, recurses := true, named := ["loop.example/g00701/impl.errSize", "loop.example/g00701/impl.errForm", "loop.example/g00701/impl.errRange", "loop.example/g00701/impl.errSum"], ifaces := true, apart := false, laid := [("loop.example/g00701/impl.errForm", laid_loop_example_g00701_impl_errForm), ("loop.example/g00701/impl.errRange", laid_loop_example_g00701_impl_errRange), ("loop.example/g00701/impl.errSize", laid_loop_example_g00701_impl_errSize), ("loop.example/g00701/impl.errSum", laid_loop_example_g00701_impl_errSum)], narrowed := true }
def FnExactTakeTextUptoSaid : Prop := fnExactTakeTextUptoRow.holds Tryd.pinned (OpenSpec.upto fnExactTakeTextSpec)

end Rows
end Go.Proofs.YtgpnkjapgfkblaeDoor
