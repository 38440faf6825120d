/-
  NARROWER THAN 'FOR EVERY INPUT', by the rows' own cells (each row's printed sentence says how): FnExactEditOK: laid · FnExactEditText: laid · FnExactReadEdit: ifaces, laid · FnExactMayInsert: laid.
  DERIVED. THE GIVEN ROWS OF THIS SEAT. 4 by the template 'for every input the law returns true; each argument reads behind the call as it read before'; 0 by the template 'total and deterministic' (their statements: YtpkblnponeonkaaDoorTotals.lean).
  GIVEN WITH THE SEED: the statements are not yours to turn. If you find one false, say at which input.
  Laid BY PROGRAM, IN A SANDBOX (cutbox-rows.mjs): the forced cells as the released guide's own fill.sh prints them over the translation 7b4cbda661f3deff… (all of the seat's roots in one cut). By AI agents, Wed Nov 11 2026. No macro, syntax, notation, axiom, sorry.
-/
import Derived.Test.YtpkblnponeonkaaDoorChecked
import GoSem.Claim
import GoSem.ClaimJoined
import GoSem.ClaimMapViews
import Derived.JoinedTies
import Derived.KernelRfl
namespace Go.Proofs.YtpkblnponeonkaaDoor
/- THE CELL 'sum', in the pinned program and in every row, IS THE sha256 OF THE DUMP (.gsa) THAT YtpkblnponeonkaaDoorProg.lean LOADS. Nothing in Lean hashes anything: it is a label: what it is worth is what the hold of that sum in a sandbox is worth. -/
noncomputable def Tryd.pinned : Pinned := { name := "ytpkblnponeonkaadoor", sum := "7b4cbda661f3defffc0fb2d8fa399d45c9870cea23ee83198bf34fdc236d00de", checked := Tryd.checked }
namespace Rows
def none {H : Type} : Left H := { results := [], args := [] }

/- WHAT THE LISTED PACKAGE-LEVEL VARIABLES READ AS WHEN THE CALL BEGINS. Each datum BY PROGRAM (the guide's laid-datum.mjs) off the statement by which the dump's own 'gosem.cut.vars' lays the variable. In a bare row this is a premise. The card (YtpkblnponeonkaaDoorCards.lean) ties it to the program's text. -/
def laid_loop_example_g00701_impl_editForms {H : Type} : DataW H := .agg [.agg [.lit (.string []), .lit (.int .i64 0), .lit (.int .i64 0), .lit (.int .i64 0), .lit (.int .i64 0)], .agg [.lit (.string [105, 110, 115, 101, 114, 116]), .lit (.int .i64 1), .lit (.int .i64 8), .lit (.int .i64 12), .lit (.int .i64 0)], .agg [.lit (.string [100, 101, 108, 101, 116, 101]), .lit (.int .i64 0), .lit (.int .i64 0), .lit (.int .i64 0), .lit (.int .i64 0)], .agg [.lit (.string [116, 101, 120, 116]), .lit (.int .i64 0), .lit (.int .i64 0), .lit (.int .i64 0), .lit (.int .i64 20)], .agg [.lit (.string [97, 116, 116, 114]), .lit (.int .i64 0), .lit (.int .i64 99), .lit (.int .i64 0), .lit (.int .i64 0)], .agg [.lit (.string [109, 111, 118, 101]), .lit (.int .i64 1), .lit (.int .i64 999999), .lit (.int .i64 12), .lit (.int .i64 0)], .agg [.lit (.string [119, 114, 97, 112]), .lit (.int .i64 1), .lit (.int .i64 8), .lit (.int .i64 0), .lit (.int .i64 0)], .agg [.lit (.string [108, 105, 102, 116]), .lit (.int .i64 0), .lit (.int .i64 0), .lit (.int .i64 0), .lit (.int .i64 0)], .agg [.lit (.string [115, 112, 108, 105, 116]), .lit (.int .i64 0), .lit (.int .i64 20), .lit (.int .i64 0), .lit (.int .i64 0)], .agg [.lit (.string [106, 111, 105, 110]), .lit (.int .i64 0), .lit (.int .i64 0), .lit (.int .i64 0), .lit (.int .i64 0)]]
def laid_math_bits_deBruijn32tab {H : Type} : DataW H := .agg [.lit (.int .u8 0), .lit (.int .u8 1), .lit (.int .u8 28), .lit (.int .u8 2), .lit (.int .u8 29), .lit (.int .u8 14), .lit (.int .u8 24), .lit (.int .u8 3), .lit (.int .u8 30), .lit (.int .u8 22), .lit (.int .u8 20), .lit (.int .u8 15), .lit (.int .u8 25), .lit (.int .u8 17), .lit (.int .u8 4), .lit (.int .u8 8), .lit (.int .u8 31), .lit (.int .u8 27), .lit (.int .u8 13), .lit (.int .u8 23), .lit (.int .u8 21), .lit (.int .u8 19), .lit (.int .u8 16), .lit (.int .u8 7), .lit (.int .u8 26), .lit (.int .u8 12), .lit (.int .u8 18), .lit (.int .u8 6), .lit (.int .u8 11), .lit (.int .u8 5), .lit (.int .u8 10), .lit (.int .u8 9)]
def laid_math_bits_deBruijn64tab {H : Type} : DataW H := .agg [.lit (.int .u8 0), .lit (.int .u8 1), .lit (.int .u8 56), .lit (.int .u8 2), .lit (.int .u8 57), .lit (.int .u8 49), .lit (.int .u8 28), .lit (.int .u8 3), .lit (.int .u8 61), .lit (.int .u8 58), .lit (.int .u8 42), .lit (.int .u8 50), .lit (.int .u8 38), .lit (.int .u8 29), .lit (.int .u8 17), .lit (.int .u8 4), .lit (.int .u8 62), .lit (.int .u8 47), .lit (.int .u8 59), .lit (.int .u8 36), .lit (.int .u8 45), .lit (.int .u8 43), .lit (.int .u8 51), .lit (.int .u8 22), .lit (.int .u8 53), .lit (.int .u8 39), .lit (.int .u8 33), .lit (.int .u8 30), .lit (.int .u8 24), .lit (.int .u8 18), .lit (.int .u8 12), .lit (.int .u8 5), .lit (.int .u8 63), .lit (.int .u8 55), .lit (.int .u8 48), .lit (.int .u8 27), .lit (.int .u8 60), .lit (.int .u8 41), .lit (.int .u8 37), .lit (.int .u8 16), .lit (.int .u8 46), .lit (.int .u8 35), .lit (.int .u8 44), .lit (.int .u8 21), .lit (.int .u8 52), .lit (.int .u8 32), .lit (.int .u8 23), .lit (.int .u8 11), .lit (.int .u8 54), .lit (.int .u8 26), .lit (.int .u8 40), .lit (.int .u8 15), .lit (.int .u8 34), .lit (.int .u8 20), .lit (.int .u8 31), .lit (.int .u8 10), .lit (.int .u8 25), .lit (.int .u8 14), .lit (.int .u8 19), .lit (.int .u8 9), .lit (.int .u8 13), .lit (.int .u8 8), .lit (.int .u8 7), .lit (.int .u8 6)]
def laid_internal_strconv_uint64pow10 {H : Type} : DataW H := .agg [.lit (.int .u64 1), .lit (.int .u64 10), .lit (.int .u64 100), .lit (.int .u64 1000), .lit (.int .u64 10000), .lit (.int .u64 100000), .lit (.int .u64 1000000), .lit (.int .u64 10000000), .lit (.int .u64 100000000), .lit (.int .u64 1000000000), .lit (.int .u64 10000000000), .lit (.int .u64 100000000000), .lit (.int .u64 1000000000000), .lit (.int .u64 10000000000000), .lit (.int .u64 100000000000000), .lit (.int .u64 1000000000000000), .lit (.int .u64 10000000000000000), .lit (.int .u64 100000000000000000), .lit (.int .u64 1000000000000000000), .lit (.int .u64 10000000000000000000)]
def laid_strconv_ErrRange {H : Type} : DataW H := .iface "*errors.errorString" (.ptr (.agg [.lit (.string [118, 97, 108, 117, 101, 32, 111, 117, 116, 32, 111, 102, 32, 114, 97, 110, 103, 101])]))
def laid_strconv_ErrSyntax {H : Type} : DataW H := .iface "*errors.errorString" (.ptr (.agg [.lit (.string [105, 110, 118, 97, 108, 105, 100, 32, 115, 121, 110, 116, 97, 120])]))
def laid_loop_example_g00701_impl_errForm {H : Type} : DataW H := .iface "*errors.errorString" (.ptr (.agg [.lit (.string [110, 111, 32, 115, 117, 99, 104, 32, 116, 104, 105, 110, 103])]))
def laid_loop_example_g00701_impl_errRange {H : Type} : DataW H := .iface "*errors.errorString" (.ptr (.agg [.lit (.string [97, 32, 110, 117, 109, 98, 101, 114, 32, 116, 104, 97, 116, 32, 105, 115, 32, 111, 117, 116, 32, 111, 102, 32, 105, 116, 115, 32, 98, 111, 117, 110, 100, 115])]))
def laid_loop_example_g00701_impl_errSize {H : Type} : DataW H := .iface "*errors.errorString" (.ptr (.agg [.lit (.string [111, 102, 32, 97, 110, 111, 116, 104, 101, 114, 32, 108, 101, 110, 103, 116, 104])]))
def laid_loop_example_g00701_impl_errSum {H : Type} : DataW H := .iface "*errors.errorString" (.ptr (.agg [.lit (.string [97, 32, 115, 117, 109, 32, 116, 104, 97, 116, 32, 105, 115, 32, 119, 114, 111, 110, 103])]))
def laid_loop_example_g00701_impl_amounts {H : Type} : DataW H := .agg [.agg [.lit (.string []), .lit (.int .i64 1), .lit (.int .i64 1)], .agg [.lit (.string [63]), .lit (.int .i64 0), .lit (.int .i64 1)], .agg [.lit (.string [42]), .lit (.int .i64 0), .lit (.int .i64 12)], .agg [.lit (.string [43]), .lit (.int .i64 1), .lit (.int .i64 12)]]

/-- 'laws.FnExactEditOK': WHATEVER THE INPUT: true; the input reads as it did. -/
def fnExactEditOKSpec : ChangeSpec := { name := "fnExactEditOK", vars := ["loop.example/g00701/impl.editForms"], fn := fun _ => fun
  | [d, g1] => { results := [.lit (.bool true)], args := [d], vars := [g1] }
  | _ => none }
def fnExactEditOKRow : OpenClaim := { program := "ytpkblnponeonkaadoor", sum := "7b4cbda661f3defffc0fb2d8fa399d45c9870cea23ee83198bf34fdc236d00de", func := "loop.example/g00701/laws.FnExactEditOK", spec := "fnExactEditOK", named := ["loop.example/g00701/impl.editForms"], apart := false, laid := [("loop.example/g00701/impl.editForms", laid_loop_example_g00701_impl_editForms)] }
def FnExactEditOKSaid : Prop := fnExactEditOKRow.holds Tryd.pinned (OpenSpec.ofChange fnExactEditOKSpec)

/-- ITS FALSE NEIGHBOUR: 'it returns false'. Refute it at one input. -/
def fnExactEditOKWrong : ChangeSpec := { name := "fnExactEditOK", vars := ["loop.example/g00701/impl.editForms"], fn := fun _ => fun
  | [d, g1] => { results := [.lit (.bool false)], args := [d], vars := [g1] }
  | _ => none }
def FnExactEditOKWrongFalsely : Prop := fnExactEditOKRow.holds Tryd.pinned (OpenSpec.ofChange fnExactEditOKWrong)

/-- 'laws.FnExactEditText': WHATEVER THE INPUT: true; the input reads as it did. -/
def fnExactEditTextSpec : ChangeSpec := { name := "fnExactEditText", vars := ["loop.example/g00701/impl.editForms"], fn := fun _ => fun
  | [d, g1] => { results := [.lit (.bool true)], args := [d], vars := [g1] }
  | _ => none }
def fnExactEditTextRow : OpenClaim := { program := "ytpkblnponeonkaadoor", sum := "7b4cbda661f3defffc0fb2d8fa399d45c9870cea23ee83198bf34fdc236d00de", func := "loop.example/g00701/laws.FnExactEditText", spec := "fnExactEditText", inPlace := ["internal/abi.NoEscape", "internal/bytealg.MakeNoZero"], recurses := true, named := ["loop.example/g00701/impl.editForms", "internal/strconv.uint64pow10", "math/bits.deBruijn32tab", "math/bits.deBruijn64tab"], apart := false, laid := [("math/bits.deBruijn32tab", laid_math_bits_deBruijn32tab), ("math/bits.deBruijn64tab", laid_math_bits_deBruijn64tab), ("internal/strconv.uint64pow10", laid_internal_strconv_uint64pow10), ("loop.example/g00701/impl.editForms", laid_loop_example_g00701_impl_editForms)] }
def FnExactEditTextSaid : Prop := fnExactEditTextRow.holds Tryd.pinned (OpenSpec.ofChange fnExactEditTextSpec)

/-- ITS FALSE NEIGHBOUR: 'it returns false'. Refute it at one input. -/
def fnExactEditTextWrong : ChangeSpec := { name := "fnExactEditText", vars := ["loop.example/g00701/impl.editForms"], fn := fun _ => fun
  | [d, g1] => { results := [.lit (.bool false)], args := [d], vars := [g1] }
  | _ => none }
def FnExactEditTextWrongFalsely : Prop := fnExactEditTextRow.holds Tryd.pinned (OpenSpec.ofChange fnExactEditTextWrong)

/-- 'laws.FnExactReadEdit': WHATEVER THE INPUT: true; the input reads as it did. -/
def fnExactReadEditSpec : ChangeSpec := { name := "fnExactReadEdit", vars := ["loop.example/g00701/impl.errForm", "loop.example/g00701/impl.editForms", "loop.example/g00701/impl.errRange", "loop.example/g00701/impl.errSize", "loop.example/g00701/impl.errSum"], fn := fun _ => fun
  | [d, g1, g2, g3, g4, g5] => { results := [.lit (.bool true)], args := [d], vars := [g1, g2, g3, g4, g5] }
  | _ => none }
def fnExactReadEditRow : OpenClaim := { program := "ytpkblnponeonkaadoor", sum := "7b4cbda661f3defffc0fb2d8fa399d45c9870cea23ee83198bf34fdc236d00de", func := "loop.example/g00701/laws.FnExactReadEdit", spec := "fnExactReadEdit", inPlace := ["internal/reflectlite.TypeOf"], unfollowed := true, recurses := true, named := ["loop.example/g00701/impl.errForm", "loop.example/g00701/impl.editForms", "strconv.ErrSyntax", "strconv.ErrRange", "internal/strconv.uint64pow10", "math/bits.deBruijn32tab", "math/bits.deBruijn64tab", "loop.example/g00701/impl.errRange", "loop.example/g00701/impl.errSize", "loop.example/g00701/impl.errSum"], ifaces := true, apart := false, laid := [("math/bits.deBruijn32tab", laid_math_bits_deBruijn32tab), ("math/bits.deBruijn64tab", laid_math_bits_deBruijn64tab), ("internal/strconv.uint64pow10", laid_internal_strconv_uint64pow10), ("strconv.ErrRange", laid_strconv_ErrRange), ("strconv.ErrSyntax", laid_strconv_ErrSyntax), ("loop.example/g00701/impl.errForm", laid_loop_example_g00701_impl_errForm), ("loop.example/g00701/impl.errRange", laid_loop_example_g00701_impl_errRange), ("loop.example/g00701/impl.errSize", laid_loop_example_g00701_impl_errSize), ("loop.example/g00701/impl.errSum", laid_loop_example_g00701_impl_errSum), ("loop.example/g00701/impl.editForms", laid_loop_example_g00701_impl_editForms)] }
def FnExactReadEditSaid : Prop := fnExactReadEditRow.holds Tryd.pinned (OpenSpec.ofChange fnExactReadEditSpec)

/-- ITS FALSE NEIGHBOUR: 'it returns false'. Refute it at one input. -/
def fnExactReadEditWrong : ChangeSpec := { name := "fnExactReadEdit", vars := ["loop.example/g00701/impl.errForm", "loop.example/g00701/impl.editForms", "loop.example/g00701/impl.errRange", "loop.example/g00701/impl.errSize", "loop.example/g00701/impl.errSum"], fn := fun _ => fun
  | [d, g1, g2, g3, g4, g5] => { results := [.lit (.bool false)], args := [d], vars := [g1, g2, g3, g4, g5] }
  | _ => none }
def FnExactReadEditWrongFalsely : Prop := fnExactReadEditRow.holds Tryd.pinned (OpenSpec.ofChange fnExactReadEditWrong)

/-- 'laws.FnExactMayInsert': WHATEVER THE INPUT: true; the input reads as it did. -/
def fnExactMayInsertSpec : ChangeSpec := { name := "fnExactMayInsert", vars := ["loop.example/g00701/impl.amounts"], fn := fun _ => fun
  | [d1, d2, d3, g1] => { results := [.lit (.bool true)], args := [d1, d2, d3], vars := [g1] }
  | _ => none }
def fnExactMayInsertRow : OpenClaim := { program := "ytpkblnponeonkaadoor", sum := "7b4cbda661f3defffc0fb2d8fa399d45c9870cea23ee83198bf34fdc236d00de", func := "loop.example/g00701/laws.FnExactMayInsert", spec := "fnExactMayInsert", inPlace := ["slices.overlaps[int]"], unfollowed := true, recurses := true, named := ["loop.example/g00701/impl.amounts"], apart := false, laid := [("loop.example/g00701/impl.amounts", laid_loop_example_g00701_impl_amounts)] }
def FnExactMayInsertSaid : Prop := fnExactMayInsertRow.holds Tryd.pinned (OpenSpec.ofChange fnExactMayInsertSpec)

/-- ITS FALSE NEIGHBOUR: 'it returns false'. Refute it at one input. -/
def fnExactMayInsertWrong : ChangeSpec := { name := "fnExactMayInsert", vars := ["loop.example/g00701/impl.amounts"], fn := fun _ => fun
  | [d1, d2, d3, g1] => { results := [.lit (.bool false)], args := [d1, d2, d3], vars := [g1] }
  | _ => none }
def FnExactMayInsertWrongFalsely : Prop := fnExactMayInsertRow.holds Tryd.pinned (OpenSpec.ofChange fnExactMayInsertWrong)

/- THE SECOND FORM. 'bulk': how many values and letters a reading holds, each counted each time it is reached (what is shared counts as often as it is met; a slice's spare places count too). A statement '..UptoSaid' is the law's where the arguments, and the package variables that the reading takes, are together of bulk at most 1048576: NARROWER than '..Said'. Prove '..Said' where nothing that the law and all that it calls make is longer than what came in: it says more and counts as full. Else prove '..UptoSaid'. A law counts once. -/
mutual
def uptoBulk {H : Type} : DataW H → Nat
  | .lit (.string bytes) => bytes.length + 1
  | .lit _ => 1
  | .nil => 1
  | .ptr d => uptoBulk d + 1
  | .slice elems spare => uptoBulkAll elems + uptoBulkAll spare + 1
  | .agg parts => uptoBulkAll parts + 1
  | .iface _ d => uptoBulk d + 1
  | .map entries => uptoBulkEntries entries + 1
  | .held _ => 1
def uptoBulkAll {H : Type} : List (DataW H) → Nat
  | [] => 0
  | d :: r => uptoBulk d + uptoBulkAll r
def uptoBulkEntries {H : Type} : List (Lit × DataW H) → Nat
  | [] => 0
  | x :: r => uptoBulkEntry x + uptoBulkEntries r
def uptoBulkEntry {H : Type} : Lit × DataW H → Nat
  | (.string bytes, d) => bytes.length + uptoBulk d + 1
  | (_, d) => uptoBulk d + 1
 end
def uptoSmall : (H : Type) → List (DataW H) → Bool := fun _ ds => decide (uptoBulkAll ds ≤ 1048576)
def OpenSpec.upto (s : _root_.Go.ChangeSpec) : _root_.Go.OpenSpec := { _root_.Go.OpenSpec.ofChange s with cond := some uptoSmall }

/-- 'laws.FnExactEditOK', WHERE WHAT IT READS IS OF BULK AT MOST 1048576: true; the input reads as it did. -/
def fnExactEditOKUptoRow : OpenClaim := { program := "ytpkblnponeonkaadoor", sum := "7b4cbda661f3defffc0fb2d8fa399d45c9870cea23ee83198bf34fdc236d00de", func := "loop.example/g00701/laws.FnExactEditOK", spec := "fnExactEditOK", named := ["loop.example/g00701/impl.editForms"], apart := false, laid := [("loop.example/g00701/impl.editForms", laid_loop_example_g00701_impl_editForms)], narrowed := true }
def FnExactEditOKUptoSaid : Prop := fnExactEditOKUptoRow.holds Tryd.pinned (OpenSpec.upto fnExactEditOKSpec)

/-- 'laws.FnExactEditText', WHERE WHAT IT READS IS OF BULK AT MOST 1048576: true; the input reads as it did. -/
def fnExactEditTextUptoRow : OpenClaim := { program := "ytpkblnponeonkaadoor", sum := "7b4cbda661f3defffc0fb2d8fa399d45c9870cea23ee83198bf34fdc236d00de", func := "loop.example/g00701/laws.FnExactEditText", spec := "fnExactEditText", inPlace := ["internal/abi.NoEscape", "internal/bytealg.MakeNoZero"], recurses := true, named := ["loop.example/g00701/impl.editForms", "internal/strconv.uint64pow10", "math/bits.deBruijn32tab", "math/bits.deBruijn64tab"], apart := false, laid := [("math/bits.deBruijn32tab", laid_math_bits_deBruijn32tab), ("math/bits.deBruijn64tab", laid_math_bits_deBruijn64tab), ("internal/strconv.uint64pow10", laid_internal_strconv_uint64pow10), ("loop.example/g00701/impl.editForms", laid_loop_example_g00701_impl_editForms)], narrowed := true }
def FnExactEditTextUptoSaid : Prop := fnExactEditTextUptoRow.holds Tryd.pinned (OpenSpec.upto fnExactEditTextSpec)

/-- 'laws.FnExactReadEdit', WHERE WHAT IT READS IS OF BULK AT MOST 1048576: true; the input reads as it did. -/
def fnExactReadEditUptoRow : OpenClaim := { program := "ytpkblnponeonkaadoor", sum := "7b4cbda661f3defffc0fb2d8fa399d45c9870cea23ee83198bf34fdc236d00de", func := "loop.example/g00701/laws.FnExactReadEdit", spec := "fnExactReadEdit", inPlace := ["internal/reflectlite.TypeOf"], unfollowed := true, recurses := true, named := ["loop.example/g00701/impl.errForm", "loop.example/g00701/impl.editForms", "strconv.ErrSyntax", "strconv.ErrRange", "internal/strconv.uint64pow10", "math/bits.deBruijn32tab", "math/bits.deBruijn64tab", "loop.example/g00701/impl.errRange", "loop.example/g00701/impl.errSize", "loop.example/g00701/impl.errSum"], ifaces := true, apart := false, laid := [("math/bits.deBruijn32tab", laid_math_bits_deBruijn32tab), ("math/bits.deBruijn64tab", laid_math_bits_deBruijn64tab), ("internal/strconv.uint64pow10", laid_internal_strconv_uint64pow10), ("strconv.ErrRange", laid_strconv_ErrRange), ("strconv.ErrSyntax", laid_strconv_ErrSyntax), ("loop.example/g00701/impl.errForm", laid_loop_example_g00701_impl_errForm), ("loop.example/g00701/impl.errRange", laid_loop_example_g00701_impl_errRange), ("loop.example/g00701/impl.errSize", laid_loop_example_g00701_impl_errSize), ("loop.example/g00701/impl.errSum", laid_loop_example_g00701_impl_errSum), ("loop.example/g00701/impl.editForms", laid_loop_example_g00701_impl_editForms)], narrowed := true }
def FnExactReadEditUptoSaid : Prop := fnExactReadEditUptoRow.holds Tryd.pinned (OpenSpec.upto fnExactReadEditSpec)

/-- 'laws.FnExactMayInsert', WHERE WHAT IT READS IS OF BULK AT MOST 1048576: true; the input reads as it did. -/
def fnExactMayInsertUptoRow : OpenClaim := { program := "ytpkblnponeonkaadoor", sum := "7b4cbda661f3defffc0fb2d8fa399d45c9870cea23ee83198bf34fdc236d00de", func := "loop.example/g00701/laws.FnExactMayInsert", spec := "fnExactMayInsert", inPlace := ["slices.overlaps[int]"], unfollowed := true, recurses := true, named := ["loop.example/g00701/impl.amounts"], apart := false, laid := [("loop.example/g00701/impl.amounts", laid_loop_example_g00701_impl_amounts)], narrowed := true }
def FnExactMayInsertUptoSaid : Prop := fnExactMayInsertUptoRow.holds Tryd.pinned (OpenSpec.upto fnExactMayInsertSpec)

end Rows
end Go.Proofs.YtpkblnponeonkaaDoor
