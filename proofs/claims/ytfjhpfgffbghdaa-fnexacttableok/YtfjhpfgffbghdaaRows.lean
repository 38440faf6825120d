/-
  No cell of these rows narrows 'for every input' (looked for: loops, veiled, ifaces, maps, wideKeys, modest, calm, conditions, laid).
  DERIVED. THE GIVEN ROWS OF THIS SEAT. 5 by the template 'for every input the law returns true; each argument reads behind the call as it read before'; 0 by the template 'total and deterministic' (their statements: YtfjhpfgffbghdaaTotals.lean).
  GIVEN WITH THE SEED: the statements are not yours to turn. If you find one false, say at which input.
  Laid BY PROGRAM, IN A SANDBOX (cutbox-rows.mjs): the forced cells as the released guide's own fill.sh prints them over the translation 893d81c8c5859cdf… (all of the seat's roots in one cut). By AI agents, Wed Nov 11 2026. No macro, syntax, notation, axiom, sorry.
-/
import Derived.Test.YtfjhpfgffbghdaaChecked
import GoSem.Claim
import GoSem.ClaimJoined
import GoSem.ClaimMapViews
import Derived.JoinedTies
import Derived.KernelRfl
namespace Go.Proofs.Ytfjhpfgffbghdaa
/- THE CELL 'sum', in the pinned program and in every row, IS THE sha256 OF THE DUMP (.gsa) THAT YtfjhpfgffbghdaaProg.lean LOADS. Nothing in Lean hashes anything: it is a label: what it is worth is what the hold of that sum in a sandbox is worth. -/
noncomputable def Try.pinned : Pinned := { name := "ytfjhpfgffbghdaa", sum := "893d81c8c5859cdf98da630b542da5caa46b3075ccbcd02649908bd432f8b476", checked := Try.checked }
namespace Rows
def none {H : Type} : Left H := { results := [], args := [] }

/-- 'laws.FnExactHoldsOK': WHATEVER THE INPUT: true; the input reads as it did. -/
def fnExactHoldsOKSpec : ChangeSpec := { name := "fnExactHoldsOK", fn := fun _ => fun
  | [d1, d2] => { results := [.lit (.bool true)], args := [d1, d2] }
  | _ => none }
def fnExactHoldsOKRow : OpenClaim := { program := "ytfjhpfgffbghdaa", sum := "893d81c8c5859cdf98da630b542da5caa46b3075ccbcd02649908bd432f8b476", func := "loop.example/g00701/laws.FnExactHoldsOK", spec := "fnExactHoldsOK", unfollowed := true, recurses := true, apart := false }
def FnExactHoldsOKSaid : Prop := fnExactHoldsOKRow.holds Try.pinned (OpenSpec.ofChange fnExactHoldsOKSpec)

/-- ITS FALSE NEIGHBOUR: 'it returns false'. Refute it at one input. -/
def fnExactHoldsOKWrong : ChangeSpec := { name := "fnExactHoldsOK", fn := fun _ => fun
  | [d1, d2] => { results := [.lit (.bool false)], args := [d1, d2] }
  | _ => none }
def FnExactHoldsOKWrongFalsely : Prop := fnExactHoldsOKRow.holds Try.pinned (OpenSpec.ofChange fnExactHoldsOKWrong)

/-- 'laws.FnExactPutHold': WHATEVER THE INPUT: true; the input reads as it did. -/
def fnExactPutHoldSpec : ChangeSpec := { name := "fnExactPutHold", fn := fun _ => fun
  | [d1, d2, d3] => { results := [.lit (.bool true)], args := [d1, d2, d3] }
  | _ => none }
def fnExactPutHoldRow : OpenClaim := { program := "ytfjhpfgffbghdaa", sum := "893d81c8c5859cdf98da630b542da5caa46b3075ccbcd02649908bd432f8b476", func := "loop.example/g00701/laws.FnExactPutHold", spec := "fnExactPutHold", inPlace := ["slices.overlaps[loop.example/g00701/impl.lock]"], unfollowed := true, recurses := true, apart := false }
def FnExactPutHoldSaid : Prop := fnExactPutHoldRow.holds Try.pinned (OpenSpec.ofChange fnExactPutHoldSpec)

/-- ITS FALSE NEIGHBOUR: 'it returns false'. Refute it at one input. -/
def fnExactPutHoldWrong : ChangeSpec := { name := "fnExactPutHold", fn := fun _ => fun
  | [d1, d2, d3] => { results := [.lit (.bool false)], args := [d1, d2, d3] }
  | _ => none }
def FnExactPutHoldWrongFalsely : Prop := fnExactPutHoldRow.holds Try.pinned (OpenSpec.ofChange fnExactPutHoldWrong)

/-- 'laws.FnExactDropHold': WHATEVER THE INPUT: true; the input reads as it did. -/
def fnExactDropHoldSpec : ChangeSpec := { name := "fnExactDropHold", fn := fun _ => fun
  | [d1, d2, d3, d4] => { results := [.lit (.bool true)], args := [d1, d2, d3, d4] }
  | _ => none }
def fnExactDropHoldRow : OpenClaim := { program := "ytfjhpfgffbghdaa", sum := "893d81c8c5859cdf98da630b542da5caa46b3075ccbcd02649908bd432f8b476", func := "loop.example/g00701/laws.FnExactDropHold", spec := "fnExactDropHold", unfollowed := true, recurses := true, apart := false }
def FnExactDropHoldSaid : Prop := fnExactDropHoldRow.holds Try.pinned (OpenSpec.ofChange fnExactDropHoldSpec)

/-- ITS FALSE NEIGHBOUR: 'it returns false'. Refute it at one input. -/
def fnExactDropHoldWrong : ChangeSpec := { name := "fnExactDropHold", fn := fun _ => fun
  | [d1, d2, d3, d4] => { results := [.lit (.bool false)], args := [d1, d2, d3, d4] }
  | _ => none }
def FnExactDropHoldWrongFalsely : Prop := fnExactDropHoldRow.holds Try.pinned (OpenSpec.ofChange fnExactDropHoldWrong)

/-- 'laws.FnExactTableOK': WHATEVER THE INPUT: true; the input reads as it did. -/
def fnExactTableOKSpec : ChangeSpec := { name := "fnExactTableOK", fn := fun _ => fun
  | [d1, d2] => { results := [.lit (.bool true)], args := [d1, d2] }
  | _ => none }
def fnExactTableOKRow : OpenClaim := { program := "ytfjhpfgffbghdaa", sum := "893d81c8c5859cdf98da630b542da5caa46b3075ccbcd02649908bd432f8b476", func := "loop.example/g00701/laws.FnExactTableOK", spec := "fnExactTableOK", unfollowed := true, recurses := true, apart := false }
def FnExactTableOKSaid : Prop := fnExactTableOKRow.holds Try.pinned (OpenSpec.ofChange fnExactTableOKSpec)

/-- ITS FALSE NEIGHBOUR: 'it returns false'. Refute it at one input. -/
def fnExactTableOKWrong : ChangeSpec := { name := "fnExactTableOK", fn := fun _ => fun
  | [d1, d2] => { results := [.lit (.bool false)], args := [d1, d2] }
  | _ => none }
def FnExactTableOKWrongFalsely : Prop := fnExactTableOKRow.holds Try.pinned (OpenSpec.ofChange fnExactTableOKWrong)

/-- 'laws.FnExactSameTable': WHATEVER THE INPUT: true; the input reads as it did. -/
def fnExactSameTableSpec : ChangeSpec := { name := "fnExactSameTable", fn := fun _ => fun
  | [d1, d2] => { results := [.lit (.bool true)], args := [d1, d2] }
  | _ => none }
def fnExactSameTableRow : OpenClaim := { program := "ytfjhpfgffbghdaa", sum := "893d81c8c5859cdf98da630b542da5caa46b3075ccbcd02649908bd432f8b476", func := "loop.example/g00701/laws.FnExactSameTable", spec := "fnExactSameTable", apart := false }
def FnExactSameTableSaid : Prop := fnExactSameTableRow.holds Try.pinned (OpenSpec.ofChange fnExactSameTableSpec)

/-- ITS FALSE NEIGHBOUR: 'it returns false'. Refute it at one input. -/
def fnExactSameTableWrong : ChangeSpec := { name := "fnExactSameTable", fn := fun _ => fun
  | [d1, d2] => { results := [.lit (.bool false)], args := [d1, d2] }
  | _ => none }
def FnExactSameTableWrongFalsely : Prop := fnExactSameTableRow.holds Try.pinned (OpenSpec.ofChange fnExactSameTableWrong)

/- THE SECOND FORM. 'bulk': how many values and letters a reading holds, each counted each time it is reached (what is shared counts as often as it is met; a slice's spare places count too). A statement '..UptoSaid' is the law's where the arguments, and the package variables that the reading takes, are together of bulk at most 1048576: NARROWER than '..Said'. Prove '..Said' where nothing that the law and all that it calls make is longer than what came in: it says more and counts as full. Else prove '..UptoSaid'. A law counts once. -/
mutual
def uptoBulk {H : Type} : DataW H → Nat
  | .lit (.string bytes) => bytes.length + 1
  | .lit _ => 1
  | .nil => 1
  | .ptr d => uptoBulk d + 1
  | .slice elems spare => uptoBulkAll elems + uptoBulkAll spare + 1
  | .agg parts => uptoBulkAll parts + 1
  | .iface _ d => uptoBulk d + 1
  | .map entries => uptoBulkEntries entries + 1
  | .held _ => 1
def uptoBulkAll {H : Type} : List (DataW H) → Nat
  | [] => 0
  | d :: r => uptoBulk d + uptoBulkAll r
def uptoBulkEntries {H : Type} : List (Lit × DataW H) → Nat
  | [] => 0
  | x :: r => uptoBulkEntry x + uptoBulkEntries r
def uptoBulkEntry {H : Type} : Lit × DataW H → Nat
  | (.string bytes, d) => bytes.length + uptoBulk d + 1
  | (_, d) => uptoBulk d + 1
 end
def uptoSmall : (H : Type) → List (DataW H) → Bool := fun _ ds => decide (uptoBulkAll ds ≤ 1048576)
def OpenSpec.upto (s : _root_.Go.ChangeSpec) : _root_.Go.OpenSpec := { _root_.Go.OpenSpec.ofChange s with cond := some uptoSmall }

/-- 'laws.FnExactHoldsOK', WHERE WHAT IT READS IS OF BULK AT MOST 1048576: true; the input reads as it did. -/
def fnExactHoldsOKUptoRow : OpenClaim := { program := "ytfjhpfgffbghdaa", sum := "893d81c8c5859cdf98da630b542da5caa46b3075ccbcd02649908bd432f8b476", func := "loop.example/g00701/laws.FnExactHoldsOK", spec := "fnExactHoldsOK", unfollowed := true, recurses := true, apart := false, narrowed := true }
def FnExactHoldsOKUptoSaid : Prop := fnExactHoldsOKUptoRow.holds Try.pinned (OpenSpec.upto fnExactHoldsOKSpec)

/-- 'laws.FnExactPutHold', WHERE WHAT IT READS IS OF BULK AT MOST 1048576: true; the input reads as it did. -/
def fnExactPutHoldUptoRow : OpenClaim := { program := "ytfjhpfgffbghdaa", sum := "893d81c8c5859cdf98da630b542da5caa46b3075ccbcd02649908bd432f8b476", func := "loop.example/g00701/laws.FnExactPutHold", spec := "fnExactPutHold", inPlace := ["slices.overlaps[loop.example/g00701/impl.lock]"], unfollowed := true, recurses := true, apart := false, narrowed := true }
def FnExactPutHoldUptoSaid : Prop := fnExactPutHoldUptoRow.holds Try.pinned (OpenSpec.upto fnExactPutHoldSpec)

/-- 'laws.FnExactDropHold', WHERE WHAT IT READS IS OF BULK AT MOST 1048576: true; the input reads as it did. -/
def fnExactDropHoldUptoRow : OpenClaim := { program := "ytfjhpfgffbghdaa", sum := "893d81c8c5859cdf98da630b542da5caa46b3075ccbcd02649908bd432f8b476", func := "loop.example/g00701/laws.FnExactDropHold", spec := "fnExactDropHold", unfollowed := true, recurses := true, apart := false, narrowed := true }
def FnExactDropHoldUptoSaid : Prop := fnExactDropHoldUptoRow.holds Try.pinned (OpenSpec.upto fnExactDropHoldSpec)

/-- 'laws.FnExactTableOK', WHERE WHAT IT READS IS OF BULK AT MOST 1048576: true; the input reads as it did. -/
def fnExactTableOKUptoRow : OpenClaim := { program := "ytfjhpfgffbghdaa", sum := "893d81c8c5859cdf98da630b542da5caa46b3075ccbcd02649908bd432f8b476", func := "loop.example/g00701/laws.FnExactTableOK", spec := "fnExactTableOK", unfollowed := true, recurses := true, apart := false, narrowed := true }
def FnExactTableOKUptoSaid : Prop := fnExactTableOKUptoRow.holds Try.pinned (OpenSpec.upto fnExactTableOKSpec)

/-- 'laws.FnExactSameTable', WHERE WHAT IT READS IS OF BULK AT MOST 1048576: true; the input reads as it did. -/
def fnExactSameTableUptoRow : OpenClaim := { program := "ytfjhpfgffbghdaa", sum := "893d81c8c5859cdf98da630b542da5caa46b3075ccbcd02649908bd432f8b476", func := "loop.example/g00701/laws.FnExactSameTable", spec := "fnExactSameTable", apart := false, narrowed := true }
def FnExactSameTableUptoSaid : Prop := fnExactSameTableUptoRow.holds Try.pinned (OpenSpec.upto fnExactSameTableSpec)

end Rows
end Go.Proofs.Ytfjhpfgffbghdaa
