/-
  No cell of these rows narrows 'for every input' (looked for: loops, veiled, ifaces, maps, wideKeys, modest, calm, conditions, laid).
  DERIVED. THE GIVEN ROWS OF THIS SEAT. 4 by the template 'for every input the law returns true; each argument reads behind the call as it read before'; 0 by the template 'total and deterministic' (their statements: YtlbfjmfjakhmdaaTotals.lean).
  GIVEN WITH THE SEED: the statements are not yours to turn. If you find one false, say at which input.
  Laid BY PROGRAM, IN A SANDBOX (cutbox-rows.mjs): the forced cells as the released guide's own fill.sh prints them over the translation 051c0a81fb0b02da… (all of the seat's roots in one cut). By AI agents, Wed Nov 11 2026. No macro, syntax, notation, axiom, sorry.
-/
import Derived.Test.YtlbfjmfjakhmdaaChecked
import GoSem.Claim
import GoSem.ClaimJoined
import GoSem.ClaimMapViews
import Derived.JoinedTies
import Derived.KernelRfl
namespace Go.Proofs.Ytlbfjmfjakhmdaa
/- THE CELL 'sum', in the pinned program and in every row, IS THE sha256 OF THE DUMP (.gsa) THAT YtlbfjmfjakhmdaaProg.lean LOADS. Nothing in Lean hashes anything: it is a label: what it is worth is what the hold of that sum in a sandbox is worth. -/
noncomputable def Try.pinned : Pinned := { name := "ytlbfjmfjakhmdaa", sum := "051c0a81fb0b02dacdffde99ea30916a2b854a4a97e157211a1ccc8e1fd9391c", checked := Try.checked }
namespace Rows
def none {H : Type} : Left H := { results := [], args := [] }

/-- 'laws.FnExactMachineOK': WHATEVER THE INPUT: true; the input reads as it did. -/
def fnExactMachineOKSpec : ChangeSpec := { name := "fnExactMachineOK", fn := fun _ => fun
  | [d] => { results := [.lit (.bool true)], args := [d] }
  | _ => none }
def fnExactMachineOKRow : OpenClaim := { program := "ytlbfjmfjakhmdaa", sum := "051c0a81fb0b02dacdffde99ea30916a2b854a4a97e157211a1ccc8e1fd9391c", func := "loop.example/g00701/laws.FnExactMachineOK", spec := "fnExactMachineOK", apart := false }
def FnExactMachineOKSaid : Prop := fnExactMachineOKRow.holds Try.pinned (OpenSpec.ofChange fnExactMachineOKSpec)

/-- ITS FALSE NEIGHBOUR: 'it returns false'. Refute it at one input. -/
def fnExactMachineOKWrong : ChangeSpec := { name := "fnExactMachineOK", fn := fun _ => fun
  | [d] => { results := [.lit (.bool false)], args := [d] }
  | _ => none }
def FnExactMachineOKWrongFalsely : Prop := fnExactMachineOKRow.holds Try.pinned (OpenSpec.ofChange fnExactMachineOKWrong)

/-- 'laws.FnExactRunMachine': WHATEVER THE INPUT: true; the input reads as it did. -/
def fnExactRunMachineSpec : ChangeSpec := { name := "fnExactRunMachine", fn := fun _ => fun
  | [d1, d2] => { results := [.lit (.bool true)], args := [d1, d2] }
  | _ => none }
def fnExactRunMachineRow : OpenClaim := { program := "ytlbfjmfjakhmdaa", sum := "051c0a81fb0b02dacdffde99ea30916a2b854a4a97e157211a1ccc8e1fd9391c", func := "loop.example/g00701/laws.FnExactRunMachine", spec := "fnExactRunMachine", apart := false }
def FnExactRunMachineSaid : Prop := fnExactRunMachineRow.holds Try.pinned (OpenSpec.ofChange fnExactRunMachineSpec)

/-- ITS FALSE NEIGHBOUR: 'it returns false'. Refute it at one input. -/
def fnExactRunMachineWrong : ChangeSpec := { name := "fnExactRunMachine", fn := fun _ => fun
  | [d1, d2] => { results := [.lit (.bool false)], args := [d1, d2] }
  | _ => none }
def FnExactRunMachineWrongFalsely : Prop := fnExactRunMachineRow.holds Try.pinned (OpenSpec.ofChange fnExactRunMachineWrong)

/-- 'laws.FnExactFirstKids': WHATEVER THE INPUT: true; the input reads as it did. -/
def fnExactFirstKidsSpec : ChangeSpec := { name := "fnExactFirstKids", fn := fun _ => fun
  | [d] => { results := [.lit (.bool true)], args := [d] }
  | _ => none }
def fnExactFirstKidsRow : OpenClaim := { program := "ytlbfjmfjakhmdaa", sum := "051c0a81fb0b02dacdffde99ea30916a2b854a4a97e157211a1ccc8e1fd9391c", func := "loop.example/g00701/laws.FnExactFirstKids", spec := "fnExactFirstKids", apart := false }
def FnExactFirstKidsSaid : Prop := fnExactFirstKidsRow.holds Try.pinned (OpenSpec.ofChange fnExactFirstKidsSpec)

/-- ITS FALSE NEIGHBOUR: 'it returns false'. Refute it at one input. -/
def fnExactFirstKidsWrong : ChangeSpec := { name := "fnExactFirstKids", fn := fun _ => fun
  | [d] => { results := [.lit (.bool false)], args := [d] }
  | _ => none }
def FnExactFirstKidsWrongFalsely : Prop := fnExactFirstKidsRow.holds Try.pinned (OpenSpec.ofChange fnExactFirstKidsWrong)

/-- 'laws.FnExactSameMachine': WHATEVER THE INPUT: true; the input reads as it did. -/
def fnExactSameMachineSpec : ChangeSpec := { name := "fnExactSameMachine", fn := fun _ => fun
  | [d1, d2] => { results := [.lit (.bool true)], args := [d1, d2] }
  | _ => none }
def fnExactSameMachineRow : OpenClaim := { program := "ytlbfjmfjakhmdaa", sum := "051c0a81fb0b02dacdffde99ea30916a2b854a4a97e157211a1ccc8e1fd9391c", func := "loop.example/g00701/laws.FnExactSameMachine", spec := "fnExactSameMachine", unfollowed := true, recurses := true, apart := false }
def FnExactSameMachineSaid : Prop := fnExactSameMachineRow.holds Try.pinned (OpenSpec.ofChange fnExactSameMachineSpec)

/-- ITS FALSE NEIGHBOUR: 'it returns false'. Refute it at one input. -/
def fnExactSameMachineWrong : ChangeSpec := { name := "fnExactSameMachine", fn := fun _ => fun
  | [d1, d2] => { results := [.lit (.bool false)], args := [d1, d2] }
  | _ => none }
def FnExactSameMachineWrongFalsely : Prop := fnExactSameMachineRow.holds Try.pinned (OpenSpec.ofChange fnExactSameMachineWrong)

/- THE SECOND FORM. 'bulk': how many values and letters a reading holds, each counted each time it is reached (what is shared counts as often as it is met; a slice's spare places count too). A statement '..UptoSaid' is the law's where the arguments, and the package variables that the reading takes, are together of bulk at most 1048576: NARROWER than '..Said'. Prove '..Said' where nothing that the law and all that it calls make is longer than what came in: it says more and counts as full. Else prove '..UptoSaid'. A law counts once. -/
mutual
def uptoBulk {H : Type} : DataW H → Nat
  | .lit (.string bytes) => bytes.length + 1
  | .lit _ => 1
  | .nil => 1
  | .ptr d => uptoBulk d + 1
  | .slice elems spare => uptoBulkAll elems + uptoBulkAll spare + 1
  | .agg parts => uptoBulkAll parts + 1
  | .iface _ d => uptoBulk d + 1
  | .map entries => uptoBulkEntries entries + 1
  | .held _ => 1
def uptoBulkAll {H : Type} : List (DataW H) → Nat
  | [] => 0
  | d :: r => uptoBulk d + uptoBulkAll r
def uptoBulkEntries {H : Type} : List (Lit × DataW H) → Nat
  | [] => 0
  | x :: r => uptoBulkEntry x + uptoBulkEntries r
def uptoBulkEntry {H : Type} : Lit × DataW H → Nat
  | (.string bytes, d) => bytes.length + uptoBulk d + 1
  | (_, d) => uptoBulk d + 1
 end
def uptoSmall : (H : Type) → List (DataW H) → Bool := fun _ ds => decide (uptoBulkAll ds ≤ 1048576)
def OpenSpec.upto (s : _root_.Go.ChangeSpec) : _root_.Go.OpenSpec := { _root_.Go.OpenSpec.ofChange s with cond := some uptoSmall }

/-- 'laws.FnExactMachineOK', WHERE WHAT IT READS IS OF BULK AT MOST 1048576: true; the input reads as it did. -/
def fnExactMachineOKUptoRow : OpenClaim := { program := "ytlbfjmfjakhmdaa", sum := "051c0a81fb0b02dacdffde99ea30916a2b854a4a97e157211a1ccc8e1fd9391c", func := "loop.example/g00701/laws.FnExactMachineOK", spec := "fnExactMachineOK", apart := false, narrowed := true }
def FnExactMachineOKUptoSaid : Prop := fnExactMachineOKUptoRow.holds Try.pinned (OpenSpec.upto fnExactMachineOKSpec)

/-- 'laws.FnExactRunMachine', WHERE WHAT IT READS IS OF BULK AT MOST 1048576: true; the input reads as it did. -/
def fnExactRunMachineUptoRow : OpenClaim := { program := "ytlbfjmfjakhmdaa", sum := "051c0a81fb0b02dacdffde99ea30916a2b854a4a97e157211a1ccc8e1fd9391c", func := "loop.example/g00701/laws.FnExactRunMachine", spec := "fnExactRunMachine", apart := false, narrowed := true }
def FnExactRunMachineUptoSaid : Prop := fnExactRunMachineUptoRow.holds Try.pinned (OpenSpec.upto fnExactRunMachineSpec)

/-- 'laws.FnExactFirstKids', WHERE WHAT IT READS IS OF BULK AT MOST 1048576: true; the input reads as it did. -/
def fnExactFirstKidsUptoRow : OpenClaim := { program := "ytlbfjmfjakhmdaa", sum := "051c0a81fb0b02dacdffde99ea30916a2b854a4a97e157211a1ccc8e1fd9391c", func := "loop.example/g00701/laws.FnExactFirstKids", spec := "fnExactFirstKids", apart := false, narrowed := true }
def FnExactFirstKidsUptoSaid : Prop := fnExactFirstKidsUptoRow.holds Try.pinned (OpenSpec.upto fnExactFirstKidsSpec)

/-- 'laws.FnExactSameMachine', WHERE WHAT IT READS IS OF BULK AT MOST 1048576: true; the input reads as it did. -/
def fnExactSameMachineUptoRow : OpenClaim := { program := "ytlbfjmfjakhmdaa", sum := "051c0a81fb0b02dacdffde99ea30916a2b854a4a97e157211a1ccc8e1fd9391c", func := "loop.example/g00701/laws.FnExactSameMachine", spec := "fnExactSameMachine", unfollowed := true, recurses := true, apart := false, narrowed := true }
def FnExactSameMachineUptoSaid : Prop := fnExactSameMachineUptoRow.holds Try.pinned (OpenSpec.upto fnExactSameMachineSpec)

end Rows
end Go.Proofs.Ytlbfjmfjakhmdaa
