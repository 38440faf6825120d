/-
  DERIVED. GIVEN WITH THE SEED: THE CARDS: each row of YtihoihlkkhndhaaDoorRows.lean that lists a variable, with what it lists TIED to the program's text (the seventh form; the later family's looks); each row that meets fmt, with fmt's text TOLD by the authors' own Lean function (tested against real Go, not proved from fmt's source: count such statements apart). THE CARD IS WHAT COUNTS. Prove the row's statement (the work); the ties are given (YtihoihlkkhndhaaDoorTie.lean); close each card by the builder's one call (the guide's Derived/Test/ToyasCard.lean, 'card_holds'). Laid BY PROGRAM, IN A SANDBOX (cutbox-door.mjs). By AI agents, Wed Nov 11 2026. No macro, syntax, notation, axiom, sorry.
-/
import Derived.Test.YtihoihlkkhndhaaDoorRows
import GoSem.ClaimSeven
namespace Go.Proofs.YtihoihlkkhndhaaDoor
namespace Rows

/-- THE TIED CARD OF 'laws.FnExactRequestOK'. -/
def fnExactRequestOKCard : Claim7 := { stood := { row := fnExactRequestOKRow, standIns := [], harness := (true, "863ff52ee63f4df03970354297568e9dd2a333ae6c428c1aaa157e799629b90b"), looks := false }, kinds := [], alts := [], laidByText := true, laidKinds := [.data, .data], laidTests := true, laidLooks := .later }
def FnExactRequestOKCardSaid : Prop := Claim7.holds Tryd.pinned (.plain (OpenSpec.ofChange fnExactRequestOKSpec)) fnExactRequestOKCard

/-- THE SECOND FORM's CARD OF 'laws.FnExactRequestOK'. -/
def fnExactRequestOKUptoCard : Claim7 := { stood := { row := fnExactRequestOKUptoRow, standIns := [], harness := (true, "863ff52ee63f4df03970354297568e9dd2a333ae6c428c1aaa157e799629b90b"), looks := false }, kinds := [], alts := [], laidByText := true, laidKinds := [.data, .data], laidTests := true, laidLooks := .later }
def FnExactRequestOKUptoCardSaid : Prop := Claim7.holds Tryd.pinned (.plain (OpenSpec.upto fnExactRequestOKSpec)) fnExactRequestOKUptoCard
end Rows
end Go.Proofs.YtihoihlkkhndhaaDoor
