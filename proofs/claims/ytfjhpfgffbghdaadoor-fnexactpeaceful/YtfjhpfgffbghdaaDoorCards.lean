/-
  DERIVED. GIVEN WITH THE SEED: THE CARDS: each row of YtfjhpfgffbghdaaDoorRows.lean that lists a variable, with what it lists TIED to the program's text (the seventh form; the later family's looks); each row that meets fmt, with fmt's text TOLD by the authors' own Lean function (tested against real Go, not proved from fmt's source: count such statements apart). THE CARD IS WHAT COUNTS. Prove the row's statement (the work); the ties are given (YtfjhpfgffbghdaaDoorTie.lean); close each card by the builder's one call (the guide's Derived/Test/ToyasCard.lean, 'card_holds'). Laid BY PROGRAM, IN A SANDBOX (cutbox-door.mjs). By AI agents, Wed Nov 11 2026. No macro, syntax, notation, axiom, sorry.
-/
import Derived.Test.YtfjhpfgffbghdaaDoorRows
import GoSem.ClaimSeven
namespace Go.Proofs.YtfjhpfgffbghdaaDoor
namespace Rows

/-- THE TIED CARD OF 'laws.FnExactModeAt'. -/
def fnExactModeAtCard : Claim7 := { stood := { row := fnExactModeAtRow, standIns := [], harness := (true, "020bbcdc7edd4d438b0311f0c7ab0fea43cc3e0f0b0790ea3b482c5fe6bf46ed"), looks := false }, kinds := [], alts := [], laidByText := true, laidKinds := [.data], laidTests := true, laidLooks := .later }
def FnExactModeAtCardSaid : Prop := Claim7.holds Tryd.pinned (.plain (OpenSpec.ofChange fnExactModeAtSpec)) fnExactModeAtCard

/-- THE TIED CARD OF 'laws.FnExactCoverOf'. -/
def fnExactCoverOfCard : Claim7 := { stood := { row := fnExactCoverOfRow, standIns := [], harness := (true, "020bbcdc7edd4d438b0311f0c7ab0fea43cc3e0f0b0790ea3b482c5fe6bf46ed"), looks := false }, kinds := [], alts := [], laidByText := true, laidKinds := [.data], laidTests := true, laidLooks := .later }
def FnExactCoverOfCardSaid : Prop := Claim7.holds Tryd.pinned (.plain (OpenSpec.ofChange fnExactCoverOfSpec)) fnExactCoverOfCard

/-- THE TIED CARD OF 'laws.FnExactPeaceful'. -/
def fnExactPeacefulCard : Claim7 := { stood := { row := fnExactPeacefulRow, standIns := [], harness := (true, "020bbcdc7edd4d438b0311f0c7ab0fea43cc3e0f0b0790ea3b482c5fe6bf46ed"), looks := false }, kinds := [], alts := [], laidByText := true, laidKinds := [.data, .data], laidTests := true, laidLooks := .later }
def FnExactPeacefulCardSaid : Prop := Claim7.holds Tryd.pinned (.plain (OpenSpec.ofChange fnExactPeacefulSpec)) fnExactPeacefulCard

/-- THE TIED CARD OF 'laws.FnExactConflictsOf'. -/
def fnExactConflictsOfCard : Claim7 := { stood := { row := fnExactConflictsOfRow, standIns := [], harness := (true, "020bbcdc7edd4d438b0311f0c7ab0fea43cc3e0f0b0790ea3b482c5fe6bf46ed"), looks := false }, kinds := [], alts := [], laidByText := true, laidKinds := [.data, .data], laidTests := true, laidLooks := .later }
def FnExactConflictsOfCardSaid : Prop := Claim7.holds Tryd.pinned (.plain (OpenSpec.ofChange fnExactConflictsOfSpec)) fnExactConflictsOfCard

/-- THE SECOND FORM's CARD OF 'laws.FnExactModeAt'. -/
def fnExactModeAtUptoCard : Claim7 := { stood := { row := fnExactModeAtUptoRow, standIns := [], harness := (true, "020bbcdc7edd4d438b0311f0c7ab0fea43cc3e0f0b0790ea3b482c5fe6bf46ed"), looks := false }, kinds := [], alts := [], laidByText := true, laidKinds := [.data], laidTests := true, laidLooks := .later }
def FnExactModeAtUptoCardSaid : Prop := Claim7.holds Tryd.pinned (.plain (OpenSpec.upto fnExactModeAtSpec)) fnExactModeAtUptoCard

/-- THE SECOND FORM's CARD OF 'laws.FnExactCoverOf'. -/
def fnExactCoverOfUptoCard : Claim7 := { stood := { row := fnExactCoverOfUptoRow, standIns := [], harness := (true, "020bbcdc7edd4d438b0311f0c7ab0fea43cc3e0f0b0790ea3b482c5fe6bf46ed"), looks := false }, kinds := [], alts := [], laidByText := true, laidKinds := [.data], laidTests := true, laidLooks := .later }
def FnExactCoverOfUptoCardSaid : Prop := Claim7.holds Tryd.pinned (.plain (OpenSpec.upto fnExactCoverOfSpec)) fnExactCoverOfUptoCard

/-- THE SECOND FORM's CARD OF 'laws.FnExactPeaceful'. -/
def fnExactPeacefulUptoCard : Claim7 := { stood := { row := fnExactPeacefulUptoRow, standIns := [], harness := (true, "020bbcdc7edd4d438b0311f0c7ab0fea43cc3e0f0b0790ea3b482c5fe6bf46ed"), looks := false }, kinds := [], alts := [], laidByText := true, laidKinds := [.data, .data], laidTests := true, laidLooks := .later }
def FnExactPeacefulUptoCardSaid : Prop := Claim7.holds Tryd.pinned (.plain (OpenSpec.upto fnExactPeacefulSpec)) fnExactPeacefulUptoCard

/-- THE SECOND FORM's CARD OF 'laws.FnExactConflictsOf'. -/
def fnExactConflictsOfUptoCard : Claim7 := { stood := { row := fnExactConflictsOfUptoRow, standIns := [], harness := (true, "020bbcdc7edd4d438b0311f0c7ab0fea43cc3e0f0b0790ea3b482c5fe6bf46ed"), looks := false }, kinds := [], alts := [], laidByText := true, laidKinds := [.data, .data], laidTests := true, laidLooks := .later }
def FnExactConflictsOfUptoCardSaid : Prop := Claim7.holds Tryd.pinned (.plain (OpenSpec.upto fnExactConflictsOfSpec)) fnExactConflictsOfUptoCard
end Rows
end Go.Proofs.YtfjhpfgffbghdaaDoor
