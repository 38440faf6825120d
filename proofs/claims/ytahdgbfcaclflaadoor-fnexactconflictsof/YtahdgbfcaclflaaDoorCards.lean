/-
  DERIVED. GIVEN WITH THE SEED: THE CARDS: each row of YtahdgbfcaclflaaDoorRows.lean that lists a variable, with what it lists TIED to the program's text (the seventh form; the later family's looks); each row that meets fmt, with fmt's text TOLD by the authors' own Lean function (tested against real Go, not proved from fmt's source: count such statements apart). THE CARD IS WHAT COUNTS. Prove the row's statement (the work); the ties are given (YtahdgbfcaclflaaDoorTie.lean); close each card by the builder's one call (the guide's Derived/Test/ToyasCard.lean, 'card_holds'). Laid BY PROGRAM, IN A SANDBOX (cutbox-door.mjs). By AI agents, Wed Nov 11 2026. No macro, syntax, notation, axiom, sorry.
-/
import Derived.Test.YtahdgbfcaclflaaDoorRows
import GoSem.ClaimSeven
namespace Go.Proofs.YtahdgbfcaclflaaDoor
namespace Rows

/-- THE TIED CARD OF 'laws.FnExactCompatible'. -/
def fnExactCompatibleCard : Claim7 := { stood := { row := fnExactCompatibleRow, standIns := [], harness := (true, "325e0a9edbcbf82dc464b442c1e1fcbb01754dd36d18e09fa8ee1e6725dfb414"), looks := false }, kinds := [], alts := [], laidByText := true, laidKinds := [.data], laidTests := true, laidLooks := .later }
def FnExactCompatibleCardSaid : Prop := Claim7.holds Tryd.pinned (.plain (OpenSpec.ofChange fnExactCompatibleSpec)) fnExactCompatibleCard

/-- THE TIED CARD OF 'laws.FnExactIntentOf'. -/
def fnExactIntentOfCard : Claim7 := { stood := { row := fnExactIntentOfRow, standIns := [], harness := (true, "325e0a9edbcbf82dc464b442c1e1fcbb01754dd36d18e09fa8ee1e6725dfb414"), looks := false }, kinds := [], alts := [], laidByText := true, laidKinds := [.data], laidTests := true, laidLooks := .later }
def FnExactIntentOfCardSaid : Prop := Claim7.holds Tryd.pinned (.plain (OpenSpec.ofChange fnExactIntentOfSpec)) fnExactIntentOfCard

/-- THE TIED CARD OF 'laws.FnModes'. -/
def fnModesCard : Claim7 := { stood := { row := fnModesRow, standIns := [], harness := (true, "325e0a9edbcbf82dc464b442c1e1fcbb01754dd36d18e09fa8ee1e6725dfb414"), looks := false }, kinds := [], alts := [], laidByText := true, laidKinds := [.data, .data], laidTests := true, laidLooks := .later }
def FnModesCardSaid : Prop := Claim7.holds Tryd.pinned (.plain (OpenSpec.ofChange fnModesSpec)) fnModesCard

/-- THE TIED CARD OF 'laws.FnExactModeAt'. -/
def fnExactModeAtCard : Claim7 := { stood := { row := fnExactModeAtRow, standIns := [], harness := (true, "325e0a9edbcbf82dc464b442c1e1fcbb01754dd36d18e09fa8ee1e6725dfb414"), looks := false }, kinds := [], alts := [], laidByText := true, laidKinds := [.data], laidTests := true, laidLooks := .later }
def FnExactModeAtCardSaid : Prop := Claim7.holds Tryd.pinned (.plain (OpenSpec.ofChange fnExactModeAtSpec)) fnExactModeAtCard

/-- THE TIED CARD OF 'laws.FnExactCoverOf'. -/
def fnExactCoverOfCard : Claim7 := { stood := { row := fnExactCoverOfRow, standIns := [], harness := (true, "325e0a9edbcbf82dc464b442c1e1fcbb01754dd36d18e09fa8ee1e6725dfb414"), looks := false }, kinds := [], alts := [], laidByText := true, laidKinds := [.data], laidTests := true, laidLooks := .later }
def FnExactCoverOfCardSaid : Prop := Claim7.holds Tryd.pinned (.plain (OpenSpec.ofChange fnExactCoverOfSpec)) fnExactCoverOfCard

/-- THE TIED CARD OF 'laws.FnExactConflictsOf'. -/
def fnExactConflictsOfCard : Claim7 := { stood := { row := fnExactConflictsOfRow, standIns := [], harness := (true, "325e0a9edbcbf82dc464b442c1e1fcbb01754dd36d18e09fa8ee1e6725dfb414"), looks := false }, kinds := [], alts := [], laidByText := true, laidKinds := [.data, .data], laidTests := true, laidLooks := .later }
def FnExactConflictsOfCardSaid : Prop := Claim7.holds Tryd.pinned (.plain (OpenSpec.ofChange fnExactConflictsOfSpec)) fnExactConflictsOfCard

/-- THE TIED CARD OF 'laws.FnExactPeaceful'. -/
def fnExactPeacefulCard : Claim7 := { stood := { row := fnExactPeacefulRow, standIns := [], harness := (true, "325e0a9edbcbf82dc464b442c1e1fcbb01754dd36d18e09fa8ee1e6725dfb414"), looks := false }, kinds := [], alts := [], laidByText := true, laidKinds := [.data, .data], laidTests := true, laidLooks := .later }
def FnExactPeacefulCardSaid : Prop := Claim7.holds Tryd.pinned (.plain (OpenSpec.ofChange fnExactPeacefulSpec)) fnExactPeacefulCard

/-- THE SECOND FORM's CARD OF 'laws.FnExactCompatible'. -/
def fnExactCompatibleUptoCard : Claim7 := { stood := { row := fnExactCompatibleUptoRow, standIns := [], harness := (true, "325e0a9edbcbf82dc464b442c1e1fcbb01754dd36d18e09fa8ee1e6725dfb414"), looks := false }, kinds := [], alts := [], laidByText := true, laidKinds := [.data], laidTests := true, laidLooks := .later }
def FnExactCompatibleUptoCardSaid : Prop := Claim7.holds Tryd.pinned (.plain (OpenSpec.upto fnExactCompatibleSpec)) fnExactCompatibleUptoCard

/-- THE SECOND FORM's CARD OF 'laws.FnExactIntentOf'. -/
def fnExactIntentOfUptoCard : Claim7 := { stood := { row := fnExactIntentOfUptoRow, standIns := [], harness := (true, "325e0a9edbcbf82dc464b442c1e1fcbb01754dd36d18e09fa8ee1e6725dfb414"), looks := false }, kinds := [], alts := [], laidByText := true, laidKinds := [.data], laidTests := true, laidLooks := .later }
def FnExactIntentOfUptoCardSaid : Prop := Claim7.holds Tryd.pinned (.plain (OpenSpec.upto fnExactIntentOfSpec)) fnExactIntentOfUptoCard

/-- THE SECOND FORM's CARD OF 'laws.FnModes'. -/
def fnModesUptoCard : Claim7 := { stood := { row := fnModesUptoRow, standIns := [], harness := (true, "325e0a9edbcbf82dc464b442c1e1fcbb01754dd36d18e09fa8ee1e6725dfb414"), looks := false }, kinds := [], alts := [], laidByText := true, laidKinds := [.data, .data], laidTests := true, laidLooks := .later }
def FnModesUptoCardSaid : Prop := Claim7.holds Tryd.pinned (.plain (OpenSpec.upto fnModesSpec)) fnModesUptoCard

/-- THE SECOND FORM's CARD OF 'laws.FnExactModeAt'. -/
def fnExactModeAtUptoCard : Claim7 := { stood := { row := fnExactModeAtUptoRow, standIns := [], harness := (true, "325e0a9edbcbf82dc464b442c1e1fcbb01754dd36d18e09fa8ee1e6725dfb414"), looks := false }, kinds := [], alts := [], laidByText := true, laidKinds := [.data], laidTests := true, laidLooks := .later }
def FnExactModeAtUptoCardSaid : Prop := Claim7.holds Tryd.pinned (.plain (OpenSpec.upto fnExactModeAtSpec)) fnExactModeAtUptoCard

/-- THE SECOND FORM's CARD OF 'laws.FnExactCoverOf'. -/
def fnExactCoverOfUptoCard : Claim7 := { stood := { row := fnExactCoverOfUptoRow, standIns := [], harness := (true, "325e0a9edbcbf82dc464b442c1e1fcbb01754dd36d18e09fa8ee1e6725dfb414"), looks := false }, kinds := [], alts := [], laidByText := true, laidKinds := [.data], laidTests := true, laidLooks := .later }
def FnExactCoverOfUptoCardSaid : Prop := Claim7.holds Tryd.pinned (.plain (OpenSpec.upto fnExactCoverOfSpec)) fnExactCoverOfUptoCard

/-- THE SECOND FORM's CARD OF 'laws.FnExactConflictsOf'. -/
def fnExactConflictsOfUptoCard : Claim7 := { stood := { row := fnExactConflictsOfUptoRow, standIns := [], harness := (true, "325e0a9edbcbf82dc464b442c1e1fcbb01754dd36d18e09fa8ee1e6725dfb414"), looks := false }, kinds := [], alts := [], laidByText := true, laidKinds := [.data, .data], laidTests := true, laidLooks := .later }
def FnExactConflictsOfUptoCardSaid : Prop := Claim7.holds Tryd.pinned (.plain (OpenSpec.upto fnExactConflictsOfSpec)) fnExactConflictsOfUptoCard

/-- THE SECOND FORM's CARD OF 'laws.FnExactPeaceful'. -/
def fnExactPeacefulUptoCard : Claim7 := { stood := { row := fnExactPeacefulUptoRow, standIns := [], harness := (true, "325e0a9edbcbf82dc464b442c1e1fcbb01754dd36d18e09fa8ee1e6725dfb414"), looks := false }, kinds := [], alts := [], laidByText := true, laidKinds := [.data, .data], laidTests := true, laidLooks := .later }
def FnExactPeacefulUptoCardSaid : Prop := Claim7.holds Tryd.pinned (.plain (OpenSpec.upto fnExactPeacefulSpec)) fnExactPeacefulUptoCard
end Rows
end Go.Proofs.YtahdgbfcaclflaaDoor
