/-
  DERIVED. GIVEN WITH THE SEED: THE CARDS: each row of YtdnhnnidlangiaaDoorRows.lean that lists a variable, with what it lists TIED to the program's text (the seventh form; the later family's looks); each row that meets fmt, with fmt's text TOLD by the authors' own Lean function (tested against real Go, not proved from fmt's source: count such statements apart). THE CARD IS WHAT COUNTS. Prove the row's statement (the work); the ties are given (YtdnhnnidlangiaaDoorTie.lean); close each card by the builder's one call (the guide's Derived/Test/ToyasCard.lean, 'card_holds'). Laid BY PROGRAM, IN A SANDBOX (cutbox-door.mjs). By AI agents, Wed Nov 11 2026. No macro, syntax, notation, axiom, sorry.
-/
import Derived.Test.YtdnhnnidlangiaaDoorRows
import GoSem.ClaimSeven
namespace Go.Proofs.YtdnhnnidlangiaaDoor
namespace Rows

/-- THE TIED CARD OF 'volutelaw12.BeamExact'. -/
def beamExactCard : Claim7 := { stood := { row := beamExactRow, standIns := [], harness := (true, "173e8665e9259663263e22204f389440cdc1e37bef96cde78878efba0402dc97"), looks := false }, kinds := [], alts := [], laidByText := true, laidKinds := [.data], laidTests := true, laidLooks := .later }
def BeamExactCardSaid : Prop := Claim7.holds Tryd.pinned (.plain (OpenSpec.ofChange beamExactSpec)) beamExactCard

/-- THE TIED CARD OF 'volutelaw12.BeamTrue'. -/
def beamTrueCard : Claim7 := { stood := { row := beamTrueRow, standIns := [], harness := (true, "173e8665e9259663263e22204f389440cdc1e37bef96cde78878efba0402dc97"), looks := false }, kinds := [], alts := [], laidByText := true, laidKinds := [.data], laidTests := true, laidLooks := .later }
def BeamTrueCardSaid : Prop := Claim7.holds Tryd.pinned (.plain (OpenSpec.ofChange beamTrueSpec)) beamTrueCard

/-- THE TIED CARD OF 'volutelaw12.BeamFour'. -/
def beamFourCard : Claim7 := { stood := { row := beamFourRow, standIns := [], harness := (true, "173e8665e9259663263e22204f389440cdc1e37bef96cde78878efba0402dc97"), looks := false }, kinds := [], alts := [], laidByText := true, laidKinds := [.data], laidTests := true, laidLooks := .later }
def BeamFourCardSaid : Prop := Claim7.holds Tryd.pinned (.plain (OpenSpec.ofChange beamFourSpec)) beamFourCard

/-- THE TIED CARD OF 'volutelaw12.BeamCosts'. -/
def beamCostsCard : Claim7 := { stood := { row := beamCostsRow, standIns := [], harness := (true, "173e8665e9259663263e22204f389440cdc1e37bef96cde78878efba0402dc97"), looks := false }, kinds := [], alts := [], laidByText := true, laidKinds := [.data], laidTests := true, laidLooks := .later }
def BeamCostsCardSaid : Prop := Claim7.holds Tryd.pinned (.plain (OpenSpec.ofChange beamCostsSpec)) beamCostsCard

/-- THE TIED CARD OF 'volutelaw12.BeamWhole'. -/
def beamWholeCard : Claim7 := { stood := { row := beamWholeRow, standIns := [], harness := (true, "173e8665e9259663263e22204f389440cdc1e37bef96cde78878efba0402dc97"), looks := false }, kinds := [], alts := [], laidByText := true, laidKinds := [.data], laidTests := true, laidLooks := .later }
def BeamWholeCardSaid : Prop := Claim7.holds Tryd.pinned (.plain (OpenSpec.ofChange beamWholeSpec)) beamWholeCard

/-- THE TIED CARD OF 'volutelaw12.BeamDeep'. -/
def beamDeepCard : Claim7 := { stood := { row := beamDeepRow, standIns := [], harness := (true, "173e8665e9259663263e22204f389440cdc1e37bef96cde78878efba0402dc97"), looks := false }, kinds := [], alts := [], laidByText := true, laidKinds := [.data], laidTests := true, laidLooks := .later }
def BeamDeepCardSaid : Prop := Claim7.holds Tryd.pinned (.plain (OpenSpec.ofChange beamDeepSpec)) beamDeepCard

/-- THE SECOND FORM's CARD OF 'volutelaw12.BeamExact'. -/
def beamExactUptoCard : Claim7 := { stood := { row := beamExactUptoRow, standIns := [], harness := (true, "173e8665e9259663263e22204f389440cdc1e37bef96cde78878efba0402dc97"), looks := false }, kinds := [], alts := [], laidByText := true, laidKinds := [.data], laidTests := true, laidLooks := .later }
def BeamExactUptoCardSaid : Prop := Claim7.holds Tryd.pinned (.plain (OpenSpec.upto beamExactSpec)) beamExactUptoCard

/-- THE SECOND FORM's CARD OF 'volutelaw12.BeamTrue'. -/
def beamTrueUptoCard : Claim7 := { stood := { row := beamTrueUptoRow, standIns := [], harness := (true, "173e8665e9259663263e22204f389440cdc1e37bef96cde78878efba0402dc97"), looks := false }, kinds := [], alts := [], laidByText := true, laidKinds := [.data], laidTests := true, laidLooks := .later }
def BeamTrueUptoCardSaid : Prop := Claim7.holds Tryd.pinned (.plain (OpenSpec.upto beamTrueSpec)) beamTrueUptoCard

/-- THE SECOND FORM's CARD OF 'volutelaw12.BeamFour'. -/
def beamFourUptoCard : Claim7 := { stood := { row := beamFourUptoRow, standIns := [], harness := (true, "173e8665e9259663263e22204f389440cdc1e37bef96cde78878efba0402dc97"), looks := false }, kinds := [], alts := [], laidByText := true, laidKinds := [.data], laidTests := true, laidLooks := .later }
def BeamFourUptoCardSaid : Prop := Claim7.holds Tryd.pinned (.plain (OpenSpec.upto beamFourSpec)) beamFourUptoCard

/-- THE SECOND FORM's CARD OF 'volutelaw12.BeamCosts'. -/
def beamCostsUptoCard : Claim7 := { stood := { row := beamCostsUptoRow, standIns := [], harness := (true, "173e8665e9259663263e22204f389440cdc1e37bef96cde78878efba0402dc97"), looks := false }, kinds := [], alts := [], laidByText := true, laidKinds := [.data], laidTests := true, laidLooks := .later }
def BeamCostsUptoCardSaid : Prop := Claim7.holds Tryd.pinned (.plain (OpenSpec.upto beamCostsSpec)) beamCostsUptoCard

/-- THE SECOND FORM's CARD OF 'volutelaw12.BeamWhole'. -/
def beamWholeUptoCard : Claim7 := { stood := { row := beamWholeUptoRow, standIns := [], harness := (true, "173e8665e9259663263e22204f389440cdc1e37bef96cde78878efba0402dc97"), looks := false }, kinds := [], alts := [], laidByText := true, laidKinds := [.data], laidTests := true, laidLooks := .later }
def BeamWholeUptoCardSaid : Prop := Claim7.holds Tryd.pinned (.plain (OpenSpec.upto beamWholeSpec)) beamWholeUptoCard

/-- THE SECOND FORM's CARD OF 'volutelaw12.BeamDeep'. -/
def beamDeepUptoCard : Claim7 := { stood := { row := beamDeepUptoRow, standIns := [], harness := (true, "173e8665e9259663263e22204f389440cdc1e37bef96cde78878efba0402dc97"), looks := false }, kinds := [], alts := [], laidByText := true, laidKinds := [.data], laidTests := true, laidLooks := .later }
def BeamDeepUptoCardSaid : Prop := Claim7.holds Tryd.pinned (.plain (OpenSpec.upto beamDeepSpec)) beamDeepUptoCard
end Rows
end Go.Proofs.YtdnhnnidlangiaaDoor
