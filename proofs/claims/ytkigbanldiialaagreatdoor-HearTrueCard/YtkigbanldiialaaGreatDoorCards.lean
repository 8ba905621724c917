/-
  DERIVED. GIVEN WITH THE SEED: THE CARDS: each row of YtkigbanldiialaaGreatDoorRows.lean that lists a variable, with what it lists TIED to the program's text (the seventh form; the later family's looks); each row that meets fmt, with fmt's text TOLD by the authors' own Lean function (tested against real Go, not proved from fmt's source: count such statements apart). THE CARD IS WHAT COUNTS. Prove the row's statement (the work); the ties are given (YtkigbanldiialaaGreatDoorTie.lean); close each card by the builder's one call (the guide's Derived/Test/ToyasCard.lean, 'card_holds'). Laid BY PROGRAM, IN A SANDBOX (cutbox-door.mjs). By AI agents, Wed Nov 11 2026. No macro, syntax, notation, axiom, sorry.
-/
import Derived.Test.YtkigbanldiialaaGreatDoorRows
import GoSem.ClaimSeven
namespace Go.Proofs.YtkigbanldiialaaGreatDoor
namespace Rows

/-- THE TIED CARD OF 'volutelaw19.HearTrue'. -/
def hearTrueCard : Claim7 := { stood := { row := hearTrueRow, standIns := [], harness := (true, "ceece9eb399a08abe06a82d6ef8ffd33b63e0bd4ef02996413745a48748ab0d1"), looks := false }, kinds := [], alts := [], laidByText := true, laidKinds := [.data], laidTests := true, laidLooks := .later }
def HearTrueCardSaid : Prop := Claim7.holds Tryz.pinned (.plain (OpenSpec.ofChange hearTrueSpec)) hearTrueCard

/-- THE TIED CARD OF 'volutelaw19.HearFour'. -/
def hearFourCard : Claim7 := { stood := { row := hearFourRow, standIns := [], harness := (true, "ceece9eb399a08abe06a82d6ef8ffd33b63e0bd4ef02996413745a48748ab0d1"), looks := false }, kinds := [], alts := [], laidByText := true, laidKinds := [.data], laidTests := true, laidLooks := .later }
def HearFourCardSaid : Prop := Claim7.holds Tryz.pinned (.plain (OpenSpec.ofChange hearFourSpec)) hearFourCard

/-- THE TIED CARD OF 'volutelaw19.HearBounds'. -/
def hearBoundsCard : Claim7 := { stood := { row := hearBoundsRow, standIns := [], harness := (true, "ceece9eb399a08abe06a82d6ef8ffd33b63e0bd4ef02996413745a48748ab0d1"), looks := false }, kinds := [], alts := [], laidByText := true, laidKinds := [.data], laidTests := true, laidLooks := .later }
def HearBoundsCardSaid : Prop := Claim7.holds Tryz.pinned (.plain (OpenSpec.ofChange hearBoundsSpec)) hearBoundsCard

/-- THE SECOND FORM's CARD OF 'volutelaw19.HearTrue'. -/
def hearTrueUptoCard : Claim7 := { stood := { row := hearTrueUptoRow, standIns := [], harness := (true, "ceece9eb399a08abe06a82d6ef8ffd33b63e0bd4ef02996413745a48748ab0d1"), looks := false }, kinds := [], alts := [], laidByText := true, laidKinds := [.data], laidTests := true, laidLooks := .later }
def HearTrueUptoCardSaid : Prop := Claim7.holds Tryz.pinned (.plain (OpenSpec.upto hearTrueSpec)) hearTrueUptoCard

/-- THE SECOND FORM's CARD OF 'volutelaw19.HearFour'. -/
def hearFourUptoCard : Claim7 := { stood := { row := hearFourUptoRow, standIns := [], harness := (true, "ceece9eb399a08abe06a82d6ef8ffd33b63e0bd4ef02996413745a48748ab0d1"), looks := false }, kinds := [], alts := [], laidByText := true, laidKinds := [.data], laidTests := true, laidLooks := .later }
def HearFourUptoCardSaid : Prop := Claim7.holds Tryz.pinned (.plain (OpenSpec.upto hearFourSpec)) hearFourUptoCard

/-- THE SECOND FORM's CARD OF 'volutelaw19.HearBounds'. -/
def hearBoundsUptoCard : Claim7 := { stood := { row := hearBoundsUptoRow, standIns := [], harness := (true, "ceece9eb399a08abe06a82d6ef8ffd33b63e0bd4ef02996413745a48748ab0d1"), looks := false }, kinds := [], alts := [], laidByText := true, laidKinds := [.data], laidTests := true, laidLooks := .later }
def HearBoundsUptoCardSaid : Prop := Claim7.holds Tryz.pinned (.plain (OpenSpec.upto hearBoundsSpec)) hearBoundsUptoCard
end Rows
end Go.Proofs.YtkigbanldiialaaGreatDoor
