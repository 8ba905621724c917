/-
  DERIVED. GIVEN WITH THE SEED: THE CARDS: each row of YtdnhnnidlangiabDoorRows.lean that lists a variable, with what it lists TIED to the program's text (the seventh form; the later family's looks); each row that meets fmt, with fmt's text TOLD by the authors' own Lean function (tested against real Go, not proved from fmt's source: count such statements apart). THE CARD IS WHAT COUNTS. Prove the row's statement (the work); the ties are given (YtdnhnnidlangiabDoorTie.lean); close each card by the builder's one call (the guide's Derived/Test/ToyasCard.lean, 'card_holds'). Laid BY PROGRAM, IN A SANDBOX (cutbox-door.mjs). By AI agents, Wed Nov 11 2026. No macro, syntax, notation, axiom, sorry.
-/
import Derived.Test.YtdnhnnidlangiabDoorRows
import GoSem.ClaimSeven
namespace Go.Proofs.YtdnhnnidlangiabDoor
namespace Rows

/-- THE TIED CARD OF 'volutelaw12.BeamScores'. -/
def beamScoresCard : Claim7 := { stood := { row := beamScoresRow, standIns := [], harness := (true, "462d7be6233a74c89e7396fb45b02bfb6124b3856a927c203632f71b43fad435"), looks := false }, kinds := [], alts := [], laidByText := true, laidKinds := [.data], laidTests := true, laidLooks := .later }
def BeamScoresCardSaid : Prop := Claim7.holds Tryd.pinned (.plain (OpenSpec.ofChange beamScoresSpec)) beamScoresCard

/-- THE TIED CARD OF 'volutelaw12.BeamFirst'. -/
def beamFirstCard : Claim7 := { stood := { row := beamFirstRow, standIns := [], harness := (true, "462d7be6233a74c89e7396fb45b02bfb6124b3856a927c203632f71b43fad435"), looks := false }, kinds := [], alts := [], laidByText := true, laidKinds := [.data], laidTests := true, laidLooks := .later }
def BeamFirstCardSaid : Prop := Claim7.holds Tryd.pinned (.plain (OpenSpec.ofChange beamFirstSpec)) beamFirstCard

/-- THE TIED CARD OF 'volutelaw12.BeamNothing'. -/
def beamNothingCard : Claim7 := { stood := { row := beamNothingRow, standIns := [], harness := (true, "462d7be6233a74c89e7396fb45b02bfb6124b3856a927c203632f71b43fad435"), looks := false }, kinds := [], alts := [], laidByText := true, laidKinds := [.data], laidTests := true, laidLooks := .later }
def BeamNothingCardSaid : Prop := Claim7.holds Tryd.pinned (.plain (OpenSpec.ofChange beamNothingSpec)) beamNothingCard

/-- THE TIED CARD OF 'volutelaw12.BeamClaims'. -/
def beamClaimsCard : Claim7 := { stood := { row := beamClaimsRow, standIns := [], harness := (true, "462d7be6233a74c89e7396fb45b02bfb6124b3856a927c203632f71b43fad435"), looks := false }, kinds := [], alts := [], laidByText := true, laidKinds := [.data], laidTests := true, laidLooks := .later }
def BeamClaimsCardSaid : Prop := Claim7.holds Tryd.pinned (.plain (OpenSpec.ofChange beamClaimsSpec)) beamClaimsCard

/-- THE SECOND FORM's CARD OF 'volutelaw12.BeamScores'. -/
def beamScoresUptoCard : Claim7 := { stood := { row := beamScoresUptoRow, standIns := [], harness := (true, "462d7be6233a74c89e7396fb45b02bfb6124b3856a927c203632f71b43fad435"), looks := false }, kinds := [], alts := [], laidByText := true, laidKinds := [.data], laidTests := true, laidLooks := .later }
def BeamScoresUptoCardSaid : Prop := Claim7.holds Tryd.pinned (.plain (OpenSpec.upto beamScoresSpec)) beamScoresUptoCard

/-- THE SECOND FORM's CARD OF 'volutelaw12.BeamFirst'. -/
def beamFirstUptoCard : Claim7 := { stood := { row := beamFirstUptoRow, standIns := [], harness := (true, "462d7be6233a74c89e7396fb45b02bfb6124b3856a927c203632f71b43fad435"), looks := false }, kinds := [], alts := [], laidByText := true, laidKinds := [.data], laidTests := true, laidLooks := .later }
def BeamFirstUptoCardSaid : Prop := Claim7.holds Tryd.pinned (.plain (OpenSpec.upto beamFirstSpec)) beamFirstUptoCard

/-- THE SECOND FORM's CARD OF 'volutelaw12.BeamNothing'. -/
def beamNothingUptoCard : Claim7 := { stood := { row := beamNothingUptoRow, standIns := [], harness := (true, "462d7be6233a74c89e7396fb45b02bfb6124b3856a927c203632f71b43fad435"), looks := false }, kinds := [], alts := [], laidByText := true, laidKinds := [.data], laidTests := true, laidLooks := .later }
def BeamNothingUptoCardSaid : Prop := Claim7.holds Tryd.pinned (.plain (OpenSpec.upto beamNothingSpec)) beamNothingUptoCard

/-- THE SECOND FORM's CARD OF 'volutelaw12.BeamClaims'. -/
def beamClaimsUptoCard : Claim7 := { stood := { row := beamClaimsUptoRow, standIns := [], harness := (true, "462d7be6233a74c89e7396fb45b02bfb6124b3856a927c203632f71b43fad435"), looks := false }, kinds := [], alts := [], laidByText := true, laidKinds := [.data], laidTests := true, laidLooks := .later }
def BeamClaimsUptoCardSaid : Prop := Claim7.holds Tryd.pinned (.plain (OpenSpec.upto beamClaimsSpec)) beamClaimsUptoCard
end Rows
end Go.Proofs.YtdnhnnidlangiabDoor
