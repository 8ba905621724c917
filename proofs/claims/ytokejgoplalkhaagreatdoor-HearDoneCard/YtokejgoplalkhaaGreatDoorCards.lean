/-
  DERIVED. GIVEN WITH THE SEED: THE CARDS: each row of YtokejgoplalkhaaGreatDoorRows.lean that lists a variable, with what it lists TIED to the program's text (the seventh form; the later family's looks); each row that meets fmt, with fmt's text TOLD by the authors' own Lean function (tested against real Go, not proved from fmt's source: count such statements apart). THE CARD IS WHAT COUNTS. Prove the row's statement (the work); the ties are given (YtokejgoplalkhaaGreatDoorTie.lean); close each card by the builder's one call (the guide's Derived/Test/ToyasCard.lean, 'card_holds'). Laid BY PROGRAM, IN A SANDBOX (cutbox-door.mjs). By AI agents, Wed Nov 11 2026. No macro, syntax, notation, axiom, sorry.
-/
import Derived.Test.YtokejgoplalkhaaGreatDoorRows
import GoSem.ClaimSeven
namespace Go.Proofs.YtokejgoplalkhaaGreatDoor
namespace Rows

/-- THE TIED CARD OF 'volutelaw19.HearExact'. -/
def hearExactCard : Claim7 := { stood := { row := hearExactRow, standIns := [], harness := (true, "20a6cba4bee19473ca553afbaffcd1deaf043e5d6849345423830848a536fbef"), looks := false }, kinds := [], alts := [], laidByText := true, laidKinds := [.data], laidTests := true, laidLooks := .later }
def HearExactCardSaid : Prop := Claim7.holds Tryz.pinned (.plain (OpenSpec.ofChange hearExactSpec)) hearExactCard

/-- THE TIED CARD OF 'volutelaw19.HearTrue'. -/
def hearTrueCard : Claim7 := { stood := { row := hearTrueRow, standIns := [], harness := (true, "20a6cba4bee19473ca553afbaffcd1deaf043e5d6849345423830848a536fbef"), looks := false }, kinds := [], alts := [], laidByText := true, laidKinds := [.data], laidTests := true, laidLooks := .later }
def HearTrueCardSaid : Prop := Claim7.holds Tryz.pinned (.plain (OpenSpec.ofChange hearTrueSpec)) hearTrueCard

/-- THE TIED CARD OF 'volutelaw19.HearFour'. -/
def hearFourCard : Claim7 := { stood := { row := hearFourRow, standIns := [], harness := (true, "20a6cba4bee19473ca553afbaffcd1deaf043e5d6849345423830848a536fbef"), looks := false }, kinds := [], alts := [], laidByText := true, laidKinds := [.data], laidTests := true, laidLooks := .later }
def HearFourCardSaid : Prop := Claim7.holds Tryz.pinned (.plain (OpenSpec.ofChange hearFourSpec)) hearFourCard

/-- THE TIED CARD OF 'volutelaw19.HearBounds'. -/
def hearBoundsCard : Claim7 := { stood := { row := hearBoundsRow, standIns := [], harness := (true, "20a6cba4bee19473ca553afbaffcd1deaf043e5d6849345423830848a536fbef"), looks := false }, kinds := [], alts := [], laidByText := true, laidKinds := [.data], laidTests := true, laidLooks := .later }
def HearBoundsCardSaid : Prop := Claim7.holds Tryz.pinned (.plain (OpenSpec.ofChange hearBoundsSpec)) hearBoundsCard

/-- THE TIED CARD OF 'volutelaw19.HearFlush'. -/
def hearFlushCard : Claim7 := { stood := { row := hearFlushRow, standIns := [], harness := (true, "20a6cba4bee19473ca553afbaffcd1deaf043e5d6849345423830848a536fbef"), looks := false }, kinds := [], alts := [], laidByText := true, laidKinds := [.data], laidTests := true, laidLooks := .later }
def HearFlushCardSaid : Prop := Claim7.holds Tryz.pinned (.plain (OpenSpec.ofChange hearFlushSpec)) hearFlushCard

/-- THE TIED CARD OF 'volutelaw19.HearDone'. -/
def hearDoneCard : Claim7 := { stood := { row := hearDoneRow, standIns := [], harness := (true, "20a6cba4bee19473ca553afbaffcd1deaf043e5d6849345423830848a536fbef"), looks := false }, kinds := [], alts := [], laidByText := true, laidKinds := [.data], laidTests := true, laidLooks := .later }
def HearDoneCardSaid : Prop := Claim7.holds Tryz.pinned (.plain (OpenSpec.ofChange hearDoneSpec)) hearDoneCard

/-- THE SECOND FORM's CARD OF 'volutelaw19.HearExact'. -/
def hearExactUptoCard : Claim7 := { stood := { row := hearExactUptoRow, standIns := [], harness := (true, "20a6cba4bee19473ca553afbaffcd1deaf043e5d6849345423830848a536fbef"), looks := false }, kinds := [], alts := [], laidByText := true, laidKinds := [.data], laidTests := true, laidLooks := .later }
def HearExactUptoCardSaid : Prop := Claim7.holds Tryz.pinned (.plain (OpenSpec.upto hearExactSpec)) hearExactUptoCard

/-- THE SECOND FORM's CARD OF 'volutelaw19.HearTrue'. -/
def hearTrueUptoCard : Claim7 := { stood := { row := hearTrueUptoRow, standIns := [], harness := (true, "20a6cba4bee19473ca553afbaffcd1deaf043e5d6849345423830848a536fbef"), looks := false }, kinds := [], alts := [], laidByText := true, laidKinds := [.data], laidTests := true, laidLooks := .later }
def HearTrueUptoCardSaid : Prop := Claim7.holds Tryz.pinned (.plain (OpenSpec.upto hearTrueSpec)) hearTrueUptoCard

/-- THE SECOND FORM's CARD OF 'volutelaw19.HearFour'. -/
def hearFourUptoCard : Claim7 := { stood := { row := hearFourUptoRow, standIns := [], harness := (true, "20a6cba4bee19473ca553afbaffcd1deaf043e5d6849345423830848a536fbef"), looks := false }, kinds := [], alts := [], laidByText := true, laidKinds := [.data], laidTests := true, laidLooks := .later }
def HearFourUptoCardSaid : Prop := Claim7.holds Tryz.pinned (.plain (OpenSpec.upto hearFourSpec)) hearFourUptoCard

/-- THE SECOND FORM's CARD OF 'volutelaw19.HearBounds'. -/
def hearBoundsUptoCard : Claim7 := { stood := { row := hearBoundsUptoRow, standIns := [], harness := (true, "20a6cba4bee19473ca553afbaffcd1deaf043e5d6849345423830848a536fbef"), looks := false }, kinds := [], alts := [], laidByText := true, laidKinds := [.data], laidTests := true, laidLooks := .later }
def HearBoundsUptoCardSaid : Prop := Claim7.holds Tryz.pinned (.plain (OpenSpec.upto hearBoundsSpec)) hearBoundsUptoCard

/-- THE SECOND FORM's CARD OF 'volutelaw19.HearFlush'. -/
def hearFlushUptoCard : Claim7 := { stood := { row := hearFlushUptoRow, standIns := [], harness := (true, "20a6cba4bee19473ca553afbaffcd1deaf043e5d6849345423830848a536fbef"), looks := false }, kinds := [], alts := [], laidByText := true, laidKinds := [.data], laidTests := true, laidLooks := .later }
def HearFlushUptoCardSaid : Prop := Claim7.holds Tryz.pinned (.plain (OpenSpec.upto hearFlushSpec)) hearFlushUptoCard

/-- THE SECOND FORM's CARD OF 'volutelaw19.HearDone'. -/
def hearDoneUptoCard : Claim7 := { stood := { row := hearDoneUptoRow, standIns := [], harness := (true, "20a6cba4bee19473ca553afbaffcd1deaf043e5d6849345423830848a536fbef"), looks := false }, kinds := [], alts := [], laidByText := true, laidKinds := [.data], laidTests := true, laidLooks := .later }
def HearDoneUptoCardSaid : Prop := Claim7.holds Tryz.pinned (.plain (OpenSpec.upto hearDoneSpec)) hearDoneUptoCard
end Rows
end Go.Proofs.YtokejgoplalkhaaGreatDoor
