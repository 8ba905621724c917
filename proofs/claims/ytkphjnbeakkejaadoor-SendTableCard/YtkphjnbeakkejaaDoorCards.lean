/-
  DERIVED. GIVEN WITH THE SEED: THE CARDS: each row of YtkphjnbeakkejaaDoorRows.lean that lists a variable, with what it lists TIED to the program's text (the seventh form; the later family's looks); each row that meets fmt, with fmt's text TOLD by the authors' own Lean function (tested against real Go, not proved from fmt's source: count such statements apart). THE CARD IS WHAT COUNTS. Prove the row's statement (the work); the ties are given (YtkphjnbeakkejaaDoorTie.lean); close each card by the builder's one call (the guide's Derived/Test/ToyasCard.lean, 'card_holds'). Laid BY PROGRAM, IN A SANDBOX (cutbox-door.mjs). By AI agents, Wed Nov 11 2026. No macro, syntax, notation, axiom, sorry.
-/
import Derived.Test.YtkphjnbeakkejaaDoorRows
import GoSem.ClaimSeven
namespace Go.Proofs.YtkphjnbeakkejaaDoor
namespace Rows

/-- THE TIED CARD OF 'volutelaw22.SendTable'. -/
def sendTableCard : Claim7 := { stood := { row := sendTableRow, standIns := [], harness := (true, "0a0176d925e90edced5373d98c49321f1e3d6cb4f02c54606799e01f071bf37c"), looks := false }, kinds := [], alts := [], laidByText := true, laidKinds := [.data], laidTests := true, laidLooks := .later }
def SendTableCardSaid : Prop := Claim7.holds Tryd.pinned (.plain (OpenSpec.ofChange sendTableSpec)) sendTableCard

/-- THE TIED CARD OF 'volutelaw22.SendLearns'. -/
def sendLearnsCard : Claim7 := { stood := { row := sendLearnsRow, standIns := [], harness := (true, "0a0176d925e90edced5373d98c49321f1e3d6cb4f02c54606799e01f071bf37c"), looks := false }, kinds := [], alts := [], laidByText := true, laidKinds := [.data], laidTests := true, laidLooks := .later }
def SendLearnsCardSaid : Prop := Claim7.holds Tryd.pinned (.plain (OpenSpec.ofChange sendLearnsSpec)) sendLearnsCard

/-- THE TIED CARD OF 'volutelaw22.SendDone'. -/
def sendDoneCard : Claim7 := { stood := { row := sendDoneRow, standIns := [], harness := (true, "0a0176d925e90edced5373d98c49321f1e3d6cb4f02c54606799e01f071bf37c"), looks := false }, kinds := [], alts := [], laidByText := true, laidKinds := [.data], laidTests := true, laidLooks := .later }
def SendDoneCardSaid : Prop := Claim7.holds Tryd.pinned (.plain (OpenSpec.ofChange sendDoneSpec)) sendDoneCard

/-- THE TIED CARD OF 'volutelaw22.SendFar'. -/
def sendFarCard : Claim7 := { stood := { row := sendFarRow, standIns := [], harness := (true, "0a0176d925e90edced5373d98c49321f1e3d6cb4f02c54606799e01f071bf37c"), looks := false }, kinds := [], alts := [], laidByText := true, laidKinds := [.data], laidTests := true, laidLooks := .later }
def SendFarCardSaid : Prop := Claim7.holds Tryd.pinned (.plain (OpenSpec.ofChange sendFarSpec)) sendFarCard

/-- THE SECOND FORM's CARD OF 'volutelaw22.SendTable'. -/
def sendTableUptoCard : Claim7 := { stood := { row := sendTableUptoRow, standIns := [], harness := (true, "0a0176d925e90edced5373d98c49321f1e3d6cb4f02c54606799e01f071bf37c"), looks := false }, kinds := [], alts := [], laidByText := true, laidKinds := [.data], laidTests := true, laidLooks := .later }
def SendTableUptoCardSaid : Prop := Claim7.holds Tryd.pinned (.plain (OpenSpec.upto sendTableSpec)) sendTableUptoCard

/-- THE SECOND FORM's CARD OF 'volutelaw22.SendLearns'. -/
def sendLearnsUptoCard : Claim7 := { stood := { row := sendLearnsUptoRow, standIns := [], harness := (true, "0a0176d925e90edced5373d98c49321f1e3d6cb4f02c54606799e01f071bf37c"), looks := false }, kinds := [], alts := [], laidByText := true, laidKinds := [.data], laidTests := true, laidLooks := .later }
def SendLearnsUptoCardSaid : Prop := Claim7.holds Tryd.pinned (.plain (OpenSpec.upto sendLearnsSpec)) sendLearnsUptoCard

/-- THE SECOND FORM's CARD OF 'volutelaw22.SendDone'. -/
def sendDoneUptoCard : Claim7 := { stood := { row := sendDoneUptoRow, standIns := [], harness := (true, "0a0176d925e90edced5373d98c49321f1e3d6cb4f02c54606799e01f071bf37c"), looks := false }, kinds := [], alts := [], laidByText := true, laidKinds := [.data], laidTests := true, laidLooks := .later }
def SendDoneUptoCardSaid : Prop := Claim7.holds Tryd.pinned (.plain (OpenSpec.upto sendDoneSpec)) sendDoneUptoCard

/-- THE SECOND FORM's CARD OF 'volutelaw22.SendFar'. -/
def sendFarUptoCard : Claim7 := { stood := { row := sendFarUptoRow, standIns := [], harness := (true, "0a0176d925e90edced5373d98c49321f1e3d6cb4f02c54606799e01f071bf37c"), looks := false }, kinds := [], alts := [], laidByText := true, laidKinds := [.data], laidTests := true, laidLooks := .later }
def SendFarUptoCardSaid : Prop := Claim7.holds Tryd.pinned (.plain (OpenSpec.upto sendFarSpec)) sendFarUptoCard
end Rows
end Go.Proofs.YtkphjnbeakkejaaDoor
