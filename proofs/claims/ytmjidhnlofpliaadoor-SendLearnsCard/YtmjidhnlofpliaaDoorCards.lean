/-
  DERIVED. GIVEN WITH THE SEED: THE CARDS: each row of YtmjidhnlofpliaaDoorRows.lean that lists a variable, with what it lists TIED to the program's text (the seventh form; the later family's looks); each row that meets fmt, with fmt's text TOLD by the authors' own Lean function (tested against real Go, not proved from fmt's source: count such statements apart). THE CARD IS WHAT COUNTS. Prove the row's statement (the work); the ties are given (YtmjidhnlofpliaaDoorTie.lean); close each card by the builder's one call (the guide's Derived/Test/ToyasCard.lean, 'card_holds'). Laid BY PROGRAM, IN A SANDBOX (cutbox-door.mjs). By AI agents, Wed Nov 11 2026. No macro, syntax, notation, axiom, sorry.
-/
import Derived.Test.YtmjidhnlofpliaaDoorRows
import GoSem.ClaimSeven
namespace Go.Proofs.YtmjidhnlofpliaaDoor
namespace Rows

/-- THE TIED CARD OF 'volutelaw22.SendLearns'. -/
def sendLearnsCard : Claim7 := { stood := { row := sendLearnsRow, standIns := [], harness := (true, "1a6702b7129f445211b24cd628610b371e9928a4cb82116038bb8dfb06076103"), looks := false }, kinds := [], alts := [], laidByText := true, laidKinds := [.data], laidTests := true, laidLooks := .later }
def SendLearnsCardSaid : Prop := Claim7.holds Tryd.pinned (.plain (OpenSpec.ofChange sendLearnsSpec)) sendLearnsCard

/-- THE SECOND FORM's CARD OF 'volutelaw22.SendLearns'. -/
def sendLearnsUptoCard : Claim7 := { stood := { row := sendLearnsUptoRow, standIns := [], harness := (true, "1a6702b7129f445211b24cd628610b371e9928a4cb82116038bb8dfb06076103"), looks := false }, kinds := [], alts := [], laidByText := true, laidKinds := [.data], laidTests := true, laidLooks := .later }
def SendLearnsUptoCardSaid : Prop := Claim7.holds Tryd.pinned (.plain (OpenSpec.upto sendLearnsSpec)) sendLearnsUptoCard
end Rows
end Go.Proofs.YtmjidhnlofpliaaDoor
