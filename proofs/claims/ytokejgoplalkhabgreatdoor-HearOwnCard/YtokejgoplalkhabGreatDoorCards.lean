/-
  DERIVED. GIVEN WITH THE SEED: THE CARDS: each row of YtokejgoplalkhabGreatDoorRows.lean that lists a variable, with what it lists TIED to the program's text (the seventh form; the later family's looks); each row that meets fmt, with fmt's text TOLD by the authors' own Lean function (tested against real Go, not proved from fmt's source: count such statements apart). THE CARD IS WHAT COUNTS. Prove the row's statement (the work); the ties are given (YtokejgoplalkhabGreatDoorTie.lean); close each card by the builder's one call (the guide's Derived/Test/ToyasCard.lean, 'card_holds'). Laid BY PROGRAM, IN A SANDBOX (cutbox-door.mjs). By AI agents, Wed Nov 11 2026. No macro, syntax, notation, axiom, sorry.
-/
import Derived.Test.YtokejgoplalkhabGreatDoorRows
import GoSem.ClaimSeven
namespace Go.Proofs.YtokejgoplalkhabGreatDoor
namespace Rows

/-- THE TIED CARD OF 'volutelaw19.HearOwn'. -/
def hearOwnCard : Claim7 := { stood := { row := hearOwnRow, standIns := [], harness := (true, "637fa8253e2b33a63ee2d9ff6391b3b846a89113f821a8d039d37903bad4fd93"), looks := false }, kinds := [], alts := [], laidByText := true, laidKinds := [.data], laidTests := true, laidLooks := .later }
def HearOwnCardSaid : Prop := Claim7.holds Tryz.pinned (.plain (OpenSpec.ofChange hearOwnSpec)) hearOwnCard

/-- THE SECOND FORM's CARD OF 'volutelaw19.HearOwn'. -/
def hearOwnUptoCard : Claim7 := { stood := { row := hearOwnUptoRow, standIns := [], harness := (true, "637fa8253e2b33a63ee2d9ff6391b3b846a89113f821a8d039d37903bad4fd93"), looks := false }, kinds := [], alts := [], laidByText := true, laidKinds := [.data], laidTests := true, laidLooks := .later }
def HearOwnUptoCardSaid : Prop := Claim7.holds Tryz.pinned (.plain (OpenSpec.upto hearOwnSpec)) hearOwnUptoCard
end Rows
end Go.Proofs.YtokejgoplalkhabGreatDoor
