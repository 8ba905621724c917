/-
  DERIVED. GIVEN WITH THE SEED: THE CARDS: each row of YtkphjnbeakkejabDoorRows.lean that lists a variable, with what it lists TIED to the program's text (the seventh form; the later family's looks); each row that meets fmt, with fmt's text TOLD by the authors' own Lean function (tested against real Go, not proved from fmt's source: count such statements apart). THE CARD IS WHAT COUNTS. Prove the row's statement (the work); the ties are given (YtkphjnbeakkejabDoorTie.lean); close each card by the builder's one call (the guide's Derived/Test/ToyasCard.lean, 'card_holds'). Laid BY PROGRAM, IN A SANDBOX (cutbox-door.mjs). By AI agents, Wed Nov 11 2026. No macro, syntax, notation, axiom, sorry.
-/
import Derived.Test.YtkphjnbeakkejabDoorRows
import GoSem.ClaimSeven
namespace Go.Proofs.YtkphjnbeakkejabDoor
namespace Rows

/-- THE TIED CARD OF 'volutelaw22.SendBlocks'. -/
def sendBlocksCard : Claim7 := { stood := { row := sendBlocksRow, standIns := [], harness := (true, "57439bca31c209b8d1f1df25ab9e55bf03dd628163d0705f56f2c4b5175194f8"), looks := false }, kinds := [], alts := [], laidByText := true, laidKinds := [.data], laidTests := true, laidLooks := .later }
def SendBlocksCardSaid : Prop := Claim7.holds Tryd.pinned (.plain (OpenSpec.ofChange sendBlocksSpec)) sendBlocksCard

/-- THE TIED CARD OF 'volutelaw22.SendTicks'. -/
def sendTicksCard : Claim7 := { stood := { row := sendTicksRow, standIns := [], harness := (true, "57439bca31c209b8d1f1df25ab9e55bf03dd628163d0705f56f2c4b5175194f8"), looks := false }, kinds := [], alts := [], laidByText := true, laidKinds := [.data], laidTests := true, laidLooks := .later }
def SendTicksCardSaid : Prop := Claim7.holds Tryd.pinned (.plain (OpenSpec.ofChange sendTicksSpec)) sendTicksCard

/-- THE SECOND FORM's CARD OF 'volutelaw22.SendBlocks'. -/
def sendBlocksUptoCard : Claim7 := { stood := { row := sendBlocksUptoRow, standIns := [], harness := (true, "57439bca31c209b8d1f1df25ab9e55bf03dd628163d0705f56f2c4b5175194f8"), looks := false }, kinds := [], alts := [], laidByText := true, laidKinds := [.data], laidTests := true, laidLooks := .later }
def SendBlocksUptoCardSaid : Prop := Claim7.holds Tryd.pinned (.plain (OpenSpec.upto sendBlocksSpec)) sendBlocksUptoCard

/-- THE SECOND FORM's CARD OF 'volutelaw22.SendTicks'. -/
def sendTicksUptoCard : Claim7 := { stood := { row := sendTicksUptoRow, standIns := [], harness := (true, "57439bca31c209b8d1f1df25ab9e55bf03dd628163d0705f56f2c4b5175194f8"), looks := false }, kinds := [], alts := [], laidByText := true, laidKinds := [.data], laidTests := true, laidLooks := .later }
def SendTicksUptoCardSaid : Prop := Claim7.holds Tryd.pinned (.plain (OpenSpec.upto sendTicksSpec)) sendTicksUptoCard
end Rows
end Go.Proofs.YtkphjnbeakkejabDoor
