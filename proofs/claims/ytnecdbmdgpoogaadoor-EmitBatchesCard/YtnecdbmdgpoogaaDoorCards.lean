/-
  DERIVED. GIVEN WITH THE SEED: THE CARDS: each row of YtnecdbmdgpoogaaDoorRows.lean that lists a variable, with what it lists TIED to the program's text (the seventh form; the later family's looks); each row that meets fmt, with fmt's text TOLD by the authors' own Lean function (tested against real Go, not proved from fmt's source: count such statements apart). THE CARD IS WHAT COUNTS. Prove the row's statement (the work); the ties are given (YtnecdbmdgpoogaaDoorTie.lean); close each card by the builder's one call (the guide's Derived/Test/ToyasCard.lean, 'card_holds'). Laid BY PROGRAM, IN A SANDBOX (cutbox-door.mjs). By AI agents, Wed Nov 11 2026. No macro, syntax, notation, axiom, sorry.
-/
import Derived.Test.YtnecdbmdgpoogaaDoorRows
import GoSem.ClaimSeven
namespace Go.Proofs.YtnecdbmdgpoogaaDoor
namespace Rows

/-- THE TIED CARD OF 'volutelaw18.EmitExact'. -/
def emitExactCard : Claim7 := { stood := { row := emitExactRow, standIns := [], harness := (true, "ac98033fd0a7e1e6adfe46596034ef57ead82aa52e26d97715849bdc13981bb9"), looks := false }, kinds := [], alts := [], laidByText := true, laidKinds := [.data], laidTests := true, laidLooks := .later }
def EmitExactCardSaid : Prop := Claim7.holds Tryd.pinned (.plain (OpenSpec.ofChange emitExactSpec)) emitExactCard

/-- THE TIED CARD OF 'volutelaw18.EmitRounds'. -/
def emitRoundsCard : Claim7 := { stood := { row := emitRoundsRow, standIns := [], harness := (true, "ac98033fd0a7e1e6adfe46596034ef57ead82aa52e26d97715849bdc13981bb9"), looks := false }, kinds := [], alts := [], laidByText := true, laidKinds := [.data], laidTests := true, laidLooks := .later }
def EmitRoundsCardSaid : Prop := Claim7.holds Tryd.pinned (.plain (OpenSpec.ofChange emitRoundsSpec)) emitRoundsCard

/-- THE TIED CARD OF 'volutelaw18.EmitBatches'. -/
def emitBatchesCard : Claim7 := { stood := { row := emitBatchesRow, standIns := [], harness := (true, "ac98033fd0a7e1e6adfe46596034ef57ead82aa52e26d97715849bdc13981bb9"), looks := false }, kinds := [], alts := [], laidByText := true, laidKinds := [.data], laidTests := true, laidLooks := .later }
def EmitBatchesCardSaid : Prop := Claim7.holds Tryd.pinned (.plain (OpenSpec.ofChange emitBatchesSpec)) emitBatchesCard

/-- THE SECOND FORM's CARD OF 'volutelaw18.EmitExact'. -/
def emitExactUptoCard : Claim7 := { stood := { row := emitExactUptoRow, standIns := [], harness := (true, "ac98033fd0a7e1e6adfe46596034ef57ead82aa52e26d97715849bdc13981bb9"), looks := false }, kinds := [], alts := [], laidByText := true, laidKinds := [.data], laidTests := true, laidLooks := .later }
def EmitExactUptoCardSaid : Prop := Claim7.holds Tryd.pinned (.plain (OpenSpec.upto emitExactSpec)) emitExactUptoCard

/-- THE SECOND FORM's CARD OF 'volutelaw18.EmitRounds'. -/
def emitRoundsUptoCard : Claim7 := { stood := { row := emitRoundsUptoRow, standIns := [], harness := (true, "ac98033fd0a7e1e6adfe46596034ef57ead82aa52e26d97715849bdc13981bb9"), looks := false }, kinds := [], alts := [], laidByText := true, laidKinds := [.data], laidTests := true, laidLooks := .later }
def EmitRoundsUptoCardSaid : Prop := Claim7.holds Tryd.pinned (.plain (OpenSpec.upto emitRoundsSpec)) emitRoundsUptoCard

/-- THE SECOND FORM's CARD OF 'volutelaw18.EmitBatches'. -/
def emitBatchesUptoCard : Claim7 := { stood := { row := emitBatchesUptoRow, standIns := [], harness := (true, "ac98033fd0a7e1e6adfe46596034ef57ead82aa52e26d97715849bdc13981bb9"), looks := false }, kinds := [], alts := [], laidByText := true, laidKinds := [.data], laidTests := true, laidLooks := .later }
def EmitBatchesUptoCardSaid : Prop := Claim7.holds Tryd.pinned (.plain (OpenSpec.upto emitBatchesSpec)) emitBatchesUptoCard
end Rows
end Go.Proofs.YtnecdbmdgpoogaaDoor
