/-
  DERIVED. GIVEN WITH THE SEED: THE CARDS: each row of YtifkjglhdppocaaDoorRows.lean that lists a variable, with what it lists TIED to the program's text (the seventh form; the later family's looks); each row that meets fmt, with fmt's text TOLD by the authors' own Lean function (tested against real Go, not proved from fmt's source: count such statements apart). THE CARD IS WHAT COUNTS. Prove the row's statement (the work); the ties are given (YtifkjglhdppocaaDoorTie.lean); close each card by the builder's one call (the guide's Derived/Test/ToyasCard.lean, 'card_holds'). Laid BY PROGRAM, IN A SANDBOX (cutbox-door.mjs). By AI agents, Wed Nov 11 2026. No macro, syntax, notation, axiom, sorry.
-/
import Derived.Test.YtifkjglhdppocaaDoorRows
import GoSem.ClaimSeven
namespace Go.Proofs.YtifkjglhdppocaaDoor
namespace Rows

/-- THE TIED CARD OF 'volutelaw09.PileExact'. -/
def pileExactCard : Claim7 := { stood := { row := pileExactRow, standIns := [], harness := (true, "446c1d9741f1d643bec728c2c20efc247d7ea167c2920520875deda3ecd336fd"), looks := false }, kinds := [], alts := [], laidByText := true, laidKinds := [.data], laidTests := true, laidLooks := .later }
def PileExactCardSaid : Prop := Claim7.holds Tryd.pinned (.plain (OpenSpec.ofChange pileExactSpec)) pileExactCard

/-- THE TIED CARD OF 'volutelaw09.PileHolds'. -/
def pileHoldsCard : Claim7 := { stood := { row := pileHoldsRow, standIns := [], harness := (true, "446c1d9741f1d643bec728c2c20efc247d7ea167c2920520875deda3ecd336fd"), looks := false }, kinds := [], alts := [], laidByText := true, laidKinds := [.data], laidTests := true, laidLooks := .later }
def PileHoldsCardSaid : Prop := Claim7.holds Tryd.pinned (.plain (OpenSpec.ofChange pileHoldsSpec)) pileHoldsCard

/-- THE SECOND FORM's CARD OF 'volutelaw09.PileExact'. -/
def pileExactUptoCard : Claim7 := { stood := { row := pileExactUptoRow, standIns := [], harness := (true, "446c1d9741f1d643bec728c2c20efc247d7ea167c2920520875deda3ecd336fd"), looks := false }, kinds := [], alts := [], laidByText := true, laidKinds := [.data], laidTests := true, laidLooks := .later }
def PileExactUptoCardSaid : Prop := Claim7.holds Tryd.pinned (.plain (OpenSpec.upto pileExactSpec)) pileExactUptoCard

/-- THE SECOND FORM's CARD OF 'volutelaw09.PileHolds'. -/
def pileHoldsUptoCard : Claim7 := { stood := { row := pileHoldsUptoRow, standIns := [], harness := (true, "446c1d9741f1d643bec728c2c20efc247d7ea167c2920520875deda3ecd336fd"), looks := false }, kinds := [], alts := [], laidByText := true, laidKinds := [.data], laidTests := true, laidLooks := .later }
def PileHoldsUptoCardSaid : Prop := Claim7.holds Tryd.pinned (.plain (OpenSpec.upto pileHoldsSpec)) pileHoldsUptoCard
end Rows
end Go.Proofs.YtifkjglhdppocaaDoor
