/-
  DERIVED. GIVEN WITH THE SEED: THE CARDS: each row of YtddcloanbpkecaaDoorRows.lean that lists a variable, with what it lists TIED to the program's text (the seventh form; the later family's looks); each row that meets fmt, with fmt's text TOLD by the authors' own Lean function (tested against real Go, not proved from fmt's source: count such statements apart). THE CARD IS WHAT COUNTS. Prove the row's statement (the work); the ties are given (YtddcloanbpkecaaDoorTie.lean); close each card by the builder's one call (the guide's Derived/Test/ToyasCard.lean, 'card_holds'). Laid BY PROGRAM, IN A SANDBOX (cutbox-door.mjs). By AI agents, Wed Nov 11 2026. No macro, syntax, notation, axiom, sorry.
-/
import Derived.Test.YtddcloanbpkecaaDoorRows
import GoSem.ClaimSeven
namespace Go.Proofs.YtddcloanbpkecaaDoor
namespace Rows

/-- THE TIED CARD OF 'volutelaw12.BeamExact'. -/
def beamExactCard : Claim7 := { stood := { row := beamExactRow, standIns := [], harness := (true, "b491020181eaf59723a5cf0c12da85e41993a6fa290ecee20c9fbca8549038f9"), looks := false }, kinds := [], alts := [], laidByText := true, laidKinds := [.data], laidTests := true, laidLooks := .later }
def BeamExactCardSaid : Prop := Claim7.holds Tryd.pinned (.plain (OpenSpec.ofChange beamExactSpec)) beamExactCard

/-- THE SECOND FORM's CARD OF 'volutelaw12.BeamExact'. -/
def beamExactUptoCard : Claim7 := { stood := { row := beamExactUptoRow, standIns := [], harness := (true, "b491020181eaf59723a5cf0c12da85e41993a6fa290ecee20c9fbca8549038f9"), looks := false }, kinds := [], alts := [], laidByText := true, laidKinds := [.data], laidTests := true, laidLooks := .later }
def BeamExactUptoCardSaid : Prop := Claim7.holds Tryd.pinned (.plain (OpenSpec.upto beamExactSpec)) beamExactUptoCard
end Rows
end Go.Proofs.YtddcloanbpkecaaDoor
