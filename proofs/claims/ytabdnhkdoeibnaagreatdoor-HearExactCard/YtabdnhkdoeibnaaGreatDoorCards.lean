/-
  DERIVED. GIVEN WITH THE SEED: THE CARDS: each row of YtabdnhkdoeibnaaGreatDoorRows.lean that lists a variable, with what it lists TIED to the program's text (the seventh form; the later family's looks); each row that meets fmt, with fmt's text TOLD by the authors' own Lean function (tested against real Go, not proved from fmt's source: count such statements apart). THE CARD IS WHAT COUNTS. Prove the row's statement (the work); the ties are given (YtabdnhkdoeibnaaGreatDoorTie.lean); close each card by the builder's one call (the guide's Derived/Test/ToyasCard.lean, 'card_holds'). Laid BY PROGRAM, IN A SANDBOX (cutbox-door.mjs). By AI agents, Wed Nov 11 2026. No macro, syntax, notation, axiom, sorry.
-/
import Derived.Test.YtabdnhkdoeibnaaGreatDoorRows
import GoSem.ClaimSeven
namespace Go.Proofs.YtabdnhkdoeibnaaGreatDoor
namespace Rows

/-- THE TIED CARD OF 'volutelaw19.HearExact'. -/
def hearExactCard : Claim7 := { stood := { row := hearExactRow, standIns := [], harness := (true, "bf45c33d29c31eac8b2c1f90ea947e6f2539caeb7520179ae3b7a48b8183ffd3"), looks := false }, kinds := [], alts := [], laidByText := true, laidKinds := [.data], laidTests := true, laidLooks := .later }
def HearExactCardSaid : Prop := Claim7.holds Tryz.pinned (.plain (OpenSpec.ofChange hearExactSpec)) hearExactCard

/-- THE SECOND FORM's CARD OF 'volutelaw19.HearExact'. -/
def hearExactUptoCard : Claim7 := { stood := { row := hearExactUptoRow, standIns := [], harness := (true, "bf45c33d29c31eac8b2c1f90ea947e6f2539caeb7520179ae3b7a48b8183ffd3"), looks := false }, kinds := [], alts := [], laidByText := true, laidKinds := [.data], laidTests := true, laidLooks := .later }
def HearExactUptoCardSaid : Prop := Claim7.holds Tryz.pinned (.plain (OpenSpec.upto hearExactSpec)) hearExactUptoCard
end Rows
end Go.Proofs.YtabdnhkdoeibnaaGreatDoor
