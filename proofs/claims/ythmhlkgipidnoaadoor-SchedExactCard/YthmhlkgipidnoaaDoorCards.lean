/-
  DERIVED. GIVEN WITH THE SEED: THE CARDS: each row of YthmhlkgipidnoaaDoorRows.lean that lists a variable, with what it lists TIED to the program's text (the seventh form; the later family's looks); each row that meets fmt, with fmt's text TOLD by the authors' own Lean function (tested against real Go, not proved from fmt's source: count such statements apart). THE CARD IS WHAT COUNTS. Prove the row's statement (the work); the ties are given (YthmhlkgipidnoaaDoorTie.lean); close each card by the builder's one call (the guide's Derived/Test/ToyasCard.lean, 'card_holds'). Laid BY PROGRAM, IN A SANDBOX (cutbox-door.mjs). By AI agents, Wed Nov 11 2026. No macro, syntax, notation, axiom, sorry.
-/
import Derived.Test.YthmhlkgipidnoaaDoorRows
import GoSem.ClaimSeven
namespace Go.Proofs.YthmhlkgipidnoaaDoor
namespace Rows

/-- THE TIED CARD OF 'volutelaw07.SchedExact'. -/
def schedExactCard : Claim7 := { stood := { row := schedExactRow, standIns := [], harness := (true, "04465fc17465c91e73b206d2b0477410c952192739dc603f410e5f31e6944cc1"), looks := false }, kinds := [], alts := [], laidByText := true, laidKinds := [.data], laidTests := true, laidLooks := .later }
def SchedExactCardSaid : Prop := Claim7.holds Tryd.pinned (.plain (OpenSpec.ofChange schedExactSpec)) schedExactCard

/-- THE TIED CARD OF 'volutelaw07.SchedAll'. -/
def schedAllCard : Claim7 := { stood := { row := schedAllRow, standIns := [], harness := (true, "04465fc17465c91e73b206d2b0477410c952192739dc603f410e5f31e6944cc1"), looks := false }, kinds := [], alts := [], laidByText := true, laidKinds := [.data], laidTests := true, laidLooks := .later }
def SchedAllCardSaid : Prop := Claim7.holds Tryd.pinned (.plain (OpenSpec.ofChange schedAllSpec)) schedAllCard

/-- THE TIED CARD OF 'volutelaw07.SchedSpread'. -/
def schedSpreadCard : Claim7 := { stood := { row := schedSpreadRow, standIns := [], harness := (true, "04465fc17465c91e73b206d2b0477410c952192739dc603f410e5f31e6944cc1"), looks := false }, kinds := [], alts := [], laidByText := true, laidKinds := [.data], laidTests := true, laidLooks := .later }
def SchedSpreadCardSaid : Prop := Claim7.holds Tryd.pinned (.plain (OpenSpec.ofChange schedSpreadSpec)) schedSpreadCard

/-- THE TIED CARD OF 'volutelaw07.SchedEighths'. -/
def schedEighthsCard : Claim7 := { stood := { row := schedEighthsRow, standIns := [], harness := (true, "04465fc17465c91e73b206d2b0477410c952192739dc603f410e5f31e6944cc1"), looks := false }, kinds := [], alts := [], laidByText := true, laidKinds := [.data], laidTests := true, laidLooks := .later }
def SchedEighthsCardSaid : Prop := Claim7.holds Tryd.pinned (.plain (OpenSpec.ofChange schedEighthsSpec)) schedEighthsCard

/-- THE SECOND FORM's CARD OF 'volutelaw07.SchedExact'. -/
def schedExactUptoCard : Claim7 := { stood := { row := schedExactUptoRow, standIns := [], harness := (true, "04465fc17465c91e73b206d2b0477410c952192739dc603f410e5f31e6944cc1"), looks := false }, kinds := [], alts := [], laidByText := true, laidKinds := [.data], laidTests := true, laidLooks := .later }
def SchedExactUptoCardSaid : Prop := Claim7.holds Tryd.pinned (.plain (OpenSpec.upto schedExactSpec)) schedExactUptoCard

/-- THE SECOND FORM's CARD OF 'volutelaw07.SchedAll'. -/
def schedAllUptoCard : Claim7 := { stood := { row := schedAllUptoRow, standIns := [], harness := (true, "04465fc17465c91e73b206d2b0477410c952192739dc603f410e5f31e6944cc1"), looks := false }, kinds := [], alts := [], laidByText := true, laidKinds := [.data], laidTests := true, laidLooks := .later }
def SchedAllUptoCardSaid : Prop := Claim7.holds Tryd.pinned (.plain (OpenSpec.upto schedAllSpec)) schedAllUptoCard

/-- THE SECOND FORM's CARD OF 'volutelaw07.SchedSpread'. -/
def schedSpreadUptoCard : Claim7 := { stood := { row := schedSpreadUptoRow, standIns := [], harness := (true, "04465fc17465c91e73b206d2b0477410c952192739dc603f410e5f31e6944cc1"), looks := false }, kinds := [], alts := [], laidByText := true, laidKinds := [.data], laidTests := true, laidLooks := .later }
def SchedSpreadUptoCardSaid : Prop := Claim7.holds Tryd.pinned (.plain (OpenSpec.upto schedSpreadSpec)) schedSpreadUptoCard

/-- THE SECOND FORM's CARD OF 'volutelaw07.SchedEighths'. -/
def schedEighthsUptoCard : Claim7 := { stood := { row := schedEighthsUptoRow, standIns := [], harness := (true, "04465fc17465c91e73b206d2b0477410c952192739dc603f410e5f31e6944cc1"), looks := false }, kinds := [], alts := [], laidByText := true, laidKinds := [.data], laidTests := true, laidLooks := .later }
def SchedEighthsUptoCardSaid : Prop := Claim7.holds Tryd.pinned (.plain (OpenSpec.upto schedEighthsSpec)) schedEighthsUptoCard
end Rows
end Go.Proofs.YthmhlkgipidnoaaDoor
