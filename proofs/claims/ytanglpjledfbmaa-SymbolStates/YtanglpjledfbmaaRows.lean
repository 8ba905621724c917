/-
  No cell of these rows narrows 'for every input' (looked for: loops, veiled, ifaces, maps, wideKeys, modest, calm, conditions, laid).
  DERIVED. THE GIVEN ROWS OF THIS SEAT. 3 by the template 'for every input the law returns true; each argument reads behind the call as it read before'; 0 by the template 'total and deterministic' (their statements: YtanglpjledfbmaaTotals.lean).
  GIVEN WITH THE SEED: the statements are not yours to turn. If you find one false, say at which input.
  Laid BY PROGRAM, IN A SANDBOX (cutbox-rows.mjs): the forced cells as the released guide's own fill.sh prints them over the translation f1f48395946b7ebf… (all of the seat's roots in one cut). By AI agents, Wed Nov 11 2026. No macro, syntax, notation, axiom, sorry.
-/
import Derived.Test.YtanglpjledfbmaaChecked
import GoSem.Claim
import GoSem.ClaimJoined
import GoSem.ClaimMapViews
import Derived.JoinedTies
import Derived.KernelRfl
namespace Go.Proofs.Ytanglpjledfbmaa
/- THE CELL 'sum', in the pinned program and in every row, IS THE sha256 OF THE DUMP (.gsa) THAT YtanglpjledfbmaaProg.lean LOADS. Nothing in Lean hashes anything: it is a label: what it is worth is what the hold of that sum in a sandbox is worth. -/
noncomputable def Try.pinned : Pinned := { name := "ytanglpjledfbmaa", sum := "f1f48395946b7ebfe32bbe607f977104df9ee9e812671f1c76f1c8994f528934", checked := Try.checked }
namespace Rows
def none {H : Type} : Left H := { results := [], args := [] }

/-- 'volutelaw06.SymbolExact': WHATEVER THE INPUT: true; the input reads as it did. -/
def symbolExactSpec : ChangeSpec := { name := "symbolExact", fn := fun _ => fun
  | [d1, d2] => { results := [.lit (.bool true)], args := [d1, d2] }
  | _ => none }
def symbolExactRow : OpenClaim := { program := "ytanglpjledfbmaa", sum := "f1f48395946b7ebfe32bbe607f977104df9ee9e812671f1c76f1c8994f528934", func := "volute/volutelaw06.SymbolExact", spec := "symbolExact", apart := false }
def SymbolExactSaid : Prop := symbolExactRow.holds Try.pinned (OpenSpec.ofChange symbolExactSpec)

/-- ITS FALSE NEIGHBOUR: 'it returns false'. Refute it at one input. -/
def symbolExactWrong : ChangeSpec := { name := "symbolExact", fn := fun _ => fun
  | [d1, d2] => { results := [.lit (.bool false)], args := [d1, d2] }
  | _ => none }
def SymbolExactWrongFalsely : Prop := symbolExactRow.holds Try.pinned (OpenSpec.ofChange symbolExactWrong)

/-- 'volutelaw06.SymbolStates': WHATEVER THE INPUT: true; the input reads as it did. -/
def symbolStatesSpec : ChangeSpec := { name := "symbolStates", fn := fun _ => fun
  | [d1, d2] => { results := [.lit (.bool true)], args := [d1, d2] }
  | _ => none }
def symbolStatesRow : OpenClaim := { program := "ytanglpjledfbmaa", sum := "f1f48395946b7ebfe32bbe607f977104df9ee9e812671f1c76f1c8994f528934", func := "volute/volutelaw06.SymbolStates", spec := "symbolStates", apart := false }
def SymbolStatesSaid : Prop := symbolStatesRow.holds Try.pinned (OpenSpec.ofChange symbolStatesSpec)

/-- ITS FALSE NEIGHBOUR: 'it returns false'. Refute it at one input. -/
def symbolStatesWrong : ChangeSpec := { name := "symbolStates", fn := fun _ => fun
  | [d1, d2] => { results := [.lit (.bool false)], args := [d1, d2] }
  | _ => none }
def SymbolStatesWrongFalsely : Prop := symbolStatesRow.holds Try.pinned (OpenSpec.ofChange symbolStatesWrong)

/-- 'volutelaw06.SymbolUnlike': WHATEVER THE INPUT: true; the input reads as it did. -/
def symbolUnlikeSpec : ChangeSpec := { name := "symbolUnlike", fn := fun _ => fun
  | [d1, d2, d3] => { results := [.lit (.bool true)], args := [d1, d2, d3] }
  | _ => none }
def symbolUnlikeRow : OpenClaim := { program := "ytanglpjledfbmaa", sum := "f1f48395946b7ebfe32bbe607f977104df9ee9e812671f1c76f1c8994f528934", func := "volute/volutelaw06.SymbolUnlike", spec := "symbolUnlike", apart := false }
def SymbolUnlikeSaid : Prop := symbolUnlikeRow.holds Try.pinned (OpenSpec.ofChange symbolUnlikeSpec)

/-- ITS FALSE NEIGHBOUR: 'it returns false'. Refute it at one input. -/
def symbolUnlikeWrong : ChangeSpec := { name := "symbolUnlike", fn := fun _ => fun
  | [d1, d2, d3] => { results := [.lit (.bool false)], args := [d1, d2, d3] }
  | _ => none }
def SymbolUnlikeWrongFalsely : Prop := symbolUnlikeRow.holds Try.pinned (OpenSpec.ofChange symbolUnlikeWrong)

/- THE SECOND FORM. 'bulk': how many values and letters a reading holds, each counted each time it is reached (what is shared counts as often as it is met; a slice's spare places count too). A statement '..UptoSaid' is the law's where the arguments, and the package variables that the reading takes, are together of bulk at most 1048576: NARROWER than '..Said'. Prove '..Said' where nothing that the law and all that it calls make is longer than what came in: it says more and counts as full. Else prove '..UptoSaid'. A law counts once. -/
mutual
def uptoBulk {H : Type} : DataW H → Nat
  | .lit (.string bytes) => bytes.length + 1
  | .lit _ => 1
  | .nil => 1
  | .ptr d => uptoBulk d + 1
  | .slice elems spare => uptoBulkAll elems + uptoBulkAll spare + 1
  | .agg parts => uptoBulkAll parts + 1
  | .iface _ d => uptoBulk d + 1
  | .map entries => uptoBulkEntries entries + 1
  | .held _ => 1
def uptoBulkAll {H : Type} : List (DataW H) → Nat
  | [] => 0
  | d :: r => uptoBulk d + uptoBulkAll r
def uptoBulkEntries {H : Type} : List (Lit × DataW H) → Nat
  | [] => 0
  | x :: r => uptoBulkEntry x + uptoBulkEntries r
def uptoBulkEntry {H : Type} : Lit × DataW H → Nat
  | (.string bytes, d) => bytes.length + uptoBulk d + 1
  | (_, d) => uptoBulk d + 1
 end
def uptoSmall : (H : Type) → List (DataW H) → Bool := fun _ ds => decide (uptoBulkAll ds ≤ 1048576)
def OpenSpec.upto (s : _root_.Go.ChangeSpec) : _root_.Go.OpenSpec := { _root_.Go.OpenSpec.ofChange s with cond := some uptoSmall }

/-- 'volutelaw06.SymbolExact', WHERE WHAT IT READS IS OF BULK AT MOST 1048576: true; the input reads as it did. -/
def symbolExactUptoRow : OpenClaim := { program := "ytanglpjledfbmaa", sum := "f1f48395946b7ebfe32bbe607f977104df9ee9e812671f1c76f1c8994f528934", func := "volute/volutelaw06.SymbolExact", spec := "symbolExact", apart := false, narrowed := true }
def SymbolExactUptoSaid : Prop := symbolExactUptoRow.holds Try.pinned (OpenSpec.upto symbolExactSpec)

/-- 'volutelaw06.SymbolStates', WHERE WHAT IT READS IS OF BULK AT MOST 1048576: true; the input reads as it did. -/
def symbolStatesUptoRow : OpenClaim := { program := "ytanglpjledfbmaa", sum := "f1f48395946b7ebfe32bbe607f977104df9ee9e812671f1c76f1c8994f528934", func := "volute/volutelaw06.SymbolStates", spec := "symbolStates", apart := false, narrowed := true }
def SymbolStatesUptoSaid : Prop := symbolStatesUptoRow.holds Try.pinned (OpenSpec.upto symbolStatesSpec)

/-- 'volutelaw06.SymbolUnlike', WHERE WHAT IT READS IS OF BULK AT MOST 1048576: true; the input reads as it did. -/
def symbolUnlikeUptoRow : OpenClaim := { program := "ytanglpjledfbmaa", sum := "f1f48395946b7ebfe32bbe607f977104df9ee9e812671f1c76f1c8994f528934", func := "volute/volutelaw06.SymbolUnlike", spec := "symbolUnlike", apart := false, narrowed := true }
def SymbolUnlikeUptoSaid : Prop := symbolUnlikeUptoRow.holds Try.pinned (OpenSpec.upto symbolUnlikeSpec)

end Rows
end Go.Proofs.Ytanglpjledfbmaa
