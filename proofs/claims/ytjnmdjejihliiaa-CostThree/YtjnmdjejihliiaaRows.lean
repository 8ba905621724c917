/-
  No cell of these rows narrows 'for every input' (looked for: loops, veiled, ifaces, maps, wideKeys, modest, calm, conditions, laid).
  DERIVED. THE GIVEN ROWS OF THIS SEAT. 3 by the template 'for every input the law returns true; each argument reads behind the call as it read before'; 0 by the template 'total and deterministic' (their statements: YtjnmdjejihliiaaTotals.lean).
  GIVEN WITH THE SEED: the statements are not yours to turn. If you find one false, say at which input.
  Laid BY PROGRAM, IN A SANDBOX (cutbox-rows.mjs): the forced cells as the released guide's own fill.sh prints them over the translation 5059db53e297ff91… (all of the seat's roots in one cut). By AI agents, Wed Nov 11 2026. No macro, syntax, notation, axiom, sorry.
-/
import Derived.Test.YtjnmdjejihliiaaChecked
import GoSem.Claim
import GoSem.ClaimJoined
import GoSem.ClaimMapViews
import Derived.JoinedTies
import Derived.KernelRfl
namespace Go.Proofs.Ytjnmdjejihliiaa
/- THE CELL 'sum', in the pinned program and in every row, IS THE sha256 OF THE DUMP (.gsa) THAT YtjnmdjejihliiaaProg.lean LOADS. Nothing in Lean hashes anything: it is a label: what it is worth is what the hold of that sum in a sandbox is worth. -/
noncomputable def Try.pinned : Pinned := { name := "ytjnmdjejihliiaa", sum := "5059db53e297ff9187815d2674c8cea6c9c0a48b7d9db93b6c9d74fb8a750009", checked := Try.checked }
namespace Rows
def none {H : Type} : Left H := { results := [], args := [] }

/-- 'volutelaw10.CostExact': WHATEVER THE INPUT: true; the input reads as it did. -/
def costExactSpec : ChangeSpec := { name := "costExact", fn := fun _ => fun
  | [d1, d2] => { results := [.lit (.bool true)], args := [d1, d2] }
  | _ => none }
def costExactRow : OpenClaim := { program := "ytjnmdjejihliiaa", sum := "5059db53e297ff9187815d2674c8cea6c9c0a48b7d9db93b6c9d74fb8a750009", func := "volute/volutelaw10.CostExact", spec := "costExact", apart := false }
def CostExactSaid : Prop := costExactRow.holds Try.pinned (OpenSpec.ofChange costExactSpec)

/-- ITS FALSE NEIGHBOUR: 'it returns false'. Refute it at one input. -/
def costExactWrong : ChangeSpec := { name := "costExact", fn := fun _ => fun
  | [d1, d2] => { results := [.lit (.bool false)], args := [d1, d2] }
  | _ => none }
def CostExactWrongFalsely : Prop := costExactRow.holds Try.pinned (OpenSpec.ofChange costExactWrong)

/-- 'volutelaw10.CostBounds': WHATEVER THE INPUT: true; the input reads as it did. -/
def costBoundsSpec : ChangeSpec := { name := "costBounds", fn := fun _ => fun
  | [d1, d2, d3, d4] => { results := [.lit (.bool true)], args := [d1, d2, d3, d4] }
  | _ => none }
def costBoundsRow : OpenClaim := { program := "ytjnmdjejihliiaa", sum := "5059db53e297ff9187815d2674c8cea6c9c0a48b7d9db93b6c9d74fb8a750009", func := "volute/volutelaw10.CostBounds", spec := "costBounds", apart := false }
def CostBoundsSaid : Prop := costBoundsRow.holds Try.pinned (OpenSpec.ofChange costBoundsSpec)

/-- ITS FALSE NEIGHBOUR: 'it returns false'. Refute it at one input. -/
def costBoundsWrong : ChangeSpec := { name := "costBounds", fn := fun _ => fun
  | [d1, d2, d3, d4] => { results := [.lit (.bool false)], args := [d1, d2, d3, d4] }
  | _ => none }
def CostBoundsWrongFalsely : Prop := costBoundsRow.holds Try.pinned (OpenSpec.ofChange costBoundsWrong)

/-- 'volutelaw10.CostThree': WHATEVER THE INPUT: true; the input reads as it did. -/
def costThreeSpec : ChangeSpec := { name := "costThree", fn := fun _ => fun
  | [d1, d2, d3, d4] => { results := [.lit (.bool true)], args := [d1, d2, d3, d4] }
  | _ => none }
def costThreeRow : OpenClaim := { program := "ytjnmdjejihliiaa", sum := "5059db53e297ff9187815d2674c8cea6c9c0a48b7d9db93b6c9d74fb8a750009", func := "volute/volutelaw10.CostThree", spec := "costThree", apart := false }
def CostThreeSaid : Prop := costThreeRow.holds Try.pinned (OpenSpec.ofChange costThreeSpec)

/-- ITS FALSE NEIGHBOUR: 'it returns false'. Refute it at one input. -/
def costThreeWrong : ChangeSpec := { name := "costThree", fn := fun _ => fun
  | [d1, d2, d3, d4] => { results := [.lit (.bool false)], args := [d1, d2, d3, d4] }
  | _ => none }
def CostThreeWrongFalsely : Prop := costThreeRow.holds Try.pinned (OpenSpec.ofChange costThreeWrong)

/- THE SECOND FORM. 'bulk': how many values and letters a reading holds, each counted each time it is reached (what is shared counts as often as it is met; a slice's spare places count too). A statement '..UptoSaid' is the law's where the arguments, and the package variables that the reading takes, are together of bulk at most 1048576: NARROWER than '..Said'. Prove '..Said' where nothing that the law and all that it calls make is longer than what came in: it says more and counts as full. Else prove '..UptoSaid'. A law counts once. -/
mutual
def uptoBulk {H : Type} : DataW H → Nat
  | .lit (.string bytes) => bytes.length + 1
  | .lit _ => 1
  | .nil => 1
  | .ptr d => uptoBulk d + 1
  | .slice elems spare => uptoBulkAll elems + uptoBulkAll spare + 1
  | .agg parts => uptoBulkAll parts + 1
  | .iface _ d => uptoBulk d + 1
  | .map entries => uptoBulkEntries entries + 1
  | .held _ => 1
def uptoBulkAll {H : Type} : List (DataW H) → Nat
  | [] => 0
  | d :: r => uptoBulk d + uptoBulkAll r
def uptoBulkEntries {H : Type} : List (Lit × DataW H) → Nat
  | [] => 0
  | x :: r => uptoBulkEntry x + uptoBulkEntries r
def uptoBulkEntry {H : Type} : Lit × DataW H → Nat
  | (.string bytes, d) => bytes.length + uptoBulk d + 1
  | (_, d) => uptoBulk d + 1
 end
def uptoSmall : (H : Type) → List (DataW H) → Bool := fun _ ds => decide (uptoBulkAll ds ≤ 1048576)
def OpenSpec.upto (s : _root_.Go.ChangeSpec) : _root_.Go.OpenSpec := { _root_.Go.OpenSpec.ofChange s with cond := some uptoSmall }

/-- 'volutelaw10.CostExact', WHERE WHAT IT READS IS OF BULK AT MOST 1048576: true; the input reads as it did. -/
def costExactUptoRow : OpenClaim := { program := "ytjnmdjejihliiaa", sum := "5059db53e297ff9187815d2674c8cea6c9c0a48b7d9db93b6c9d74fb8a750009", func := "volute/volutelaw10.CostExact", spec := "costExact", apart := false, narrowed := true }
def CostExactUptoSaid : Prop := costExactUptoRow.holds Try.pinned (OpenSpec.upto costExactSpec)

/-- 'volutelaw10.CostBounds', WHERE WHAT IT READS IS OF BULK AT MOST 1048576: true; the input reads as it did. -/
def costBoundsUptoRow : OpenClaim := { program := "ytjnmdjejihliiaa", sum := "5059db53e297ff9187815d2674c8cea6c9c0a48b7d9db93b6c9d74fb8a750009", func := "volute/volutelaw10.CostBounds", spec := "costBounds", apart := false, narrowed := true }
def CostBoundsUptoSaid : Prop := costBoundsUptoRow.holds Try.pinned (OpenSpec.upto costBoundsSpec)

/-- 'volutelaw10.CostThree', WHERE WHAT IT READS IS OF BULK AT MOST 1048576: true; the input reads as it did. -/
def costThreeUptoRow : OpenClaim := { program := "ytjnmdjejihliiaa", sum := "5059db53e297ff9187815d2674c8cea6c9c0a48b7d9db93b6c9d74fb8a750009", func := "volute/volutelaw10.CostThree", spec := "costThree", apart := false, narrowed := true }
def CostThreeUptoSaid : Prop := costThreeUptoRow.holds Try.pinned (OpenSpec.upto costThreeSpec)

end Rows
end Go.Proofs.Ytjnmdjejihliiaa
