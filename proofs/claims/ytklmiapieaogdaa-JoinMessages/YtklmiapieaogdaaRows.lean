/-
  No cell of these rows narrows 'for every input' (looked for: loops, veiled, ifaces, maps, wideKeys, modest, calm, conditions, laid).
  DERIVED. THE GIVEN ROWS OF THIS SEAT. 4 by the template 'for every input the law returns true; each argument reads behind the call as it read before'; 0 by the template 'total and deterministic' (their statements: YtklmiapieaogdaaTotals.lean).
  GIVEN WITH THE SEED: the statements are not yours to turn. If you find one false, say at which input.
  Laid BY PROGRAM, IN A SANDBOX (cutbox-rows.mjs): the forced cells as the released guide's own fill.sh prints them over the translation 19679ecdb044142b… (all of the seat's roots in one cut). By AI agents, Wed Nov 11 2026. No macro, syntax, notation, axiom, sorry.
-/
import Derived.Test.YtklmiapieaogdaaChecked
import GoSem.Claim
import GoSem.ClaimJoined
import GoSem.ClaimMapViews
import Derived.JoinedTies
import Derived.KernelRfl
namespace Go.Proofs.Ytklmiapieaogdaa
/- THE CELL 'sum', in the pinned program and in every row, IS THE sha256 OF THE DUMP (.gsa) THAT YtklmiapieaogdaaProg.lean LOADS. Nothing in Lean hashes anything: it is a label: what it is worth is what the hold of that sum in a sandbox is worth. -/
noncomputable def Try.pinned : Pinned := { name := "ytklmiapieaogdaa", sum := "19679ecdb044142be77b04f7aaabf4500b1693fd9344e4f33fad3942f9fe7575", checked := Try.checked }
namespace Rows
def none {H : Type} : Left H := { results := [], args := [] }

/-- 'volutelaw21.JoinExact': WHATEVER THE INPUT: true; the input reads as it did. -/
def joinExactSpec : ChangeSpec := { name := "joinExact", fn := fun _ => fun
  | [d1, d2] => { results := [.lit (.bool true)], args := [d1, d2] }
  | _ => none }
def joinExactRow : OpenClaim := { program := "ytklmiapieaogdaa", sum := "19679ecdb044142be77b04f7aaabf4500b1693fd9344e4f33fad3942f9fe7575", func := "volute/volutelaw21.JoinExact", spec := "joinExact", apart := false }
def JoinExactSaid : Prop := joinExactRow.holds Try.pinned (OpenSpec.ofChange joinExactSpec)

/-- ITS FALSE NEIGHBOUR: 'it returns false'. Refute it at one input. -/
def joinExactWrong : ChangeSpec := { name := "joinExact", fn := fun _ => fun
  | [d1, d2] => { results := [.lit (.bool false)], args := [d1, d2] }
  | _ => none }
def JoinExactWrongFalsely : Prop := joinExactRow.holds Try.pinned (OpenSpec.ofChange joinExactWrong)

/-- 'volutelaw21.JoinMessages': WHATEVER THE INPUT: true; the input reads as it did. -/
def joinMessagesSpec : ChangeSpec := { name := "joinMessages", fn := fun _ => fun
  | [d1, d2, d3] => { results := [.lit (.bool true)], args := [d1, d2, d3] }
  | _ => none }
def joinMessagesRow : OpenClaim := { program := "ytklmiapieaogdaa", sum := "19679ecdb044142be77b04f7aaabf4500b1693fd9344e4f33fad3942f9fe7575", func := "volute/volutelaw21.JoinMessages", spec := "joinMessages", apart := false }
def JoinMessagesSaid : Prop := joinMessagesRow.holds Try.pinned (OpenSpec.ofChange joinMessagesSpec)

/-- ITS FALSE NEIGHBOUR: 'it returns false'. Refute it at one input. -/
def joinMessagesWrong : ChangeSpec := { name := "joinMessages", fn := fun _ => fun
  | [d1, d2, d3] => { results := [.lit (.bool false)], args := [d1, d2, d3] }
  | _ => none }
def JoinMessagesWrongFalsely : Prop := joinMessagesRow.holds Try.pinned (OpenSpec.ofChange joinMessagesWrong)

/-- 'volutelaw21.JoinDrops': WHATEVER THE INPUT: true; the input reads as it did. -/
def joinDropsSpec : ChangeSpec := { name := "joinDrops", fn := fun _ => fun
  | [d] => { results := [.lit (.bool true)], args := [d] }
  | _ => none }
def joinDropsRow : OpenClaim := { program := "ytklmiapieaogdaa", sum := "19679ecdb044142be77b04f7aaabf4500b1693fd9344e4f33fad3942f9fe7575", func := "volute/volutelaw21.JoinDrops", spec := "joinDrops", apart := false }
def JoinDropsSaid : Prop := joinDropsRow.holds Try.pinned (OpenSpec.ofChange joinDropsSpec)

/-- ITS FALSE NEIGHBOUR: 'it returns false'. Refute it at one input. -/
def joinDropsWrong : ChangeSpec := { name := "joinDrops", fn := fun _ => fun
  | [d] => { results := [.lit (.bool false)], args := [d] }
  | _ => none }
def JoinDropsWrongFalsely : Prop := joinDropsRow.holds Try.pinned (OpenSpec.ofChange joinDropsWrong)

/-- 'volutelaw21.JoinLong': WHATEVER THE INPUT: true; the input reads as it did. -/
def joinLongSpec : ChangeSpec := { name := "joinLong", fn := fun _ => fun
  | [d1, d2] => { results := [.lit (.bool true)], args := [d1, d2] }
  | _ => none }
def joinLongRow : OpenClaim := { program := "ytklmiapieaogdaa", sum := "19679ecdb044142be77b04f7aaabf4500b1693fd9344e4f33fad3942f9fe7575", func := "volute/volutelaw21.JoinLong", spec := "joinLong", apart := false }
def JoinLongSaid : Prop := joinLongRow.holds Try.pinned (OpenSpec.ofChange joinLongSpec)

/-- ITS FALSE NEIGHBOUR: 'it returns false'. Refute it at one input. -/
def joinLongWrong : ChangeSpec := { name := "joinLong", fn := fun _ => fun
  | [d1, d2] => { results := [.lit (.bool false)], args := [d1, d2] }
  | _ => none }
def JoinLongWrongFalsely : Prop := joinLongRow.holds Try.pinned (OpenSpec.ofChange joinLongWrong)

/- THE SECOND FORM. 'bulk': how many values and letters a reading holds, each counted each time it is reached (what is shared counts as often as it is met; a slice's spare places count too). A statement '..UptoSaid' is the law's where the arguments, and the package variables that the reading takes, are together of bulk at most 1048576: NARROWER than '..Said'. Prove '..Said' where nothing that the law and all that it calls make is longer than what came in: it says more and counts as full. Else prove '..UptoSaid'. A law counts once. -/
mutual
def uptoBulk {H : Type} : DataW H → Nat
  | .lit (.string bytes) => bytes.length + 1
  | .lit _ => 1
  | .nil => 1
  | .ptr d => uptoBulk d + 1
  | .slice elems spare => uptoBulkAll elems + uptoBulkAll spare + 1
  | .agg parts => uptoBulkAll parts + 1
  | .iface _ d => uptoBulk d + 1
  | .map entries => uptoBulkEntries entries + 1
  | .held _ => 1
def uptoBulkAll {H : Type} : List (DataW H) → Nat
  | [] => 0
  | d :: r => uptoBulk d + uptoBulkAll r
def uptoBulkEntries {H : Type} : List (Lit × DataW H) → Nat
  | [] => 0
  | x :: r => uptoBulkEntry x + uptoBulkEntries r
def uptoBulkEntry {H : Type} : Lit × DataW H → Nat
  | (.string bytes, d) => bytes.length + uptoBulk d + 1
  | (_, d) => uptoBulk d + 1
 end
def uptoSmall : (H : Type) → List (DataW H) → Bool := fun _ ds => decide (uptoBulkAll ds ≤ 1048576)
def OpenSpec.upto (s : _root_.Go.ChangeSpec) : _root_.Go.OpenSpec := { _root_.Go.OpenSpec.ofChange s with cond := some uptoSmall }

/-- 'volutelaw21.JoinExact', WHERE WHAT IT READS IS OF BULK AT MOST 1048576: true; the input reads as it did. -/
def joinExactUptoRow : OpenClaim := { program := "ytklmiapieaogdaa", sum := "19679ecdb044142be77b04f7aaabf4500b1693fd9344e4f33fad3942f9fe7575", func := "volute/volutelaw21.JoinExact", spec := "joinExact", apart := false, narrowed := true }
def JoinExactUptoSaid : Prop := joinExactUptoRow.holds Try.pinned (OpenSpec.upto joinExactSpec)

/-- 'volutelaw21.JoinMessages', WHERE WHAT IT READS IS OF BULK AT MOST 1048576: true; the input reads as it did. -/
def joinMessagesUptoRow : OpenClaim := { program := "ytklmiapieaogdaa", sum := "19679ecdb044142be77b04f7aaabf4500b1693fd9344e4f33fad3942f9fe7575", func := "volute/volutelaw21.JoinMessages", spec := "joinMessages", apart := false, narrowed := true }
def JoinMessagesUptoSaid : Prop := joinMessagesUptoRow.holds Try.pinned (OpenSpec.upto joinMessagesSpec)

/-- 'volutelaw21.JoinDrops', WHERE WHAT IT READS IS OF BULK AT MOST 1048576: true; the input reads as it did. -/
def joinDropsUptoRow : OpenClaim := { program := "ytklmiapieaogdaa", sum := "19679ecdb044142be77b04f7aaabf4500b1693fd9344e4f33fad3942f9fe7575", func := "volute/volutelaw21.JoinDrops", spec := "joinDrops", apart := false, narrowed := true }
def JoinDropsUptoSaid : Prop := joinDropsUptoRow.holds Try.pinned (OpenSpec.upto joinDropsSpec)

/-- 'volutelaw21.JoinLong', WHERE WHAT IT READS IS OF BULK AT MOST 1048576: true; the input reads as it did. -/
def joinLongUptoRow : OpenClaim := { program := "ytklmiapieaogdaa", sum := "19679ecdb044142be77b04f7aaabf4500b1693fd9344e4f33fad3942f9fe7575", func := "volute/volutelaw21.JoinLong", spec := "joinLong", apart := false, narrowed := true }
def JoinLongUptoSaid : Prop := joinLongUptoRow.holds Try.pinned (OpenSpec.upto joinLongSpec)

end Rows
end Go.Proofs.Ytklmiapieaogdaa
