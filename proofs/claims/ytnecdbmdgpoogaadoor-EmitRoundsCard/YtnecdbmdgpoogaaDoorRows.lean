/-
  NARROWER THAN 'FOR EVERY INPUT', by the rows' own cells (each row's printed sentence says how): EmitExact: laid · EmitRounds: laid · EmitBatches: laid.
  DERIVED. THE GIVEN ROWS OF THIS SEAT. 3 by the template 'for every input the law returns true; each argument reads behind the call as it read before'; 0 by the template 'total and deterministic' (their statements: YtnecdbmdgpoogaaDoorTotals.lean).
  GIVEN WITH THE SEED: the statements are not yours to turn. If you find one false, say at which input.
  Laid BY PROGRAM, IN A SANDBOX (cutbox-rows.mjs): the forced cells as the released guide's own fill.sh prints them over the translation 1ca36fc387ef085d… (all of the seat's roots in one cut). By AI agents, Wed Nov 11 2026. No macro, syntax, notation, axiom, sorry.
-/
import Derived.Test.YtnecdbmdgpoogaaDoorChecked
import GoSem.Claim
import GoSem.ClaimJoined
import GoSem.ClaimMapViews
import Derived.JoinedTies
import Derived.KernelRfl
namespace Go.Proofs.YtnecdbmdgpoogaaDoor
/- THE CELL 'sum', in the pinned program and in every row, IS THE sha256 OF THE DUMP (.gsa) THAT YtnecdbmdgpoogaaDoorProg.lean LOADS. Nothing in Lean hashes anything: it is a label: what it is worth is what the hold of that sum in a sandbox is worth. -/
noncomputable def Tryd.pinned : Pinned := { name := "ytnecdbmdgpoogaadoor", sum := "1ca36fc387ef085d21da092c2e26d68f88418db6ec428a3f0288bbdf2ec9afc6", checked := Tryd.checked }
namespace Rows
def none {H : Type} : Left H := { results := [], args := [] }

/- WHAT THE LISTED PACKAGE-LEVEL VARIABLES READ AS WHEN THE CALL BEGINS. Each datum BY PROGRAM (the guide's laid-datum.mjs) off the statement by which the dump's own 'gosem.cut.vars' lays the variable. In a bare row this is a premise. The card (YtnecdbmdgpoogaaDoorCards.lean) ties it to the program's text. -/
def laid_volute_sched_firsts {H : Type} : DataW H := .agg [.lit (.int .i64 0), .lit (.int .i64 4), .lit (.int .i64 2), .lit (.int .i64 6), .lit (.int .i64 1), .lit (.int .i64 5), .lit (.int .i64 3), .lit (.int .i64 7)]

/-- 'volutelaw18.EmitExact': WHATEVER THE INPUT: true; the input reads as it did. -/
def emitExactSpec : ChangeSpec := { name := "emitExact", fn := fun _ => fun
  | [d1, d2] => { results := [.lit (.bool true)], args := [d1, d2] }
  | _ => none }
def emitExactRow : OpenClaim := { program := "ytnecdbmdgpoogaadoor", sum := "1ca36fc387ef085d21da092c2e26d68f88418db6ec428a3f0288bbdf2ec9afc6", func := "volute/volutelaw18.EmitExact", spec := "emitExact", unfollowed := true, recurses := true, named := ["volute/sched.firsts"], apart := false, laid := [("volute/sched.firsts", laid_volute_sched_firsts)] }
def EmitExactSaid : Prop := emitExactRow.holds Tryd.pinned (OpenSpec.ofChange emitExactSpec)

/-- ITS FALSE NEIGHBOUR: 'it returns false'. Refute it at one input. -/
def emitExactWrong : ChangeSpec := { name := "emitExact", fn := fun _ => fun
  | [d1, d2] => { results := [.lit (.bool false)], args := [d1, d2] }
  | _ => none }
def EmitExactWrongFalsely : Prop := emitExactRow.holds Tryd.pinned (OpenSpec.ofChange emitExactWrong)

/-- 'volutelaw18.EmitRounds': WHATEVER THE INPUT: true; the input reads as it did. -/
def emitRoundsSpec : ChangeSpec := { name := "emitRounds", fn := fun _ => fun
  | [d1, d2, d3, d4] => { results := [.lit (.bool true)], args := [d1, d2, d3, d4] }
  | _ => none }
def emitRoundsRow : OpenClaim := { program := "ytnecdbmdgpoogaadoor", sum := "1ca36fc387ef085d21da092c2e26d68f88418db6ec428a3f0288bbdf2ec9afc6", func := "volute/volutelaw18.EmitRounds", spec := "emitRounds", unfollowed := true, recurses := true, named := ["volute/sched.firsts"], apart := false, laid := [("volute/sched.firsts", laid_volute_sched_firsts)] }
def EmitRoundsSaid : Prop := emitRoundsRow.holds Tryd.pinned (OpenSpec.ofChange emitRoundsSpec)

/-- ITS FALSE NEIGHBOUR: 'it returns false'. Refute it at one input. -/
def emitRoundsWrong : ChangeSpec := { name := "emitRounds", fn := fun _ => fun
  | [d1, d2, d3, d4] => { results := [.lit (.bool false)], args := [d1, d2, d3, d4] }
  | _ => none }
def EmitRoundsWrongFalsely : Prop := emitRoundsRow.holds Tryd.pinned (OpenSpec.ofChange emitRoundsWrong)

/-- 'volutelaw18.EmitBatches': WHATEVER THE INPUT: true; the input reads as it did. -/
def emitBatchesSpec : ChangeSpec := { name := "emitBatches", fn := fun _ => fun
  | [d1, d2, d3] => { results := [.lit (.bool true)], args := [d1, d2, d3] }
  | _ => none }
def emitBatchesRow : OpenClaim := { program := "ytnecdbmdgpoogaadoor", sum := "1ca36fc387ef085d21da092c2e26d68f88418db6ec428a3f0288bbdf2ec9afc6", func := "volute/volutelaw18.EmitBatches", spec := "emitBatches", unfollowed := true, recurses := true, named := ["volute/sched.firsts"], apart := false, laid := [("volute/sched.firsts", laid_volute_sched_firsts)] }
def EmitBatchesSaid : Prop := emitBatchesRow.holds Tryd.pinned (OpenSpec.ofChange emitBatchesSpec)

/-- ITS FALSE NEIGHBOUR: 'it returns false'. Refute it at one input. -/
def emitBatchesWrong : ChangeSpec := { name := "emitBatches", fn := fun _ => fun
  | [d1, d2, d3] => { results := [.lit (.bool false)], args := [d1, d2, d3] }
  | _ => none }
def EmitBatchesWrongFalsely : Prop := emitBatchesRow.holds Tryd.pinned (OpenSpec.ofChange emitBatchesWrong)

/- THE SECOND FORM. 'bulk': how many values and letters a reading holds, each counted each time it is reached (what is shared counts as often as it is met; a slice's spare places count too). A statement '..UptoSaid' is the law's where the arguments, and the package variables that the reading takes, are together of bulk at most 1048576: NARROWER than '..Said'. Prove '..Said' where nothing that the law and all that it calls make is longer than what came in: it says more and counts as full. Else prove '..UptoSaid'. A law counts once. -/
mutual
def uptoBulk {H : Type} : DataW H → Nat
  | .lit (.string bytes) => bytes.length + 1
  | .lit _ => 1
  | .nil => 1
  | .ptr d => uptoBulk d + 1
  | .slice elems spare => uptoBulkAll elems + uptoBulkAll spare + 1
  | .agg parts => uptoBulkAll parts + 1
  | .iface _ d => uptoBulk d + 1
  | .map entries => uptoBulkEntries entries + 1
  | .held _ => 1
def uptoBulkAll {H : Type} : List (DataW H) → Nat
  | [] => 0
  | d :: r => uptoBulk d + uptoBulkAll r
def uptoBulkEntries {H : Type} : List (Lit × DataW H) → Nat
  | [] => 0
  | x :: r => uptoBulkEntry x + uptoBulkEntries r
def uptoBulkEntry {H : Type} : Lit × DataW H → Nat
  | (.string bytes, d) => bytes.length + uptoBulk d + 1
  | (_, d) => uptoBulk d + 1
 end
def uptoSmall : (H : Type) → List (DataW H) → Bool := fun _ ds => decide (uptoBulkAll ds ≤ 1048576)
def OpenSpec.upto (s : _root_.Go.ChangeSpec) : _root_.Go.OpenSpec := { _root_.Go.OpenSpec.ofChange s with cond := some uptoSmall }

/-- 'volutelaw18.EmitExact', WHERE WHAT IT READS IS OF BULK AT MOST 1048576: true; the input reads as it did. -/
def emitExactUptoRow : OpenClaim := { program := "ytnecdbmdgpoogaadoor", sum := "1ca36fc387ef085d21da092c2e26d68f88418db6ec428a3f0288bbdf2ec9afc6", func := "volute/volutelaw18.EmitExact", spec := "emitExact", unfollowed := true, recurses := true, named := ["volute/sched.firsts"], apart := false, laid := [("volute/sched.firsts", laid_volute_sched_firsts)], narrowed := true }
def EmitExactUptoSaid : Prop := emitExactUptoRow.holds Tryd.pinned (OpenSpec.upto emitExactSpec)

/-- 'volutelaw18.EmitRounds', WHERE WHAT IT READS IS OF BULK AT MOST 1048576: true; the input reads as it did. -/
def emitRoundsUptoRow : OpenClaim := { program := "ytnecdbmdgpoogaadoor", sum := "1ca36fc387ef085d21da092c2e26d68f88418db6ec428a3f0288bbdf2ec9afc6", func := "volute/volutelaw18.EmitRounds", spec := "emitRounds", unfollowed := true, recurses := true, named := ["volute/sched.firsts"], apart := false, laid := [("volute/sched.firsts", laid_volute_sched_firsts)], narrowed := true }
def EmitRoundsUptoSaid : Prop := emitRoundsUptoRow.holds Tryd.pinned (OpenSpec.upto emitRoundsSpec)

/-- 'volutelaw18.EmitBatches', WHERE WHAT IT READS IS OF BULK AT MOST 1048576: true; the input reads as it did. -/
def emitBatchesUptoRow : OpenClaim := { program := "ytnecdbmdgpoogaadoor", sum := "1ca36fc387ef085d21da092c2e26d68f88418db6ec428a3f0288bbdf2ec9afc6", func := "volute/volutelaw18.EmitBatches", spec := "emitBatches", unfollowed := true, recurses := true, named := ["volute/sched.firsts"], apart := false, laid := [("volute/sched.firsts", laid_volute_sched_firsts)], narrowed := true }
def EmitBatchesUptoSaid : Prop := emitBatchesUptoRow.holds Tryd.pinned (OpenSpec.upto emitBatchesSpec)

end Rows
end Go.Proofs.YtnecdbmdgpoogaaDoor
