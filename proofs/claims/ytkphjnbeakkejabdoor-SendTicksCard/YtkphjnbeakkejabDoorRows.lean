/-
  NARROWER THAN 'FOR EVERY INPUT', by the rows' own cells (each row's printed sentence says how): SendBlocks: laid · SendTicks: laid.
  DERIVED. THE GIVEN ROWS OF THIS SEAT. 2 by the template 'for every input the law returns true; each argument reads behind the call as it read before'; 0 by the template 'total and deterministic' (their statements: YtkphjnbeakkejabDoorTotals.lean).
  GIVEN WITH THE SEED: the statements are not yours to turn. If you find one false, say at which input.
  Laid BY PROGRAM, IN A SANDBOX (cutbox-rows.mjs): the forced cells as the released guide's own fill.sh prints them over the translation 530ed5ac4d975b39… (all of the seat's roots in one cut). By AI agents, Wed Nov 11 2026. No macro, syntax, notation, axiom, sorry.
-/
import Derived.Test.YtkphjnbeakkejabDoorChecked
import GoSem.Claim
import GoSem.ClaimJoined
import GoSem.ClaimMapViews
import Derived.JoinedTies
import Derived.KernelRfl
namespace Go.Proofs.YtkphjnbeakkejabDoor
/- THE CELL 'sum', in the pinned program and in every row, IS THE sha256 OF THE DUMP (.gsa) THAT YtkphjnbeakkejabDoorProg.lean LOADS. Nothing in Lean hashes anything: it is a label: what it is worth is what the hold of that sum in a sandbox is worth. -/
noncomputable def Tryd.pinned : Pinned := { name := "ytkphjnbeakkejabdoor", sum := "530ed5ac4d975b39ec2bd59713e552755cce5610fc465cabe748c3515816f8ae", checked := Tryd.checked }
namespace Rows
def none {H : Type} : Left H := { results := [], args := [] }

/- WHAT THE LISTED PACKAGE-LEVEL VARIABLES READ AS WHEN THE CALL BEGINS. Each datum BY PROGRAM (the guide's laid-datum.mjs) off the statement by which the dump's own 'gosem.cut.vars' lays the variable. In a bare row this is a premise. The card (YtkphjnbeakkejabDoorCards.lean) ties it to the program's text. -/
def laid_volute_sched_firsts {H : Type} : DataW H := .agg [.lit (.int .i64 0), .lit (.int .i64 4), .lit (.int .i64 2), .lit (.int .i64 6), .lit (.int .i64 1), .lit (.int .i64 5), .lit (.int .i64 3), .lit (.int .i64 7)]

/-- 'volutelaw22.SendBlocks': WHATEVER THE INPUT: true; the input reads as it did. -/
def sendBlocksSpec : ChangeSpec := { name := "sendBlocks", fn := fun _ => fun
  | [d1, d2] => { results := [.lit (.bool true)], args := [d1, d2] }
  | _ => none }
def sendBlocksRow : OpenClaim := { program := "ytkphjnbeakkejabdoor", sum := "530ed5ac4d975b39ec2bd59713e552755cce5610fc465cabe748c3515816f8ae", func := "volute/volutelaw22.SendBlocks", spec := "sendBlocks", unfollowed := true, recurses := true, named := ["volute/sched.firsts"], apart := false, laid := [("volute/sched.firsts", laid_volute_sched_firsts)] }
def SendBlocksSaid : Prop := sendBlocksRow.holds Tryd.pinned (OpenSpec.ofChange sendBlocksSpec)

/-- ITS FALSE NEIGHBOUR: 'it returns false'. Refute it at one input. -/
def sendBlocksWrong : ChangeSpec := { name := "sendBlocks", fn := fun _ => fun
  | [d1, d2] => { results := [.lit (.bool false)], args := [d1, d2] }
  | _ => none }
def SendBlocksWrongFalsely : Prop := sendBlocksRow.holds Tryd.pinned (OpenSpec.ofChange sendBlocksWrong)

/-- 'volutelaw22.SendTicks': WHATEVER THE INPUT: true; the input reads as it did. -/
def sendTicksSpec : ChangeSpec := { name := "sendTicks", fn := fun _ => fun
  | [d1, d2, d3, d4] => { results := [.lit (.bool true)], args := [d1, d2, d3, d4] }
  | _ => none }
def sendTicksRow : OpenClaim := { program := "ytkphjnbeakkejabdoor", sum := "530ed5ac4d975b39ec2bd59713e552755cce5610fc465cabe748c3515816f8ae", func := "volute/volutelaw22.SendTicks", spec := "sendTicks", unfollowed := true, recurses := true, named := ["volute/sched.firsts"], apart := false, laid := [("volute/sched.firsts", laid_volute_sched_firsts)] }
def SendTicksSaid : Prop := sendTicksRow.holds Tryd.pinned (OpenSpec.ofChange sendTicksSpec)

/-- ITS FALSE NEIGHBOUR: 'it returns false'. Refute it at one input. -/
def sendTicksWrong : ChangeSpec := { name := "sendTicks", fn := fun _ => fun
  | [d1, d2, d3, d4] => { results := [.lit (.bool false)], args := [d1, d2, d3, d4] }
  | _ => none }
def SendTicksWrongFalsely : Prop := sendTicksRow.holds Tryd.pinned (OpenSpec.ofChange sendTicksWrong)

/- THE SECOND FORM. 'bulk': how many values and letters a reading holds, each counted each time it is reached (what is shared counts as often as it is met; a slice's spare places count too). A statement '..UptoSaid' is the law's where the arguments, and the package variables that the reading takes, are together of bulk at most 1048576: NARROWER than '..Said'. Prove '..Said' where nothing that the law and all that it calls make is longer than what came in: it says more and counts as full. Else prove '..UptoSaid'. A law counts once. -/
mutual
def uptoBulk {H : Type} : DataW H → Nat
  | .lit (.string bytes) => bytes.length + 1
  | .lit _ => 1
  | .nil => 1
  | .ptr d => uptoBulk d + 1
  | .slice elems spare => uptoBulkAll elems + uptoBulkAll spare + 1
  | .agg parts => uptoBulkAll parts + 1
  | .iface _ d => uptoBulk d + 1
  | .map entries => uptoBulkEntries entries + 1
  | .held _ => 1
def uptoBulkAll {H : Type} : List (DataW H) → Nat
  | [] => 0
  | d :: r => uptoBulk d + uptoBulkAll r
def uptoBulkEntries {H : Type} : List (Lit × DataW H) → Nat
  | [] => 0
  | x :: r => uptoBulkEntry x + uptoBulkEntries r
def uptoBulkEntry {H : Type} : Lit × DataW H → Nat
  | (.string bytes, d) => bytes.length + uptoBulk d + 1
  | (_, d) => uptoBulk d + 1
 end
def uptoSmall : (H : Type) → List (DataW H) → Bool := fun _ ds => decide (uptoBulkAll ds ≤ 1048576)
def OpenSpec.upto (s : _root_.Go.ChangeSpec) : _root_.Go.OpenSpec := { _root_.Go.OpenSpec.ofChange s with cond := some uptoSmall }

/-- 'volutelaw22.SendBlocks', WHERE WHAT IT READS IS OF BULK AT MOST 1048576: true; the input reads as it did. -/
def sendBlocksUptoRow : OpenClaim := { program := "ytkphjnbeakkejabdoor", sum := "530ed5ac4d975b39ec2bd59713e552755cce5610fc465cabe748c3515816f8ae", func := "volute/volutelaw22.SendBlocks", spec := "sendBlocks", unfollowed := true, recurses := true, named := ["volute/sched.firsts"], apart := false, laid := [("volute/sched.firsts", laid_volute_sched_firsts)], narrowed := true }
def SendBlocksUptoSaid : Prop := sendBlocksUptoRow.holds Tryd.pinned (OpenSpec.upto sendBlocksSpec)

/-- 'volutelaw22.SendTicks', WHERE WHAT IT READS IS OF BULK AT MOST 1048576: true; the input reads as it did. -/
def sendTicksUptoRow : OpenClaim := { program := "ytkphjnbeakkejabdoor", sum := "530ed5ac4d975b39ec2bd59713e552755cce5610fc465cabe748c3515816f8ae", func := "volute/volutelaw22.SendTicks", spec := "sendTicks", unfollowed := true, recurses := true, named := ["volute/sched.firsts"], apart := false, laid := [("volute/sched.firsts", laid_volute_sched_firsts)], narrowed := true }
def SendTicksUptoSaid : Prop := sendTicksUptoRow.holds Tryd.pinned (OpenSpec.upto sendTicksSpec)

end Rows
end Go.Proofs.YtkphjnbeakkejabDoor
