/-
  NARROWER THAN 'FOR EVERY INPUT', by the rows' own cells (each row's printed sentence says how): HearExact: laid.
  DERIVED. THE GIVEN ROWS OF THIS SEAT. 1 by the template 'for every input the law returns true; each argument reads behind the call as it read before'; 0 by the template 'total and deterministic' (their statements: YtabdnhkdoeibnaaGreatDoorTotals.lean).
  GIVEN WITH THE SEED: the statements are not yours to turn. If you find one false, say at which input.
  Laid BY PROGRAM, IN A SANDBOX (cutbox-rows.mjs): the forced cells as the released guide's own fill.sh prints them over the translation 5ce0f7f62756e5ad… (all of the seat's roots in one cut). By AI agents, Wed Nov 11 2026. No macro, syntax, notation, axiom, sorry.
-/
import Derived.Test.YtabdnhkdoeibnaaGreatDoorChecked
import GoSem.Claim
import GoSem.ClaimJoined
import GoSem.ClaimMapViews
import Derived.JoinedTies
import Derived.KernelRfl
namespace Go.Proofs.YtabdnhkdoeibnaaGreatDoor
/- THE CELL 'sum', in the pinned program and in every row, IS THE sha256 OF THE DUMP (.gsa) THAT YtabdnhkdoeibnaaGreatDoorProg.lean LOADS. Nothing in Lean hashes anything: it is a label: what it is worth is what the hold of that sum in a sandbox is worth. -/
noncomputable def Tryz.pinned : Pinned := { name := "ytabdnhkdoeibnaagreatdoor", sum := "5ce0f7f62756e5ade00662ff236feb106a018ca333e7d8688fb0e504dd7feb6d", checked := Tryz.checked }
namespace Rows
def none {H : Type} : Left H := { results := [], args := [] }

/- WHAT THE LISTED PACKAGE-LEVEL VARIABLES READ AS WHEN THE CALL BEGINS. Each datum BY PROGRAM (the guide's laid-datum.mjs) off the statement by which the dump's own 'gosem.cut.vars' lays the variable. In a bare row this is a premise. The card (YtabdnhkdoeibnaaGreatDoorCards.lean) ties it to the program's text. -/
def laid_volute_sched_firsts {H : Type} : DataW H := .agg [.lit (.int .i64 0), .lit (.int .i64 4), .lit (.int .i64 2), .lit (.int .i64 6), .lit (.int .i64 1), .lit (.int .i64 5), .lit (.int .i64 3), .lit (.int .i64 7)]

/-- 'volutelaw19.HearExact': WHATEVER THE INPUT: true; the input reads as it did. -/
def hearExactSpec : ChangeSpec := { name := "hearExact", fn := fun _ => fun
  | [d1, d2, d3, d4] => { results := [.lit (.bool true)], args := [d1, d2, d3, d4] }
  | _ => none }
def hearExactRow : OpenClaim := { program := "ytabdnhkdoeibnaagreatdoor", sum := "5ce0f7f62756e5ade00662ff236feb106a018ca333e7d8688fb0e504dd7feb6d", func := "volute/volutelaw19.HearExact", spec := "hearExact", unfollowed := true, recurses := true, named := ["volute/sched.firsts"], apart := false, laid := [("volute/sched.firsts", laid_volute_sched_firsts)] }
def HearExactSaid : Prop := hearExactRow.holds Tryz.pinned (OpenSpec.ofChange hearExactSpec)

/-- ITS FALSE NEIGHBOUR: 'it returns false'. Refute it at one input. -/
def hearExactWrong : ChangeSpec := { name := "hearExact", fn := fun _ => fun
  | [d1, d2, d3, d4] => { results := [.lit (.bool false)], args := [d1, d2, d3, d4] }
  | _ => none }
def HearExactWrongFalsely : Prop := hearExactRow.holds Tryz.pinned (OpenSpec.ofChange hearExactWrong)

/- THE SECOND FORM. 'bulk': how many values and letters a reading holds, each counted each time it is reached (what is shared counts as often as it is met; a slice's spare places count too). A statement '..UptoSaid' is the law's where the arguments, and the package variables that the reading takes, are together of bulk at most 1048576: NARROWER than '..Said'. Prove '..Said' where nothing that the law and all that it calls make is longer than what came in: it says more and counts as full. Else prove '..UptoSaid'. A law counts once. -/
mutual
def uptoBulk {H : Type} : DataW H → Nat
  | .lit (.string bytes) => bytes.length + 1
  | .lit _ => 1
  | .nil => 1
  | .ptr d => uptoBulk d + 1
  | .slice elems spare => uptoBulkAll elems + uptoBulkAll spare + 1
  | .agg parts => uptoBulkAll parts + 1
  | .iface _ d => uptoBulk d + 1
  | .map entries => uptoBulkEntries entries + 1
  | .held _ => 1
def uptoBulkAll {H : Type} : List (DataW H) → Nat
  | [] => 0
  | d :: r => uptoBulk d + uptoBulkAll r
def uptoBulkEntries {H : Type} : List (Lit × DataW H) → Nat
  | [] => 0
  | x :: r => uptoBulkEntry x + uptoBulkEntries r
def uptoBulkEntry {H : Type} : Lit × DataW H → Nat
  | (.string bytes, d) => bytes.length + uptoBulk d + 1
  | (_, d) => uptoBulk d + 1
 end
def uptoSmall : (H : Type) → List (DataW H) → Bool := fun _ ds => decide (uptoBulkAll ds ≤ 1048576)
def OpenSpec.upto (s : _root_.Go.ChangeSpec) : _root_.Go.OpenSpec := { _root_.Go.OpenSpec.ofChange s with cond := some uptoSmall }

/-- 'volutelaw19.HearExact', WHERE WHAT IT READS IS OF BULK AT MOST 1048576: true; the input reads as it did. -/
def hearExactUptoRow : OpenClaim := { program := "ytabdnhkdoeibnaagreatdoor", sum := "5ce0f7f62756e5ade00662ff236feb106a018ca333e7d8688fb0e504dd7feb6d", func := "volute/volutelaw19.HearExact", spec := "hearExact", unfollowed := true, recurses := true, named := ["volute/sched.firsts"], apart := false, laid := [("volute/sched.firsts", laid_volute_sched_firsts)], narrowed := true }
def HearExactUptoSaid : Prop := hearExactUptoRow.holds Tryz.pinned (OpenSpec.upto hearExactSpec)

end Rows
end Go.Proofs.YtabdnhkdoeibnaaGreatDoor
