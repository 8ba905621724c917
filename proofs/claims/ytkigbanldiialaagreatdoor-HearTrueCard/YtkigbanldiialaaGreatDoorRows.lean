/-
  NARROWER THAN 'FOR EVERY INPUT', by the rows' own cells (each row's printed sentence says how): HearTrue: laid · HearFour: laid · HearBounds: laid.
  DERIVED. THE GIVEN ROWS OF THIS SEAT. 3 by the template 'for every input the law returns true; each argument reads behind the call as it read before'; 0 by the template 'total and deterministic' (their statements: YtkigbanldiialaaGreatDoorTotals.lean).
  GIVEN WITH THE SEED: the statements are not yours to turn. If you find one false, say at which input.
  Laid BY PROGRAM, IN A SANDBOX (cutbox-rows.mjs): the forced cells as the released guide's own fill.sh prints them over the translation 89fade36b020865b… (all of the seat's roots in one cut). By AI agents, Wed Nov 11 2026. No macro, syntax, notation, axiom, sorry.
-/
import Derived.Test.YtkigbanldiialaaGreatDoorChecked
import GoSem.Claim
import GoSem.ClaimJoined
import GoSem.ClaimMapViews
import Derived.JoinedTies
import Derived.KernelRfl
namespace Go.Proofs.YtkigbanldiialaaGreatDoor
/- THE CELL 'sum', in the pinned program and in every row, IS THE sha256 OF THE DUMP (.gsa) THAT YtkigbanldiialaaGreatDoorProg.lean LOADS. Nothing in Lean hashes anything: it is a label: what it is worth is what the hold of that sum in a sandbox is worth. -/
noncomputable def Tryz.pinned : Pinned := { name := "ytkigbanldiialaagreatdoor", sum := "89fade36b020865bc26316088aa78d6ec1857896295960bba0a8b418d2da851f", checked := Tryz.checked }
namespace Rows
def none {H : Type} : Left H := { results := [], args := [] }

/- WHAT THE LISTED PACKAGE-LEVEL VARIABLES READ AS WHEN THE CALL BEGINS. Each datum BY PROGRAM (the guide's laid-datum.mjs) off the statement by which the dump's own 'gosem.cut.vars' lays the variable. In a bare row this is a premise. The card (YtkigbanldiialaaGreatDoorCards.lean) ties it to the program's text. -/
def laid_volute_sched_firsts {H : Type} : DataW H := .agg [.lit (.int .i64 0), .lit (.int .i64 4), .lit (.int .i64 2), .lit (.int .i64 6), .lit (.int .i64 1), .lit (.int .i64 5), .lit (.int .i64 3), .lit (.int .i64 7)]

/-- 'volutelaw19.HearTrue': WHATEVER THE INPUT: true; the input reads as it did. -/
def hearTrueSpec : ChangeSpec := { name := "hearTrue", fn := fun _ => fun
  | [d1, d2, d3] => { results := [.lit (.bool true)], args := [d1, d2, d3] }
  | _ => none }
def hearTrueRow : OpenClaim := { program := "ytkigbanldiialaagreatdoor", sum := "89fade36b020865bc26316088aa78d6ec1857896295960bba0a8b418d2da851f", func := "volute/volutelaw19.HearTrue", spec := "hearTrue", unfollowed := true, recurses := true, named := ["volute/sched.firsts"], apart := false, laid := [("volute/sched.firsts", laid_volute_sched_firsts)] }
def HearTrueSaid : Prop := hearTrueRow.holds Tryz.pinned (OpenSpec.ofChange hearTrueSpec)

/-- ITS FALSE NEIGHBOUR: 'it returns false'. Refute it at one input. -/
def hearTrueWrong : ChangeSpec := { name := "hearTrue", fn := fun _ => fun
  | [d1, d2, d3] => { results := [.lit (.bool false)], args := [d1, d2, d3] }
  | _ => none }
def HearTrueWrongFalsely : Prop := hearTrueRow.holds Tryz.pinned (OpenSpec.ofChange hearTrueWrong)

/-- 'volutelaw19.HearFour': WHATEVER THE INPUT: true; the input reads as it did. -/
def hearFourSpec : ChangeSpec := { name := "hearFour", fn := fun _ => fun
  | [d1, d2, d3, d4] => { results := [.lit (.bool true)], args := [d1, d2, d3, d4] }
  | _ => none }
def hearFourRow : OpenClaim := { program := "ytkigbanldiialaagreatdoor", sum := "89fade36b020865bc26316088aa78d6ec1857896295960bba0a8b418d2da851f", func := "volute/volutelaw19.HearFour", spec := "hearFour", unfollowed := true, recurses := true, named := ["volute/sched.firsts"], apart := false, laid := [("volute/sched.firsts", laid_volute_sched_firsts)] }
def HearFourSaid : Prop := hearFourRow.holds Tryz.pinned (OpenSpec.ofChange hearFourSpec)

/-- ITS FALSE NEIGHBOUR: 'it returns false'. Refute it at one input. -/
def hearFourWrong : ChangeSpec := { name := "hearFour", fn := fun _ => fun
  | [d1, d2, d3, d4] => { results := [.lit (.bool false)], args := [d1, d2, d3, d4] }
  | _ => none }
def HearFourWrongFalsely : Prop := hearFourRow.holds Tryz.pinned (OpenSpec.ofChange hearFourWrong)

/-- 'volutelaw19.HearBounds': WHATEVER THE INPUT: true; the input reads as it did. -/
def hearBoundsSpec : ChangeSpec := { name := "hearBounds", fn := fun _ => fun
  | [d1, d2, d3, d4, d5] => { results := [.lit (.bool true)], args := [d1, d2, d3, d4, d5] }
  | _ => none }
def hearBoundsRow : OpenClaim := { program := "ytkigbanldiialaagreatdoor", sum := "89fade36b020865bc26316088aa78d6ec1857896295960bba0a8b418d2da851f", func := "volute/volutelaw19.HearBounds", spec := "hearBounds", unfollowed := true, recurses := true, named := ["volute/sched.firsts"], apart := false, laid := [("volute/sched.firsts", laid_volute_sched_firsts)] }
def HearBoundsSaid : Prop := hearBoundsRow.holds Tryz.pinned (OpenSpec.ofChange hearBoundsSpec)

/-- ITS FALSE NEIGHBOUR: 'it returns false'. Refute it at one input. -/
def hearBoundsWrong : ChangeSpec := { name := "hearBounds", fn := fun _ => fun
  | [d1, d2, d3, d4, d5] => { results := [.lit (.bool false)], args := [d1, d2, d3, d4, d5] }
  | _ => none }
def HearBoundsWrongFalsely : Prop := hearBoundsRow.holds Tryz.pinned (OpenSpec.ofChange hearBoundsWrong)

/- THE SECOND FORM. 'bulk': how many values and letters a reading holds, each counted each time it is reached (what is shared counts as often as it is met; a slice's spare places count too). A statement '..UptoSaid' is the law's where the arguments, and the package variables that the reading takes, are together of bulk at most 1048576: NARROWER than '..Said'. Prove '..Said' where nothing that the law and all that it calls make is longer than what came in: it says more and counts as full. Else prove '..UptoSaid'. A law counts once. -/
mutual
def uptoBulk {H : Type} : DataW H → Nat
  | .lit (.string bytes) => bytes.length + 1
  | .lit _ => 1
  | .nil => 1
  | .ptr d => uptoBulk d + 1
  | .slice elems spare => uptoBulkAll elems + uptoBulkAll spare + 1
  | .agg parts => uptoBulkAll parts + 1
  | .iface _ d => uptoBulk d + 1
  | .map entries => uptoBulkEntries entries + 1
  | .held _ => 1
def uptoBulkAll {H : Type} : List (DataW H) → Nat
  | [] => 0
  | d :: r => uptoBulk d + uptoBulkAll r
def uptoBulkEntries {H : Type} : List (Lit × DataW H) → Nat
  | [] => 0
  | x :: r => uptoBulkEntry x + uptoBulkEntries r
def uptoBulkEntry {H : Type} : Lit × DataW H → Nat
  | (.string bytes, d) => bytes.length + uptoBulk d + 1
  | (_, d) => uptoBulk d + 1
 end
def uptoSmall : (H : Type) → List (DataW H) → Bool := fun _ ds => decide (uptoBulkAll ds ≤ 1048576)
def OpenSpec.upto (s : _root_.Go.ChangeSpec) : _root_.Go.OpenSpec := { _root_.Go.OpenSpec.ofChange s with cond := some uptoSmall }

/-- 'volutelaw19.HearTrue', WHERE WHAT IT READS IS OF BULK AT MOST 1048576: true; the input reads as it did. -/
def hearTrueUptoRow : OpenClaim := { program := "ytkigbanldiialaagreatdoor", sum := "89fade36b020865bc26316088aa78d6ec1857896295960bba0a8b418d2da851f", func := "volute/volutelaw19.HearTrue", spec := "hearTrue", unfollowed := true, recurses := true, named := ["volute/sched.firsts"], apart := false, laid := [("volute/sched.firsts", laid_volute_sched_firsts)], narrowed := true }
def HearTrueUptoSaid : Prop := hearTrueUptoRow.holds Tryz.pinned (OpenSpec.upto hearTrueSpec)

/-- 'volutelaw19.HearFour', WHERE WHAT IT READS IS OF BULK AT MOST 1048576: true; the input reads as it did. -/
def hearFourUptoRow : OpenClaim := { program := "ytkigbanldiialaagreatdoor", sum := "89fade36b020865bc26316088aa78d6ec1857896295960bba0a8b418d2da851f", func := "volute/volutelaw19.HearFour", spec := "hearFour", unfollowed := true, recurses := true, named := ["volute/sched.firsts"], apart := false, laid := [("volute/sched.firsts", laid_volute_sched_firsts)], narrowed := true }
def HearFourUptoSaid : Prop := hearFourUptoRow.holds Tryz.pinned (OpenSpec.upto hearFourSpec)

/-- 'volutelaw19.HearBounds', WHERE WHAT IT READS IS OF BULK AT MOST 1048576: true; the input reads as it did. -/
def hearBoundsUptoRow : OpenClaim := { program := "ytkigbanldiialaagreatdoor", sum := "89fade36b020865bc26316088aa78d6ec1857896295960bba0a8b418d2da851f", func := "volute/volutelaw19.HearBounds", spec := "hearBounds", unfollowed := true, recurses := true, named := ["volute/sched.firsts"], apart := false, laid := [("volute/sched.firsts", laid_volute_sched_firsts)], narrowed := true }
def HearBoundsUptoSaid : Prop := hearBoundsUptoRow.holds Tryz.pinned (OpenSpec.upto hearBoundsSpec)

end Rows
end Go.Proofs.YtkigbanldiialaaGreatDoor
