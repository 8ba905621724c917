/-
  NARROWER THAN 'FOR EVERY INPUT', by the rows' own cells (each row's printed sentence says how): BeamScores: laid · BeamFirst: laid · BeamNothing: laid · BeamClaims: laid.
  DERIVED. THE GIVEN ROWS OF THIS SEAT. 4 by the template 'for every input the law returns true; each argument reads behind the call as it read before'; 0 by the template 'total and deterministic' (their statements: YtdnhnnidlangiabDoorTotals.lean).
  GIVEN WITH THE SEED: the statements are not yours to turn. If you find one false, say at which input.
  Laid BY PROGRAM, IN A SANDBOX (cutbox-rows.mjs): the forced cells as the released guide's own fill.sh prints them over the translation a9a69698b0944ee8… (all of the seat's roots in one cut). By AI agents, Wed Nov 11 2026. No macro, syntax, notation, axiom, sorry.
-/
import Derived.Test.YtdnhnnidlangiabDoorChecked
import GoSem.Claim
import GoSem.ClaimJoined
import GoSem.ClaimMapViews
import Derived.JoinedTies
import Derived.KernelRfl
namespace Go.Proofs.YtdnhnnidlangiabDoor
/- THE CELL 'sum', in the pinned program and in every row, IS THE sha256 OF THE DUMP (.gsa) THAT YtdnhnnidlangiabDoorProg.lean LOADS. Nothing in Lean hashes anything: it is a label: what it is worth is what the hold of that sum in a sandbox is worth. -/
noncomputable def Tryd.pinned : Pinned := { name := "ytdnhnnidlangiabdoor", sum := "a9a69698b0944ee89f280818ffc94d23897e319c789da4938a14f60721101de9", checked := Tryd.checked }
namespace Rows
def none {H : Type} : Left H := { results := [], args := [] }

/- WHAT THE LISTED PACKAGE-LEVEL VARIABLES READ AS WHEN THE CALL BEGINS. Each datum BY PROGRAM (the guide's laid-datum.mjs) off the statement by which the dump's own 'gosem.cut.vars' lays the variable. In a bare row this is a premise. The card (YtdnhnnidlangiabDoorCards.lean) ties it to the program's text. -/
def laid_volute_sched_firsts {H : Type} : DataW H := .agg [.lit (.int .i64 0), .lit (.int .i64 4), .lit (.int .i64 2), .lit (.int .i64 6), .lit (.int .i64 1), .lit (.int .i64 5), .lit (.int .i64 3), .lit (.int .i64 7)]

/-- 'volutelaw12.BeamScores': WHATEVER THE INPUT: true; the input reads as it did. -/
def beamScoresSpec : ChangeSpec := { name := "beamScores", fn := fun _ => fun
  | [d1, d2, d3] => { results := [.lit (.bool true)], args := [d1, d2, d3] }
  | _ => none }
def beamScoresRow : OpenClaim := { program := "ytdnhnnidlangiabdoor", sum := "a9a69698b0944ee89f280818ffc94d23897e319c789da4938a14f60721101de9", func := "volute/volutelaw12.BeamScores", spec := "beamScores", unfollowed := true, recurses := true, named := ["volute/sched.firsts"], apart := false, laid := [("volute/sched.firsts", laid_volute_sched_firsts)] }
def BeamScoresSaid : Prop := beamScoresRow.holds Tryd.pinned (OpenSpec.ofChange beamScoresSpec)

/-- ITS FALSE NEIGHBOUR: 'it returns false'. Refute it at one input. -/
def beamScoresWrong : ChangeSpec := { name := "beamScores", fn := fun _ => fun
  | [d1, d2, d3] => { results := [.lit (.bool false)], args := [d1, d2, d3] }
  | _ => none }
def BeamScoresWrongFalsely : Prop := beamScoresRow.holds Tryd.pinned (OpenSpec.ofChange beamScoresWrong)

/-- 'volutelaw12.BeamFirst': WHATEVER THE INPUT: true; the input reads as it did. -/
def beamFirstSpec : ChangeSpec := { name := "beamFirst", fn := fun _ => fun
  | [d1, d2, d3] => { results := [.lit (.bool true)], args := [d1, d2, d3] }
  | _ => none }
def beamFirstRow : OpenClaim := { program := "ytdnhnnidlangiabdoor", sum := "a9a69698b0944ee89f280818ffc94d23897e319c789da4938a14f60721101de9", func := "volute/volutelaw12.BeamFirst", spec := "beamFirst", unfollowed := true, recurses := true, named := ["volute/sched.firsts"], apart := false, laid := [("volute/sched.firsts", laid_volute_sched_firsts)] }
def BeamFirstSaid : Prop := beamFirstRow.holds Tryd.pinned (OpenSpec.ofChange beamFirstSpec)

/-- ITS FALSE NEIGHBOUR: 'it returns false'. Refute it at one input. -/
def beamFirstWrong : ChangeSpec := { name := "beamFirst", fn := fun _ => fun
  | [d1, d2, d3] => { results := [.lit (.bool false)], args := [d1, d2, d3] }
  | _ => none }
def BeamFirstWrongFalsely : Prop := beamFirstRow.holds Tryd.pinned (OpenSpec.ofChange beamFirstWrong)

/-- 'volutelaw12.BeamNothing': WHATEVER THE INPUT: true; the input reads as it did. -/
def beamNothingSpec : ChangeSpec := { name := "beamNothing", fn := fun _ => fun
  | [d1, d2, d3, d4, d5] => { results := [.lit (.bool true)], args := [d1, d2, d3, d4, d5] }
  | _ => none }
def beamNothingRow : OpenClaim := { program := "ytdnhnnidlangiabdoor", sum := "a9a69698b0944ee89f280818ffc94d23897e319c789da4938a14f60721101de9", func := "volute/volutelaw12.BeamNothing", spec := "beamNothing", unfollowed := true, recurses := true, named := ["volute/sched.firsts"], apart := false, laid := [("volute/sched.firsts", laid_volute_sched_firsts)] }
def BeamNothingSaid : Prop := beamNothingRow.holds Tryd.pinned (OpenSpec.ofChange beamNothingSpec)

/-- ITS FALSE NEIGHBOUR: 'it returns false'. Refute it at one input. -/
def beamNothingWrong : ChangeSpec := { name := "beamNothing", fn := fun _ => fun
  | [d1, d2, d3, d4, d5] => { results := [.lit (.bool false)], args := [d1, d2, d3, d4, d5] }
  | _ => none }
def BeamNothingWrongFalsely : Prop := beamNothingRow.holds Tryd.pinned (OpenSpec.ofChange beamNothingWrong)

/-- 'volutelaw12.BeamClaims': WHATEVER THE INPUT: true; the input reads as it did. -/
def beamClaimsSpec : ChangeSpec := { name := "beamClaims", fn := fun _ => fun
  | [d1, d2, d3, d4, d5, d6] => { results := [.lit (.bool true)], args := [d1, d2, d3, d4, d5, d6] }
  | _ => none }
def beamClaimsRow : OpenClaim := { program := "ytdnhnnidlangiabdoor", sum := "a9a69698b0944ee89f280818ffc94d23897e319c789da4938a14f60721101de9", func := "volute/volutelaw12.BeamClaims", spec := "beamClaims", unfollowed := true, recurses := true, named := ["volute/sched.firsts"], apart := false, laid := [("volute/sched.firsts", laid_volute_sched_firsts)] }
def BeamClaimsSaid : Prop := beamClaimsRow.holds Tryd.pinned (OpenSpec.ofChange beamClaimsSpec)

/-- ITS FALSE NEIGHBOUR: 'it returns false'. Refute it at one input. -/
def beamClaimsWrong : ChangeSpec := { name := "beamClaims", fn := fun _ => fun
  | [d1, d2, d3, d4, d5, d6] => { results := [.lit (.bool false)], args := [d1, d2, d3, d4, d5, d6] }
  | _ => none }
def BeamClaimsWrongFalsely : Prop := beamClaimsRow.holds Tryd.pinned (OpenSpec.ofChange beamClaimsWrong)

/- THE SECOND FORM. 'bulk': how many values and letters a reading holds, each counted each time it is reached (what is shared counts as often as it is met; a slice's spare places count too). A statement '..UptoSaid' is the law's where the arguments, and the package variables that the reading takes, are together of bulk at most 1048576: NARROWER than '..Said'. Prove '..Said' where nothing that the law and all that it calls make is longer than what came in: it says more and counts as full. Else prove '..UptoSaid'. A law counts once. -/
mutual
def uptoBulk {H : Type} : DataW H → Nat
  | .lit (.string bytes) => bytes.length + 1
  | .lit _ => 1
  | .nil => 1
  | .ptr d => uptoBulk d + 1
  | .slice elems spare => uptoBulkAll elems + uptoBulkAll spare + 1
  | .agg parts => uptoBulkAll parts + 1
  | .iface _ d => uptoBulk d + 1
  | .map entries => uptoBulkEntries entries + 1
  | .held _ => 1
def uptoBulkAll {H : Type} : List (DataW H) → Nat
  | [] => 0
  | d :: r => uptoBulk d + uptoBulkAll r
def uptoBulkEntries {H : Type} : List (Lit × DataW H) → Nat
  | [] => 0
  | x :: r => uptoBulkEntry x + uptoBulkEntries r
def uptoBulkEntry {H : Type} : Lit × DataW H → Nat
  | (.string bytes, d) => bytes.length + uptoBulk d + 1
  | (_, d) => uptoBulk d + 1
 end
def uptoSmall : (H : Type) → List (DataW H) → Bool := fun _ ds => decide (uptoBulkAll ds ≤ 1048576)
def OpenSpec.upto (s : _root_.Go.ChangeSpec) : _root_.Go.OpenSpec := { _root_.Go.OpenSpec.ofChange s with cond := some uptoSmall }

/-- 'volutelaw12.BeamScores', WHERE WHAT IT READS IS OF BULK AT MOST 1048576: true; the input reads as it did. -/
def beamScoresUptoRow : OpenClaim := { program := "ytdnhnnidlangiabdoor", sum := "a9a69698b0944ee89f280818ffc94d23897e319c789da4938a14f60721101de9", func := "volute/volutelaw12.BeamScores", spec := "beamScores", unfollowed := true, recurses := true, named := ["volute/sched.firsts"], apart := false, laid := [("volute/sched.firsts", laid_volute_sched_firsts)], narrowed := true }
def BeamScoresUptoSaid : Prop := beamScoresUptoRow.holds Tryd.pinned (OpenSpec.upto beamScoresSpec)

/-- 'volutelaw12.BeamFirst', WHERE WHAT IT READS IS OF BULK AT MOST 1048576: true; the input reads as it did. -/
def beamFirstUptoRow : OpenClaim := { program := "ytdnhnnidlangiabdoor", sum := "a9a69698b0944ee89f280818ffc94d23897e319c789da4938a14f60721101de9", func := "volute/volutelaw12.BeamFirst", spec := "beamFirst", unfollowed := true, recurses := true, named := ["volute/sched.firsts"], apart := false, laid := [("volute/sched.firsts", laid_volute_sched_firsts)], narrowed := true }
def BeamFirstUptoSaid : Prop := beamFirstUptoRow.holds Tryd.pinned (OpenSpec.upto beamFirstSpec)

/-- 'volutelaw12.BeamNothing', WHERE WHAT IT READS IS OF BULK AT MOST 1048576: true; the input reads as it did. -/
def beamNothingUptoRow : OpenClaim := { program := "ytdnhnnidlangiabdoor", sum := "a9a69698b0944ee89f280818ffc94d23897e319c789da4938a14f60721101de9", func := "volute/volutelaw12.BeamNothing", spec := "beamNothing", unfollowed := true, recurses := true, named := ["volute/sched.firsts"], apart := false, laid := [("volute/sched.firsts", laid_volute_sched_firsts)], narrowed := true }
def BeamNothingUptoSaid : Prop := beamNothingUptoRow.holds Tryd.pinned (OpenSpec.upto beamNothingSpec)

/-- 'volutelaw12.BeamClaims', WHERE WHAT IT READS IS OF BULK AT MOST 1048576: true; the input reads as it did. -/
def beamClaimsUptoRow : OpenClaim := { program := "ytdnhnnidlangiabdoor", sum := "a9a69698b0944ee89f280818ffc94d23897e319c789da4938a14f60721101de9", func := "volute/volutelaw12.BeamClaims", spec := "beamClaims", unfollowed := true, recurses := true, named := ["volute/sched.firsts"], apart := false, laid := [("volute/sched.firsts", laid_volute_sched_firsts)], narrowed := true }
def BeamClaimsUptoSaid : Prop := beamClaimsUptoRow.holds Tryd.pinned (OpenSpec.upto beamClaimsSpec)

end Rows
end Go.Proofs.YtdnhnnidlangiabDoor
