/-
  What the page's Begin, Step, States answer.
-/
import Derived.Test.YtddcloanbpkecaaDoorRefMix
import Derived.Test.YtddcloanbpkecaaDoorRefPath
import Derived.OwnWalk
namespace Go.Proofs.YtddcloanbpkecaaDoor
open Go.RowKit

theorem infoU32 : (Tryd.prog.info? 30).map (fun i => (i.zero, i.size, i.bytes)) = some (some (.int .u32 0), 1, 4) := by kernel_rfl

set_option maxHeartbeats 400000 in
theorem refBegin_any (w : World) : Calls Tryd.prog 36 #[] w fun e w' => e = .returned (.int .u32 (beginN : Int)) ∧ w = w' := by
  go_enter Tryd.func36, Tryd.ntmps36
  go_wp2
  go_ret
  exact ⟨rfl, rfl⟩

set_option maxRecDepth 100000 in
set_option maxHeartbeats 1000000 in
theorem refStep_any (s n : Nat) (hs : s < 4294967296) (hn : n < 16) (w : World) : Calls Tryd.prog 52 #[.int .u32 s, .int .i64 n] w fun e w' => e = .returned (.int .u32 ((stepN s n : Nat) : Int)) ∧ w = w' := by
  have e1 : IntKind.u32.wrap (n : Int) = (n : Int) := by rw [IntKind.wrap_u32]; omega
  have e2 : bits .xor .u32 (s : Int) (n : Int) = ((s ^^^ n : Nat) : Int) := zu32_xor s n hs (by omega)
  have h3 : s ^^^ n < 4294967296 := xorlt32 hs (by omega)
  have HR : Hid (mixN (s ^^^ n) = stepN s n) := rfl
  obtain ⟨x, hx⟩ : ∃ x, s ^^^ n = x := ⟨_, rfl⟩
  rw [hx] at e2 h3 HR
  clear hx
  go_enter Tryd.func52, Tryd.ntmps52
  go_wp2_with fail
  refine (refMix_any x h3 w).mono ?_
  rw [HR.out]
  rintro e w1 ⟨rfl, rfl⟩
  go_wp2
  go_ret
  exact ⟨rfl, rfl⟩

end Go.Proofs.YtddcloanbpkecaaDoor
