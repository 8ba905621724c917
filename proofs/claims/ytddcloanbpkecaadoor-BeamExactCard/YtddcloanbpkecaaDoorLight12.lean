/-
  volutelaw12.Light answers, whatever it is asked.
-/
import Derived.Test.YtddcloanbpkecaaDoorSteps
import Derived.WalkSpells
import Derived.WalkLawsBesides
namespace Go.Proofs.YtddcloanbpkecaaDoor
open Go.RowKit

set_option maxRecDepth 100000 in
set_option maxHeartbeats 2000000 in
theorem light_any (n b d : Int) (w : World) : Calls Tryd.prog 5 #[.int .i64 n, .int .i64 b, .int .i64 d] w fun e w' => (e = .returned (.bool true) ∨ e = .returned (.bool false)) ∧ w = w' := by
  go_enter Tryd.func5, Tryd.ntmps5
  go_wp2
  go_loop [7, 8] (fun s7 s8 => ∃ (c : Int) (i : Nat), s7 = .int .i64 c ∧ s8 = .int .i64 i ∧ 1 ≤ i ∧ i ≤ 4) (fun _ i => 4 - (intOf i).toNat)
  case atStart => exact ⟨_, 1, rfl, rfl, by omega, by omega⟩
  case round =>
    obtain ⟨c, i, rfl, rfl, h1, h4⟩ := hrel
    by_cases hd : (i : Int) < d
    · have dd : decide ((i : Int) < d) = true := decide_eq_true hd
      by_cases hi : i < 4
      · have di : decide ((i : Int) < 4) = true := decide_eq_true (by omega)
        clear hd
        go_wp2
        go_round
        case rel => exact ⟨_, i + 1, rfl, by go_num, by omega, by omega⟩
        case measure => simp [intOf]; omega
      · have di : decide ((i : Int) < 4) = false := decide_eq_false (by omega)
        by_cases hc : c ≤ 300000
        · have dc : decide (c ≤ 300000) = true := decide_eq_true hc
          clear hd hc
          go_wp2
          go_ret
          exact ⟨.inl rfl, rfl⟩
        · have dc : decide (c ≤ 300000) = false := decide_eq_false hc
          clear hd hc
          go_wp2
          go_ret
          exact ⟨.inr rfl, rfl⟩
    · have dd : decide ((i : Int) < d) = false := decide_eq_false hd
      by_cases hc : c ≤ 300000
      · have dc : decide (c ≤ 300000) = true := decide_eq_true hc
        clear hd hc
        go_wp2
        go_ret
        exact ⟨.inl rfl, rfl⟩
      · have dc : decide (c ≤ 300000) = false := decide_eq_false hc
        clear hd hc
        go_wp2
        go_ret
        exact ⟨.inr rfl, rfl⟩

end Go.Proofs.YtddcloanbpkecaaDoor
