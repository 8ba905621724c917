/-
  The segment at a place, as a number. No program is spoken of.
-/
import Derived.Test.YtddcloanbpkecaaDoorSchedNums
namespace Go.Proofs.YtddcloanbpkecaaDoor

/-- The segment at a place. -/
def segN (n k : Nat) : Nat := (orderN n)[k % n]?.getD 0
theorem segN_get {n : Nat} (h1 : 1 ≤ n) (hn : n < 65) (k : Nat) : (orderN n)[k % n]? = some (segN n k) ∧ segN n k < n := by
  obtain ⟨x, hx, hxn⟩ := orderN_get hn (Nat.mod_lt k (show 0 < n by omega))
  have e : segN n k = x := by unfold segN; rw [hx]; rfl
  rw [e]
  exact ⟨hx, hxn⟩
theorem place_mod {n p i : Nat} (hp : p < n) : (i * n + p) % n = p := by rw [Nat.mul_comm, Nat.mul_add_mod]; exact Nat.mod_eq_of_lt hp
theorem place_div {n p i : Nat} (hp : p < n) : (i * n + p) / n = i := by
  rw [Nat.mul_comm, Nat.mul_add_div (by omega), Nat.div_eq_of_lt hp, Nat.add_zero]
theorem segN_place {n s i : Nat} (hn : n < 65) (hs : s < n) : segN n (i * n + posN n s) = s := by
  unfold segN
  rw [place_mod (posN_lt hn hs), posN_get hn hs]
  rfl

end Go.Proofs.YtddcloanbpkecaaDoor
