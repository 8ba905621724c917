/-
  The beam's numbers over a pile: its step, its cost, within their bounds. No program is spoken of.
-/
import Derived.Test.YtddcloanbpkecaaDoorBeamNums
import Derived.Test.YtddcloanbpkecaaDoorPileNums
import Derived.Test.YtddcloanbpkecaaDoorCostNums
import Derived.Test.YtddcloanbpkecaaDoorSpineNums
namespace Go.Proofs.YtddcloanbpkecaaDoor

def stB (s k : Int) : Int := ((stepN s.toNat k.toNat : Nat) : Int)
def coB (N : Nat) (l : List (Int × Int)) (j : Nat) (s : Int) : Int := ((costN s.toNat (ofL N l j) : Nat) : Int)
theorem stB_nat (s k : Nat) : stB (s : Int) (k : Int) = ((stepN s k : Nat) : Int) := rfl
theorem coB_nat (N : Nat) (l : List (Int × Int)) (j s : Nat) : coB N l j (s : Int) = ((costN s (ofL N l j) : Nat) : Int) := rfl
theorem coB_pos (N : Nat) (l : List (Int × Int)) : ∀ (j : Nat) (s : Int), 0 ≤ coB N l j s := fun j s => by unfold coB; omega
theorem ofL_ok {N : Nat} {p : Int} {l : List (Int × Int)} (h : PileOk (N : Int) p l) (j : Nat) : CostOk (ofL N l j) := by
  intro x hx
  unfold ofL at hx
  obtain ⟨y, hy, rfl⟩ := List.mem_map.1 hx
  obtain ⟨h1, h2, h3, h4⟩ := h.2.1 y ((List.mem_filter.1 hy).1)
  have hp := h.1.2.2
  have hN := h.1.1
  have hlt : y.1.toNat / N < 256 := by
    rw [Nat.div_lt_iff_lt_mul (by omega)]
    have hm : (N : Int) * p ≤ (N : Int) * 16 := Int.mul_le_mul_of_nonneg_left hp.2 (by omega)
    have : y.1 < 256 * N := by omega
    omega
  refine ⟨Int.natCast_nonneg _, ?_, h3, h4⟩
  exact Int.ofNat_le.2 (Nat.le_of_lt_succ hlt)
theorem ofL_len {N : Nat} {p : Int} {l : List (Int × Int)} (h : PileOk (N : Int) p l) (j : Nat) : (ofL N l j).length ≤ 1024 := by
  have h1 := ofL_len_le N l j
  have h2 := pile_len h
  have h3 := h.1.prod
  omega
theorem costB_le {N : Nat} {p : Int} {l : List (Int × Int)} (h : PileOk (N : Int) p l) (j s : Nat) : costN s (ofL N l j) ≤ 8192 := by
  have h1 := costN_le (s := s) (ofL_ok h j)
  have h2 := ofL_len h j
  omega
theorem coB_le {N : Nat} {p : Int} {l : List (Int × Int)} (h : PileOk (N : Int) p l) (j : Nat) (s : Int) : coB N l j s ≤ 8192 := by
  have := costB_le h j s.toNat
  unfold coB
  omega

end Go.Proofs.YtddcloanbpkecaaDoor
