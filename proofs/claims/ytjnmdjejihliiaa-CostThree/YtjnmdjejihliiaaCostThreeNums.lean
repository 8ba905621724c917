/-
  A state's own symbols; what three states cost by one another's. No program is spoken of.
-/
import Derived.Test.YtjnmdjejihliiaaCostBoundNums
namespace Go.Proofs.Ytjnmdjejihliiaa

/-- A state's own symbols at the places that numbers stand for. -/
def ownSym (s : Nat) (z : Int) : Int × Int := ((placeN z : Int), ((symN s (placeN z) : Nat) : Int))
def ownL (s : Nat) (zs : List Int) : List (Int × Int) := zs.map (ownSym s)
theorem ownL_len (s : Nat) (zs : List Int) : (ownL s zs).length = zs.length := by simp [ownL]
theorem ownL_ok (s : Nat) (zs : List Int) : CostOk (ownL s zs) := by
  intro x hx
  obtain ⟨z, _, rfl⟩ := List.mem_map.1 hx
  have h1 := placeN_lt z
  have h2 := symN_lt s (placeN z)
  unfold ownSym
  simp only
  omega
theorem oneCost_own (a b : Nat) (z : Int) : oneCost a (ownSym b z) = pcTo 32 (symN a (placeN z) ^^^ symN b (placeN z)) := by
  unfold oneCost ownSym
  simp only [Int.toNat_natCast]
theorem pcTo_zero : ∀ k, pcTo k 0 = 0
  | 0 => rfl
  | k + 1 => by rw [pcTo_succ, pcTo_zero k]; simp
theorem pcTo_xor (k x y : Nat) : pcTo k (x ^^^ y) ≤ pcTo k x + pcTo k y := by
  induction k with
  | zero => simp [pcTo]
  | succ k ih =>
    rw [pcTo_succ, pcTo_succ, pcTo_succ, Nat.testBit_xor]
    have : (x.testBit k ^^ y.testBit k).toNat ≤ (x.testBit k).toNat + (y.testBit k).toNat := by cases x.testBit k <;> cases y.testBit k <;> decide
    omega
theorem pc_self (x : Nat) : pcTo 32 (x ^^^ x) = 0 := (congrArg (pcTo 32) (Nat.xor_self x)).trans (pcTo_zero 32)
theorem own_zero (a : Nat) (z : Int) : oneCost a (ownSym a z) = 0 := (oneCost_own a a z).trans (pc_self _)
theorem pc_comm (x y : Nat) : pcTo 32 (x ^^^ y) = pcTo 32 (y ^^^ x) := congrArg (pcTo 32) (Nat.xor_comm x y)
theorem own_swap (a b : Nat) (z : Int) : oneCost a (ownSym b z) = oneCost b (ownSym a z) := (oneCost_own a b z).trans ((pc_comm _ _).trans (oneCost_own b a z).symm)
theorem ownL_cons (s : Nat) (z : Int) (zs : List Int) : ownL s (z :: zs) = ownSym s z :: ownL s zs := rfl
theorem costN_cons (s : Nat) (x : Int × Int) (l : List (Int × Int)) : costN s (x :: l) = oneCost s x + costN s l := rfl
theorem cost_own (a : Nat) (zs : List Int) : costN a (ownL a zs) = 0 := by
  induction zs with
  | nil => rfl
  | cons z zs ih =>
    rw [ownL_cons]
    exact (costN_cons a (ownSym a z) (ownL a zs)).trans (by rw [own_zero, ih])
theorem cost_swap (a b : Nat) (zs : List Int) : costN a (ownL b zs) = costN b (ownL a zs) := by
  induction zs with
  | nil => exact (show (0 : Nat) = 0 from rfl)
  | cons z zs ih =>
    exact (congrArg (· + costN a (ownL b zs)) (own_swap a b z)).trans (congrArg (oneCost b (ownSym a z) + ·) ih)
theorem one_three (a b c : Nat) (z : Int) : oneCost a (ownSym b z) ≤ oneCost a (ownSym c z) + oneCost c (ownSym b z) := by
  rw [oneCost_own, oneCost_own, oneCost_own]
  generalize symN a (placeN z) = x
  generalize symN b (placeN z) = y
  generalize symN c (placeN z) = v
  have h := pcTo_xor 32 (x ^^^ v) (v ^^^ y)
  have e : x ^^^ v ^^^ (v ^^^ y) = x ^^^ y := by rw [Nat.xor_assoc, ← Nat.xor_assoc v v y, Nat.xor_self, Nat.zero_xor]
  rw [e] at h
  exact h
theorem cost_three (a b c : Nat) (zs : List Int) : costN a (ownL b zs) ≤ costN a (ownL c zs) + costN c (ownL b zs) := by
  induction zs with
  | nil => exact Nat.le_refl _
  | cons z zs ih =>
    refine Nat.le_trans (Nat.add_le_add (one_three a b c z) ih) (Nat.le_of_eq ?_)
    exact Nat.add_add_add_comm _ _ _ _

end Go.Proofs.Ytjnmdjejihliiaa
