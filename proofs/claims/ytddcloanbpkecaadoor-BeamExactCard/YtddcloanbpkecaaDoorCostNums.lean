/-
  What a state costs, as a number. No program is spoken of.
-/
import Derived.Test.YtddcloanbpkecaaDoorSymbolNums
import Derived.Test.YtddcloanbpkecaaDoorNums
import Derived.Test.YtddcloanbpkecaaDoorSymMem
namespace Go.Proofs.YtddcloanbpkecaaDoor

/-- A symbol that may be asked. -/
def CostOk (l : List (Int × Int)) : Prop := ∀ x ∈ l, 0 ≤ x.1 ∧ x.1 ≤ 255 ∧ 0 ≤ x.2 ∧ x.2 ≤ 255
/-- What one symbol costs; what all do. -/
def oneCost (s : Nat) (x : Int × Int) : Nat := pcTo 32 (symN s x.1.toNat ^^^ x.2.toNat)
def costN (s : Nat) : List (Int × Int) → Nat
  | [] => 0
  | x :: l => oneCost s x + costN s l
theorem costN_append (s : Nat) : ∀ l m, costN s (l ++ m) = costN s l + costN s m
  | [], m => by simp [costN]
  | x :: l, m => by rw [List.cons_append, costN, costN, costN_append, Nat.add_assoc]
theorem costN_snoc (s : Nat) (l : List (Int × Int)) (x : Int × Int) : costN s (l ++ [x]) = costN s l + oneCost s x := by rw [costN_append]; simp [costN]
theorem xor_byte {a b : Nat} (ha : a < 256) (hb : b < 256) : a ^^^ b < 256 := Nat.xor_lt_two_pow (n := 8) ha hb
/-- Of a byte no more than eight. -/
theorem pc_byte {x : Nat} (h : x < 256) : pcTo 32 x = pcTo 8 x := by
  rw [show (32 : Nat) = 8 + 24 by rfl, pcTo_add]
  have e : x >>> 8 = 0 := by rw [Nat.shiftRight_eq_div_pow]; exact Nat.div_eq_of_lt (by simpa using h)
  rw [e]
  have : pcTo 24 0 = 0 := by decide
  omega
theorem oneCost_le {s : Nat} {x : Int × Int} (h : 0 ≤ x.2 ∧ x.2 ≤ 255) : oneCost s x ≤ 8 := by
  unfold oneCost
  rw [pc_byte (xor_byte (symN_lt _ _) (by omega))]
  exact pcTo_le _ _
theorem costN_le {s : Nat} : ∀ {l : List (Int × Int)}, CostOk l → costN s l ≤ 8 * l.length
  | [], _ => by simp [costN]
  | x :: l, h => by
    have h1 := costN_le (s := s) (l := l) fun y hy => h y (List.mem_cons_of_mem _ hy)
    have h2 := oneCost_le (s := s) (x := x) (h x List.mem_cons_self).2.2
    rw [costN, List.length_cons]
    omega
theorem CostOk.take {l : List (Int × Int)} (h : CostOk l) (k : Nat) : CostOk (l.take k) := fun x hx => h x (List.mem_of_mem_take hx)
theorem CostOk.drop {l : List (Int × Int)} (h : CostOk l) (k : Nat) : CostOk (l.drop k) := fun x hx => h x (List.mem_of_mem_drop hx)

end Go.Proofs.YtddcloanbpkecaaDoor
