/-
  Symbols of a state with some bits turned: what they cost. No program is spoken of.
-/
import Derived.Test.YtddcloanbpkecaaDoorCostNums
namespace Go.Proofs.YtddcloanbpkecaaDoor

/-- The place that a number stands for; the bits that are turned there. -/
def placeN (z : Int) : Nat := (z % 18446744073709551616 % 256).toNat
theorem placeN_lt (z : Int) : placeN z < 256 := by unfold placeN; omega
def turnAt (ts : List Int) (i : Nat) : Nat := (ts[i]?.getD 0).toNat
theorem turnAt_lt {ts : List Int} (h : ∀ t ∈ ts, 0 ≤ t ∧ t ≤ 255) (i : Nat) : turnAt ts i < 256 := by
  unfold turnAt
  cases e : ts[i]? with
  | none => simp
  | some t => have := h t (List.mem_of_getElem? e); simp; omega
/-- The symbols, what they should cost, and whether all are the state's own. -/
def turnSym (s : Nat) (z : Int) (t : Nat) : Int × Int := ((placeN z : Int), ((symN s (placeN z) ^^^ t : Nat) : Int))
def boundL (s : Nat) (zs ts : List Int) (k : Nat) : List (Int × Int) := (List.range k).map fun i => turnSym s (zs[i]?.getD 0) (turnAt ts i)
theorem boundL_len (s : Nat) (zs ts : List Int) (k : Nat) : (boundL s zs ts k).length = k := by simp [boundL]
theorem boundL_next (s : Nat) (zs ts : List Int) (k : Nat) : boundL s zs ts (k + 1) = boundL s zs ts k ++ [turnSym s (zs[k]?.getD 0) (turnAt ts k)] := by simp [boundL, List.range_succ]
def wantN (ts : List Int) : Nat → Nat
  | 0 => 0
  | k + 1 => wantN ts k + pcTo 8 (turnAt ts k)
def ownB (ts : List Int) : Nat → Bool
  | 0 => true
  | k + 1 => ownB ts k && (turnAt ts k == 0)
theorem wantN_le (ts : List Int) : ∀ k, wantN ts k ≤ 8 * k
  | 0 => Nat.le_refl _
  | k + 1 => by have h1 := wantN_le ts k; have h2 := pcTo_le 8 (turnAt ts k); rw [wantN]; omega
theorem pc8_zero : ∀ t, t < 256 → (pcTo 8 t = 0 ↔ t = 0) := by decide +kernel
theorem want_own {ts : List Int} (h : ∀ t ∈ ts, 0 ≤ t ∧ t ≤ 255) : ∀ k, (wantN ts k == 0) = ownB ts k
  | 0 => rfl
  | k + 1 => by
    have ih := want_own h k
    have h8 := pc8_zero _ (turnAt_lt h k)
    rw [wantN, ownB, ← ih, Bool.eq_iff_iff]
    simp only [beq_iff_eq, Bool.and_eq_true]
    omega
theorem oneCost_turn {s : Nat} {z : Int} {t : Nat} (ht : t < 256) : oneCost s (turnSym s z t) = pcTo 8 t := by
  unfold oneCost turnSym
  simp only [Int.toNat_natCast]
  rw [← Nat.xor_assoc, Nat.xor_self, Nat.zero_xor, pc_byte ht]
theorem cost_bound {s : Nat} {zs ts : List Int} (h : ∀ t ∈ ts, 0 ≤ t ∧ t ≤ 255) : ∀ k, costN s (boundL s zs ts k) = wantN ts k
  | 0 => rfl
  | k + 1 => by rw [boundL_next, costN_snoc, cost_bound h k, oneCost_turn (turnAt_lt h k), wantN]
theorem bound_ok {s : Nat} {zs ts : List Int} (h : ∀ t ∈ ts, 0 ≤ t ∧ t ≤ 255) (k : Nat) : CostOk (boundL s zs ts k) := by
  intro x hx
  obtain ⟨i, _, rfl⟩ := List.mem_map.1 hx
  have h1 := placeN_lt (zs[i]?.getD 0)
  have h2 := xor_byte (symN_lt s (placeN (zs[i]?.getD 0))) (turnAt_lt h i)
  unfold turnSym
  simp only
  omega

end Go.Proofs.YtddcloanbpkecaaDoor
