/-
  CrcBurst: the walk: whatever the text, the place, the bits, the law answers true, and nothing that lay has turned.
-/
import Derived.Test.YtkhmcoeffaeppaaCrcWakes
import Derived.Test.YtkhmcoeffaeppaaCrcSealed
import Derived.Test.YtkhmcoeffaeppaaCrcBits
import Derived.RegionTactic
import Derived.BigRegion
namespace Go.Proofs.Ytkhmcoeffaeppaa
open Go.RowKit

theorem at_place (at_ d : Int) (hd : 0 < d) : ∃ p : Nat, (p : Int) < d ∧ (IntKind.u64.wrap at_).tmod d = (p : Int) := by
  have h0 : 0 ≤ IntKind.u64.wrap at_ := by rw [IntKind.wrap_u64]; omega
  have h1 := Int.tmod_nonneg d h0
  have h2 := Int.tmod_lt_of_pos (IntKind.u64.wrap at_) hd
  exact ⟨((IntKind.u64.wrap at_).tmod d).toNat, by omega, by omega⟩

/-- A row that is not empty lies at a block of its own. -/
theorem own_block {W : World} {base n : Nat} {e : TypeId} {v : Value} {xs : List Value} (h : W.ownsRow base e 1 v n xs) (h0 : 0 < n) : ∃ g cap, v = .slice (some ⟨g, 0, none⟩) n cap ∧ base ≤ g ∧ g < W.heap.size := by
  rcases h.2 with ⟨_, e0⟩ | ⟨g, c, cur, e, hb, hg, _⟩
  · omega
  · exact ⟨g, c, e, hb, (Array.getElem?_eq_some_iff.1 hg).1⟩

/-- The lowest 32 bits of a number, the lowest first. -/
def bits32 (b : Nat) : List Nat := (List.range 32).map fun i => b / 2 ^ i % 2
theorem bits32_len (b : Nat) : (bits32 b).length = 32 := by simp [bits32]
theorem bits32_get (b i : Nat) (hi : i < 32) : (bits32 b)[i]? = some (b / 2 ^ i % 2) := by simp [bits32, hi]
theorem bits32_01 (b : Nat) : Bits01 (bits32 b) := fun x hx => by
  obtain ⟨i, _, rfl⟩ := List.mem_map.1 hx
  exact Nat.mod_lt _ (by decide)

end Go.Proofs.Ytkhmcoeffaeppaa
