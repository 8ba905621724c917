/-
  What the page's least answers: the least metric so many depths further on. (It calls itself.)
-/
import Derived.Test.YtdnhnnidlangiabDoorRefPiles
import Derived.Test.YtdnhnnidlangiabDoorRefCost
import Derived.Test.YtdnhnnidlangiabDoorRefSpine
import Derived.Test.YtdnhnnidlangiabDoorBeamPile
namespace Go.Proofs.YtdnhnnidlangiabDoor
open Go.RowKit

/-- What the loop has found among the first k nibbles. -/
def lstTo (N : Nat) (l : List (Int × Int)) (a : Nat) (s : Int) (i : Nat) (m : Int) (k : Nat) : Int := minF ((nib16.take k).map fun k => lst stB (coB N l) N a (stB s k) (i + 1) (m + coB N l i (stB s k)))
theorem nib16_get {k : Nat} (h : k < 16) : nib16[k]? = some (k : Int) := by
  unfold nib16
  rw [List.getElem?_map, List.getElem?_range h]
  rfl
theorem lstTo_next (N : Nat) (l : List (Int × Int)) (a : Nat) (s : Int) (i : Nat) (m : Int) {k : Nat} (h : k < 16) : lstTo N l a s i m (k + 1) = minStep (lstTo N l a s i m k) (lst stB (coB N l) N a (stB s (k : Int)) (i + 1) (m + coB N l i (stB s (k : Int)))) := by
  unfold lstTo
  rw [List.take_add_one, nib16_get h]
  show minF (((nib16.take k) ++ [(k : Int)]).map _) = _
  rw [List.map_append, List.map_cons, List.map_nil, minF_snoc]
theorem lstTo_end (N : Nat) (l : List (Int × Int)) (a : Nat) (s : Int) (i : Nat) (m : Int) (hi : i ≠ N) : lstTo N l a s i m 16 = lst stB (coB N l) N (a + 1) s i m := by
  unfold lstTo
  simp only [lst]
  rw [if_neg hi, List.take_of_length_le (by unfold nib16; decide)]
theorem lst_bd (N : Nat) (l : List (Int × Int)) {p : Int} (h : PileOk (N : Int) p l) : ∀ (a : Nat) (s : Int) (i : Nat) (m : Int), 0 ≤ m → 0 ≤ lst stB (coB N l) N a s i m ∧ lst stB (coB N l) N a s i m ≤ m + 8192 * (a : Int)
  | 0, s, i, m, hm => by simp only [lst]; exact ⟨hm, by omega⟩
  | a + 1, s, i, m, hm => by
    simp only [lst]
    split
    · exact ⟨hm, by omega⟩
    · have each : ∀ k : Int, 0 ≤ lst stB (coB N l) N a (stB s k) (i + 1) (m + coB N l i (stB s k)) ∧ lst stB (coB N l) N a (stB s k) (i + 1) (m + coB N l i (stB s k)) ≤ m + 8192 * ((a + 1 : Nat) : Int) := fun k => by
        have h1 := coB_pos N l i (stB s k)
        have h2 : coB N l i (stB s k) ≤ 8192 := by
          unfold coB
          have := costB_le h i (stB s k).toNat
          omega
        have ih := lst_bd N l h a (stB s k) (i + 1) (m + coB N l i (stB s k)) (by omega)
        omega
      obtain ⟨hm1, _⟩ := minF_mem (l := nib16.map fun k => lst stB (coB N l) N a (stB s k) (i + 1) (m + coB N l i (stB s k))) (fun x hx => by obtain ⟨k, _, rfl⟩ := List.mem_map.1 hx; exact (each k).1) (by simp [nib16_ne])
      obtain ⟨k, _, e⟩ := List.mem_map.1 hm1
      rw [← e]
      exact each k

end Go.Proofs.YtdnhnnidlangiabDoor
