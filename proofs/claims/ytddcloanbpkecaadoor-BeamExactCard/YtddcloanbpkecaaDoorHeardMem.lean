/-
  What volutelaw12.Heard answers: the pile that is heard.
-/
import Derived.Test.YtddcloanbpkecaaDoorHeardNums
import Derived.Test.YtddcloanbpkecaaDoorCodeCode
import Derived.Test.YtddcloanbpkecaaDoorPilePut
import Derived.Test.YtddcloanbpkecaaDoorNodeMem
import Derived.Test.YtddcloanbpkecaaDoorByteRow
namespace Go.Proofs.YtddcloanbpkecaaDoor
open Go.RowKit

/-- The slice v holds these flags. -/
def Flags (n₀ : Nat) (W : World) (v : Value) (os : List Bool) : Prop :=
  ((∃ a cap, v = .slice a 0 cap) ∧ os = []) ∨ ∃ b off cap, v = .slice (some ⟨b, off, none⟩) os.length cap ∧ b < n₀ ∧ ∀ (j : Nat) (x : Bool), os[j]? = some x → W.cell? ⟨b, off + j, none⟩ = some (.bool x)
theorem Flags.below {n₀ : Nat} {W W' : World} {v : Value} {os : List Bool} (h : Flags n₀ W v os) (hb : Below n₀ W W') : Flags n₀ W' v os := by
  rcases h with h | ⟨b, off, cap, hv, hlt, hc⟩
  · exact .inl h
  · exact .inr ⟨b, off, cap, hv, hlt, fun j x hj => (hb.cell (p := ⟨b, off + j, none⟩) hlt).trans (hc j x hj)⟩
theorem Flags.shape {n₀ : Nat} {W : World} {v : Value} {os : List Bool} (h : Flags n₀ W v os) : ∃ a cap, v = .slice a os.length cap := by
  rcases h with ⟨⟨a, cap, rfl⟩, rfl⟩ | ⟨b, off, cap, rfl, _, _⟩
  · exact ⟨_, _, rfl⟩
  · exact ⟨_, _, rfl⟩
theorem flags_at {n₀ n cap : Nat} {W : World} {a : Option Addr} {os : List Bool} (h : Flags n₀ W (.slice a n cap) os) (hl : os.length = n) (h0 : 0 < n) : ∃ b off, a = some ⟨b, off, none⟩ ∧ b < n₀ ∧ ∀ (j : Nat) (x : Bool), os[j]? = some x → W.cell? ⟨b, off + j, none⟩ = some (.bool x) := by
  subst hl
  rcases h with ⟨_, e⟩ | ⟨b, off, c', e, hb, hcs⟩
  · rw [e] at h0; simp at h0
  · cases e
    exact ⟨b, off, rfl, hb, hcs⟩

/-- Bytes that are held lie in no box of a pile. -/
theorem bytes_box {n₀ : Nat} {W : World} {v : Value} {xs : List Int} {B : Nat} {t : TypeId} {x y : Int} {a : Option Addr} {n c : Nat} (h : Holds .u8 n₀ W v xs) (hB : Box W B t #[.int .i64 x, .int .i64 y, .slice a n c]) (p q r : Value) : Holds .u8 n₀ (((W.setCell ⟨B, 0, none⟩ p).setCell ⟨B, 1, none⟩ q).setCell ⟨B, 2, none⟩ r) v xs := by
  rcases h with h | ⟨b, off, cap, hv, hlt, hc⟩
  · exact .inl h
  · refine .inr ⟨b, off, cap, hv, hlt, fun j hj => ?_⟩
    have hcj := hc j hj
    have hne : b ≠ B := by
      intro e
      subst e
      have hB' : W.heap[b]? = some (.cells #[.int .i64 x, .int .i64 y, .slice a n c] t (0, 0)) := hB
      simp only [World.cell?, hB'] at hcj
      match h9 : off + j with
      | 0 => rw [h9] at hcj; simp at hcj
      | 1 => rw [h9] at hcj; simp at hcj
      | 2 => rw [h9] at hcj; simp at hcj
      | k + 3 => rw [h9] at hcj; simp at hcj
    have hd : ∀ i, (⟨B, i, none⟩ : Addr) ≠ ⟨b, off + j, none⟩ := fun i e => hne (congrArg Addr.block e).symm
    rw [World.cell?_setCell_other _ _ _ _ (hd 2), World.cell?_setCell_other _ _ _ _ (hd 1), World.cell?_setCell_other _ _ _ _ (hd 0)]
    exact hcj

end Go.Proofs.YtddcloanbpkecaaDoor
