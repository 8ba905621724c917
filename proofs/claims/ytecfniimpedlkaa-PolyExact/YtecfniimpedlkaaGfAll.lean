/-
  Several rows that are held at once, from call to call; lengths of sums and products. No function of the program is spoken of.
-/
import Derived.Test.YtecfniimpedlkaaGfLaw
namespace Go.Proofs.Ytecfniimpedlkaa
open Go.RowKit

/-- All of these are held. -/
def All (W : World) (ps : List (Value × List Int)) : Prop := ∀ p ∈ ps, Has W p.1 p.2

theorem All.nil (W : World) : All W [] := fun _ h => by cases h
theorem All.next {W W' : World} {ps : List (Value × List Int)} (h : All W ps) (hb : Below W.heap.size W W') : All W' ps := fun p hp => (h p hp).next hb
theorem All.cons {W : World} {ps : List (Value × List Int)} (h : All W ps) {v : Value} {zs : List Int} (hv : Has W v zs) : All W ((v, zs) :: ps) := fun p hp => by
  rcases List.mem_cons.1 hp with rfl | hp
  · exact hv
  · exact h p hp
theorem All.get {W : World} {ps : List (Value × List Int)} (h : All W ps) (k : Nat) {v : Value} {zs : List Int} (e : ps[k]? = some (v, zs)) : Has W v zs := h (v, zs) (List.mem_of_getElem? e)
theorem All.drewN {W : World} {ps : List (Value × List Int)} (h : All W ps) (n : Nat) : All (W.drewN n) ps := fun p hp => (h p hp).drewN n

theorem has_of_isRow {w : World} {a : Option Addr} {len cap : Nat} {zs : List Int} (h : IsRow .i64 w a len cap zs) :
    ∃ ys : List Int, ys.length = len ∧ Has w (.slice a len cap) ys ∧ ∀ n ∈ ys, (Lit.int .i64 n).wf = true := by
  obtain ⟨ys, h1, h2, h3⟩ := holds_of_isRow h
  refine ⟨ys, h1, ⟨h2, _, _, _, rfl, ?_⟩, h3⟩
  rcases h with ⟨_, rfl, rfl, _⟩ | ⟨x, _, hl, hm, _⟩
  · exact ⟨Nat.le_refl _, by omega⟩
  · exact ⟨hl, by unfold maxLen at hm; omega⟩

theorem len_trim {A Y : List Int} {k : Nat} (hA : Bin A) (hk : A.length ≤ k) (h : Tr Y ∧ val Y = val A) : Y.length ≤ k :=
  h.1.len_le (by rw [h.2]; exact Nat.lt_of_lt_of_le (val_lt hA) (Nat.pow_le_pow_right (by omega) hk))

theorem len_sum {A B Y : List Int} {k : Nat} (hA : Bin A) (hB : Bin B) (ha : A.length ≤ k) (hb : B.length ≤ k) (h : Tr Y ∧ val Y = val A ^^^ val B) : Y.length ≤ k :=
  h.1.len_le (by rw [h.2]; exact xor_lt (Nat.lt_of_lt_of_le (val_lt hA) (Nat.pow_le_pow_right (by omega) ha)) (Nat.lt_of_lt_of_le (val_lt hB) (Nat.pow_le_pow_right (by omega) hb)))

theorem len_mul {A B Y : List Int} {j k : Nat} (hA : Bin A) (hB : Bin B) (ha : A.length ≤ j) (hb : B.length ≤ k) (h : Tr Y ∧ val Y = cl (val A) (val B)) : Y.length ≤ j + k :=
  h.1.len_le (by rw [h.2]; exact cl_lt _ (Nat.lt_of_lt_of_le (val_lt hA) (Nat.pow_le_pow_right (by omega) ha)) (Nat.lt_of_lt_of_le (val_lt hB) (Nat.pow_le_pow_right (by omega) hb)))

end Go.Proofs.Ytecfniimpedlkaa
