/-
  A block whose first cells hold a text of bytes, and that may be written: what a store makes of it. No function of the program is spoken of.
-/
import Derived.Test.YthpbiccgjpocaaaSteps
import Derived.Test.YthpbiccgjpocaaaCrcCode
namespace Go.Proofs.Ythpbiccgjpocaaa
open Go.RowKit

/-- Block g holds the text zs ahead of all; none of it is frozen. -/
def BRow (W : World) (g : Nat) (zs : List Int) : Prop := g < W.heap.size ∧ (∀ q, q < zs.length → W.cell? ⟨g, q, none⟩ = some (.int .u8 (zs[q]?.getD 0))) ∧ ∀ q, W.frozen? ⟨g, q, none⟩ = false

theorem BRow.of_own {W : World} {base n cap g : Nat} {zs : List Int} (h : W.ownsRow base 5 1 (.slice (some ⟨g, 0, none⟩) n cap) n (zs.map (Value.int .u8))) : BRow W g zs := by
  rcases h.2 with ⟨e, _⟩ | ⟨g', c, cur, e, _, hg, _⟩
  · cases e
  · cases e
    refine ⟨(Array.getElem?_eq_some_iff.1 hg).1, fun q hq => ?_, fun q => by simp [World.frozen?, hg]⟩
    have := h.cells (g := g) rfl q (.int .u8 (zs[q]?.getD 0)) (by simp [hq])
    rw [Addr.add_lit, Nat.zero_add] at this
    exact this
theorem BRow.cell {W : World} {g : Nat} {zs : List Int} (h : BRow W g zs) {q : Nat} {x : Int} (hq : zs[q]? = some x) : W.cell? ⟨g, q, none⟩ = some (.int .u8 x) := by
  rw [h.2.1 q (List.getElem?_eq_some_iff.1 hq).1, hq]; rfl
theorem BRow.set {W : World} {g : Nat} {zs : List Int} (h : BRow W g zs) (k : Nat) (hk : k < zs.length) (v : Int) : BRow (W.setCell ⟨g, k, none⟩ (.int .u8 v)) g (zs.set k v) := by
  refine ⟨by simpa [World.setCell] using h.1, fun q hq => ?_, fun q => by rw [World.frozen?_setCell]; exact h.2.2 q⟩
  rw [List.length_set] at hq
  by_cases e : q = k
  · subst e
    rw [World.cell?_setCell_same' _ _ _ (by rw [h.2.1 q hq]; rfl)]
    simp [hq]
  · rw [World.cell?_setCell_other _ _ _ _ (by intro e'; cases e'; exact e rfl), h.2.1 q hq, List.getElem?_set_ne (by omega)]
theorem BRow.other {W : World} {g g' : Nat} {zs : List Int} (h : BRow W g zs) (hne : g ≠ g') (k : Nat) (v : Value) : BRow (W.setCell ⟨g', k, none⟩ v) g zs := by
  refine ⟨by simpa [World.setCell] using h.1, fun q hq => ?_, fun q => by rw [World.frozen?_setCell]; exact h.2.2 q⟩
  rw [World.cell?_setCell_other _ _ _ _ (by intro e'; cases e'; exact hne rfl)]
  exact h.2.1 q hq
theorem BRow.drewN {W : World} {g : Nat} {zs : List Int} (h : BRow W g zs) (n : Nat) : BRow (W.drewN n) g zs := h
theorem BRow.below {W W' : World} {g n : Nat} {zs : List Int} (h : BRow W g zs) (hb : Below n W W') (hg : g < n) : BRow W' g zs := by
  refine ⟨Nat.lt_of_lt_of_le h.1 hb.size, fun q hq => (hb.cell (p := ⟨g, q, none⟩) hg).trans (h.2.1 q hq), fun q => ?_⟩
  have e : W'.frozen? ⟨g, q, none⟩ = W.frozen? ⟨g, q, none⟩ := by unfold World.frozen?; rw [hb.block g hg]
  rw [e]; exact h.2.2 q
theorem BRow.holds {W : World} {g n : Nat} {zs : List Int} (h : BRow W g zs) (hg : g < n) (cap : Nat) : Holds .u8 n W (.slice (some ⟨g, 0, none⟩) zs.length cap) zs :=
  .inr ⟨g, 0, cap, rfl, hg, fun j hj => by rw [Nat.zero_add]; exact h.2.1 j hj⟩

theorem zu8_xor (a b : Nat) (ha : a < 256) (hb : b < 256) : bits .xor .u8 (a : Int) (b : Int) = ((a ^^^ b : Nat) : Int) := by
  have e : ∀ n : Nat, n < 256 → (BitVec.ofInt 8 (n : Int)).toNat = n := fun n h => by
    rw [BitVec.ofInt_natCast, BitVec.toNat_ofNat]; exact Nat.mod_eq_of_lt (by omega)
  have hx : a ^^^ b < 2 ^ 8 := Nat.xor_lt_two_pow ha hb
  show IntKind.u8.wrap ((BitVec.ofInt 8 (a : Int) ^^^ BitVec.ofInt 8 (b : Int)).toNat : Int) = _
  rw [BitVec.toNat_xor, e a ha, e b hb]
  exact zu8_wrap _ (by omega) (by exact_mod_cast hx)

/-- A text that is written place by place over noughts. -/
theorem over_noughts {Z : List Int} {n k : Nat} {z : Int} (hz : Z[k]? = some z) (hk : k < n) : (Z.take k ++ List.replicate (n - k) 0).set k z = Z.take (k + 1) ++ List.replicate (n - (k + 1)) 0 := by
  have hlt := (List.getElem?_eq_some_iff.1 hz).1
  have hl : (Z.take k).length = k := by rw [List.length_take]; omega
  obtain ⟨m, hm⟩ : ∃ m, n - k = m + 1 := ⟨n - k - 1, by omega⟩
  rw [List.set_append_right _ _ (by omega), hl, Nat.sub_self, hm, List.replicate_succ, List.set_cons_zero, List.take_add_one, hz, show n - (k + 1) = m by omega]
  simp

end Go.Proofs.Ythpbiccgjpocaaa
