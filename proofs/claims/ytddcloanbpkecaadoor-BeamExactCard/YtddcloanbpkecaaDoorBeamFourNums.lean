/-
  By the first four symbols of each segment a block is told. No program is spoken of.
-/
import Derived.Test.YtddcloanbpkecaaDoorBeamHeard
import Derived.Test.YtddcloanbpkecaaDoorCostBoundNums
namespace Go.Proofs.YtddcloanbpkecaaDoor

theorem costN_mem {s : Nat} {x : Int × Int} : ∀ {l : List (Int × Int)}, x ∈ l → oneCost s x ≤ costN s l
  | [], h => by simp at h
  | y :: l, h => by
    rw [costN]
    rcases List.mem_cons.1 h with rfl | h
    · exact Nat.le_add_right _ _
    · exact Nat.le_trans (costN_mem h) (Nat.le_add_left _ _)
theorem pc_pos {x y : Nat} (hx : x < 256) (hy : y < 256) (h : x ≠ y) : 0 < pcTo 32 (x ^^^ y) := by
  have hb := xor_byte hx hy
  rw [pc_byte hb]
  refine Nat.pos_of_ne_zero fun h0 => h ?_
  have h1 := (pc8_zero _ hb).1 h0
  have h2 : x ^^^ (x ^^^ y) = x := by rw [h1, Nat.xor_zero]
  rw [← Nat.xor_assoc, Nat.xor_self, Nat.zero_xor] at h2
  exact h2.symm
theorem hOut_nil (k : Nat) : hOut [] k = false := rfl
/-- Each other state costs something. -/
theorem four_cost {zs : List Int} {C : Nat} (hn : 2 * zs.length < 65) (hC : 4 * (2 * zs.length) ≤ C) {j s : Nat} (hj : j < 2 * zs.length) (hs : s < 4294967296) (hne : s ≠ stN zs j) : 0 < costN s (ofL (2 * zs.length) (heardL zs [] [] C) j) := by
  obtain ⟨i, hi, hd⟩ : ∃ i, i < 4 ∧ symN s i ≠ symN (stN zs j) i := by
    refine Classical.byContradiction fun h => hne (four_inj hs (stN_lt zs j) fun i hi => ?_)
    exact Classical.byContradiction fun h' => h ⟨i, hi, h'⟩
  have hpos := posN_lt hn hj
  have hk : i * (2 * zs.length) + posN (2 * zs.length) j < C := by
    have : i * (2 * zs.length) ≤ 3 * (2 * zs.length) := Nat.mul_le_mul_right _ (by omega)
    omega
  have hm := mem_heardL (zs := zs) (os := []) (ts := []) (hOut_nil _) hk
  rw [hvN_own, codeN_place hn hj] at hm
  have hx : (((i : Nat) : Int), ((symN (stN zs j) i : Nat) : Int)) ∈ ofL (2 * zs.length) (heardL zs [] [] C) j := by
    refine ofL_mem.2 ⟨_, hm, ?_, ?_⟩
    · rw [Int.toNat_natCast, segN_place hn hj]
    · rw [Int.toNat_natCast, place_div hpos]
  refine Nat.lt_of_lt_of_le ?_ (costN_mem hx)
  unfold oneCost
  simp only [Int.toNat_natCast]
  exact pc_pos (symN_lt _ _) (symN_lt _ _) hd
theorem step_inj {s k k' : Nat} (hs : s < 4294967296) (hk : k < 16) (hk' : k' < 16) (h : stepN s k = stepN s k') : k = k' := by
  unfold stepN at h
  have h1 := mix_inj (xorlt32 hs (by omega)) (xorlt32 hs (by omega)) h
  have h2 : s ^^^ (s ^^^ k) = s ^^^ (s ^^^ k') := by rw [h1]
  rwa [← Nat.xor_assoc, ← Nat.xor_assoc, Nat.xor_self, Nat.zero_xor, Nat.zero_xor] at h2
/-- It is told. -/
theorem told_four (zs : List Int) (C a b : Nat) (hb : 1 ≤ b) (h0 : 1 ≤ zs.length) (hn : 2 * zs.length < 65) (hC : 4 * (2 * zs.length) ≤ C) :
    ∃ n t, (walkTo stB (coB (2 * zs.length) (heardL zs [] [] C)) (2 * zs.length) (beginN : Int) b a (2 * zs.length)).1 = n :: t ∧ pathOf n = nibs zs ∧ n.2.1 = 0 ∧ (∀ u, t.head? = some u → u.2.1 ≠ n.2.1) ∧ ¬ (0 ≤ (walkTo stB (coB (2 * zs.length) (heardL zs [] [] C)) (2 * zs.length) (beginN : Int) b a (2 * zs.length)).2 ∧ (walkTo stB (coB (2 * zs.length) (heardL zs [] [] C)) (2 * zs.length) (beginN : Int) b a (2 * zs.length)).2 ≤ n.2.1) := by
  have hsta : ∀ i, sta stB (coB (2 * zs.length) (heardL zs [] [] C)) (beginN : Int) ((nibs zs).take (i + 1)) = ((stN zs i : Nat) : Int) := fun i => by rw [sta_last]; rfl
  have hT := own_met zs [] C (2 * zs.length) (Nat.le_refl _)
  rw [List.take_of_length_le (by rw [nibs_len]; exact Nat.le_refl _)] at hT
  obtain ⟨_, hpos⟩ := four_pos stB (coB (2 * zs.length) (heardL zs [] [] C)) (2 * zs.length) (beginN : Int) (coB_pos _ _) (nibs zs) (nibs_len zs) (nibs_nibs zs)
    (fun i _ => by rw [hsta]; unfold coB; rw [Int.toNat_natCast, own_zero]; rfl)
    (fun i Q k hi _ _ hne => by
      rw [hsta, sta_last] at hne
      rw [sta_last]
      unfold coB
      rw [Int.toNat_natCast]
      have := four_cost hn hC hi (lastOf_lt (Q ++ [k]) begin_lt) (fun e => hne (by rw [e]))
      omega)
    (fun i k k' hi hk hk' h => by
      rw [sta_last] at h
      unfold stB at h
      rw [Int.toNat_natCast] at h
      have := step_inj (lastOf_lt ((nibs zs).take i) begin_lt) (by omega) (by omega) (Int.ofNat.inj h)
      omega)
  have hU : ∀ P, Nibs P → P.length = 2 * zs.length → P ≠ nibs zs → met stB (coB (2 * zs.length) (heardL zs [] [] C)) (beginN : Int) (nibs zs) < met stB (coB (2 * zs.length) (heardL zs [] [] C)) (beginN : Int) P := fun P hP hl hne => by
    rw [hT]
    exact hpos _ P (Nat.le_refl _) hP hl (by rw [List.take_of_length_le (by rw [nibs_len]; exact Nat.le_refl _)]; exact hne)
  obtain ⟨n, t, h1, h2, h3, h4, h5⟩ := clear_told stB (coB (2 * zs.length) (heardL zs [] [] C)) (2 * zs.length) (beginN : Int) (coB_pos _ _) a b hb (by omega) (nibs zs) (nibs_nibs zs) (nibs_len zs) hU (fun i hi => .inl fun Q hQ hl hne => by
    rw [hT]
    have h6 := hpos (i + 1) Q (by omega) hQ hl hne
    have h7 := scA_ge stB (coB (2 * zs.length) (heardL zs [] [] C)) (2 * zs.length) (beginN : Int) (coB_pos _ _) a Q (by omega)
    omega)
  exact ⟨n, t, h1, h2, by rw [h3, hT], h4, h5⟩

end Go.Proofs.YtddcloanbpkecaaDoor
