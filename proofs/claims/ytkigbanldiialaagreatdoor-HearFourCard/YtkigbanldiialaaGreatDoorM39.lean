/-
  Piles that are filled place by place. No program is spoken of.
-/
import Derived.Test.YtkigbanldiialaaGreatDoorM01
import Derived.Test.YtkigbanldiialaaGreatDoorM16
import Derived.Test.YtkigbanldiialaaGreatDoorM17
import Derived.Test.YtkigbanldiialaaGreatDoorM24
import Derived.Test.YtkigbanldiialaaGreatDoorM25
import Derived.Test.YtkigbanldiialaaGreatDoorM26
import Derived.Test.YtkigbanldiialaaGreatDoorM32
import Derived.Test.YtkigbanldiialaaGreatDoorM37
import Derived.Test.YtkigbanldiialaaGreatDoorM38
import Derived.Deep.RegionWith
namespace Go.Proofs.YtkigbanldiialaaGreatDoor

theorem aheadOf_end : ∀ {l : List (Int × Int)} {k : Int}, (∀ x ∈ l, x.1 < k) → aheadOf l k = l.length
  | [], _, _ => rfl
  | x :: l, k, h => by
    rw [aheadOf, if_pos (h x List.mem_cons_self), aheadOf_end fun y hy => h y (List.mem_cons_of_mem _ hy), List.length_cons]

end Go.Proofs.YtkigbanldiialaaGreatDoor

/-
  The pile that is heard of a block's first symbols, some left out, some turned about. No program is spoken of.
-/
namespace Go.Proofs.YtkigbanldiialaaGreatDoor

/-- What is put at a place: the symbol, turned about where it is. -/
def hvN (zs : List Int) (ts : List Nat) (k : Nat) : Nat := codeN zs k ^^^ (ts[k]?.getD 0)
def hOut (os : List Bool) (k : Nat) : Bool := os[k]?.getD false
def heardL (zs : List Int) (os : List Bool) (ts : List Nat) : Nat → List (Int × Int)
  | 0 => []
  | k + 1 => if hOut os k = true then heardL zs os ts k else heardL zs os ts k ++ [((k : Int), ((hvN zs ts k : Nat) : Int))]
theorem heardL_out {zs : List Int} {os : List Bool} {ts : List Nat} {k : Nat} (h : hOut os k = true) : heardL zs os ts (k + 1) = heardL zs os ts k := by simp only [heardL]; rw [if_pos h]
theorem heardL_in {zs : List Int} {os : List Bool} {ts : List Nat} {k : Nat} (h : hOut os k = false) : heardL zs os ts (k + 1) = heardL zs os ts k ++ [((k : Int), ((hvN zs ts k : Nat) : Int))] := by simp only [heardL]; rw [if_neg (by simp [h])]
theorem heardL_mem {zs : List Int} {os : List Bool} {ts : List Nat} : ∀ {k : Nat} {x : Int × Int}, x ∈ heardL zs os ts k → ∃ j, j < k ∧ hOut os j = false ∧ x = ((j : Int), ((hvN zs ts j : Nat) : Int))
  | 0, x, h => by simp [heardL] at h
  | k + 1, x, h => by
    cases ho : hOut os k with
    | true =>
      rw [heardL_out ho] at h
      obtain ⟨j, hj, h2, h3⟩ := heardL_mem h
      exact ⟨j, by omega, h2, h3⟩
    | false =>
      rw [heardL_in ho] at h
      rcases List.mem_append.1 h with h | h
      · obtain ⟨j, hj, h2, h3⟩ := heardL_mem h
        exact ⟨j, by omega, h2, h3⟩
      · simp at h
        exact ⟨k, by omega, ho, h⟩
theorem mem_heardL {zs : List Int} {os : List Bool} {ts : List Nat} {j : Nat} (ho : hOut os j = false) : ∀ {k : Nat}, j < k → ((j : Int), ((hvN zs ts j : Nat) : Int)) ∈ heardL zs os ts k
  | 0, h => by omega
  | k + 1, h => by
    by_cases e : j = k
    · subst e
      rw [heardL_in ho]
      simp
    · have ih := mem_heardL ho (k := k) (zs := zs) (ts := ts) (by omega)
      cases ho' : hOut os k with
      | true => rw [heardL_out ho']; exact ih
      | false => rw [heardL_in ho']; exact List.mem_append.2 (.inl ih)
theorem heardL_lt {zs : List Int} {os : List Bool} {ts : List Nat} {k : Nat} : ∀ x ∈ heardL zs os ts k, x.1 < (k : Int) := by
  intro x hx
  obtain ⟨j, hj, _, rfl⟩ := heardL_mem hx
  show (j : Int) < k
  omega
theorem heardL_rises (zs : List Int) (os : List Bool) (ts : List Nat) : ∀ k, Rises (heardL zs os ts k)
  | 0 => List.Pairwise.nil
  | k + 1 => by
    cases ho : hOut os k with
    | true => rw [heardL_out ho]; exact heardL_rises zs os ts k
    | false =>
      rw [heardL_in ho]
      unfold Rises
      rw [List.pairwise_append]
      refine ⟨heardL_rises zs os ts k, List.pairwise_singleton _ _, fun x hx y hy => ?_⟩
      simp at hy; subst hy
      exact heardL_lt x hx
theorem putN_end {n p : Int} {L : List (Int × Int)} {k v : Int} (hL : ∀ x ∈ L, x.1 < k) (h : k < n * p) : putN n p L k v = L ++ [(k, v)] := by
  have h1 := aheadOf_end hL
  have h2 : hasAt L k = false := by
    unfold hasAt
    rw [h1, List.getElem?_eq_none (Nat.le_refl _)]
  unfold putN
  rw [if_neg (by rw [h2]; simp; omega)]
  unfold putL
  rw [h1, List.take_of_length_le (Nat.le_refl _), List.drop_of_length_le (Nat.le_refl _)]
theorem heardL_put {n p : Int} {zs : List Int} {os : List Bool} {ts : List Nat} {k : Nat} (ho : hOut os k = false) (h : (k : Int) < n * p) : putN n p (heardL zs os ts k) (k : Int) ((hvN zs ts k : Nat) : Int) = heardL zs os ts (k + 1) := by
  rw [heardL_in ho]
  exact putN_end heardL_lt h
end Go.Proofs.YtkigbanldiialaaGreatDoor

/-
  A block's own symbols cost its own path nothing. No program is spoken of.
-/
namespace Go.Proofs.YtkigbanldiialaaGreatDoor

theorem fold_last (co : Nat → Int → Int) : ∀ (P : List Int) (n : Nd) (s : Nat), n.1 = (s : Int) → (P.foldl (kid stB co) n).1 = ((lastOf s P : Nat) : Int)
  | [], n, s, h => h
  | k :: P, n, s, h => by
    rw [List.foldl_cons]
    exact fold_last co P _ (stepN s k.toNat) (by show stB n.1 k = _; rw [h]; rfl)
theorem sta_last (co : Nat → Int → Int) (P : List Int) : sta stB co (beginN : Int) P = ((lastOf beginN P : Nat) : Int) := fold_last co P _ beginN rfl
theorem costN_zero {s : Nat} : ∀ {l : List (Int × Int)}, (∀ x ∈ l, oneCost s x = 0) → costN s l = 0
  | [], _ => rfl
  | x :: l, h => by
    rw [costN, h x (by simp), costN_zero fun y hy => h y (by simp [hy])]
theorem hvN_own (zs : List Int) (k : Nat) : hvN zs [] k = codeN zs k := by unfold hvN; simp
theorem own_zero (zs : List Int) (os : List Bool) (C j : Nat) : costN (stN zs j) (ofL (2 * zs.length) (heardL zs os [] C) j) = 0 := by
  refine costN_zero fun x hx => ?_
  obtain ⟨y, hy, h1, rfl⟩ := ofL_mem.1 hx
  obtain ⟨k, _, _, rfl⟩ := heardL_mem hy
  have h2 : segN (2 * zs.length) k = j := by simpa using h1
  unfold oneCost
  have e : symN (stN zs j) (k / (2 * zs.length)) = codeN zs k := by
    unfold codeN
    rw [h2]
  simp only [Int.toNat_natCast]
  rw [hvN_own, e, Nat.xor_self]
  rfl
/-- The block's own path costs nothing. -/
theorem own_met (zs : List Int) (os : List Bool) (C : Nat) : ∀ i, i ≤ 2 * zs.length → met stB (coB (2 * zs.length) (heardL zs os [] C)) (beginN : Int) ((nibs zs).take i) = 0
  | 0, _ => by rw [List.take_zero]; rfl
  | i + 1, hi => by
    have hil : i < (nibs zs).length := by rw [nibs_len]; omega
    obtain ⟨k, hk⟩ : ∃ k, (nibs zs)[i]? = some k := ⟨(nibs zs)[i], by simp⟩
    have e : (nibs zs).take (i + 1) = (nibs zs).take i ++ [k] := by rw [List.take_add_one, hk]; rfl
    have e2 : stB (sta stB (coB (2 * zs.length) (heardL zs os [] C)) (beginN : Int) ((nibs zs).take i)) k = ((stN zs i : Nat) : Int) := by
      rw [← sta_snoc stB (coB (2 * zs.length) (heardL zs os [] C)) (beginN : Int), ← e, sta_last]
      rfl
    rw [e, met_snoc, own_met zs os C i (by omega), e2, List.length_take, Nat.min_eq_left (by omega)]
    unfold coB
    rw [Int.toNat_natCast, own_zero]
    rfl
theorem nibs_nibs (zs : List Int) : Nibs (nibs zs) := fun k hk => by have := nibs_path zs k hk; omega
/-- Of a block's own symbols no other is told. -/
theorem told_own (zs : List Int) (os : List Bool) (C a b : Nat) (hb : 1 ≤ b) (h0 : 1 ≤ zs.length) {n : Nd} {t : List Nd} (hl : (walkTo stB (coB (2 * zs.length) (heardL zs os [] C)) (2 * zs.length) (beginN : Int) b a (2 * zs.length)).1 = n :: t) (ht : ∀ u, t.head? = some u → u.2.1 ≠ n.2.1)
    (hc : ¬ (0 ≤ (walkTo stB (coB (2 * zs.length) (heardL zs os [] C)) (2 * zs.length) (beginN : Int) b a (2 * zs.length)).2 ∧ (walkTo stB (coB (2 * zs.length) (heardL zs os [] C)) (2 * zs.length) (beginN : Int) b a (2 * zs.length)).2 ≤ n.2.1)) : pathOf n = nibs zs ∧ n.2.1 = 0 := by
  obtain ⟨h1, h2, h3, h4⟩ := told_least stB (coB (2 * zs.length) (heardL zs os [] C)) (2 * zs.length) (beginN : Int) (coB_pos _ _) a b hb (by omega) hl ht hc
  have hT := own_met zs os C (2 * zs.length) (Nat.le_refl _)
  rw [List.take_of_length_le (by rw [nibs_len]; exact Nat.le_refl _)] at hT
  have hpos := met_pos stB (coB (2 * zs.length) (heardL zs os [] C)) (beginN : Int) (coB_pos _ _) (pathOf n)
  have hm := h1.2.1
  have hp : nibs zs = pathOf n := by
    refine Classical.byContradiction fun hne => ?_
    have := h4 (nibs zs) (nibs_nibs zs) (nibs_len zs) hne
    omega
  refine ⟨hp.symm, ?_⟩
  rw [hm, ← hp]
  exact hT

end Go.Proofs.YtkigbanldiialaaGreatDoor

/-
  Symbols of a state with some bits turned: what they cost. No program is spoken of.
-/
namespace Go.Proofs.YtkigbanldiialaaGreatDoor

theorem pc8_zero : ∀ t, t < 256 → (pcTo 8 t = 0 ↔ t = 0) := by decide +kernel
end Go.Proofs.YtkigbanldiialaaGreatDoor

/-
  By the first four symbols of each segment a block is told. No program is spoken of.
-/
namespace Go.Proofs.YtkigbanldiialaaGreatDoor

theorem costN_mem {s : Nat} {x : Int × Int} : ∀ {l : List (Int × Int)}, x ∈ l → oneCost s x ≤ costN s l
  | [], h => by simp at h
  | y :: l, h => by
    rw [costN]
    rcases List.mem_cons.1 h with rfl | h
    · exact Nat.le_add_right _ _
    · exact Nat.le_trans (costN_mem h) (Nat.le_add_left _ _)
theorem pc_pos {x y : Nat} (hx : x < 256) (hy : y < 256) (h : x ≠ y) : 0 < pcTo 32 (x ^^^ y) := by
  have hb := xor_byte hx hy
  rw [pc_byte hb]
  refine Nat.pos_of_ne_zero fun h0 => h ?_
  have h1 := (pc8_zero _ hb).1 h0
  have h2 : x ^^^ (x ^^^ y) = x := by rw [h1, Nat.xor_zero]
  rw [← Nat.xor_assoc, Nat.xor_self, Nat.zero_xor] at h2
  exact h2.symm
theorem hOut_nil (k : Nat) : hOut [] k = false := rfl
/-- Each other state costs something. -/
theorem four_cost {zs : List Int} {C : Nat} (hn : 2 * zs.length < 65) (hC : 4 * (2 * zs.length) ≤ C) {j s : Nat} (hj : j < 2 * zs.length) (hs : s < 4294967296) (hne : s ≠ stN zs j) : 0 < costN s (ofL (2 * zs.length) (heardL zs [] [] C) j) := by
  obtain ⟨i, hi, hd⟩ : ∃ i, i < 4 ∧ symN s i ≠ symN (stN zs j) i := by
    refine Classical.byContradiction fun h => hne (four_inj hs (stN_lt zs j) fun i hi => ?_)
    exact Classical.byContradiction fun h' => h ⟨i, hi, h'⟩
  have hpos := posN_lt hn hj
  have hk : i * (2 * zs.length) + posN (2 * zs.length) j < C := by
    have : i * (2 * zs.length) ≤ 3 * (2 * zs.length) := Nat.mul_le_mul_right _ (by omega)
    omega
  have hm := mem_heardL (zs := zs) (os := []) (ts := []) (hOut_nil _) hk
  rw [hvN_own, codeN_place hn hj] at hm
  have hx : (((i : Nat) : Int), ((symN (stN zs j) i : Nat) : Int)) ∈ ofL (2 * zs.length) (heardL zs [] [] C) j := by
    refine ofL_mem.2 ⟨_, hm, ?_, ?_⟩
    · rw [Int.toNat_natCast, segN_place hn hj]
    · rw [Int.toNat_natCast, place_div hpos]
  refine Nat.lt_of_lt_of_le ?_ (costN_mem hx)
  unfold oneCost
  simp only [Int.toNat_natCast]
  exact pc_pos (symN_lt _ _) (symN_lt _ _) hd
theorem step_inj {s k k' : Nat} (hs : s < 4294967296) (hk : k < 16) (hk' : k' < 16) (h : stepN s k = stepN s k') : k = k' := by
  unfold stepN at h
  have h1 := mix_inj (xorlt32 hs (by omega)) (xorlt32 hs (by omega)) h
  have h2 : s ^^^ (s ^^^ k) = s ^^^ (s ^^^ k') := by rw [h1]
  rwa [← Nat.xor_assoc, ← Nat.xor_assoc, Nat.xor_self, Nat.zero_xor, Nat.zero_xor] at h2
/-- It is told. -/
theorem told_four (zs : List Int) (C a b : Nat) (hb : 1 ≤ b) (h0 : 1 ≤ zs.length) (hn : 2 * zs.length < 65) (hC : 4 * (2 * zs.length) ≤ C) :
    ∃ n t, (walkTo stB (coB (2 * zs.length) (heardL zs [] [] C)) (2 * zs.length) (beginN : Int) b a (2 * zs.length)).1 = n :: t ∧ pathOf n = nibs zs ∧ n.2.1 = 0 ∧ (∀ u, t.head? = some u → u.2.1 ≠ n.2.1) ∧ ¬ (0 ≤ (walkTo stB (coB (2 * zs.length) (heardL zs [] [] C)) (2 * zs.length) (beginN : Int) b a (2 * zs.length)).2 ∧ (walkTo stB (coB (2 * zs.length) (heardL zs [] [] C)) (2 * zs.length) (beginN : Int) b a (2 * zs.length)).2 ≤ n.2.1) := by
  have hsta : ∀ i, sta stB (coB (2 * zs.length) (heardL zs [] [] C)) (beginN : Int) ((nibs zs).take (i + 1)) = ((stN zs i : Nat) : Int) := fun i => by rw [sta_last]; rfl
  have hT := own_met zs [] C (2 * zs.length) (Nat.le_refl _)
  rw [List.take_of_length_le (by rw [nibs_len]; exact Nat.le_refl _)] at hT
  obtain ⟨_, hpos⟩ := four_pos stB (coB (2 * zs.length) (heardL zs [] [] C)) (2 * zs.length) (beginN : Int) (coB_pos _ _) (nibs zs) (nibs_len zs) (nibs_nibs zs)
    (fun i _ => by rw [hsta]; unfold coB; rw [Int.toNat_natCast, own_zero]; rfl)
    (fun i Q k hi _ _ hne => by
      rw [hsta, sta_last] at hne
      rw [sta_last]
      unfold coB
      rw [Int.toNat_natCast]
      have := four_cost hn hC hi (lastOf_lt (Q ++ [k]) begin_lt) (fun e => hne (by rw [e]))
      omega)
    (fun i k k' hi hk hk' h => by
      rw [sta_last] at h
      unfold stB at h
      rw [Int.toNat_natCast] at h
      have := step_inj (lastOf_lt ((nibs zs).take i) begin_lt) (by omega) (by omega) (Int.ofNat.inj h)
      omega)
  have hU : ∀ P, Nibs P → P.length = 2 * zs.length → P ≠ nibs zs → met stB (coB (2 * zs.length) (heardL zs [] [] C)) (beginN : Int) (nibs zs) < met stB (coB (2 * zs.length) (heardL zs [] [] C)) (beginN : Int) P := fun P hP hl hne => by
    rw [hT]
    exact hpos _ P (Nat.le_refl _) hP hl (by rw [List.take_of_length_le (by rw [nibs_len]; exact Nat.le_refl _)]; exact hne)
  obtain ⟨n, t, h1, h2, h3, h4, h5⟩ := clear_told stB (coB (2 * zs.length) (heardL zs [] [] C)) (2 * zs.length) (beginN : Int) (coB_pos _ _) a b hb (by omega) (nibs zs) (nibs_nibs zs) (nibs_len zs) hU (fun i hi => .inl fun Q hQ hl hne => by
    rw [hT]
    have h6 := hpos (i + 1) Q (by omega) hQ hl hne
    have h7 := scA_ge stB (coB (2 * zs.length) (heardL zs [] [] C)) (2 * zs.length) (beginN : Int) (coB_pos _ _) a Q (by omega)
    omega)
  exact ⟨n, t, h1, h2, by rw [h3, hT], h4, h5⟩

end Go.Proofs.YtkigbanldiialaaGreatDoor

/-
  What the page's own Pick answers. (Written by tpl_refpick.py.)
-/
namespace Go.Proofs.YtkigbanldiialaaGreatDoor
open Go.RowKit

end Go.Proofs.YtkigbanldiialaaGreatDoor

/-
  What the page's Walk answers: the list at the end, and the cut.
-/
namespace Go.Proofs.YtkigbanldiialaaGreatDoor
open Go.RowKit

/-- The walk over a pile. -/
def walkB (N : Nat) (l : List (Int × Int)) (b D i : Nat) : List Nd × Int := walkTo stB (coB N l) N (beginN : Int) b D i
def kidsB (N : Nat) (l : List (Int × Int)) (D i : Nat) (L : List Nd) : List Nd := kidsOf stB (coB N l) N D i L
def kidB (N : Nat) (l : List (Int × Int)) (D i : Nat) (n : Nd) (k : Int) : Nd := kidS stB (coB N l) N D i n k
theorem walkB_next (N : Nat) (l : List (Int × Int)) (b D i : Nat) : walkB N l b D (i + 1) = (keptN b (kidsB N l D i (walkB N l b D i).1), lmin (walkB N l b D i).2 (cutK sc b (kidsB N l D i (walkB N l b D i).1))) := rfl
theorem kidsB_snoc (N : Nat) (l : List (Int × Int)) (D i : Nat) (L : List Nd) (n : Nd) : kidsB N l D i (L ++ [n]) = kidsB N l D i L ++ nib16.map (kidB N l D i n) := by
  unfold kidsB kidsOf
  rw [List.flatMap_append]
  simp [kidB]
theorem kidB_eq {N : Nat} {l : List (Int × Int)} {D i s k : Nat} {n : Nd} (hs : n.1 = (s : Int)) (hl : n.2.2.2.length = i) : kidB N l D i n (k : Int) = (((stepN s k : Nat) : Int), n.2.1 + ((costN (stepN s k) (ofL N l i) : Nat) : Int), lst stB (coB N l) N D ((stepN s k : Nat) : Int) (i + 1) (n.2.1 + ((costN (stepN s k) (ofL N l i) : Nat) : Int)), n.2.2.2 ++ [(k : Int)]) := by
  unfold kidB kidS kid
  rw [hs, hl, stB_nat, coB_nat]
/-- What is known of the list's nodes. -/
theorem walkB_node {N : Nat} {p : Int} {l : List (Int × Int)} (hp : PileOk (N : Int) p l) {b D i : Nat} (hb : 1 ≤ b) {n : Nd} (h : n ∈ (walkB N l b D i).1) : (∃ s : Nat, s < 4294967296 ∧ n.1 = (s : Int)) ∧ 0 ≤ n.2.1 ∧ n.2.1 ≤ 8192 * (i : Int) ∧ n.2.2.2.length = i := by
  obtain ⟨P, h1, h2, h3, _⟩ := (walkTo_inv stB (coB N l) N (beginN : Int) D b hb i).node n h
  obtain ⟨s, hs, es⟩ := staB_nat N l P
  have e : n.2.1 = metB N l P := h3.2.1
  refine ⟨⟨s, hs, h3.1.trans es⟩, by rw [e]; exact metB_pos N l P, by rw [e]; exact metB_le hp i P h1, by rw [h3.2.2]; exact h1⟩
theorem walkB_len (N : Nat) (l : List (Int × Int)) {b D i : Nat} (hb : 1 ≤ b) (hb2 : b ≤ 16) : (walkB N l b D i).1.length ≤ 16 := by
  have := (walkTo_inv stB (coB N l) N (beginN : Int) D b hb i).most
  unfold walkB
  omega
theorem kidsB_ok {N : Nat} {p : Int} {l : List (Int × Int)} (hp : PileOk (N : Int) p l) {b D i : Nat} (hb : 1 ≤ b) : ∀ x ∈ kidsB N l D i (walkB N l b D i).1, 0 ≤ sc x ∧ x.2.2.2.length = i + 1 := by
  intro x hx
  obtain ⟨n, hn, k, hk, rfl⟩ := kidsOf_mem stB (coB N l) N hx
  obtain ⟨⟨s, hs, es⟩, h1, h2, h3⟩ := walkB_node hp hb hn
  obtain ⟨kn, rfl⟩ : ∃ kn : Nat, k = (kn : Int) := ⟨k.toNat, by omega⟩
  have e := kidB_eq (N := N) (l := l) (D := D) (k := kn) es h3
  unfold kidB at e
  rw [e]
  refine ⟨?_, by simp [h3]⟩
  show 0 ≤ lst stB (coB N l) N D _ _ _
  exact (lst_bd N l hp D _ _ _ (by omega)).1

end Go.Proofs.YtkigbanldiialaaGreatDoor

/-
  What the page's Decode answers. (Written by tpl_refdecode.py.)
-/
namespace Go.Proofs.YtkigbanldiialaaGreatDoor
open Go.RowKit

/-- What is told of a list and its cut: nothing, or the first one's path and metric. -/
def decB (L : List Nd) (cut : Int) : Option (List Int × Int) := match L with
  | [] => none
  | n :: t => if t.head?.map (fun u => u.2.1) = some n.2.1 ∨ (0 ≤ cut ∧ cut ≤ n.2.1) then none else some (n.2.2.2, n.2.1)
theorem decB_same {L : List Nd} {cut : Int} {n u : Nd} (h0 : L[0]? = some n) (h1 : L[1]? = some u) (h : u.2.1 = n.2.1) : decB L cut = none := by
  match L, h0, h1 with
  | n' :: u' :: t, h0, h1 =>
    simp at h0 h1
    subst h0 h1
    unfold decB
    simp [h]
theorem decB_cut {L : List Nd} {cut : Int} {n : Nd} (h0 : L[0]? = some n) {h1 : L[1]? = none ∨ ∃ u, L[1]? = some u ∧ u.2.1 ≠ n.2.1} (a : 0 ≤ cut) (b : cut ≤ n.2.1) : decB L cut = none := by
  match L, h0 with
  | n' :: t, h0 =>
    simp at h0
    subst h0
    unfold decB
    simp [a, b]
theorem decB_told {L : List Nd} {cut : Int} {n : Nd} (h0 : L[0]? = some n) {h1 : L[1]? = none ∨ ∃ u, L[1]? = some u ∧ u.2.1 ≠ n.2.1} (h : ¬ (0 ≤ cut ∧ cut ≤ n.2.1)) : decB L cut = some (n.2.2.2, n.2.1) := by
  match L, h0 with
  | n' :: t, h0 =>
    simp at h0
    subst h0
    simp only [decB]
    rw [if_neg]
    rintro (h2 | h2)
    · rcases h1 with h1 | ⟨u, hu, hne⟩
      · cases t with
        | nil => simp at h2
        | cons v t => simp at h1
      · cases t with
        | nil => simp at h2
        | cons v t => simp at h2 hu; subst hu; exact hne h2
    · exact h h2

end Go.Proofs.YtkigbanldiialaaGreatDoor

/-
  Blocks that are heard, as numbers: which may be, what becomes of them by data. No function of the program is spoken of.
-/
namespace Go.Proofs.YtkigbanldiialaaGreatDoor
open Go.RowKit

/-- Symbols that are put side by side from a place on; was one of them fresh? -/
def putsL (n p : Int) : List (Int × Int) → Int → List Int → List (Int × Int)
  | l, _, [] => l
  | l, k, x :: xs => putsL n p (putN n p l k x) (k + 1) xs
def freshL (n p : Int) : List (Int × Int) → Int → List Int → Bool
  | _, _, [] => false
  | l, k, x :: xs => freshN n p l k || freshL n p (putN n p l k x) (k + 1) xs
theorem putsL_snoc (n p : Int) : ∀ (xs : List Int) (l : List (Int × Int)) (k x : Int), putsL n p l k (xs ++ [x]) = putN n p (putsL n p l k xs) (k + (xs.length : Int)) x
  | [], l, k, x => by simp [putsL]
  | y :: xs, l, k, x => by
    rw [List.cons_append, putsL, putsL, putsL_snoc n p xs]
    congr 1
    rw [List.length_cons]
    omega
theorem freshL_snoc (n p : Int) : ∀ (xs : List Int) (l : List (Int × Int)) (k x : Int), freshL n p l k (xs ++ [x]) = (freshL n p l k xs || freshN n p (putsL n p l k xs) (k + (xs.length : Int)))
  | [], l, k, x => by simp [freshL, putsL]
  | y :: xs, l, k, x => by
    rw [List.cons_append, freshL, freshL, putsL, freshL_snoc n p xs, Bool.or_assoc]
    congr 3
    rw [List.length_cons]
    omega
theorem putsL_ok {n p : Int} : ∀ {xs : List Int} {l : List (Int × Int)} {k : Int}, PileOk n p l → 0 ≤ k → (∀ z ∈ xs, 0 ≤ z ∧ z ≤ 255) → PileOk n p (putsL n p l k xs)
  | [], _, _, h, _, _ => h
  | x :: xs, l, k, h, hk, hx => putsL_ok (xs := xs) (putN_ok h hk (hx x (by simp)).1 (hx x (by simp)).2) (by omega) (fun z hz => hx z (by simp [hz]))

/-- Whatever is put keeps what stands there. -/
theorem putN_has {n p : Int} {l : List (Int × Int)} {k v : Int} {x : Int × Int} (h : x ∈ l) : x ∈ putN n p l k v := by
  unfold putN
  split
  · exact h
  · exact putL_mem.2 (.inr h)
theorem putN_mem {n p : Int} {l : List (Int × Int)} {k v : Int} {x : Int × Int} (h : x ∈ putN n p l k v) : x ∈ l ∨ x = (k, v) := by
  unfold putN at h
  split at h
  · exact .inl h
  · exact (putL_mem.1 h).elim .inr .inl
theorem putsL_mem {n p : Int} : ∀ {xs : List Int} {l : List (Int × Int)} {k : Int} {x : Int × Int}, x ∈ putsL n p l k xs → x ∈ l ∨ ∃ j : Nat, ∃ v, xs[j]? = some v ∧ x = (k + (j : Int), v)
  | [], _, _, _, h => .inl h
  | y :: xs, l, k, x, h => by
    rcases putsL_mem (xs := xs) h with h | ⟨j, v, hv, rfl⟩
    · rcases putN_mem h with h | rfl
      · exact .inl h
      · exact .inr ⟨0, y, rfl, by simp⟩
    · refine .inr ⟨j + 1, v, by simpa using hv, ?_⟩
      congr 1
      omega

/-- A place that is not fresh. -/
def Stale (n p : Int) (l : List (Int × Int)) (k : Int) : Prop := n * p ≤ k ∨ ∃ v, (k, v) ∈ l
theorem stale_iff {n p : Int} {l : List (Int × Int)} {k : Int} (h : PileOk n p l) : freshN n p l k = false ↔ Stale n p l k := by
  unfold freshN Stale
  rw [← hasAt_iff h.2.2, decide_eq_false_iff_not, Classical.not_not]
theorem Stale.put {n p : Int} {l : List (Int × Int)} {k k' v : Int} (h : Stale n p l k) : Stale n p (putN n p l k' v) k := h.elim .inl fun ⟨u, hu⟩ => .inr ⟨u, putN_has hu⟩
theorem Stale.puts {n p : Int} : ∀ {xs : List Int} {l : List (Int × Int)} {k k' : Int}, Stale n p l k → Stale n p (putsL n p l k' xs) k
  | [], _, _, _, h => h
  | _ :: xs, _, _, _, h => Stale.puts (xs := xs) (Stale.put h)
theorem stale_put {n p : Int} {l : List (Int × Int)} {k v : Int} (h : PileOk n p l) : Stale n p (putN n p l k v) k := by
  unfold putN
  split
  · rename_i hc
    rcases hc with hc | hc
    · exact .inl hc
    · exact .inr ((hasAt_iff h.2.2).1 hc)
  · exact .inr ⟨v, putL_mem.2 (.inl rfl)⟩
theorem stale_puts {n p : Int} : ∀ {xs : List Int} {l : List (Int × Int)} {k : Int}, PileOk n p l → 0 ≤ k → (∀ z ∈ xs, 0 ≤ z ∧ z ≤ 255) → ∀ j : Nat, j < xs.length → Stale n p (putsL n p l k xs) (k + (j : Int))
  | [], _, _, _, _, _, j, hj => by simp at hj
  | x :: xs, l, k, h, hk, hx, 0, _ => by
    rw [putsL, show k + ((0 : Nat) : Int) = k by omega]
    exact Stale.puts (stale_put h)
  | x :: xs, l, k, h, hk, hx, j + 1, hj => by
    have := stale_puts (xs := xs) (l := putN n p l k x) (k := k + 1) (putN_ok h hk (hx x (by simp)).1 (hx x (by simp)).2) (by omega) (fun z hz => hx z (by simp [hz])) j (by simpa using hj)
    rw [putsL]
    rw [show k + ((j + 1 : Nat) : Int) = k + 1 + (j : Int) by omega]
    exact this
theorem putN_stale {n p : Int} {l : List (Int × Int)} {k v : Int} (h : PileOk n p l) (hs : Stale n p l k) : putN n p l k v = l := by
  unfold putN
  rw [if_pos]
  exact hs.elim .inl fun hu => .inr ((hasAt_iff h.2.2).2 hu)
/-- Where no place is fresh nothing changes. -/
theorem puts_stale {n p : Int} : ∀ {xs : List Int} {l : List (Int × Int)} {k : Int}, PileOk n p l → (∀ j : Nat, j < xs.length → Stale n p l (k + (j : Int))) → putsL n p l k xs = l ∧ freshL n p l k xs = false
  | [], _, _, _, _ => ⟨rfl, rfl⟩
  | x :: xs, l, k, h, hs => by
    have h0 : Stale n p l k := by have := hs 0 (by simp); rwa [show k + ((0 : Nat) : Int) = k by omega] at this
    have e := putN_stale (v := x) h h0
    have ih := puts_stale (xs := xs) (k := k + 1) h (fun j hj => by have := hs (j + 1) (by simpa using hj); rwa [show k + ((j + 1 : Nat) : Int) = k + 1 + (j : Int) by omega] at this)
    rw [putsL, freshL, e, ih.1, ih.2, (stale_iff h).2 h0]
    exact ⟨rfl, rfl⟩
/-- What is put twice changes nothing the second time. -/
theorem puts_twice {n p : Int} {xs : List Int} {l : List (Int × Int)} {k : Int} (h : PileOk n p l) (hk : 0 ≤ k) (hx : ∀ z ∈ xs, 0 ≤ z ∧ z ≤ 255) : putsL n p (putsL n p l k xs) k xs = putsL n p l k xs ∧ freshL n p (putsL n p l k xs) k xs = false :=
  puts_stale (putsL_ok h hk hx) (stale_puts h hk hx)
theorem putN_len {n p : Int} {l : List (Int × Int)} {k v : Int} (h : PileOk n p l) : (putN n p l k v).length = l.length + (if freshN n p l k then 1 else 0) := by
  cases hf : freshN n p l k with
  | false => rw [putN_stale h ((stale_iff h).1 hf)]; simp
  | true =>
    unfold putN
    unfold freshN at hf
    rw [if_neg (by simpa using hf), putL_len]
    simp
theorem putN_len_le {n p : Int} {l : List (Int × Int)} {k v : Int} (h : PileOk n p l) : (putN n p l k v).length ≤ l.length + 1 := by
  rw [putN_len h]
  split <;> omega
theorem putsL_len_le {n p : Int} : ∀ {xs : List Int} {l : List (Int × Int)} {k : Int}, PileOk n p l → 0 ≤ k → (∀ z ∈ xs, 0 ≤ z ∧ z ≤ 255) → (putsL n p l k xs).length ≤ l.length + xs.length
  | [], _, _, _, _, _ => by simp [putsL]
  | x :: xs, l, k, h, hk, hx => by
    have h1 := putN_len_le (k := k) (v := x) h
    have h2 := putsL_len_le (xs := xs) (k := k + 1) (putN_ok h hk (hx x (by simp)).1 (hx x (by simp)).2) (by omega) (fun z hz => hx z (by simp [hz]))
    rw [putsL, List.length_cons]
    omega

/-- What is decoded of a pile. -/
def toldL (N : Nat) (l : List (Int × Int)) (b D : Nat) : Option (List Int) := (decB (walkB N l b D N).1 (walkB N l b D N).2).map fun x => x.1
theorem toldL_some {N : Nat} {l : List (Int × Int)} {b D : Nat} {ps : List Int} (h : toldL N l b D = some ps) : ∃ n t, (walkB N l b D N).1 = n :: t ∧ pathOf n = ps ∧ (∀ u, t.head? = some u → u.2.1 ≠ n.2.1) ∧ ¬ (0 ≤ (walkB N l b D N).2 ∧ (walkB N l b D N).2 ≤ n.2.1) := by
  unfold toldL at h
  cases hw : (walkB N l b D N).1 with
  | nil => rw [hw] at h; simp [decB] at h
  | cons n t =>
    rw [hw] at h
    simp only [decB] at h
    split at h
    · simp at h
    · rename_i hc
      simp at h
      refine ⟨n, t, rfl, h, fun u hu e => hc (.inl (by rw [hu]; simp [e])), fun e => hc (.inr e)⟩
theorem toldL_of {N : Nat} {l : List (Int × Int)} {b D : Nat} {n : Nd} {t : List Nd} (h : (walkB N l b D N).1 = n :: t) (ht : ∀ u, t.head? = some u → u.2.1 ≠ n.2.1) (hc : ¬ (0 ≤ (walkB N l b D N).2 ∧ (walkB N l b D N).2 ≤ n.2.1)) : toldL N l b D = some (pathOf n) := by
  unfold toldL
  rw [h]
  simp only [decB]
  rw [if_neg]
  · rfl
  · rintro (h1 | h1)
    · cases hh : t.head? with
      | none => rw [hh] at h1; simp at h1
      | some u => rw [hh] at h1; simp at h1; exact ht u hh h1
    · exact hc h1
/-- A path that is told has as many nibbles as there are segments. -/
theorem toldL_path {N : Nat} {l : List (Int × Int)} {b D : Nat} (hb : 1 ≤ b) (hN : 0 < N) {ps : List Int} (h : toldL N l b D = some ps) : ps.length = N ∧ Nibs ps := by
  obtain ⟨n, t, h1, rfl, h2, h3⟩ := toldL_some h
  have := told_least stB (coB N l) N (beginN : Int) (coB_pos _ _) D b hb hN h1 h2 h3
  exact ⟨this.2.1, this.2.2.1⟩

end Go.Proofs.YtkigbanldiialaaGreatDoor

/-
  What pile.Put answers of a right pile and numbers that may be. (Written by tpl_pileput.py.)
-/
namespace Go.Proofs.YtkigbanldiialaaGreatDoor
open Go.RowKit

theorem Put_in (n p : Int) (k u : Int) (k0 : 0 ≤ k) (hk : k ≤ 9223372036854775807) (u0 : 0 ≤ u) (u1 : u ≤ 255) (a : Option Addr) (cap : Nat) (l : List (Int × Int)) (hp : PileOk n p l) (w : World) (ha : Syms w.heap.size w (.slice a l.length cap) l) (hc : RowCap a l.length cap) :
    Calls Tryz.prog 57 #[.agg #[.int .i64 n, .int .i64 p, .slice a l.length cap], .int .i64 k, .int .i64 u] w fun e W' => ∃ r, e = .returned (.tuple #[.agg #[.int .i64 n, .int .i64 p, r], .bool (freshN n p l k), .int .i64 0]) ∧ W'.ownsRow w.heap.size 79 2 r (putN n p l k u).length (symCells (putN n p l k u)) ∧ Below w.heap.size w W' := by
  have hql := aheadOf_le l k
  obtain ⟨q, hq⟩ : ∃ q, aheadOf l k = q := ⟨_, rfl⟩
  rw [hq] at hql
  cases ht : hasAt l k with
  | true =>
    have h1 : freshN n p l k = false := by unfold freshN; exact decide_eq_false (by simp [ht])
    have h2 : putN n p l k u = l := by unfold putN; rw [if_pos (.inr ht)]
    rw [h1, h2]
    exact Put_stands n p k u k0 hk u0 u1 a cap l q hq ht hp w ha
  | false =>
    by_cases hMk : n * p ≤ k
    · have h1 : freshN n p l k = false := by unfold freshN; exact decide_eq_false (by simp [hMk])
      have h2 : putN n p l k u = l := by unfold putN; rw [if_pos (.inl hMk)]
      rw [h1, h2]
      exact Put_beyond n p k u k0 hk u0 u1 a cap l q hq ht hMk hp w ha
    · have h1 : freshN n p l k = true := by unfold freshN; exact decide_eq_true (by rw [ht]; simp; omega)
      have h2 : putN n p l k u = putL l k u := by unfold putN; rw [if_neg (by rw [ht]; simp; omega)]
      rw [h1, h2, putL_len]
      cases a with
      | none => exact Put_fresh2 n p k u k0 hk u0 u1 cap l q hq ht (by omega) hp w ha
      | some ad =>
        obtain ⟨b, off, spot⟩ := ad
        obtain rfl : spot = none := hc.2 _ rfl
        have hlc := hc.1
        by_cases h3 : q < l.length
        · exact Put_fresh1 n p k u k0 hk u0 u1 b off cap l q hq ht (by omega) h3 (by omega) hp w ha
        · by_cases h4 : q < cap
          · exact Put_fresh3 n p k u k0 hk u0 u1 b off cap l q hq ht (by omega) (by omega) h4 hp w ha
          · exact Put_fresh4 n p k u k0 hk u0 u1 b off cap l q hq ht (by omega) (by omega) (by omega) hp w ha

end Go.Proofs.YtkigbanldiialaaGreatDoor
