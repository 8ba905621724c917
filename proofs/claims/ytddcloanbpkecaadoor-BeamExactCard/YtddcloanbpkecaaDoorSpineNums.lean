/-
  States behind nibbles as numbers. No program is spoken of.
-/
import Derived.Test.YtddcloanbpkecaaDoorMixNums
namespace Go.Proofs.YtddcloanbpkecaaDoor

/-- The state at first; one step. -/
def beginN : Nat := 2654435769
def stepN (s n : Nat) : Nat := mixN (s ^^^ n)
theorem stepN_lt (s n : Nat) : stepN s n < 4294967296 := mixN_lt _

theorem xor_right_inj {a b c : Nat} (h : a ^^^ c = b ^^^ c) : a = b := by
  have := congrArg (· ^^^ c) h
  simpa [Nat.xor_assoc] using this
theorem xor_left_inj {a b c : Nat} (h : c ^^^ a = c ^^^ b) : a = b := xor_right_inj (c := c) (by rw [Nat.xor_comm a c, Nat.xor_comm b c]; exact h)

theorem step_nib {s n m : Nat} (hs : s < 4294967296) (hn : n < 16) (hm : m < 16) : stepN s n = stepN s m ↔ n = m :=
  ⟨fun h => xor_left_inj (mix_inj (xorlt32 hs (by omega)) (xorlt32 hs (by omega)) h), fun h => by rw [h]⟩
theorem step_state {s t n : Nat} (hs : s < 4294967296) (ht : t < 4294967296) (hn : n < 16) : stepN s n = stepN t n ↔ s = t :=
  ⟨fun h => xor_right_inj (mix_inj (xorlt32 hs (by omega)) (xorlt32 ht (by omega)) h), fun h => by rw [h]⟩

/-- The nibble whose step is next, if there is one. -/
def nibN (s next : Nat) : Nat × Bool := if backN next ^^^ s < 16 then (backN next ^^^ s, true) else (0, false)

theorem nib_some {s n next : Nat} (hs : s < 4294967296) (hn : n < 16) (h : stepN s n = next) : nibN s next = (n, true) := by
  have e : backN next ^^^ s = n := by
    rw [← h]
    unfold stepN
    rw [back_mix (xorlt32 hs (by omega)), Nat.xor_comm s, Nat.xor_assoc, Nat.xor_self, Nat.xor_zero]
  unfold nibN
  rw [e, if_pos hn]
theorem nib_none {s next : Nat} (hx : next < 4294967296) (h : ∀ n, n < 16 → stepN s n ≠ next) : nibN s next = (0, false) := by
  unfold nibN
  rw [if_neg]
  intro hlt
  apply h _ hlt
  unfold stepN
  rw [← Nat.xor_assoc, Nat.xor_comm s, Nat.xor_assoc, Nat.xor_comm s, ← Nat.xor_assoc (backN next), Nat.xor_assoc (backN next), Nat.xor_self, Nat.xor_zero, mix_back hx]

/-- Nibbles alone. -/
def Path (zs : List Int) : Prop := ∀ z ∈ zs, 0 ≤ z ∧ z ≤ 15
theorem Path.tail {z : Int} {zs : List Int} (h : Path (z :: zs)) : Path zs := fun x hx => h x (List.mem_cons_of_mem _ hx)
theorem Path.head {z : Int} {zs : List Int} (h : Path (z :: zs)) : 0 ≤ z ∧ z ≤ 15 := h z List.mem_cons_self
theorem Path.take {zs : List Int} (h : Path zs) (k : Nat) : Path (zs.take k) := fun x hx => h x (List.mem_of_mem_take hx)
theorem Path.get {zs : List Int} (h : Path zs) {k : Nat} {z : Int} (e : zs[k]? = some z) : 0 ≤ z ∧ z ≤ 15 := h z (List.mem_of_getElem? e)

/-- The states behind nibbles, from a state on; the last of them. -/
def statesOf (s : Nat) : List Int → List Int
  | [] => []
  | z :: zs => ((stepN s z.toNat : Nat) : Int) :: statesOf (stepN s z.toNat) zs
def lastOf (s : Nat) : List Int → Nat
  | [] => s
  | z :: zs => lastOf (stepN s z.toNat) zs

theorem statesOf_len : ∀ (s : Nat) (zs : List Int), (statesOf s zs).length = zs.length
  | _, [] => rfl
  | s, z :: zs => by rw [statesOf, List.length_cons, List.length_cons, statesOf_len]
theorem lastOf_lt : ∀ {s : Nat} (zs : List Int), s < 4294967296 → lastOf s zs < 4294967296
  | _, [], h => h
  | s, z :: zs, _ => lastOf_lt zs (stepN_lt s z.toNat)
theorem statesOf_append : ∀ (s : Nat) (xs ys : List Int), statesOf s (xs ++ ys) = statesOf s xs ++ statesOf (lastOf s xs) ys
  | _, [], _ => rfl
  | s, z :: xs, ys => by rw [List.cons_append, statesOf, statesOf, statesOf_append, List.cons_append, lastOf]
theorem lastOf_append : ∀ (s : Nat) (xs ys : List Int), lastOf s (xs ++ ys) = lastOf (lastOf s xs) ys
  | _, [], _ => rfl
  | s, z :: xs, ys => by rw [List.cons_append, lastOf, lastOf, lastOf_append]
theorem statesOf_snoc (s : Nat) (xs : List Int) (z : Int) : statesOf s (xs ++ [z]) = statesOf s xs ++ [((stepN (lastOf s xs) z.toNat : Nat) : Int)] := by rw [statesOf_append]; rfl
theorem lastOf_snoc (s : Nat) (xs : List Int) (z : Int) : lastOf s (xs ++ [z]) = stepN (lastOf s xs) z.toNat := by rw [lastOf_append]; rfl
theorem take_snoc {zs : List Int} {k : Nat} {z : Int} (hz : zs[k]? = some z) : zs.take (k + 1) = zs.take k ++ [z] := by rw [List.take_add_one, hz]; rfl
theorem statesOf_take : ∀ (s : Nat) (zs : List Int) (k : Nat), statesOf s (zs.take k) = (statesOf s zs).take k
  | _, [], k => by simp [statesOf]
  | _, _ :: _, 0 => rfl
  | s, z :: zs, k + 1 => by rw [List.take_succ_cons, statesOf, statesOf, List.take_succ_cons, statesOf_take]
/-- The state behind k nibbles and one more. -/
theorem statesOf_get {s : Nat} {zs : List Int} {k : Nat} {z : Int} (hz : zs[k]? = some z) : (statesOf s zs)[k]? = some ((stepN (lastOf s (zs.take k)) z.toNat : Nat) : Int) := by
  have hk := (List.getElem?_eq_some_iff.1 hz).1
  have h := statesOf_take s zs (k + 1)
  rw [take_snoc hz, statesOf_snoc] at h
  have hl : (statesOf s (zs.take k)).length = k := by rw [statesOf_len, List.length_take]; omega
  have h2 : (statesOf s (zs.take k) ++ [((stepN (lastOf s (zs.take k)) z.toNat : Nat) : Int)])[k]? = ((statesOf s zs).take (k + 1))[k]? := by rw [h]
  rw [List.getElem?_append_right (by omega), hl, Nat.sub_self] at h2
  rw [List.getElem?_take, if_pos (by omega)] at h2
  exact h2.symm
/-- The state that a round begins with is the one behind the round ahead. -/
theorem lastOf_take {s : Nat} {zs : List Int} {k : Nat} {z : Int} (hz : zs[k]? = some z) : lastOf s (zs.take (k + 1)) = stepN (lastOf s (zs.take k)) z.toNat := by
  rw [take_snoc hz, lastOf_snoc]
theorem statesOf_bd : ∀ (s : Nat) (zs : List Int), ∀ x ∈ statesOf s zs, 0 ≤ x ∧ x ≤ 4294967295
  | _, [], x, hx => by simp [statesOf] at hx
  | s, z :: zs, x, hx => by
    rw [statesOf] at hx
    rcases List.mem_cons.1 hx with rfl | hx
    · have := stepN_lt s z.toNat; omega
    · exact statesOf_bd _ zs x hx

/-- Unlike rows of nibbles have unlike rows of states. -/
theorem statesOf_inj : ∀ {s : Nat} {xs ys : List Int}, s < 4294967296 → Path xs → Path ys → statesOf s xs = statesOf s ys → xs = ys
  | _, [], [], _, _, _, _ => rfl
  | _, [], _ :: _, _, _, _, h => by simp [statesOf] at h
  | _, _ :: _, [], _, _, _, h => by simp [statesOf] at h
  | s, x :: xs, y :: ys, hs, hx, hy, h => by
    simp only [statesOf, List.cons.injEq] at h
    have h1 : stepN s x.toNat = stepN s y.toNat := by omega
    have hxh := hx.head
    have hyh := hy.head
    have e := (step_nib hs (by omega) (by omega)).1 h1
    have e2 : x = y := by omega
    subst e2
    rw [statesOf_inj (stepN_lt _ _) hx.tail hy.tail h.2]

end Go.Proofs.YtddcloanbpkecaaDoor
