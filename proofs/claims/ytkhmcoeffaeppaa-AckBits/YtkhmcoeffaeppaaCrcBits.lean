/-
  Bits of a text turned about, one by one: when what was sealed is sealed still. No function of the program is spoken of.
-/
import Derived.Test.YtkhmcoeffaeppaaCrcTurn
namespace Go.Proofs.Ytkhmcoeffaeppaa
open Go.RowKit

theorem xorBits_noughts : ∀ l : List Nat, xorBits l (List.replicate l.length 0) = l
  | [] => rfl
  | b :: l => by rw [List.length_cons, List.replicate_succ, xorBits, xorBits_noughts l, Nat.xor_zero]

theorem xorBits_len : ∀ (l m : List Nat), l.length = m.length → (xorBits l m).length = m.length
  | [], [], _ => rfl
  | [], _ :: _, h => by simp at h
  | _ :: _, [], h => by simp at h
  | b :: l, c :: m, h => by rw [xorBits, List.length_cons, List.length_cons, xorBits_len l m (by simpa using h)]

theorem xorBits_assoc : ∀ (l m k : List Nat), xorBits (xorBits l m) k = xorBits l (xorBits m k)
  | [], _, _ => by simp [xorBits]
  | _ :: _, [], _ => by simp [xorBits]
  | _ :: _, _ :: _, [] => by simp [xorBits]
  | a :: l, b :: m, c :: k => by simp only [xorBits]; rw [xorBits_assoc l m k, Nat.xor_assoc]

/-- One bit alone. -/
def unit (n k : Nat) : List Nat := List.replicate k 0 ++ 1 :: List.replicate (n - k - 1) 0

theorem xorBits_unit : ∀ (M : List Nat) (k b : Nat), M[k]? = some b → xorBits M (unit M.length k) = M.set k (b ^^^ 1)
  | [], k, b, h => by simp at h
  | c :: l, 0, b, h => by
    simp at h; subst h
    show xorBits (c :: l) (1 :: List.replicate (l.length + 1 - 0 - 1) 0) = _
    rw [show l.length + 1 - 0 - 1 = l.length by omega, xorBits, xorBits_noughts]
    rfl
  | c :: l, k + 1, b, h => by
    have e : unit (c :: l).length (k + 1) = 0 :: unit l.length k := by
      unfold unit
      rw [List.length_cons, List.replicate_succ, List.cons_append, show l.length + 1 - (k + 1) - 1 = l.length - k - 1 by omega]
    rw [e, xorBits, xorBits_unit l k b (by simpa using h), Nat.xor_zero]
    rfl

/-- The mask of bits: bs from place p on, so many of them. -/
def bmask (n p : Nat) (bs : List Nat) (i : Nat) : List Nat := (List.replicate p 0 ++ bs).take (p + i) ++ List.replicate (n - (p + i)) 0

theorem bmask_zero {n p : Nat} {bs : List Nat} (hn : p ≤ n) : bmask n p bs 0 = List.replicate n 0 := by
  unfold bmask
  rw [Nat.add_zero, List.take_append_of_le_length (by simp), List.take_of_length_le (by simp), List.replicate_append_replicate]
  congr 1
  omega
theorem bmask_len {n p : Nat} {bs : List Nat} {i : Nat} (hi : i ≤ bs.length) (hn : p + i ≤ n) : (bmask n p bs i).length = n := by
  unfold bmask
  rw [List.length_append, List.length_take, List.length_append, List.length_replicate, List.length_replicate]
  omega
theorem bmask_get {n p : Nat} {bs : List Nat} {i : Nat} (hi : i ≤ bs.length) (hn : p + i < n) : (bmask n p bs i)[p + i]? = some 0 := by
  unfold bmask
  have hl : ((List.replicate p 0 ++ bs).take (p + i)).length = p + i := by rw [List.length_take, List.length_append, List.length_replicate]; omega
  rw [List.getElem?_append_right (by omega), hl, Nat.sub_self, List.getElem?_replicate, if_pos (by omega)]
theorem bmask_next {n p : Nat} {bs : List Nat} {i b : Nat} (hb : bs[i]? = some b) (hn : p + i < n) : (bmask n p bs i).set (p + i) b = bmask n p bs (i + 1) := by
  have hz : (List.replicate p 0 ++ bs)[p + i]? = some b := by
    rw [List.getElem?_append_right (by simp), List.length_replicate, show p + i - p = i by omega, hb]
  have hlt := (List.getElem?_eq_some_iff.1 hz).1
  unfold bmask
  obtain ⟨Z, hZ⟩ : ∃ Z, List.replicate p 0 ++ bs = Z := ⟨_, rfl⟩
  rw [hZ] at hz hlt ⊢
  have hl : (Z.take (p + i)).length = p + i := by rw [List.length_take]; omega
  obtain ⟨m, hm⟩ : ∃ m, n - (p + i) = m + 1 := ⟨n - (p + i) - 1, by omega⟩
  rw [List.set_append_right _ _ (by omega), hl, Nat.sub_self, hm, List.replicate_succ, List.set_cons_zero, ← Nat.add_assoc, List.take_add_one, hz, show n - (p + i + 1) = m by omega]
  simp
theorem bmask_all {n p : Nat} {bs : List Nat} {i : Nat} : bmask n p bs i = List.replicate p 0 ++ bs.take i ++ List.replicate (n - (p + i)) 0 := by
  unfold bmask
  rw [List.take_append, List.take_of_length_le (by simp), List.length_replicate, Nat.add_sub_cancel_left]

/-- A bit that is 0 turns nothing about. -/
theorem bmask_same {n p : Nat} {bs : List Nat} {i : Nat} (hb : bs[i]? = some 0) (hn : p + i < n) : bmask n p bs (i + 1) = bmask n p bs i := by
  have hi := (List.getElem?_eq_some_iff.1 hb).1
  rw [← bmask_next hb hn]
  have h := bmask_get (n := n) (p := p) (Nat.le_of_lt hi) hn
  apply List.ext_getElem?
  intro j
  by_cases e : p + i = j
  · subst e
    rw [h, List.getElem?_set_self (List.getElem?_eq_some_iff.1 h).1]
  · rw [List.getElem?_set_ne e]
/-- A bit that is 1 turns one about. -/
theorem bmask_turn {n p : Nat} {bs : List Nat} {i : Nat} (hb : bs[i]? = some 1) (hn : p + i < n) : bmask n p bs (i + 1) = xorBits (bmask n p bs i) (unit n (p + i)) := by
  have hi := (List.getElem?_eq_some_iff.1 hb).1
  have hl := bmask_len (n := n) (p := p) (bs := bs) (i := i) (by omega) (by omega)
  have h := xorBits_unit (bmask n p bs i) (p + i) 0 (bmask_get (Nat.le_of_lt hi) hn)
  rw [hl, Nat.zero_xor, bmask_next hb hn] at h
  exact h.symm

theorem lows_pow (r : Nat) (hr : r < 8) : lows (2 ^ r) = List.replicate r 0 ++ 1 :: List.replicate (7 - r) 0 := by
  match r, hr with
  | 0, _ => decide
  | 1, _ => decide
  | 2, _ => decide
  | 3, _ => decide
  | 4, _ => decide
  | 5, _ => decide
  | 6, _ => decide
  | 7, _ => decide

/-- A bit of one byte turned about, as a bit of the text. -/
theorem textLow_turn {xs : List Int} (bx : ∀ z ∈ xs, 0 ≤ z ∧ z ≤ 255) {q r x : Nat} (hr : r < 8) (hx : xs[q]? = some (x : Int)) : textLow (xs.set q ((x ^^^ 2 ^ r : Nat) : Int)) = xorBits (textLow xs) (unit (8 * xs.length) (8 * q + r)) := by
  have hlt := (List.getElem?_eq_some_iff.1 hx).1
  have h := xorText_set xs (List.replicate xs.length 0) q x ((2 ^ r : Nat) : Int) (by simp) hx
  rw [xorText_noughts xs bx, Int.toNat_natCast, Int.toNat_natCast] at h
  rw [← h, textLow_xor _ _ (by simp)]
  congr 1
  obtain ⟨m, hm⟩ : ∃ m, xs.length = q + (m + 1) := ⟨xs.length - q - 1, by omega⟩
  have e : (List.replicate xs.length (0 : Int)).set q ((2 ^ r : Nat) : Int) = List.replicate q 0 ++ (((2 ^ r : Nat) : Int) :: List.replicate m 0) := by
    rw [hm, ← List.replicate_append_replicate, List.set_append_right _ _ (by simp), List.length_replicate, Nat.sub_self, List.replicate_succ, List.set_cons_zero]
  rw [e, textLow_append, textLow_noughts]
  have e2 : textLow (((2 ^ r : Nat) : Int) :: List.replicate m 0) = lows (2 ^ r) ++ textLow (List.replicate m 0) := by
    unfold textLow
    rw [List.flatMap_cons, Int.toNat_natCast]
  rw [e2, textLow_noughts, lows_pow r hr]
  unfold unit
  rw [List.append_assoc, ← List.append_assoc, List.replicate_append_replicate, List.cons_append, List.replicate_append_replicate]
  congr 3
  omega

/-- Is a bit turned about among the first i? -/
def anyBit (bs : List Nat) (i : Nat) : Bool := (bs.take i).any (fun b => b != 0)

theorem anyBit_next {bs : List Nat} {i b : Nat} (hb : bs[i]? = some b) : anyBit bs (i + 1) = (anyBit bs i || (b != 0)) := by
  unfold anyBit
  rw [List.take_add_one, hb]
  simp

/-- A text behind i rounds: its length, its bytes, its bits. -/
def Turned (X : List Int) (p : Nat) (bs : List Nat) (i : Nat) (Y : List Int) : Prop := Y.length = X.length ∧ (∀ z ∈ Y, 0 ≤ z ∧ z ≤ 255) ∧ textLow Y = xorBits (textLow X) (bmask (8 * X.length) p bs i)

theorem Turned.start {X : List Int} (bx : ∀ z ∈ X, 0 ≤ z ∧ z ≤ 255) {p : Nat} {bs : List Nat} (hp : p ≤ 8 * X.length) : Turned X p bs 0 X := by
  refine ⟨rfl, bx, ?_⟩
  rw [bmask_zero hp, ← textLow_len, xorBits_noughts]
theorem Turned.same {X Y : List Int} {p : Nat} {bs : List Nat} {i : Nat} (h : Turned X p bs i Y) (hb : bs[i]? = some 0) (hn : p + i < 8 * X.length) : Turned X p bs (i + 1) Y :=
  ⟨h.1, h.2.1, by rw [bmask_same hb hn]; exact h.2.2⟩
theorem Turned.turn {X Y : List Int} {p : Nat} {bs : List Nat} {i x : Nat} (h : Turned X p bs i Y) (hb : bs[i]? = some 1) (hn : p + i < 8 * X.length) (hx : Y[(p + i) / 8]? = some (x : Int)) : Turned X p bs (i + 1) (Y.set ((p + i) / 8) ((x ^^^ 2 ^ ((p + i) % 8) : Nat) : Int)) := by
  have hlt := (List.getElem?_eq_some_iff.1 hx).1
  have hx2 := h.2.1 _ (List.mem_of_getElem? hx)
  refine ⟨by rw [List.length_set]; exact h.1, fun z hz => ?_, ?_⟩
  · rcases List.mem_or_eq_of_mem_set hz with hz | rfl
    · exact h.2.1 z hz
    · have : x ^^^ 2 ^ ((p + i) % 8) < 2 ^ 8 := xor_lt (by omega) (Nat.pow_lt_pow_right (by omega) (Nat.mod_lt _ (by decide)))
      omega
  · rw [textLow_turn h.2.1 (Nat.mod_lt _ (by decide)) hx, h.2.2, xorBits_assoc, bmask_turn hb hn, h.1, Nat.div_add_mod]

theorem four_low {z0 z1 z2 z3 : Int} (h0 : 0 ≤ z0 ∧ z0 ≤ 255) (h1 : 0 ≤ z1 ∧ z1 ≤ 255) (h2 : 0 ≤ z2 ∧ z2 ≤ 255) (h3 : 0 ≤ z3 ∧ z3 ≤ 255) : four (low (textLow [z0, z1, z2, z3])) = [z0, z1, z2, z3] := by
  have e : textLow [z0, z1, z2, z3] = lows z0.toNat ++ (lows z1.toNat ++ (lows z2.toNat ++ lows z3.toNat)) := by
    unfold textLow
    simp only [List.flatMap_cons, List.flatMap_nil, List.append_nil]
  rw [e, low_append, low_append, low_append, low_lows _ (by omega), low_lows _ (by omega), low_lows _ (by omega), low_lows _ (by omega)]
  show four (z0.toNat + 2 ^ 8 * (z1.toNat + 2 ^ 8 * (z2.toNat + 2 ^ 8 * z3.toNat))) = _
  unfold four
  refine List.cons_eq_cons.2 ⟨by omega, List.cons_eq_cons.2 ⟨by omega, List.cons_eq_cons.2 ⟨by omega, List.cons_eq_cons.2 ⟨by omega, rfl⟩⟩⟩⟩

theorem list_four {Z : List Int} (h : Z.length = 4) : ∃ a b c d, Z = [a, b, c, d] := by
  match Z, h with
  | [a, b, c, d], _ => exact ⟨a, b, c, d, rfl⟩

/-- A text is sealed just if its register is that one. -/
theorem isSealed_reg {Y : List Int} (h4 : 4 ≤ Y.length) (bY : ∀ z ∈ Y, 0 ≤ z ∧ z ≤ 255) : isSealed Y = decide (reg32 Y = 3736805603) := by
  obtain ⟨A, hA⟩ : ∃ A, Y.take (Y.length - 4) = A := ⟨_, rfl⟩
  obtain ⟨Z, hZ⟩ : ∃ Z, Y.drop (Y.length - 4) = Z := ⟨_, rfl⟩
  have e : Y = A ++ Z := by rw [← hA, ← hZ, List.take_append_drop]
  have hl : Z.length = 4 := by rw [← hZ, List.length_drop]; omega
  have bZ : ∀ z ∈ Z, 0 ≤ z ∧ z ≤ 255 := fun z hz => bY z (List.mem_of_mem_drop (hZ ▸ hz))
  show (decide (4 ≤ Y.length) && decide (sealL (Y.take (Y.length - 4)) = Y)) = _
  rw [decide_eq_true h4, Bool.true_and, hA]
  apply decide_eq_decide.2
  have hr : reg32 Y = feed32 (reg32 A) (textLow Z) := by
    rw [e]; unfold reg32; rw [textLow_append, feed32_append]
  rw [hr, feed32_residue _ (reg32_lt A) _ (textLow_01 Z) (by rw [textLow_len, hl])]
  constructor
  · intro h
    have : four (sum32 A) = Z := by
      unfold sealL at h
      rw [e] at h
      exact List.append_cancel_left h
    rw [← this, low_four _ (sum32_lt A)]
    rfl
  · intro h
    obtain ⟨z0, z1, z2, z3, rfl⟩ := list_four hl
    have h4' := four_low (bZ z0 (by simp)) (bZ z1 (by simp)) (bZ z2 (by simp)) (bZ z3 (by simp))
    have e2 : four (sum32 A) = [z0, z1, z2, z3] := by
      have e3 : sum32 A = low (textLow [z0, z1, z2, z3]) := h.symm
      rw [e3]
      exact h4'
    unfold sealL
    rw [e2]
    exact e.symm

/-- What was sealed is sealed behind the rounds just if nothing was turned about. -/
theorem Turned.end {xs Y : List Int} {p : Nat} {bs : List Nat} {i : Nat} (h : Turned (sealL xs) p bs i Y) (h01 : Bits01 bs) (hi : i ≤ bs.length) (h32 : i ≤ 32) (hn : p + i ≤ 8 * (sealL xs).length) : isSealed Y = !anyBit bs i := by
  have hl : 4 ≤ Y.length := by rw [h.1, sealL_len]; omega
  have hb := bmask_len (n := 8 * (sealL xs).length) (p := p) hi hn
  have hr : reg32 Y = 3736805603 ^^^ feed32 0 (bmask (8 * (sealL xs).length) p bs i) := by
    rw [← reg_seal xs]
    unfold reg32
    rw [h.2.2]
    have := feed32_xor (textLow (sealL xs)) (bmask (8 * (sealL xs).length) p bs i) 4294967295 0 (by rw [textLow_len, hb])
    rwa [Nat.xor_zero] at this
  rw [isSealed_reg hl h.2.1, hr]
  cases ha : anyBit bs i with
  | false =>
    have hz : bs.take i = List.replicate (bs.take i).length 0 := List.eq_replicate_of_mem fun b hb => by
      unfold anyBit at ha
      rw [List.any_eq_false] at ha
      simpa using ha b hb
    have e : bmask (8 * (sealL xs).length) p bs i = List.replicate (p + (bs.take i).length + (8 * (sealL xs).length - (p + i))) 0 := by
      rw [bmask_all, hz, List.length_replicate, List.replicate_append_replicate, List.replicate_append_replicate]
    rw [e, feed32_noughts, Nat.xor_zero]
    rfl
  | true =>
    have hne : feed32 0 (bmask (8 * (sealL xs).length) p bs i) ≠ 0 := by
      rw [bmask_all]
      refine feed32_burst _ _ (bs.take i) (fun b hb => h01 b (List.mem_of_mem_take hb)) (by rw [List.length_take]; omega) ?_
      unfold anyBit at ha
      rw [List.any_eq_true] at ha
      obtain ⟨b, hb, hb2⟩ := ha
      exact ⟨b, hb, by simpa using hb2⟩
    rw [decide_eq_false fun e => hne (xor_eq_left e)]
    rfl

end Go.Proofs.Ytkhmcoeffaeppaa
