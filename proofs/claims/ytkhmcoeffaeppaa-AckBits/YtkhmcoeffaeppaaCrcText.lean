/-
  Texts of bytes: that the sums are linear in them, when one is sealed. No function of the program is spoken of.
-/
import Derived.Test.YtkhmcoeffaeppaaCrcDefs
namespace Go.Proofs.Ytkhmcoeffaeppaa
open Go.RowKit

theorem bit_of_xor (a b j : Nat) : (a ^^^ b) / 2 ^ j % 2 = a / 2 ^ j % 2 ^^^ b / 2 ^ j % 2 := by
  rw [xor_div_pow, parity_xor]
  generalize a / 2 ^ j = p
  generalize b / 2 ^ j = q
  rcases Nat.mod_two_eq_zero_or_one p with hx | hx <;> rcases Nat.mod_two_eq_zero_or_one q with hy | hy <;> rw [hx, hy]
  · show (p + q) % 2 = 0; omega
  · show (p + q) % 2 = 1; omega
  · show (p + q) % 2 = 1; omega
  · show (p + q) % 2 = 0; omega

theorem lows_xor (a b : Nat) : lows (a ^^^ b) = xorBits (lows a) (lows b) := by
  have h := bit_of_xor a b
  have h0 := h 0; have h1 := h 1; have h2 := h 2; have h3 := h 3; have h4 := h 4; have h5 := h 5; have h6 := h 6; have h7 := h 7
  simp only [Nat.pow_zero, Nat.div_one] at h0
  simp only [lows, xorBits]
  rw [h0, show (a ^^^ b) / 2 % 2 = _ from h1, show (a ^^^ b) / 4 % 2 = _ from h2, show (a ^^^ b) / 8 % 2 = _ from h3, show (a ^^^ b) / 16 % 2 = _ from h4, show (a ^^^ b) / 32 % 2 = _ from h5, show (a ^^^ b) / 64 % 2 = _ from h6, show (a ^^^ b) / 128 % 2 = _ from h7]

theorem highs_xor (a b : Nat) : highs (a ^^^ b) = xorBits (highs a) (highs b) := by
  have h := bit_of_xor a b
  have h0 := h 0; have h1 := h 1; have h2 := h 2; have h3 := h 3; have h4 := h 4; have h5 := h 5; have h6 := h 6; have h7 := h 7
  simp only [Nat.pow_zero, Nat.div_one] at h0
  simp only [highs, xorBits]
  rw [h0, show (a ^^^ b) / 2 % 2 = _ from h1, show (a ^^^ b) / 4 % 2 = _ from h2, show (a ^^^ b) / 8 % 2 = _ from h3, show (a ^^^ b) / 16 % 2 = _ from h4, show (a ^^^ b) / 32 % 2 = _ from h5, show (a ^^^ b) / 64 % 2 = _ from h6, show (a ^^^ b) / 128 % 2 = _ from h7]

theorem xorBits_append : ∀ (l m l' m' : List Nat), l.length = m.length → xorBits (l ++ l') (m ++ m') = xorBits l m ++ xorBits l' m'
  | [], [], _, _, _ => rfl
  | [], _ :: _, _, _, h => by simp at h
  | _ :: _, [], _, _, h => by simp at h
  | b :: l, c :: m, l', m', h => by
    rw [List.cons_append, List.cons_append, xorBits, xorBits, List.cons_append, xorBits_append l m l' m' (by simpa using h)]

/-- Two texts, byte by byte. -/
def xorText : List Int → List Int → List Int
  | x :: l, y :: m => ((x.toNat ^^^ y.toNat : Nat) : Int) :: xorText l m
  | _, _ => []

theorem textLow_xor : ∀ (l m : List Int), l.length = m.length → textLow (xorText l m) = xorBits (textLow l) (textLow m)
  | [], [], _ => rfl
  | [], _ :: _, h => by simp at h
  | _ :: _, [], h => by simp at h
  | x :: l, y :: m, h => by
    have ih := textLow_xor l m (by simpa using h)
    unfold textLow at ih ⊢
    rw [xorText, List.flatMap_cons, List.flatMap_cons, List.flatMap_cons, xorBits_append _ _ _ _ (show (lows x.toNat).length = (lows y.toNat).length from rfl), ih, Int.toNat_natCast, lows_xor]

theorem textHigh_xor : ∀ (l m : List Int), l.length = m.length → textHigh (xorText l m) = xorBits (textHigh l) (textHigh m)
  | [], [], _ => rfl
  | [], _ :: _, h => by simp at h
  | _ :: _, [], h => by simp at h
  | x :: l, y :: m, h => by
    have ih := textHigh_xor l m (by simpa using h)
    unfold textHigh at ih ⊢
    rw [xorText, List.flatMap_cons, List.flatMap_cons, List.flatMap_cons, xorBits_append _ _ _ _ (show (highs x.toNat).length = (highs y.toNat).length from rfl), ih, Int.toNat_natCast, highs_xor]

theorem textLow_len (xs : List Int) : (textLow xs).length = 8 * xs.length := by
  induction xs with
  | nil => rfl
  | cons z xs ih => rw [textLow, List.flatMap_cons, List.length_append]; unfold textLow at ih; rw [ih]; simp [lows]; omega

theorem textLow_append (l m : List Int) : textLow (l ++ m) = textLow l ++ textLow m := List.flatMap_append
theorem textHigh_append (l m : List Int) : textHigh (l ++ m) = textHigh l ++ textHigh m := List.flatMap_append

theorem low_append : ∀ (l m : List Nat), low (l ++ m) = low l + 2 ^ l.length * low m
  | [], m => by simp [low]
  | b :: l, m => by
    rw [List.cons_append, low, low_append l m, low, List.length_cons, Nat.pow_succ, Nat.mul_add, Nat.mul_comm (2 ^ l.length) 2, Nat.mul_assoc, Nat.add_assoc]

theorem low_four (s : Nat) (h : s < 4294967296) : low (textLow (four s)) = s := by
  have e : textLow (four s) = lows (s % 256) ++ (lows (s / 256 % 256) ++ (lows (s / 65536 % 256) ++ lows (s / 16777216 % 256))) := by
    unfold textLow four
    simp only [List.flatMap_cons, List.flatMap_nil, Int.toNat_natCast, List.append_nil]
  rw [e, low_append, low_append, low_append, low_lows _ (by omega), low_lows _ (by omega), low_lows _ (by omega), low_lows _ (by omega)]
  show s % 256 + 2 ^ 8 * (s / 256 % 256 + 2 ^ 8 * (s / 65536 % 256 + 2 ^ 8 * (s / 16777216 % 256))) = s
  omega

/-- The register behind a sealed text is always one. -/
theorem reg_seal (xs : List Int) : reg32 (sealL xs) = 3736805603 := by
  unfold reg32 sealL
  rw [textLow_append, feed32_append]
  refine (feed32_residue _ (reg32_lt xs) _ (textLow_01 _) (by rw [textLow_len]; rfl)).2 ?_
  rw [low_four _ (sum32_lt xs)]
  rfl

theorem sum_seal (xs : List Int) : sum32 (sealL xs) = 558161692 := by
  unfold sum32
  rw [reg_seal]
  decide

theorem xorText_len : ∀ (a b : List Int), a.length = b.length → (xorText a b).length = b.length
  | [], [], _ => rfl
  | [], _ :: _, h => by simp at h
  | _ :: _, [], h => by simp at h
  | x :: l, y :: m, h => by
    rw [xorText, List.length_cons, List.length_cons, xorText_len l m (by simpa using h)]

theorem xorText_get : ∀ {a b : List Int} {k : Nat} {x y : Int}, a[k]? = some x → b[k]? = some y → (xorText a b)[k]? = some ((x.toNat ^^^ y.toNat : Nat) : Int)
  | [], _, _, _, _, h, _ => by simp at h
  | _ :: _, [], _, _, _, _, h => by simp at h
  | x :: l, y :: m, 0, _, _, h, g => by simp at h g; subst h; subst g; rfl
  | x :: l, y :: m, k + 1, _, _, h, g => by
    rw [xorText, List.getElem?_cons_succ]
    exact xorText_get (by simpa using h) (by simpa using g)

theorem xorText_bd : ∀ {a b : List Int}, (∀ z ∈ a, 0 ≤ z ∧ z ≤ 255) → (∀ z ∈ b, 0 ≤ z ∧ z ≤ 255) → ∀ z ∈ xorText a b, 0 ≤ z ∧ z ≤ 255
  | [], _, _, _, z, hz => by simp [xorText] at hz
  | _ :: _, [], _, _, z, hz => by simp [xorText] at hz
  | x :: l, y :: m, h, g, z, hz => by
    rw [xorText] at hz
    rcases List.mem_cons.1 hz with rfl | hz
    · have h1 := h x List.mem_cons_self
      have h2 := g y List.mem_cons_self
      have := xor_lt (k := 8) (a := x.toNat) (b := y.toNat) (by omega) (by omega)
      omega
    · exact xorText_bd (fun z hz => h z (List.mem_cons_of_mem _ hz)) (fun z hz => g z (List.mem_cons_of_mem _ hz)) z hz

theorem sum16_linear (a b c : List Int) (h1 : a.length = b.length) (h2 : b.length = c.length) : sum16 (xorText (xorText a b) c) = sum16 a ^^^ sum16 b ^^^ sum16 c := by
  have hx := xorText_len a b h1
  unfold sum16
  rw [textHigh_xor _ _ (hx.trans h2), textHigh_xor _ _ h1]
  have hl1 : (textHigh a).length = (textHigh b).length := by rw [textHigh_len, textHigh_len, h1]
  have hl2 : (xorBits (textHigh a) (textHigh b)).length = (textHigh c).length := by rw [← textHigh_xor _ _ h1, textHigh_len, textHigh_len, hx, h2]
  have s1 := feed16_xor (xorBits (textHigh a) (textHigh b)) (textHigh c) 0 65535 hl2
  have s2 := feed16_xor (textHigh a) (textHigh b) 65535 65535 hl1
  rw [Nat.zero_xor] at s1
  rw [Nat.xor_self] at s2
  rw [s1, s2]

theorem sum32_linear (a b c : List Int) (h1 : a.length = b.length) (h2 : b.length = c.length) : sum32 (xorText (xorText a b) c) = sum32 a ^^^ sum32 b ^^^ sum32 c := by
  have hx := xorText_len a b h1
  unfold sum32 reg32
  rw [textLow_xor _ _ (hx.trans h2), textLow_xor _ _ h1]
  have hl1 : (textLow a).length = (textLow b).length := by rw [textLow_len, textLow_len, h1]
  have hl2 : (xorBits (textLow a) (textLow b)).length = (textLow c).length := by rw [← textLow_xor _ _ h1, textLow_len, textLow_len, hx, h2]
  have f1 : feed32 4294967295 (xorBits (xorBits (textLow a) (textLow b)) (textLow c)) = feed32 4294967295 (textLow a) ^^^ feed32 4294967295 (textLow b) ^^^ feed32 4294967295 (textLow c) := by
    have s1 := feed32_xor (xorBits (textLow a) (textLow b)) (textLow c) 0 4294967295 hl2
    have s2 := feed32_xor (textLow a) (textLow b) 4294967295 4294967295 hl1
    rw [Nat.zero_xor] at s1
    rw [Nat.xor_self] at s2
    rw [s1, s2]
  rw [f1]
  generalize feed32 4294967295 (textLow a) = p
  generalize feed32 4294967295 (textLow b) = q
  generalize feed32 4294967295 (textLow c) = r
  rw [xor4 p 4294967295 q 4294967295, Nat.xor_self, Nat.xor_zero, Nat.xor_assoc (p ^^^ q)]

theorem sealL_len (xs : List Int) : (sealL xs).length = xs.length + 4 := by simp [sealL, four]
theorem sealL_bd {xs : List Int} (bx : ∀ z ∈ xs, 0 ≤ z ∧ z ≤ 255) : ∀ z ∈ sealL xs, 0 ≤ z ∧ z ≤ 255 := fun z hz => by
  rcases List.mem_append.1 hz with h | h
  · exact bx z h
  · exact four_bd _ z h

end Go.Proofs.Ytkhmcoeffaeppaa
