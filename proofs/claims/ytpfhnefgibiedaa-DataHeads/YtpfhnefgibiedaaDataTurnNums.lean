/-
  Bits of a packet's head turned about, one by one: when its sum is right still. No function of the program is spoken of.
-/
import Derived.Test.YtpfhnefgibiedaaCrcBits
import Derived.Test.YtpfhnefgibiedaaDataNums
namespace Go.Proofs.Ytpfhnefgibiedaa
open Go.RowKit

theorem highs_pow (r : Nat) (hr : r < 8) : highs (2 ^ (7 - r)) = List.replicate r 0 ++ 1 :: List.replicate (7 - r) 0 := by
  match r, hr with
  | 0, _ => decide
  | 1, _ => decide
  | 2, _ => decide
  | 3, _ => decide
  | 4, _ => decide
  | 5, _ => decide
  | 6, _ => decide
  | 7, _ => decide

/-- A bit of one byte turned about, as a bit of the text. -/
theorem textHigh_turn {xs : List Int} (bx : ∀ z ∈ xs, 0 ≤ z ∧ z ≤ 255) {q r x : Nat} (hr : r < 8) (hx : xs[q]? = some (x : Int)) : textHigh (xs.set q ((x ^^^ 2 ^ (7 - r) : Nat) : Int)) = xorBits (textHigh xs) (unit (8 * xs.length) (8 * q + r)) := by
  have hlt := (List.getElem?_eq_some_iff.1 hx).1
  have h := xorText_set xs (List.replicate xs.length 0) q x ((2 ^ (7 - r) : Nat) : Int) (by simp) hx
  rw [xorText_noughts xs bx, Int.toNat_natCast, Int.toNat_natCast] at h
  rw [← h, textHigh_xor _ _ (by simp)]
  congr 1
  obtain ⟨m, hm⟩ : ∃ m, xs.length = q + (m + 1) := ⟨xs.length - q - 1, by omega⟩
  have e : (List.replicate xs.length (0 : Int)).set q ((2 ^ (7 - r) : Nat) : Int) = List.replicate q 0 ++ (((2 ^ (7 - r) : Nat) : Int) :: List.replicate m 0) := by
    rw [hm, ← List.replicate_append_replicate, List.set_append_right _ _ (by simp), List.length_replicate, Nat.sub_self, List.replicate_succ, List.set_cons_zero]
  rw [e, textHigh_append, textHigh_noughts]
  have e2 : textHigh (((2 ^ (7 - r) : Nat) : Int) :: List.replicate m 0) = highs (2 ^ (7 - r)) ++ textHigh (List.replicate m 0) := by
    unfold textHigh
    rw [List.flatMap_cons, Int.toNat_natCast]
  rw [e2, textHigh_noughts, highs_pow r hr]
  unfold unit
  rw [List.append_assoc, ← List.append_assoc, List.replicate_append_replicate, List.cons_append, List.replicate_append_replicate]
  congr 3
  omega

/-- A packet behind i rounds: its length, its bytes, its first byte, its bits; as long as nothing was turned about it is what it was. -/
def TurnedH (X : List Int) (p : Nat) (bs : List Nat) (i : Nat) (Y : List Int) : Prop :=
  Y.length = X.length ∧ (∀ z ∈ Y, 0 ≤ z ∧ z ≤ 255) ∧ textHigh Y = xorBits (textHigh X) (bmask (8 * X.length) p bs i) ∧ Y[0]? = X[0]? ∧ (anyBit bs i = false → Y = X)
theorem TurnedH.start {X : List Int} (bx : ∀ z ∈ X, 0 ≤ z ∧ z ≤ 255) {p : Nat} {bs : List Nat} (hp : p ≤ 8 * X.length) : TurnedH X p bs 0 X := by
  refine ⟨rfl, bx, ?_, rfl, fun _ => rfl⟩
  rw [bmask_zero hp, ← textHigh_len, xorBits_noughts]
theorem TurnedH.same {X Y : List Int} {p : Nat} {bs : List Nat} {i : Nat} (h : TurnedH X p bs i Y) (hb : bs[i]? = some 0) (hn : p + i < 8 * X.length) : TurnedH X p bs (i + 1) Y :=
  ⟨h.1, h.2.1, by rw [bmask_same hb hn]; exact h.2.2.1, h.2.2.2.1, fun ha => h.2.2.2.2 (by rw [anyBit_next hb] at ha; simpa using ha)⟩
theorem TurnedH.turn {X Y : List Int} {p : Nat} {bs : List Nat} {i x : Nat} (h : TurnedH X p bs i Y) (hb : bs[i]? = some 1) (hp : 8 ≤ p) (hn : p + i < 8 * X.length) (hx : Y[(p + i) / 8]? = some (x : Int)) : TurnedH X p bs (i + 1) (Y.set ((p + i) / 8) ((x ^^^ 2 ^ (7 - (p + i) % 8) : Nat) : Int)) := by
  have hx2 := h.2.1 _ (List.mem_of_getElem? hx)
  refine ⟨by rw [List.length_set]; exact h.1, fun z hz => ?_, ?_, ?_, fun ha => ?_⟩
  · rcases List.mem_or_eq_of_mem_set hz with hz | rfl
    · exact h.2.1 z hz
    · have : x ^^^ 2 ^ (7 - (p + i) % 8) < 2 ^ 8 := xor_lt (by omega) (Nat.pow_lt_pow_right (by omega) (by omega))
      omega
  · rw [textHigh_turn h.2.1 (Nat.mod_lt _ (by decide)) hx, h.2.2.1, xorBits_assoc, bmask_turn hb hn, h.1, Nat.div_add_mod]
  · rw [List.getElem?_set_ne (by omega)]; exact h.2.2.2.1
  · rw [anyBit_next hb] at ha; simp at ha

theorem xorBits_take : ∀ (l m : List Nat) (k : Nat), (xorBits l m).take k = xorBits (l.take k) (m.take k)
  | [], _, k => by simp [xorBits]
  | _ :: _, [], k => by cases k <;> simp [xorBits]
  | a :: l, b :: m, 0 => by simp [xorBits]
  | a :: l, b :: m, k + 1 => by simp [xorBits, xorBits_take l m k]
theorem bmask_take {n p k : Nat} {bs : List Nat} {i : Nat} (hi : i ≤ bs.length) (hk : p + i ≤ k) (hn : k ≤ n) : (bmask n p bs i).take k = bmask k p bs i := by
  rw [bmask_all, bmask_all]
  have hl : (List.replicate p 0 ++ bs.take i).length = p + i := by rw [List.length_append, List.length_replicate, List.length_take]; omega
  rw [List.take_append, List.take_of_length_le (by omega), hl, List.take_replicate, Nat.min_eq_left (by omega)]
theorem textHigh_take : ∀ (xs : List Int) (k : Nat), textHigh (xs.take k) = (textHigh xs).take (8 * k)
  | [], k => by simp [textHigh]
  | z :: xs, 0 => by simp [textHigh]
  | z :: xs, k + 1 => by
    have ih := textHigh_take xs k
    unfold textHigh at ih ⊢
    rw [List.take_succ_cons, List.flatMap_cons, List.flatMap_cons, ih, List.take_append, List.take_of_length_le (show (highs z.toNat).length ≤ 8 * (k + 1) by simp [highs]; omega), show 8 * (k + 1) - (highs z.toNat).length = 8 * k by simp [highs]; omega]

/-- The register behind a head and its sum is 0, just if the sum is right. -/
theorem two_high {c1 c2 : Int} (h1 : 0 ≤ c1 ∧ c1 ≤ 255) (h2 : 0 ≤ c2 ∧ c2 ≤ 255) : (high (textHigh [c1, c2]) : Int) = beNum [c1, c2] := by
  rw [beNum_two]
  obtain ⟨a, rfl⟩ := Int.eq_ofNat_of_zero_le h1.1
  obtain ⟨b, rfl⟩ := Int.eq_ofNat_of_zero_le h2.1
  have e : textHigh [(a : Int), (b : Int)] = highs a ++ highs b := by simp [textHigh]
  rw [e]
  simp [highs, high]
  omega
theorem reg16_sum {zs : List Int} (bz : ∀ z ∈ zs, 0 ≤ z ∧ z ≤ 255) (hl : 11 ≤ zs.length) : dSum zs ↔ feed16 65535 (textHigh (zs.take 11)) = 0 := by
  obtain ⟨a, s1, s2, s3, s4, r, f1, f2, n, c1, c2, t, rfl, ht⟩ := list_eleven hl
  have bc1 := bz c1 (by simp)
  have bc2 := bz c2 (by simp)
  have e : (a :: s1 :: s2 :: s3 :: s4 :: r :: f1 :: f2 :: n :: c1 :: c2 :: t).take 11 = [a, s1, s2, s3, s4, r, f1, f2, n] ++ [c1, c2] := rfl
  have ec : dC (a :: s1 :: s2 :: s3 :: s4 :: r :: f1 :: f2 :: n :: c1 :: c2 :: t) = beNum [c1, c2] := rfl
  have e9 : (a :: s1 :: s2 :: s3 :: s4 :: r :: f1 :: f2 :: n :: c1 :: c2 :: t).take 9 = [a, s1, s2, s3, s4, r, f1, f2, n] := rfl
  have h16 : (textHigh [c1, c2]).length = 16 := by rw [textHigh_len]; rfl
  have hs := sum16_lt [a, s1, s2, s3, s4, r, f1, f2, n]
  have hh := high_lt (textHigh_01 [c1, c2])
  rw [h16] at hh
  unfold dSum
  rw [ec, e9, e, textHigh_append, feed16_append, feed16_high _ _ (textHigh_01 _) (by omega), h16]
  show ((sum16 [a, s1, s2, s3, s4, r, f1, f2, n] : Nat) : Int) = beNum [c1, c2] ↔ times n16 16 (sum16 [a, s1, s2, s3, s4, r, f1, f2, n] ^^^ high (textHigh [c1, c2]) * 2 ^ 0) = 0
  rw [← two_high bc1 bc2, Nat.pow_zero, Nat.mul_one]
  constructor
  · intro h
    have h' : sum16 [a, s1, s2, s3, s4, r, f1, f2, n] = high (textHigh [c1, c2]) := by exact_mod_cast h
    rw [h', Nat.xor_self, times_n16_zero]
  · intro h
    have := times_n16_inj 16 (xor_lt hs hh) h
    have h2 := xor_cancel this
    rw [h2]

/-- The sum is right behind the rounds just if nothing was turned about. -/
theorem TurnedH.sum {s r f : Int} {xs Y : List Int} (hR : RightD s r f xs) (bx : ∀ z ∈ xs, 0 ≤ z ∧ z ≤ 255) {p : Nat} {bs : List Nat} {i : Nat} (h : TurnedH (packD s r f xs) p bs i Y) (h01 : Bits01 bs) (hi : i ≤ bs.length) (h16 : i ≤ 16) (hn : p + i ≤ 88) (ha : anyBit bs i = true) : ¬ dSum Y := by
  have hpl := packD_len s r f xs
  have bp := packD_bd hR bx
  have hl : 11 ≤ Y.length := by rw [h.1, hpl]; omega
  rw [reg16_sum h.2.1 hl]
  have h0 := (reg16_sum bp (by omega)).1 (dSum_pack s r f xs)
  have hb := bmask_len (n := 88) (p := p) hi hn
  have hr : feed16 65535 (textHigh (Y.take 11)) = feed16 0 (bmask 88 p bs i) := by
    rw [textHigh_take, h.2.2.1, xorBits_take, bmask_take hi hn (by omega), ← textHigh_take]
    have := feed16_xor (textHigh ((packD s r f xs).take 11)) (bmask 88 p bs i) 65535 0 (by rw [textHigh_len, hb, List.length_take]; omega)
    rw [Nat.xor_zero, h0, Nat.zero_xor] at this
    exact this
  rw [hr, bmask_all]
  refine feed16_burst _ _ (bs.take i) (fun b hb => h01 b (List.mem_of_mem_take hb)) (by rw [List.length_take]; omega) ?_
  unfold anyBit at ha
  rw [List.any_eq_true] at ha
  obtain ⟨b, hb, hb2⟩ := ha
  exact ⟨b, hb, by simpa using hb2⟩
/-- What is read then. -/
theorem TurnedH.bad {s r f : Int} {xs Y : List Int} (hR : RightD s r f xs) (bx : ∀ z ∈ xs, 0 ≤ z ∧ z ≤ 255) {p : Nat} {bs : List Nat} {i : Nat} (h : TurnedH (packD s r f xs) p bs i Y) (h01 : Bits01 bs) (hi : i ≤ bs.length) (h16 : i ≤ 16) (hn : p + i ≤ 88) (ha : anyBit bs i = true) : badD Y 4 := by
  have hpl := packD_len s r f xs
  refine .inr (.inr (.inl ⟨?_, ?_, h.sum hR bx h01 hi h16 hn ha, rfl⟩))
  · unfold dLen; rw [h.1, hpl]; have := hR.2.2.2; omega
  · rw [h.2.2.2.1]; exact packD_head s r f xs

end Go.Proofs.Ytpfhnefgibiedaa
