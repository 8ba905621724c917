/-
  The segment at a place, as a number. No program is spoken of.
-/
import Derived.Test.YtkphjnbeakkejaaDoorM01
import Derived.Test.YtkphjnbeakkejaaDoorM02
import Derived.Test.YtkphjnbeakkejaaDoorM06
import Derived.Test.YtkphjnbeakkejaaDoorM07
import Derived.Test.YtkphjnbeakkejaaDoorM08
import Derived.Test.YtkphjnbeakkejaaDoorM09
namespace Go.Proofs.YtkphjnbeakkejaaDoor

/-- The segment at a place. -/
def segN (n k : Nat) : Nat := (orderN n)[k % n]?.getD 0
theorem segN_get {n : Nat} (h1 : 1 ≤ n) (hn : n < 65) (k : Nat) : (orderN n)[k % n]? = some (segN n k) ∧ segN n k < n := by
  obtain ⟨x, hx, hxn⟩ := orderN_get hn (Nat.mod_lt k (show 0 < n by omega))
  have e : segN n k = x := by unfold segN; rw [hx]; rfl
  rw [e]
  exact ⟨hx, hxn⟩
end Go.Proofs.YtkphjnbeakkejaaDoor

/-
  Blocks as bytes, as lists of numbers: which may be, which bytes they have, what bytes are read as. No function of the program is spoken of.
-/
namespace Go.Proofs.YtkphjnbeakkejaaDoor
open Go.RowKit

/-- May size, number and mark be? May a text of so many bytes? -/
def bSize (z : Int) : Bool := decide (1 ≤ z) && decide (z ≤ 16)
def bArg (z s m : Int) : Bool := decide (1 ≤ z) && decide (z ≤ 16) && decide (0 ≤ s) && decide (s < 1073741824) && decide (0 ≤ m) && decide (m ≤ 3)
def bLen (z m : Int) (n : Nat) : Bool := decide ((n : Int) ≤ z) && (decide (2 ≤ m) || decide (z ≤ (n : Int)))
/-- The error's number. -/
def errB (z s m : Int) (n : Nat) : Int := if bArg z s m then (if bLen z m n then 0 else 2) else 1

theorem bArg_iff (z s m : Int) : bArg z s m = true ↔ (1 ≤ z ∧ z ≤ 16) ∧ (0 ≤ s ∧ s < 1073741824) ∧ 0 ≤ m ∧ m ≤ 3 := by
  simp only [bArg, Bool.and_eq_true, decide_eq_true_eq]
  omega
theorem bLen_iff (z m : Int) (n : Nat) : bLen z m n = true ↔ (n : Int) ≤ z ∧ (2 ≤ m ∨ z ≤ n) := by
  simp only [bLen, Bool.and_eq_true, Bool.or_eq_true, decide_eq_true_eq]
theorem errB_zero {z s m : Int} {n : Nat} : errB z s m n = 0 ↔ bArg z s m = true ∧ bLen z m n = true := by
  unfold errB
  cases bArg z s m <;> cases bLen z m n <;> simp
theorem errB_arg {z s m : Int} {n : Nat} (h : bArg z s m = false) : errB z s m n = 1 := by simp [errB, h]
theorem errB_len {z s m : Int} {n : Nat} (h : bArg z s m = true) (h' : bLen z m n = false) : errB z s m n = 2 := by simp [errB, h, h']

/-- A block that is right, of size Z. -/
def Right (Z : Nat) (s m : Int) (xs : List Int) : Prop := (1 ≤ Z ∧ Z ≤ 16) ∧ (0 ≤ s ∧ s < 1073741824) ∧ (0 ≤ m ∧ m ≤ 3) ∧ xs.length ≤ Z ∧ (2 ≤ m ∨ Z ≤ xs.length)
theorem right_iff (Z : Nat) (s m : Int) (xs : List Int) : errB (Z : Int) s m xs.length = 0 ↔ Right Z s m xs := by
  rw [errB_zero, bArg_iff, bLen_iff]
  unfold Right
  omega
/-- Its bytes, without and with the seal. -/
def headB (s m : Int) (n : Nat) : List Int := beBytes 4 s ++ [m, (n : Int)]
def bodyB (Z : Nat) (s m : Int) (xs : List Int) : List Int := headB s m xs.length ++ xs ++ List.replicate (Z - xs.length) 0
def bytesB (Z : Nat) (s m : Int) (xs : List Int) : List Int := sealL (bodyB Z s m xs)

theorem beBytes_four (s : Int) : beBytes 4 s = [s / 2 ^ 24 % 256, s / 2 ^ 16 % 256, s / 2 ^ 8 % 256, s / 2 ^ 0 % 256] := by
  simp [beBytes, List.range, List.range.loop]
theorem headB_len (s m : Int) (n : Nat) : (headB s m n).length = 6 := by simp [headB, beBytes_len]
theorem bodyB_len {Z : Nat} {s m : Int} {xs : List Int} (h : xs.length ≤ Z) : (bodyB Z s m xs).length = Z + 6 := by
  simp only [bodyB, List.length_append, headB_len, List.length_replicate]
  omega
theorem sealL_lenB (xs : List Int) : (sealL xs).length = xs.length + 4 := by simp [sealL, four]
theorem bytesB_len {Z : Nat} {s m : Int} {xs : List Int} (h : xs.length ≤ Z) : (bytesB Z s m xs).length = Z + 10 := by
  rw [bytesB, sealL_lenB, bodyB_len h]
theorem beBytes_bd (k : Nat) (s : Int) : ∀ z ∈ beBytes k s, 0 ≤ z ∧ z ≤ 255 := fun z hz => by
  obtain ⟨i, _, rfl⟩ := List.mem_map.1 hz
  have h0 := Int.emod_nonneg (s / 2 ^ (8 * (k - 1 - i))) (show (256 : Int) ≠ 0 by decide)
  have h1 := Int.emod_lt_of_pos (s / 2 ^ (8 * (k - 1 - i))) (show (0 : Int) < 256 by decide)
  omega
theorem headB_bd {s m : Int} {n : Nat} (hm : 0 ≤ m ∧ m ≤ 255) (hn : n ≤ 255) : ∀ z ∈ headB s m n, 0 ≤ z ∧ z ≤ 255 := fun z hz => by
  rcases List.mem_append.1 hz with h | h
  · exact beBytes_bd 4 s z h
  · simp at h
    omega
theorem bodyB_bd {Z : Nat} {s m : Int} {xs : List Int} (h : Right Z s m xs) (bx : ∀ z ∈ xs, 0 ≤ z ∧ z ≤ 255) : ∀ z ∈ bodyB Z s m xs, 0 ≤ z ∧ z ≤ 255 := fun z hz => by
  obtain ⟨h1, h2, h3, h4, _⟩ := h
  rcases List.mem_append.1 hz with h | h
  · rcases List.mem_append.1 h with h | h
    · exact headB_bd (by omega) (by omega) z h
    · exact bx z h
  · have := List.eq_of_mem_replicate h
    omega
theorem sealL_bdB {xs : List Int} (bx : ∀ z ∈ xs, 0 ≤ z ∧ z ≤ 255) : ∀ z ∈ sealL xs, 0 ≤ z ∧ z ≤ 255 := fun z hz => by
  rcases List.mem_append.1 hz with h | h
  · exact bx z h
  · exact four_bd _ z h
theorem bytesB_bd {Z : Nat} {s m : Int} {xs : List Int} (h : Right Z s m xs) (bx : ∀ z ∈ xs, 0 ≤ z ∧ z ≤ 255) : ∀ z ∈ bytesB Z s m xs, 0 ≤ z ∧ z ≤ 255 := sealL_bdB (bodyB_bd h bx)

/-- Four bytes and their number. -/
theorem beNum_four (a b c d : Int) : beNum [a, b, c, d] = ((a * 256 + b) * 256 + c) * 256 + d := by simp [beNum]
theorem beNum_beBytes {s : Int} (h0 : 0 ≤ s) (h1 : s < 4294967296) : beNum (beBytes 4 s) = s := by
  rw [beBytes_four, beNum_four]
  have e1 : (2 : Int) ^ 24 = 16777216 := by decide
  have e2 : (2 : Int) ^ 16 = 65536 := by decide
  have e3 : (2 : Int) ^ 8 = 256 := by decide
  have e4 : (2 : Int) ^ 0 = 1 := by decide
  rw [e1, e2, e3, e4]
  omega
theorem beBytes_beNum {a b c d : Int} (ha : 0 ≤ a ∧ a ≤ 255) (hb : 0 ≤ b ∧ b ≤ 255) (hc : 0 ≤ c ∧ c ≤ 255) (hd : 0 ≤ d ∧ d ≤ 255) : beBytes 4 (beNum [a, b, c, d]) = [a, b, c, d] := by
  rw [beBytes_four, beNum_four]
  have e1 : (2 : Int) ^ 24 = 16777216 := by decide
  have e2 : (2 : Int) ^ 16 = 65536 := by decide
  have e3 : (2 : Int) ^ 8 = 256 := by decide
  have e4 : (2 : Int) ^ 0 = 1 := by decide
  rw [e1, e2, e3, e4]
  congr 1
  · omega
  congr 1
  · omega
  congr 1
  · omega
  congr 1
  omega

theorem isSealed_sealB (xs : List Int) : isSealed (sealL xs) = true := by
  have hl := sealL_lenB xs
  have ht : (sealL xs).take ((sealL xs).length - 4) = xs := by
    rw [hl, Nat.add_sub_cancel]
    unfold sealL
    rw [List.take_append_of_le_length (Nat.le_refl _), List.take_length]
  unfold isSealed
  rw [ht, decide_eq_true rfl, decide_eq_true (show 4 ≤ (sealL xs).length by omega)]
  rfl
theorem sealed_is {zs : List Int} (h : isSealed zs = true) : 4 ≤ zs.length ∧ sealL (zs.take (zs.length - 4)) = zs := by
  unfold isSealed at h
  simp only [Bool.and_eq_true, decide_eq_true_eq] at h
  exact h
end Go.Proofs.YtkphjnbeakkejaaDoor

/-
  Packets of symbols as lists of numbers: which may be, which bytes they have, what bytes are read as. No function of the program is spoken of.
-/
namespace Go.Proofs.YtkphjnbeakkejaaDoor
open Go.RowKit

/-- Data that may be. -/
def RightD (s r f : Int) (xs : List Int) : Prop := (0 ≤ s ∧ s < 1073741824) ∧ (0 ≤ r ∧ r ≤ 255) ∧ (0 ≤ f ∧ f ≤ 65535) ∧ 1 ≤ xs.length ∧ xs.length ≤ 64
/-- The head without its sum; the packet. -/
def headD (s r f : Int) (n : Nat) : List Int := 68 :: (beBytes 4 s ++ (r :: (beBytes 2 f ++ [(n : Int)])))
def packD (s r f : Int) (xs : List Int) : List Int := headD s r f xs.length ++ (beBytes 2 (sum16 (headD s r f xs.length) : Int) ++ xs)

theorem headD_len (s r f : Int) (n : Nat) : (headD s r f n).length = 9 := by simp [headD, beBytes_len]
theorem headD_bd {s r f : Int} {n : Nat} (hr : 0 ≤ r ∧ r ≤ 255) (hn : n ≤ 255) : ∀ z ∈ headD s r f n, 0 ≤ z ∧ z ≤ 255 := fun z hz => by
  unfold headD at hz
  rcases List.mem_cons.1 hz with rfl | hz
  · omega
  rcases List.mem_append.1 hz with h | h
  · exact beBytes_bd 4 s z h
  rcases List.mem_cons.1 h with rfl | h
  · exact hr
  rcases List.mem_append.1 h with h | h
  · exact beBytes_bd 2 f z h
  · simp at h
    omega
end Go.Proofs.YtkphjnbeakkejaaDoor

/-
  Packets that tell what was had, as lists of numbers: which may be, which bytes they have, what bytes are read as, what an ack has. No function of the program is spoken of.
-/
namespace Go.Proofs.YtkphjnbeakkejaaDoor
open Go.RowKit

/-- May Next be? -/
def aArg (n : Int) : Bool := decide (0 ≤ n) && decide (n ≤ 1073741824)
theorem aArg_iff (n : Int) : aArg n = true ↔ 0 ≤ n ∧ n ≤ 1073741824 := by simp [aArg]
theorem aArg_no {n : Int} (h : ¬ (0 ≤ n ∧ n ≤ 1073741824)) : aArg n = false := by
  rw [← Bool.not_eq_true, aArg_iff]; exact h

/-- Its bytes, without and with the seal. -/
def bodyA (n b : Int) : List Int := 65 :: (beBytes 4 n ++ beBytes 4 b)
def packA (n b : Int) : List Int := sealL (bodyA n b)
theorem bodyA_len (n b : Int) : (bodyA n b).length = 9 := by simp [bodyA, beBytes_len]
theorem packA_len (n b : Int) : (packA n b).length = 13 := by rw [packA, sealL_lenB, bodyA_len]
theorem bodyA_bd (n b : Int) : ∀ z ∈ bodyA n b, 0 ≤ z ∧ z ≤ 255 := fun z hz => by
  rcases List.mem_cons.1 hz with rfl | h
  · omega
  rcases List.mem_append.1 h with h | h
  · exact beBytes_bd 4 n z h
  · exact beBytes_bd 4 b z h
theorem packA_bd (n b : Int) : ∀ z ∈ packA n b, 0 ≤ z ∧ z ≤ 255 := sealL_bdB (bodyA_bd n b)

/-- What bytes say. -/
def aN (zs : List Int) : Int := beNum ((zs.drop 1).take 4)
def aB (zs : List Int) : Int := beNum ((zs.drop 5).take 4)
def okA (zs : List Int) : Prop := zs.length = 13 ∧ zs[0]?.getD 0 = 65 ∧ isSealed zs = true ∧ aN zs ≤ 1073741824
def badA (zs : List Int) (e : Int) : Prop :=
  (zs.length ≠ 13 ∧ e = 2) ∨ (zs.length = 13 ∧ zs[0]?.getD 0 ≠ 65 ∧ e = 12) ∨ (zs.length = 13 ∧ zs[0]?.getD 0 = 65 ∧ isSealed zs = false ∧ e = 4) ∨ (zs.length = 13 ∧ zs[0]?.getD 0 = 65 ∧ isSealed zs = true ∧ ¬ aN zs ≤ 1073741824 ∧ e = 1)
theorem aread_cases (zs : List Int) : (∃ e, 0 < e ∧ badA zs e) ∨ okA zs := by
  by_cases h1 : zs.length = 13
  · by_cases h2 : zs[0]?.getD 0 = 65
    · cases h3 : isSealed zs with
      | false => exact .inl ⟨4, by decide, .inr (.inr (.inl ⟨h1, h2, h3, rfl⟩))⟩
      | true =>
        by_cases h4 : aN zs ≤ 1073741824
        · exact .inr ⟨h1, h2, h3, h4⟩
        · exact .inl ⟨1, by decide, .inr (.inr (.inr ⟨h1, h2, h3, h4, rfl⟩))⟩
    · exact .inl ⟨12, by decide, .inr (.inl ⟨h1, h2, rfl⟩)⟩
  · exact .inl ⟨2, by decide, .inl ⟨h1, rfl⟩⟩

theorem packA_list (n b : Int) : packA n b = 65 :: n / 2 ^ 24 % 256 :: n / 2 ^ 16 % 256 :: n / 2 ^ 8 % 256 :: n / 2 ^ 0 % 256 :: b / 2 ^ 24 % 256 :: b / 2 ^ 16 % 256 :: b / 2 ^ 8 % 256 :: b / 2 ^ 0 % 256 :: four (sum32 (bodyA n b)) := by
  simp [packA, sealL, bodyA, beBytes_four]
theorem aN_pack {n b : Int} (h0 : 0 ≤ n) (h1 : n ≤ 1073741824) : aN (packA n b) = n := by
  unfold aN
  rw [packA_list]
  show beNum [n / 2 ^ 24 % 256, n / 2 ^ 16 % 256, n / 2 ^ 8 % 256, n / 2 ^ 0 % 256] = n
  rw [← beBytes_four]
  exact beNum_beBytes h0 (by omega)
theorem aB_pack {n b : Int} (h0 : 0 ≤ b) (h1 : b < 4294967296) : aB (packA n b) = b := by
  unfold aB
  rw [packA_list]
  show beNum [b / 2 ^ 24 % 256, b / 2 ^ 16 % 256, b / 2 ^ 8 % 256, b / 2 ^ 0 % 256] = b
  rw [← beBytes_four]
  exact beNum_beBytes h0 h1
theorem packA_head (n b : Int) : (packA n b)[0]?.getD 0 = 65 := by rw [packA_list]; rfl
theorem packA_sealed (n b : Int) : isSealed (packA n b) = true := isSealed_sealB _
theorem okA_pack {n b : Int} (h0 : 0 ≤ n) (h1 : n ≤ 1073741824) : okA (packA n b) := ⟨packA_len n b, packA_head n b, packA_sealed n b, by rw [aN_pack h0 h1]; exact h1⟩
theorem list_nine {zs : List Int} (h : zs.length = 13) : ∃ a s1 s2 s3 s4 b1 b2 b3 b4 t, zs = a :: s1 :: s2 :: s3 :: s4 :: b1 :: b2 :: b3 :: b4 :: t ∧ t.length = 4 := by
  match zs, h with
  | a :: s1 :: s2 :: s3 :: s4 :: b1 :: b2 :: b3 :: b4 :: t, h => exact ⟨a, s1, s2, s3, s4, b1, b2, b3, b4, t, rfl, by simpa using h⟩
  | [], h => simp at h
  | [_], h => simp at h
  | [_, _], h => simp at h
  | [_, _, _], h => simp at h
  | [_, _, _, _], h => simp at h
  | [_, _, _, _, _], h => simp at h
  | [_, _, _, _, _, _], h => simp at h
  | [_, _, _, _, _, _, _], h => simp at h
  | [_, _, _, _, _, _, _, _], h => simp at h
/-- What is read is made again. -/
theorem packA_read {zs : List Int} (bz : ∀ z ∈ zs, 0 ≤ z ∧ z ≤ 255) (h : okA zs) : (0 ≤ aN zs ∧ aN zs ≤ 1073741824) ∧ (0 ≤ aB zs ∧ aB zs < 4294967296) ∧ packA (aN zs) (aB zs) = zs := by
  obtain ⟨h1, h2, h3, h4⟩ := h
  have hs := (sealed_is h3).2
  rw [h1] at hs
  obtain ⟨a, s1, s2, s3, s4, b1, b2, b3, b4, t, rfl, ht⟩ := list_nine h1
  have c1 := bz s1 (by simp)
  have c2 := bz s2 (by simp)
  have c3 := bz s3 (by simp)
  have c4 := bz s4 (by simp)
  have d1 := bz b1 (by simp)
  have d2 := bz b2 (by simp)
  have d3 := bz b3 (by simp)
  have d4 := bz b4 (by simp)
  have en : aN (a :: s1 :: s2 :: s3 :: s4 :: b1 :: b2 :: b3 :: b4 :: t) = beNum [s1, s2, s3, s4] := rfl
  have eb : aB (a :: s1 :: s2 :: s3 :: s4 :: b1 :: b2 :: b3 :: b4 :: t) = beNum [b1, b2, b3, b4] := rfl
  have e0 : a = 65 := h2
  rw [en] at h4
  rw [en, eb]
  have hn0 : 0 ≤ beNum [s1, s2, s3, s4] := by rw [beNum_four]; omega
  have hb0 : 0 ≤ beNum [b1, b2, b3, b4] ∧ beNum [b1, b2, b3, b4] < 4294967296 := by rw [beNum_four]; omega
  refine ⟨⟨hn0, h4⟩, hb0, ?_⟩
  have e9 : (a :: s1 :: s2 :: s3 :: s4 :: b1 :: b2 :: b3 :: b4 :: t).take (13 - 4) = bodyA (beNum [s1, s2, s3, s4]) (beNum [b1, b2, b3, b4]) := by
    unfold bodyA
    rw [beBytes_beNum c1 c2 c3 c4, beBytes_beNum d1 d2 d3 d4, e0]
    rfl
  rw [e9] at hs
  exact hs

/-- Has an ack this one? -/
def hasA (n : Int) (b : Nat) (q : Int) : Bool := decide (0 ≤ q) && (decide (q < n) || (decide (0 ≤ n) && decide (q - n < 32) && (b / 2 ^ (q - n).toNat % 2 == 1)))
theorem hasA_neg {n : Int} {b : Nat} {q : Int} (h : q < 0) : hasA n b q = false := by
  unfold hasA; rw [decide_eq_false (by omega)]; rfl
theorem hasA_low {n : Int} {b : Nat} {q : Int} (h0 : 0 ≤ q) (h : q < n) : hasA n b q = true := by
  unfold hasA; rw [decide_eq_true h0, decide_eq_true h]; rfl
theorem hasA_none {n : Int} {b : Nat} {q : Int} (h0 : 0 ≤ q) (h : ¬ q < n) (hn : n < 0) : hasA n b q = false := by
  unfold hasA; rw [decide_eq_true h0, decide_eq_false h, decide_eq_false (by omega)]; rfl
theorem hasA_far {n : Int} {b : Nat} {q : Int} (h0 : 0 ≤ q) (h : ¬ q < n) (hf : ¬ q - n < 32) : hasA n b q = false := by
  unfold hasA; rw [decide_eq_true h0, decide_eq_false h, decide_eq_false hf]; simp
theorem hasA_bit {n : Int} {b : Nat} {i : Nat} (hn : 0 ≤ n) (hi : i < 32) : hasA n b (n + i) = (b / 2 ^ i % 2 == 1) := by
  unfold hasA
  rw [decide_eq_true (by omega), decide_eq_false (by omega), decide_eq_true hn, decide_eq_true (by omega), show n + (i : Int) - n = (i : Int) by omega, Int.toNat_natCast]
  simp

end Go.Proofs.YtkphjnbeakkejaaDoor

/-
  What the page's Block (may it be?), be and num, and volutekeep.Block answer, whatever they are asked. (Written by tpl_refblock.py.)
-/
namespace Go.Proofs.YtkphjnbeakkejaaDoor
open Go.RowKit

end Go.Proofs.YtkphjnbeakkejaaDoor

/-
  What volutekeep.SpoilBytes does: it writes over the list that it is handed; each other block lies as it lay.
-/
namespace Go.Proofs.YtkphjnbeakkejaaDoor
open Go.RowKit

/-- A row of bytes of the call's own, and that nothing below has turned since a world: with .next, for walks that carry facts on. -/
def OwnB (W : World) (base : Nat) (v : Value) (k : Nat) (xs : List Int) : Prop := W.ownsRow base 5 1 v k (xs.map (Value.int .u8))
theorem OwnB.next {W W' : World} {base k : Nat} {v : Value} {xs : List Int} (h : OwnB W base v k xs) (hb : Below W.heap.size W W') : OwnB W' base v k xs := row_below h hb (Nat.le_refl _)
theorem OwnB.row {W : World} {base k : Nat} {v : Value} {xs : List Int} (h : OwnB W base v k xs) : W.ownsRow base 5 1 v k (xs.map (Value.int .u8)) := h
def Since (W W' : World) : Prop := Below W.heap.size W W'
theorem Since.next {W W' W'' : World} (h : Since W W') (hb : Below W'.heap.size W' W'') : Since W W'' := Below.trans h (hb.mono (Below.size h))
theorem Since.out {W W' : World} (h : Since W W') : Below W.heap.size W W' := h
end Go.Proofs.YtkphjnbeakkejaaDoor
