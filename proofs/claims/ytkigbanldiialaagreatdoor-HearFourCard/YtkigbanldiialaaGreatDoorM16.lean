/-
  Blocks as bytes, as lists of numbers: which may be, which bytes they have, what bytes are read as. No function of the program is spoken of.
-/
import Derived.Test.YtkigbanldiialaaGreatDoorM01
import Derived.Test.YtkigbanldiialaaGreatDoorM07
import Derived.Test.YtkigbanldiialaaGreatDoorM08
import Derived.Test.YtkigbanldiialaaGreatDoorM13
import Derived.Test.YtkigbanldiialaaGreatDoorM15
namespace Go.Proofs.YtkigbanldiialaaGreatDoor
open Go.RowKit

/-- May size, number and mark be? May a text of so many bytes? -/
def bSize (z : Int) : Bool := decide (1 ≤ z) && decide (z ≤ 16)
def bArg (z s m : Int) : Bool := decide (1 ≤ z) && decide (z ≤ 16) && decide (0 ≤ s) && decide (s < 1073741824) && decide (0 ≤ m) && decide (m ≤ 3)
def bLen (z m : Int) (n : Nat) : Bool := decide ((n : Int) ≤ z) && (decide (2 ≤ m) || decide (z ≤ (n : Int)))
/-- The error's number. -/
def errB (z s m : Int) (n : Nat) : Int := if bArg z s m then (if bLen z m n then 0 else 2) else 1

theorem bArg_iff (z s m : Int) : bArg z s m = true ↔ (1 ≤ z ∧ z ≤ 16) ∧ (0 ≤ s ∧ s < 1073741824) ∧ 0 ≤ m ∧ m ≤ 3 := by
  simp only [bArg, Bool.and_eq_true, decide_eq_true_eq]
  omega
theorem bLen_iff (z m : Int) (n : Nat) : bLen z m n = true ↔ (n : Int) ≤ z ∧ (2 ≤ m ∨ z ≤ n) := by
  simp only [bLen, Bool.and_eq_true, Bool.or_eq_true, decide_eq_true_eq]
theorem errB_zero {z s m : Int} {n : Nat} : errB z s m n = 0 ↔ bArg z s m = true ∧ bLen z m n = true := by
  unfold errB
  cases bArg z s m <;> cases bLen z m n <;> simp
theorem errB_arg {z s m : Int} {n : Nat} (h : bArg z s m = false) : errB z s m n = 1 := by simp [errB, h]
theorem errB_len {z s m : Int} {n : Nat} (h : bArg z s m = true) (h' : bLen z m n = false) : errB z s m n = 2 := by simp [errB, h, h']

/-- A block that is right, of size Z. -/
def Right (Z : Nat) (s m : Int) (xs : List Int) : Prop := (1 ≤ Z ∧ Z ≤ 16) ∧ (0 ≤ s ∧ s < 1073741824) ∧ (0 ≤ m ∧ m ≤ 3) ∧ xs.length ≤ Z ∧ (2 ≤ m ∨ Z ≤ xs.length)
theorem right_iff (Z : Nat) (s m : Int) (xs : List Int) : errB (Z : Int) s m xs.length = 0 ↔ Right Z s m xs := by
  rw [errB_zero, bArg_iff, bLen_iff]
  unfold Right
  omega
/-- Its bytes, without and with the seal. -/
def headB (s m : Int) (n : Nat) : List Int := beBytes 4 s ++ [m, (n : Int)]
def bodyB (Z : Nat) (s m : Int) (xs : List Int) : List Int := headB s m xs.length ++ xs ++ List.replicate (Z - xs.length) 0
def bytesB (Z : Nat) (s m : Int) (xs : List Int) : List Int := sealL (bodyB Z s m xs)

theorem beBytes_four (s : Int) : beBytes 4 s = [s / 2 ^ 24 % 256, s / 2 ^ 16 % 256, s / 2 ^ 8 % 256, s / 2 ^ 0 % 256] := by
  simp [beBytes, List.range, List.range.loop]
theorem headB_len (s m : Int) (n : Nat) : (headB s m n).length = 6 := by simp [headB, beBytes_len]
theorem bodyB_len {Z : Nat} {s m : Int} {xs : List Int} (h : xs.length ≤ Z) : (bodyB Z s m xs).length = Z + 6 := by
  simp only [bodyB, List.length_append, headB_len, List.length_replicate]
  omega
theorem sealL_lenB (xs : List Int) : (sealL xs).length = xs.length + 4 := by simp [sealL, four]
theorem bytesB_len {Z : Nat} {s m : Int} {xs : List Int} (h : xs.length ≤ Z) : (bytesB Z s m xs).length = Z + 10 := by
  rw [bytesB, sealL_lenB, bodyB_len h]
theorem beBytes_bd (k : Nat) (s : Int) : ∀ z ∈ beBytes k s, 0 ≤ z ∧ z ≤ 255 := fun z hz => by
  obtain ⟨i, _, rfl⟩ := List.mem_map.1 hz
  have h0 := Int.emod_nonneg (s / 2 ^ (8 * (k - 1 - i))) (show (256 : Int) ≠ 0 by decide)
  have h1 := Int.emod_lt_of_pos (s / 2 ^ (8 * (k - 1 - i))) (show (0 : Int) < 256 by decide)
  omega
theorem headB_bd {s m : Int} {n : Nat} (hm : 0 ≤ m ∧ m ≤ 255) (hn : n ≤ 255) : ∀ z ∈ headB s m n, 0 ≤ z ∧ z ≤ 255 := fun z hz => by
  rcases List.mem_append.1 hz with h | h
  · exact beBytes_bd 4 s z h
  · simp at h
    omega
theorem bodyB_bd {Z : Nat} {s m : Int} {xs : List Int} (h : Right Z s m xs) (bx : ∀ z ∈ xs, 0 ≤ z ∧ z ≤ 255) : ∀ z ∈ bodyB Z s m xs, 0 ≤ z ∧ z ≤ 255 := fun z hz => by
  obtain ⟨h1, h2, h3, h4, _⟩ := h
  rcases List.mem_append.1 hz with h | h
  · rcases List.mem_append.1 h with h | h
    · exact headB_bd (by omega) (by omega) z h
    · exact bx z h
  · have := List.eq_of_mem_replicate h
    omega
theorem sealL_bdB {xs : List Int} (bx : ∀ z ∈ xs, 0 ≤ z ∧ z ≤ 255) : ∀ z ∈ sealL xs, 0 ≤ z ∧ z ≤ 255 := fun z hz => by
  rcases List.mem_append.1 hz with h | h
  · exact bx z h
  · exact four_bd _ z h
theorem bytesB_bd {Z : Nat} {s m : Int} {xs : List Int} (h : Right Z s m xs) (bx : ∀ z ∈ xs, 0 ≤ z ∧ z ≤ 255) : ∀ z ∈ bytesB Z s m xs, 0 ≤ z ∧ z ≤ 255 := sealL_bdB (bodyB_bd h bx)

/-- Four bytes and their number. -/
theorem beNum_four (a b c d : Int) : beNum [a, b, c, d] = ((a * 256 + b) * 256 + c) * 256 + d := by simp [beNum]
theorem beNum_beBytes {s : Int} (h0 : 0 ≤ s) (h1 : s < 4294967296) : beNum (beBytes 4 s) = s := by
  rw [beBytes_four, beNum_four]
  have e1 : (2 : Int) ^ 24 = 16777216 := by decide
  have e2 : (2 : Int) ^ 16 = 65536 := by decide
  have e3 : (2 : Int) ^ 8 = 256 := by decide
  have e4 : (2 : Int) ^ 0 = 1 := by decide
  rw [e1, e2, e3, e4]
  omega
/-- What stands where in a block's bytes. -/
theorem bytesB_eq (Z : Nat) (s m : Int) (xs : List Int) : bytesB Z s m xs = beBytes 4 s ++ (m :: (xs.length : Int) :: (xs ++ (List.replicate (Z - xs.length) 0 ++ four (sum32 (bodyB Z s m xs))))) := by
  simp [bytesB, sealL, bodyB, headB, List.append_assoc]
theorem bytesB_take4 (Z : Nat) (s m : Int) (xs : List Int) : (bytesB Z s m xs).take 4 = beBytes 4 s := by rw [bytesB_eq, beBytes_four]; rfl
theorem bytesB_get4 (Z : Nat) (s m : Int) (xs : List Int) : (bytesB Z s m xs)[4]? = some m := by rw [bytesB_eq, beBytes_four]; rfl
theorem bytesB_get5 (Z : Nat) (s m : Int) (xs : List Int) : (bytesB Z s m xs)[5]? = some (xs.length : Int) := by rw [bytesB_eq, beBytes_four]; rfl
theorem bytesB_drop6 (Z : Nat) (s m : Int) (xs : List Int) : (bytesB Z s m xs).drop 6 = xs ++ (List.replicate (Z - xs.length) 0 ++ four (sum32 (bodyB Z s m xs))) := by rw [bytesB_eq, beBytes_four]; rfl

/-- What bytes say: the number, the mark, the text's length, the text. -/
def rdS (zs : List Int) : Int := beNum (zs.take 4)
def rdM (zs : List Int) : Int := zs[4]?.getD 0
def rdN (zs : List Int) : Nat := (zs[5]?.getD 0).toNat
def rdX (zs : List Int) : List Int := (zs.drop 6).take (rdN zs)
/-- They are the bytes of a right block. -/
def readOk (Z : Nat) (zs : List Int) : Prop := rdN zs ≤ Z ∧ Right Z (rdS zs) (rdM zs) (rdX zs) ∧ bytesB Z (rdS zs) (rdM zs) (rdX zs) = zs

theorem rdS_bytes {Z : Nat} {s m : Int} {xs : List Int} (h : Right Z s m xs) : rdS (bytesB Z s m xs) = s := by
  rw [rdS, bytesB_take4, beNum_beBytes h.2.1.1 (by have := h.2.1.2; omega)]
theorem rdM_bytes (Z : Nat) (s m : Int) (xs : List Int) : rdM (bytesB Z s m xs) = m := by rw [rdM, bytesB_get4]; rfl
theorem rdN_bytes (Z : Nat) (s m : Int) (xs : List Int) : rdN (bytesB Z s m xs) = xs.length := by rw [rdN, bytesB_get5]; rfl
theorem rdX_bytes (Z : Nat) (s m : Int) (xs : List Int) : rdX (bytesB Z s m xs) = xs := by
  rw [rdX, rdN_bytes, bytesB_drop6, List.take_append_of_le_length (Nat.le_refl _), List.take_length]
theorem readOk_bytes {Z : Nat} {s m : Int} {xs : List Int} (h : Right Z s m xs) : readOk Z (bytesB Z s m xs) := by
  unfold readOk
  rw [rdS_bytes h, rdM_bytes, rdN_bytes, rdX_bytes]
  exact ⟨h.2.2.2.1, h, rfl⟩
theorem isSealed_sealB (xs : List Int) : isSealed (sealL xs) = true := by
  have hl := sealL_lenB xs
  have ht : (sealL xs).take ((sealL xs).length - 4) = xs := by
    rw [hl, Nat.add_sub_cancel]
    unfold sealL
    rw [List.take_append_of_le_length (Nat.le_refl _), List.take_length]
  unfold isSealed
  rw [ht, decide_eq_true rfl, decide_eq_true (show 4 ≤ (sealL xs).length by omega)]
  rfl
end Go.Proofs.YtkigbanldiialaaGreatDoor

/-
  What the page's Block (may it be?), be and num, and volutekeep.Block answer, whatever they are asked. (Written by tpl_refblock.py.)
-/
namespace Go.Proofs.YtkigbanldiialaaGreatDoor
open Go.RowKit

end Go.Proofs.YtkigbanldiialaaGreatDoor
