/-
  Messages as blocks, as numbers: the texts, the marks; what blocks are put together to. No function of the program is spoken of.
-/
import Derived.Test.YtmjidhnlofpliaaDoorM09
import Derived.Test.YtmjidhnlofpliaaDoorM11
namespace Go.Proofs.YtmjidhnlofpliaaDoor
open Go.RowKit

/-- A block: its number, its mark, its text. -/
abbrev Bl := Int × Int × List Int
/-- The text of the block i; its mark, of n blocks. -/
def textK (B : Nat) (msg : List Int) (i : Nat) : List Int := (msg.drop (i * B)).take B
def markK (n i : Nat) : Int := (if i = 0 then 1 else 0) + (if i + 1 = n then 2 else 0)
def cutL (B : Nat) (s : Int) (n : Nat) (msg : List Int) : List Bl := (List.range n).map fun i : Nat => (s + (i : Int), markK n i, textK B msg i)
theorem cutL_len (B : Nat) (s : Int) (n : Nat) (msg : List Int) : (cutL B s n msg).length = n := by simp [cutL]
theorem cutL_get {B : Nat} {s : Int} {n : Nat} {msg : List Int} {i : Nat} (h : i < n) : (cutL B s n msg)[i]? = some (s + (i : Int), markK n i, textK B msg i) := by simp [cutL, h]
theorem textK_len (B : Nat) (msg : List Int) (i : Nat) : (textK B msg i).length = min B (msg.length - i * B) := by simp [textK]
theorem markK_bd (n i : Nat) : 0 ≤ markK n i ∧ markK n i ≤ 3 := by
  unfold markK
  split <;> split <;> omega
/-- How many blocks a message has. -/
def blocksN (B L : Nat) : Nat := max ((L + B - 1) / B) 1
theorem blocksN_bd {B L : Nat} (hB : 1 ≤ B) : 1 ≤ blocksN B L ∧ L ≤ blocksN B L * B ∧ (1 < blocksN B L → (blocksN B L - 1) * B < L) := by
  unfold blocksN
  have h1 := Nat.div_add_mod (L + B - 1) B
  have h2 := Nat.mod_lt (L + B - 1) (show 0 < B by omega)
  generalize (L + B - 1) % B = r at h1 h2
  generalize hq : (L + B - 1) / B = q at h1
  have e1 : q * B = B * q := Nat.mul_comm _ _
  by_cases h : q ≤ 1
  · rw [Nat.max_eq_right h]
    refine ⟨Nat.le_refl _, ?_, fun h => by omega⟩
    rw [Nat.one_mul]
    have : B * q ≤ B * 1 := Nat.mul_le_mul_left _ h
    omega
  · rw [Nat.max_eq_left (by omega)]
    have e2 : (q - 1) * B = q * B - B := by rw [Nat.sub_mul, Nat.one_mul]
    refine ⟨by omega, by omega, fun _ => ?_⟩
    have : B * 2 ≤ B * q := Nat.mul_le_mul_left _ (by omega)
    omega
/-- All texts but the last are whole. -/
theorem textK_whole {B : Nat} (hB : 1 ≤ B) {msg : List Int} {i : Nat} (h : i + 1 < blocksN B msg.length) : (textK B msg i).length = B := by
  rw [textK_len]
  have h1 := (blocksN_bd (L := msg.length) hB).2.2 (by omega)
  have h2 : (i + 1) * B ≤ (blocksN B msg.length - 1) * B := Nat.mul_le_mul_right _ (by omega)
  rw [Nat.add_mul, Nat.one_mul] at h2
  omega
theorem textK_le (B : Nat) (msg : List Int) (i : Nat) : (textK B msg i).length ≤ B := by rw [textK_len]; omega
/-- Each block may be made. -/
theorem cut_right {B : Nat} (hB : 1 ≤ B) (hB2 : B ≤ 16) {msg : List Int} {s : Int} (hs : 0 ≤ s) (hs2 : s + (blocksN B msg.length : Int) ≤ 1073741824) {i : Nat} (h : i < blocksN B msg.length) : Right B (s + (i : Int)) (markK (blocksN B msg.length) i) (textK B msg i) := by
  refine (right_iff _ _ _ _).1 (errB_zero.2 ⟨(bArg_iff _ _ _).2 ⟨⟨by omega, by omega⟩, ⟨by omega, by omega⟩, (markK_bd _ _).1, (markK_bd _ _).2⟩, (bLen_iff _ _ _).2 ⟨by have := textK_le B msg i; omega, ?_⟩⟩)
  by_cases hl : i + 1 = blocksN B msg.length
  · left
    unfold markK
    rw [if_pos hl]
    split <;> omega
  · right
    rw [textK_whole hB (by omega)]
    exact Int.le_refl _
end Go.Proofs.YtmjidhnlofpliaaDoor
