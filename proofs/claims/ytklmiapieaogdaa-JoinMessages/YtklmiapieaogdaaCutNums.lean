/-
  Messages as blocks, as numbers: the texts, the marks; what blocks are put together to. No function of the program is spoken of.
-/
import Derived.Test.YtklmiapieaogdaaConfNums
import Derived.Test.YtklmiapieaogdaaBlockNums
namespace Go.Proofs.Ytklmiapieaogdaa
open Go.RowKit

/-- A block: its number, its mark, its text. -/
abbrev Bl := Int × Int × List Int
/-- The text of the block i; its mark, of n blocks. -/
def textK (B : Nat) (msg : List Int) (i : Nat) : List Int := (msg.drop (i * B)).take B
def markK (n i : Nat) : Int := (if i = 0 then 1 else 0) + (if i + 1 = n then 2 else 0)
def cutL (B : Nat) (s : Int) (n : Nat) (msg : List Int) : List Bl := (List.range n).map fun i : Nat => (s + (i : Int), markK n i, textK B msg i)
theorem cutL_len (B : Nat) (s : Int) (n : Nat) (msg : List Int) : (cutL B s n msg).length = n := by simp [cutL]
theorem cutL_get {B : Nat} {s : Int} {n : Nat} {msg : List Int} {i : Nat} (h : i < n) : (cutL B s n msg)[i]? = some (s + (i : Int), markK n i, textK B msg i) := by simp [cutL, h]
theorem textK_len (B : Nat) (msg : List Int) (i : Nat) : (textK B msg i).length = min B (msg.length - i * B) := by simp [textK]
theorem markK_bd (n i : Nat) : 0 ≤ markK n i ∧ markK n i ≤ 3 := by
  unfold markK
  split <;> split <;> omega
/-- The texts, one behind the other. -/
theorem texts_join (B : Nat) (msg : List Int) : ∀ n : Nat, (List.range n).flatMap (textK B msg) = msg.take (n * B)
  | 0 => by simp
  | n + 1 => by
    rw [List.range_succ, List.flatMap_append, texts_join B msg n, Nat.add_mul, Nat.one_mul, List.take_add]
    simp [textK]
/-- How many blocks a message has. -/
def blocksN (B L : Nat) : Nat := max ((L + B - 1) / B) 1
theorem blocksN_bd {B L : Nat} (hB : 1 ≤ B) : 1 ≤ blocksN B L ∧ L ≤ blocksN B L * B ∧ (1 < blocksN B L → (blocksN B L - 1) * B < L) := by
  unfold blocksN
  have h1 := Nat.div_add_mod (L + B - 1) B
  have h2 := Nat.mod_lt (L + B - 1) (show 0 < B by omega)
  generalize (L + B - 1) % B = r at h1 h2
  generalize hq : (L + B - 1) / B = q at h1
  have e1 : q * B = B * q := Nat.mul_comm _ _
  by_cases h : q ≤ 1
  · rw [Nat.max_eq_right h]
    refine ⟨Nat.le_refl _, ?_, fun h => by omega⟩
    rw [Nat.one_mul]
    have : B * q ≤ B * 1 := Nat.mul_le_mul_left _ h
    omega
  · rw [Nat.max_eq_left (by omega)]
    have e2 : (q - 1) * B = q * B - B := by rw [Nat.sub_mul, Nat.one_mul]
    refine ⟨by omega, by omega, fun _ => ?_⟩
    have : B * 2 ≤ B * q := Nat.mul_le_mul_left _ (by omega)
    omega
theorem cut_all {B : Nat} (hB : 1 ≤ B) (msg : List Int) : (List.range (blocksN B msg.length)).flatMap (textK B msg) = msg := by
  rw [texts_join, List.take_of_length_le (blocksN_bd hB).2.1]
/-- All texts but the last are whole. -/
theorem textK_whole {B : Nat} (hB : 1 ≤ B) {msg : List Int} {i : Nat} (h : i + 1 < blocksN B msg.length) : (textK B msg i).length = B := by
  rw [textK_len]
  have h1 := (blocksN_bd (L := msg.length) hB).2.2 (by omega)
  have h2 : (i + 1) * B ≤ (blocksN B msg.length - 1) * B := Nat.mul_le_mul_right _ (by omega)
  rw [Nat.add_mul, Nat.one_mul] at h2
  omega
theorem textK_le (B : Nat) (msg : List Int) (i : Nat) : (textK B msg i).length ≤ B := by rw [textK_len]; omega
/-- Each block may be made. -/
theorem cut_right {B : Nat} (hB : 1 ≤ B) (hB2 : B ≤ 16) {msg : List Int} {s : Int} (hs : 0 ≤ s) (hs2 : s + (blocksN B msg.length : Int) ≤ 1073741824) {i : Nat} (h : i < blocksN B msg.length) : Right B (s + (i : Int)) (markK (blocksN B msg.length) i) (textK B msg i) := by
  refine (right_iff _ _ _ _).1 (errB_zero.2 ⟨(bArg_iff _ _ _).2 ⟨⟨by omega, by omega⟩, ⟨by omega, by omega⟩, (markK_bd _ _).1, (markK_bd _ _).2⟩, (bLen_iff _ _ _).2 ⟨by have := textK_le B msg i; omega, ?_⟩⟩)
  by_cases hl : i + 1 = blocksN B msg.length
  · left
    unfold markK
    rw [if_pos hl]
    split <;> omega
  · right
    rw [textK_whole hB (by omega)]
    exact Int.le_refl _
/-- Cut behind whole blocks. -/
theorem textK_left {B k : Nat} {msg : List Int} {i : Nat} (h : i < k) : textK B (msg.take (k * B)) i = textK B msg i := by
  unfold textK
  rw [List.drop_take, List.take_take]
  congr 1
  have : (i + 1) * B ≤ k * B := Nat.mul_le_mul_right _ (by omega)
  rw [Nat.add_mul, Nat.one_mul] at this
  omega
theorem textK_right {B k : Nat} {msg : List Int} (i : Nat) : textK B (msg.drop (k * B)) i = textK B msg (k + i) := by
  unfold textK
  rw [List.drop_drop, Nat.add_mul]
theorem blocksN_left {B k : Nat} (hB : 1 ≤ B) (hk : 1 ≤ k) {L : Nat} (h : k * B ≤ L) : blocksN B (min (k * B) L) = k := by
  rw [Nat.min_eq_left h]
  unfold blocksN
  have : (k * B + B - 1) / B = k := by
    rw [show k * B + B - 1 = (B - 1) + B * k by rw [Nat.mul_comm B k]; omega, Nat.add_mul_div_left _ _ (by omega), Nat.div_eq_of_lt (by omega)]
    omega
  rw [this]
  omega
theorem blocksN_right {B k L : Nat} (hB : 1 ≤ B) (h : k * B < L) : k + blocksN B (L - k * B) = blocksN B L := by
  unfold blocksN
  have e : L + B - 1 = (L - k * B + B - 1) + B * k := by rw [Nat.mul_comm B k]; omega
  have e2 : (L + B - 1) / B = (L - k * B + B - 1) / B + k := by rw [e, Nat.add_mul_div_left _ _ (by omega)]
  have h1 : 1 ≤ (L - k * B + B - 1) / B := by
    rw [Nat.le_div_iff_mul_le (by omega)]
    omega
  omega

/-- A message that is being put together: open, and its text. -/
abbrev Jn := Bool × List Int
def lastM (m : Int) : Bool := decide (2 ≤ m)
def firstM (m : Int) : Bool := decide (m = 1 ∨ m = 3)
def endsJ (j : Jn) (m : Int) : Bool := lastM m && (j.1 || firstM m)
/-- What stands ahead of a block. -/
def openJ (j : Jn) (m : Int) : Jn := if firstM m then (true, []) else j
/-- What becomes of it by a block that may be put to it: the next, and the message, if it is one. -/
def joinJ (j : Jn) (m : Int) (x : List Int) : Jn × Option (List Int) :=
  if (openJ j m).1 = false then (openJ j m, none)
  else if lastM m = true then ((false, []), some ((openJ j m).2 ++ x))
  else ((true, (openJ j m).2 ++ x), none)
theorem joinJ_shut {j : Jn} {m : Int} (x : List Int) (h : (openJ j m).1 = false) : joinJ j m x = (openJ j m, none) := by unfold joinJ; rw [if_pos h]
theorem joinJ_last {j : Jn} {m : Int} (x : List Int) (h : (openJ j m).1 = true) (hl : lastM m = true) : joinJ j m x = ((false, []), some ((openJ j m).2 ++ x)) := by unfold joinJ; rw [if_neg (by simp [h]), if_pos hl]
theorem joinJ_more {j : Jn} {m : Int} (x : List Int) (h : (openJ j m).1 = true) (hl : lastM m = false) : joinJ j m x = ((true, (openJ j m).2 ++ x), none) := by unfold joinJ; rw [if_neg (by simp [h]), if_neg (by simp [hl])]
theorem mark_first (n i : Nat) : firstM (markK n i) = decide (i = 0) := by
  unfold firstM markK
  by_cases h : i = 0 <;> by_cases h2 : i + 1 = n <;> simp [h, h2] <;> omega
theorem mark_last (n i : Nat) : lastM (markK n i) = decide (i + 1 = n) := by
  unfold lastM markK
  by_cases h : i = 0 <;> by_cases h2 : i + 1 = n <;> simp [h, h2] <;> omega
/-- Behind i blocks of a message its first texts are open. -/
def along (B : Nat) (msg : List Int) (j0 : Jn) (i : Nat) : Jn := if i = 0 then j0 else (true, msg.take (i * B))
theorem along_next {B n i : Nat} {msg : List Int} {j0 : Jn} (hi : i + 1 < n) : joinJ (along B msg j0 i) (markK n i) (textK B msg i) = (along B msg j0 (i + 1), none) := by
  have hl : lastM (markK n i) = false := by rw [mark_last]; simp; omega
  have ho : openJ (along B msg j0 i) (markK n i) = (true, msg.take (i * B)) := by
    unfold openJ along
    rw [mark_first]
    by_cases h : i = 0
    · subst h; simp
    · simp [h]
  rw [joinJ_more _ (by rw [ho]) hl, ho]
  show ((true, msg.take (i * B) ++ textK B msg i), none) = _
  unfold along
  rw [if_neg (by omega), Nat.add_mul, Nat.one_mul, List.take_add]
  rfl
theorem along_last {B : Nat} (hB : 1 ≤ B) {i : Nat} {msg : List Int} {j0 : Jn} (hi : i + 1 = blocksN B msg.length) : joinJ (along B msg j0 i) (markK (blocksN B msg.length) i) (textK B msg i) = ((false, []), some msg) := by
  have hl : lastM (markK (blocksN B msg.length) i) = true := by rw [mark_last]; simp [hi]
  have ho : openJ (along B msg j0 i) (markK (blocksN B msg.length) i) = (true, msg.take (i * B)) := by
    unfold openJ along
    rw [mark_first]
    by_cases h : i = 0
    · subst h; simp
    · simp [h]
  rw [joinJ_last _ (by rw [ho]) hl, ho]
  have h1 := (blocksN_bd (L := msg.length) hB).2.1
  have e : msg.take (i * B) ++ textK B msg i = msg := by
    have : msg.take (i * B) ++ textK B msg i = msg.take ((i + 1) * B) := by rw [Nat.add_mul, Nat.one_mul, List.take_add]; rfl
    rw [this, hi, List.take_of_length_le h1]
  show ((false, []), some (msg.take (i * B) ++ textK B msg i)) = _
  rw [e]

end Go.Proofs.Ytklmiapieaogdaa
