/-
  Packets of symbols as lists of numbers: which may be, which bytes they have, what bytes are read as. No function of the program is spoken of.
-/
import Derived.Test.YtkphjnbeakkejabDoorM01
import Derived.Test.YtkphjnbeakkejabDoorM06
import Derived.Test.YtkphjnbeakkejabDoorM08
import Derived.Test.YtkphjnbeakkejabDoorM13
namespace Go.Proofs.YtkphjnbeakkejabDoor
open Go.RowKit

/-- Data that may be. -/
def RightD (s r f : Int) (xs : List Int) : Prop := (0 ≤ s ∧ s < 1073741824) ∧ (0 ≤ r ∧ r ≤ 255) ∧ (0 ≤ f ∧ f ≤ 65535) ∧ 1 ≤ xs.length ∧ xs.length ≤ 64
/-- The head without its sum; the packet. -/
def headD (s r f : Int) (n : Nat) : List Int := 68 :: (beBytes 4 s ++ (r :: (beBytes 2 f ++ [(n : Int)])))
def packD (s r f : Int) (xs : List Int) : List Int := headD s r f xs.length ++ (beBytes 2 (sum16 (headD s r f xs.length) : Int) ++ xs)

theorem beBytes_two (s : Int) : beBytes 2 s = [s / 2 ^ 8 % 256, s / 2 ^ 0 % 256] := by
  simp [beBytes, List.range, List.range.loop]
theorem beNum_two (a b : Int) : beNum [a, b] = a * 256 + b := by simp [beNum]
theorem beNum_beBytes2 {s : Int} (h0 : 0 ≤ s) (h1 : s < 65536) : beNum (beBytes 2 s) = s := by
  rw [beBytes_two, beNum_two]
  have e3 : (2 : Int) ^ 8 = 256 := by decide
  have e4 : (2 : Int) ^ 0 = 1 := by decide
  rw [e3, e4]
  omega
theorem headD_len (s r f : Int) (n : Nat) : (headD s r f n).length = 9 := by simp [headD, beBytes_len]
theorem packD_len (s r f : Int) (xs : List Int) : (packD s r f xs).length = xs.length + 11 := by
  simp only [packD, List.length_append, headD_len, beBytes_len]
  omega
theorem headD_bd {s r f : Int} {n : Nat} (hr : 0 ≤ r ∧ r ≤ 255) (hn : n ≤ 255) : ∀ z ∈ headD s r f n, 0 ≤ z ∧ z ≤ 255 := fun z hz => by
  unfold headD at hz
  rcases List.mem_cons.1 hz with rfl | hz
  · omega
  rcases List.mem_append.1 hz with h | h
  · exact beBytes_bd 4 s z h
  rcases List.mem_cons.1 h with rfl | h
  · exact hr
  rcases List.mem_append.1 h with h | h
  · exact beBytes_bd 2 f z h
  · simp at h
    omega
theorem packD_bd {s r f : Int} {xs : List Int} (h : RightD s r f xs) (bx : ∀ z ∈ xs, 0 ≤ z ∧ z ≤ 255) : ∀ z ∈ packD s r f xs, 0 ≤ z ∧ z ≤ 255 := fun z hz => by
  obtain ⟨_, hr, _, _, hx⟩ := h
  rcases List.mem_append.1 hz with h | h
  · exact headD_bd hr (by omega) z h
  rcases List.mem_append.1 h with h | h
  · exact beBytes_bd 2 _ z h
  · exact bx z h

/-- What bytes say. -/
def dS (zs : List Int) : Int := beNum ((zs.drop 1).take 4)
def dR (zs : List Int) : Int := zs[5]?.getD 0
def dF (zs : List Int) : Int := beNum ((zs.drop 6).take 2)
def dN (zs : List Int) : Int := zs[8]?.getD 0
def dC (zs : List Int) : Int := beNum ((zs.drop 9).take 2)
def dX (zs : List Int) : List Int := zs.drop 11
def dLen (zs : List Int) : Prop := 12 ≤ zs.length ∧ zs.length ≤ 75
def dSum (zs : List Int) : Prop := (sum16 (zs.take 9) : Int) = dC zs
/-- They are the packet of data that may be; why they are none, as a number. -/
def okD (zs : List Int) : Prop := dLen zs ∧ zs[0]?.getD 0 = 68 ∧ dSum zs ∧ dS zs < 1073741824 ∧ dN zs = (zs.length : Int) - 11
/-- A packet is read as what it was made of. -/
theorem packD_list (s r f : Int) (xs : List Int) : packD s r f xs = 68 :: s / 2 ^ 24 % 256 :: s / 2 ^ 16 % 256 :: s / 2 ^ 8 % 256 :: s / 2 ^ 0 % 256 :: r :: f / 2 ^ 8 % 256 :: f / 2 ^ 0 % 256 :: (xs.length : Int) :: (beBytes 2 (sum16 (headD s r f xs.length) : Int) ++ xs) := by
  simp [packD, headD, beBytes_four, beBytes_two]
theorem packD_take9 (s r f : Int) (xs : List Int) : (packD s r f xs).take 9 = headD s r f xs.length := by
  unfold packD
  rw [List.take_append_of_le_length (by rw [headD_len]; exact Nat.le_refl _), List.take_of_length_le (by rw [headD_len]; exact Nat.le_refl _)]
theorem packD_drop9 (s r f : Int) (xs : List Int) : (packD s r f xs).drop 9 = beBytes 2 (sum16 (headD s r f xs.length) : Int) ++ xs := by
  unfold packD
  rw [List.drop_append_of_le_length (by rw [headD_len]; exact Nat.le_refl _), List.drop_of_length_le (by rw [headD_len]; exact Nat.le_refl _), List.nil_append]
theorem dC_pack (s r f : Int) (xs : List Int) : dC (packD s r f xs) = (sum16 (headD s r f xs.length) : Int) := by
  unfold dC
  rw [packD_drop9, List.take_append_of_le_length (by rw [beBytes_len]; exact Nat.le_refl _), List.take_of_length_le (by rw [beBytes_len]; exact Nat.le_refl _)]
  have := sum16_lt (headD s r f xs.length)
  exact beNum_beBytes2 (by omega) (by omega)
theorem dSum_pack (s r f : Int) (xs : List Int) : dSum (packD s r f xs) := by
  unfold dSum
  rw [dC_pack, packD_take9]
theorem dS_pack {s r f : Int} {xs : List Int} (h : RightD s r f xs) : dS (packD s r f xs) = s := by
  unfold dS
  rw [packD_list]
  show beNum [s / 2 ^ 24 % 256, s / 2 ^ 16 % 256, s / 2 ^ 8 % 256, s / 2 ^ 0 % 256] = s
  rw [← beBytes_four]
  exact beNum_beBytes h.1.1 (by have := h.1.2; omega)
theorem dN_pack (s r f : Int) (xs : List Int) : dN (packD s r f xs) = (xs.length : Int) := by
  unfold dN; rw [packD_list]; rfl
theorem packD_head (s r f : Int) (xs : List Int) : (packD s r f xs)[0]?.getD 0 = 68 := by rw [packD_list]; rfl
theorem okD_pack {s r f : Int} {xs : List Int} (h : RightD s r f xs) : okD (packD s r f xs) := by
  refine ⟨?_, packD_head s r f xs, dSum_pack s r f xs, ?_, ?_⟩
  · unfold dLen; rw [packD_len]; have := h.2.2.2; omega
  · rw [dS_pack h]; exact h.1.2
  · rw [dN_pack, packD_len]; omega
end Go.Proofs.YtkphjnbeakkejabDoor

/-
  What the page's Block (may it be?), be and num, and volutekeep.Block answer, whatever they are asked. (Written by tpl_refblock.py.)
-/
namespace Go.Proofs.YtkphjnbeakkejabDoor
open Go.RowKit

end Go.Proofs.YtkphjnbeakkejabDoor
