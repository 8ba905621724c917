/-
  Packets of symbols as lists of numbers: which may be, which bytes they have, what bytes are read as. No function of the program is spoken of.
-/
import Derived.Test.YtkphjnbeakkejaaDoorM01
import Derived.Test.YtkphjnbeakkejaaDoorM06
import Derived.Test.YtkphjnbeakkejaaDoorM08
import Derived.Test.YtkphjnbeakkejaaDoorM13
namespace Go.Proofs.YtkphjnbeakkejaaDoor
open Go.RowKit

/-- Data that may be. -/
def RightD (s r f : Int) (xs : List Int) : Prop := (0 ≤ s ∧ s < 1073741824) ∧ (0 ≤ r ∧ r ≤ 255) ∧ (0 ≤ f ∧ f ≤ 65535) ∧ 1 ≤ xs.length ∧ xs.length ≤ 64
/-- The head without its sum; the packet. -/
def headD (s r f : Int) (n : Nat) : List Int := 68 :: (beBytes 4 s ++ (r :: (beBytes 2 f ++ [(n : Int)])))
def packD (s r f : Int) (xs : List Int) : List Int := headD s r f xs.length ++ (beBytes 2 (sum16 (headD s r f xs.length) : Int) ++ xs)

theorem headD_len (s r f : Int) (n : Nat) : (headD s r f n).length = 9 := by simp [headD, beBytes_len]
theorem headD_bd {s r f : Int} {n : Nat} (hr : 0 ≤ r ∧ r ≤ 255) (hn : n ≤ 255) : ∀ z ∈ headD s r f n, 0 ≤ z ∧ z ≤ 255 := fun z hz => by
  unfold headD at hz
  rcases List.mem_cons.1 hz with rfl | hz
  · omega
  rcases List.mem_append.1 hz with h | h
  · exact beBytes_bd 4 s z h
  rcases List.mem_cons.1 h with rfl | h
  · exact hr
  rcases List.mem_append.1 h with h | h
  · exact beBytes_bd 2 f z h
  · simp at h
    omega
end Go.Proofs.YtkphjnbeakkejaaDoor

/-
  Packets that tell what was had, as lists of numbers: which may be, which bytes they have, what bytes are read as, what an ack has. No function of the program is spoken of.
-/
namespace Go.Proofs.YtkphjnbeakkejaaDoor
open Go.RowKit

/-- May Next be? -/
def aArg (n : Int) : Bool := decide (0 ≤ n) && decide (n ≤ 1073741824)
theorem aArg_iff (n : Int) : aArg n = true ↔ 0 ≤ n ∧ n ≤ 1073741824 := by simp [aArg]
theorem aArg_no {n : Int} (h : ¬ (0 ≤ n ∧ n ≤ 1073741824)) : aArg n = false := by
  rw [← Bool.not_eq_true, aArg_iff]; exact h

/-- Its bytes, without and with the seal. -/
def bodyA (n b : Int) : List Int := 65 :: (beBytes 4 n ++ beBytes 4 b)
def packA (n b : Int) : List Int := sealL (bodyA n b)
theorem bodyA_len (n b : Int) : (bodyA n b).length = 9 := by simp [bodyA, beBytes_len]
theorem packA_len (n b : Int) : (packA n b).length = 13 := by rw [packA, sealL_lenB, bodyA_len]
theorem bodyA_bd (n b : Int) : ∀ z ∈ bodyA n b, 0 ≤ z ∧ z ≤ 255 := fun z hz => by
  rcases List.mem_cons.1 hz with rfl | h
  · omega
  rcases List.mem_append.1 h with h | h
  · exact beBytes_bd 4 n z h
  · exact beBytes_bd 4 b z h
theorem packA_bd (n b : Int) : ∀ z ∈ packA n b, 0 ≤ z ∧ z ≤ 255 := sealL_bdB (bodyA_bd n b)

/-- What bytes say. -/
def aN (zs : List Int) : Int := beNum ((zs.drop 1).take 4)
def aB (zs : List Int) : Int := beNum ((zs.drop 5).take 4)
def okA (zs : List Int) : Prop := zs.length = 13 ∧ zs[0]?.getD 0 = 65 ∧ isSealed zs = true ∧ aN zs ≤ 1073741824
def badA (zs : List Int) (e : Int) : Prop :=
  (zs.length ≠ 13 ∧ e = 2) ∨ (zs.length = 13 ∧ zs[0]?.getD 0 ≠ 65 ∧ e = 12) ∨ (zs.length = 13 ∧ zs[0]?.getD 0 = 65 ∧ isSealed zs = false ∧ e = 4) ∨ (zs.length = 13 ∧ zs[0]?.getD 0 = 65 ∧ isSealed zs = true ∧ ¬ aN zs ≤ 1073741824 ∧ e = 1)
theorem aread_cases (zs : List Int) : (∃ e, 0 < e ∧ badA zs e) ∨ okA zs := by
  by_cases h1 : zs.length = 13
  · by_cases h2 : zs[0]?.getD 0 = 65
    · cases h3 : isSealed zs with
      | false => exact .inl ⟨4, by decide, .inr (.inr (.inl ⟨h1, h2, h3, rfl⟩))⟩
      | true =>
        by_cases h4 : aN zs ≤ 1073741824
        · exact .inr ⟨h1, h2, h3, h4⟩
        · exact .inl ⟨1, by decide, .inr (.inr (.inr ⟨h1, h2, h3, h4, rfl⟩))⟩
    · exact .inl ⟨12, by decide, .inr (.inl ⟨h1, h2, rfl⟩)⟩
  · exact .inl ⟨2, by decide, .inl ⟨h1, rfl⟩⟩

theorem packA_list (n b : Int) : packA n b = 65 :: n / 2 ^ 24 % 256 :: n / 2 ^ 16 % 256 :: n / 2 ^ 8 % 256 :: n / 2 ^ 0 % 256 :: b / 2 ^ 24 % 256 :: b / 2 ^ 16 % 256 :: b / 2 ^ 8 % 256 :: b / 2 ^ 0 % 256 :: four (sum32 (bodyA n b)) := by
  simp [packA, sealL, bodyA, beBytes_four]
theorem aN_pack {n b : Int} (h0 : 0 ≤ n) (h1 : n ≤ 1073741824) : aN (packA n b) = n := by
  unfold aN
  rw [packA_list]
  show beNum [n / 2 ^ 24 % 256, n / 2 ^ 16 % 256, n / 2 ^ 8 % 256, n / 2 ^ 0 % 256] = n
  rw [← beBytes_four]
  exact beNum_beBytes h0 (by omega)
theorem aB_pack {n b : Int} (h0 : 0 ≤ b) (h1 : b < 4294967296) : aB (packA n b) = b := by
  unfold aB
  rw [packA_list]
  show beNum [b / 2 ^ 24 % 256, b / 2 ^ 16 % 256, b / 2 ^ 8 % 256, b / 2 ^ 0 % 256] = b
  rw [← beBytes_four]
  exact beNum_beBytes h0 h1
theorem packA_head (n b : Int) : (packA n b)[0]?.getD 0 = 65 := by rw [packA_list]; rfl
theorem packA_sealed (n b : Int) : isSealed (packA n b) = true := isSealed_sealB _
theorem okA_pack {n b : Int} (h0 : 0 ≤ n) (h1 : n ≤ 1073741824) : okA (packA n b) := ⟨packA_len n b, packA_head n b, packA_sealed n b, by rw [aN_pack h0 h1]; exact h1⟩
theorem list_nine {zs : List Int} (h : zs.length = 13) : ∃ a s1 s2 s3 s4 b1 b2 b3 b4 t, zs = a :: s1 :: s2 :: s3 :: s4 :: b1 :: b2 :: b3 :: b4 :: t ∧ t.length = 4 := by
  match zs, h with
  | a :: s1 :: s2 :: s3 :: s4 :: b1 :: b2 :: b3 :: b4 :: t, h => exact ⟨a, s1, s2, s3, s4, b1, b2, b3, b4, t, rfl, by simpa using h⟩
  | [], h => simp at h
  | [_], h => simp at h
  | [_, _], h => simp at h
  | [_, _, _], h => simp at h
  | [_, _, _, _], h => simp at h
  | [_, _, _, _, _], h => simp at h
  | [_, _, _, _, _, _], h => simp at h
  | [_, _, _, _, _, _, _], h => simp at h
  | [_, _, _, _, _, _, _, _], h => simp at h
/-- What is read is made again. -/
theorem packA_read {zs : List Int} (bz : ∀ z ∈ zs, 0 ≤ z ∧ z ≤ 255) (h : okA zs) : (0 ≤ aN zs ∧ aN zs ≤ 1073741824) ∧ (0 ≤ aB zs ∧ aB zs < 4294967296) ∧ packA (aN zs) (aB zs) = zs := by
  obtain ⟨h1, h2, h3, h4⟩ := h
  have hs := (sealed_is h3).2
  rw [h1] at hs
  obtain ⟨a, s1, s2, s3, s4, b1, b2, b3, b4, t, rfl, ht⟩ := list_nine h1
  have c1 := bz s1 (by simp)
  have c2 := bz s2 (by simp)
  have c3 := bz s3 (by simp)
  have c4 := bz s4 (by simp)
  have d1 := bz b1 (by simp)
  have d2 := bz b2 (by simp)
  have d3 := bz b3 (by simp)
  have d4 := bz b4 (by simp)
  have en : aN (a :: s1 :: s2 :: s3 :: s4 :: b1 :: b2 :: b3 :: b4 :: t) = beNum [s1, s2, s3, s4] := rfl
  have eb : aB (a :: s1 :: s2 :: s3 :: s4 :: b1 :: b2 :: b3 :: b4 :: t) = beNum [b1, b2, b3, b4] := rfl
  have e0 : a = 65 := h2
  rw [en] at h4
  rw [en, eb]
  have hn0 : 0 ≤ beNum [s1, s2, s3, s4] := by rw [beNum_four]; omega
  have hb0 : 0 ≤ beNum [b1, b2, b3, b4] ∧ beNum [b1, b2, b3, b4] < 4294967296 := by rw [beNum_four]; omega
  refine ⟨⟨hn0, h4⟩, hb0, ?_⟩
  have e9 : (a :: s1 :: s2 :: s3 :: s4 :: b1 :: b2 :: b3 :: b4 :: t).take (13 - 4) = bodyA (beNum [s1, s2, s3, s4]) (beNum [b1, b2, b3, b4]) := by
    unfold bodyA
    rw [beBytes_beNum c1 c2 c3 c4, beBytes_beNum d1 d2 d3 d4, e0]
    rfl
  rw [e9] at hs
  exact hs

/-- Has an ack this one? -/
def hasA (n : Int) (b : Nat) (q : Int) : Bool := decide (0 ≤ q) && (decide (q < n) || (decide (0 ≤ n) && decide (q - n < 32) && (b / 2 ^ (q - n).toNat % 2 == 1)))
theorem hasA_neg {n : Int} {b : Nat} {q : Int} (h : q < 0) : hasA n b q = false := by
  unfold hasA; rw [decide_eq_false (by omega)]; rfl
theorem hasA_low {n : Int} {b : Nat} {q : Int} (h0 : 0 ≤ q) (h : q < n) : hasA n b q = true := by
  unfold hasA; rw [decide_eq_true h0, decide_eq_true h]; rfl
theorem hasA_none {n : Int} {b : Nat} {q : Int} (h0 : 0 ≤ q) (h : ¬ q < n) (hn : n < 0) : hasA n b q = false := by
  unfold hasA; rw [decide_eq_true h0, decide_eq_false h, decide_eq_false (by omega)]; rfl
theorem hasA_far {n : Int} {b : Nat} {q : Int} (h0 : 0 ≤ q) (h : ¬ q < n) (hf : ¬ q - n < 32) : hasA n b q = false := by
  unfold hasA; rw [decide_eq_true h0, decide_eq_false h, decide_eq_false hf]; simp
theorem hasA_bit {n : Int} {b : Nat} {i : Nat} (hn : 0 ≤ n) (hi : i < 32) : hasA n b (n + i) = (b / 2 ^ i % 2 == 1) := by
  unfold hasA
  rw [decide_eq_true (by omega), decide_eq_false (by omega), decide_eq_true hn, decide_eq_true (by omega), show n + (i : Int) - n = (i : Int) by omega, Int.toNat_natCast]
  simp

end Go.Proofs.YtkphjnbeakkejaaDoor

/-
  What the page's Block (may it be?), be and num, and volutekeep.Block answer, whatever they are asked. (Written by tpl_refblock.py.)
-/
namespace Go.Proofs.YtkphjnbeakkejaaDoor
open Go.RowKit

end Go.Proofs.YtkphjnbeakkejaaDoor
