/-
  Packets of symbols as lists of numbers: which may be, which bytes they have, what bytes are read as. No function of the program is spoken of.
-/
import Derived.Test.YtpfhnefgibiedaaBlockNums
namespace Go.Proofs.Ytpfhnefgibiedaa
open Go.RowKit

/-- May the numbers be? -/
def dArg (s r f : Int) : Bool := decide (0 ≤ s) && decide (s < 1073741824) && decide (0 ≤ r) && decide (r ≤ 255) && decide (0 ≤ f) && decide (f ≤ 65535)
/-- The error's number. -/
def errD (s r f : Int) (n : Nat) : Int := if dArg s r f then (if 1 ≤ n ∧ n ≤ 64 then 0 else 2) else 1
theorem dArg_iff (s r f : Int) : dArg s r f = true ↔ (0 ≤ s ∧ s < 1073741824) ∧ (0 ≤ r ∧ r ≤ 255) ∧ 0 ≤ f ∧ f ≤ 65535 := by
  simp only [dArg, Bool.and_eq_true, decide_eq_true_eq]
  omega
theorem errD_arg {s r f : Int} {n : Nat} (h : dArg s r f = false) : errD s r f n = 1 := by simp [errD, h]
theorem errD_len {s r f : Int} {n : Nat} (h : dArg s r f = true) (h' : ¬ (1 ≤ n ∧ n ≤ 64)) : errD s r f n = 2 := by rw [errD, if_pos h, if_neg h']
theorem errD_zero {s r f : Int} {n : Nat} : errD s r f n = 0 ↔ dArg s r f = true ∧ 1 ≤ n ∧ n ≤ 64 := by
  unfold errD
  cases dArg s r f
  · simp
  · by_cases h : 1 ≤ n ∧ n ≤ 64
    · simp [h]
    · simp [h]

/-- Data that may be. -/
def RightD (s r f : Int) (xs : List Int) : Prop := (0 ≤ s ∧ s < 1073741824) ∧ (0 ≤ r ∧ r ≤ 255) ∧ (0 ≤ f ∧ f ≤ 65535) ∧ 1 ≤ xs.length ∧ xs.length ≤ 64
theorem rightD_iff (s r f : Int) (xs : List Int) : errD s r f xs.length = 0 ↔ RightD s r f xs := by
  rw [errD_zero, dArg_iff]
  unfold RightD
  omega

/-- The head without its sum; the packet. -/
def headD (s r f : Int) (n : Nat) : List Int := 68 :: (beBytes 4 s ++ (r :: (beBytes 2 f ++ [(n : Int)])))
def packD (s r f : Int) (xs : List Int) : List Int := headD s r f xs.length ++ (beBytes 2 (sum16 (headD s r f xs.length) : Int) ++ xs)

theorem beBytes_two (s : Int) : beBytes 2 s = [s / 2 ^ 8 % 256, s / 2 ^ 0 % 256] := by
  simp [beBytes, List.range, List.range.loop]
theorem beNum_two (a b : Int) : beNum [a, b] = a * 256 + b := by simp [beNum]
theorem beNum_beBytes2 {s : Int} (h0 : 0 ≤ s) (h1 : s < 65536) : beNum (beBytes 2 s) = s := by
  rw [beBytes_two, beNum_two]
  have e3 : (2 : Int) ^ 8 = 256 := by decide
  have e4 : (2 : Int) ^ 0 = 1 := by decide
  rw [e3, e4]
  omega
theorem beBytes_beNum2 {a b : Int} (ha : 0 ≤ a ∧ a ≤ 255) (hb : 0 ≤ b ∧ b ≤ 255) : beBytes 2 (beNum [a, b]) = [a, b] := by
  rw [beBytes_two, beNum_two]
  have e3 : (2 : Int) ^ 8 = 256 := by decide
  have e4 : (2 : Int) ^ 0 = 1 := by decide
  rw [e3, e4]
  congr 1
  · omega
  congr 1
  omega
theorem headD_len (s r f : Int) (n : Nat) : (headD s r f n).length = 9 := by simp [headD, beBytes_len]
theorem packD_len (s r f : Int) (xs : List Int) : (packD s r f xs).length = xs.length + 11 := by
  simp only [packD, List.length_append, headD_len, beBytes_len]
  omega
theorem headD_bd {s r f : Int} {n : Nat} (hr : 0 ≤ r ∧ r ≤ 255) (hn : n ≤ 255) : ∀ z ∈ headD s r f n, 0 ≤ z ∧ z ≤ 255 := fun z hz => by
  unfold headD at hz
  rcases List.mem_cons.1 hz with rfl | hz
  · omega
  rcases List.mem_append.1 hz with h | h
  · exact beBytes_bd 4 s z h
  rcases List.mem_cons.1 h with rfl | h
  · exact hr
  rcases List.mem_append.1 h with h | h
  · exact beBytes_bd 2 f z h
  · simp at h
    omega
theorem packD_bd {s r f : Int} {xs : List Int} (h : RightD s r f xs) (bx : ∀ z ∈ xs, 0 ≤ z ∧ z ≤ 255) : ∀ z ∈ packD s r f xs, 0 ≤ z ∧ z ≤ 255 := fun z hz => by
  obtain ⟨_, hr, _, _, hx⟩ := h
  rcases List.mem_append.1 hz with h | h
  · exact headD_bd hr (by omega) z h
  rcases List.mem_append.1 h with h | h
  · exact beBytes_bd 2 _ z h
  · exact bx z h

/-- What bytes say. -/
def dS (zs : List Int) : Int := beNum ((zs.drop 1).take 4)
def dR (zs : List Int) : Int := zs[5]?.getD 0
def dF (zs : List Int) : Int := beNum ((zs.drop 6).take 2)
def dN (zs : List Int) : Int := zs[8]?.getD 0
def dC (zs : List Int) : Int := beNum ((zs.drop 9).take 2)
def dX (zs : List Int) : List Int := zs.drop 11
def dLen (zs : List Int) : Prop := 12 ≤ zs.length ∧ zs.length ≤ 75
def dSum (zs : List Int) : Prop := (sum16 (zs.take 9) : Int) = dC zs
/-- They are the packet of data that may be; why they are none, as a number. -/
def okD (zs : List Int) : Prop := dLen zs ∧ zs[0]?.getD 0 = 68 ∧ dSum zs ∧ dS zs < 1073741824 ∧ dN zs = (zs.length : Int) - 11
def badD (zs : List Int) (e : Int) : Prop :=
  (¬ dLen zs ∧ e = 2) ∨ (dLen zs ∧ zs[0]?.getD 0 ≠ 68 ∧ e = 12) ∨ (dLen zs ∧ zs[0]?.getD 0 = 68 ∧ ¬ dSum zs ∧ e = 4) ∨ (dLen zs ∧ zs[0]?.getD 0 = 68 ∧ dSum zs ∧ ¬ dS zs < 1073741824 ∧ e = 1) ∨ (dLen zs ∧ zs[0]?.getD 0 = 68 ∧ dSum zs ∧ dS zs < 1073741824 ∧ dN zs ≠ (zs.length : Int) - 11 ∧ e = 2)
theorem dread_cases (zs : List Int) : (∃ e, 0 < e ∧ badD zs e) ∨ okD zs := by
  by_cases h1 : dLen zs
  · by_cases h2 : zs[0]?.getD 0 = 68
    · by_cases h3 : dSum zs
      · by_cases h4 : dS zs < 1073741824
        · by_cases h5 : dN zs = (zs.length : Int) - 11
          · exact .inr ⟨h1, h2, h3, h4, h5⟩
          · exact .inl ⟨2, by decide, .inr (.inr (.inr (.inr ⟨h1, h2, h3, h4, h5, rfl⟩)))⟩
        · exact .inl ⟨1, by decide, .inr (.inr (.inr (.inl ⟨h1, h2, h3, h4, rfl⟩)))⟩
      · exact .inl ⟨4, by decide, .inr (.inr (.inl ⟨h1, h2, h3, rfl⟩))⟩
    · exact .inl ⟨12, by decide, .inr (.inl ⟨h1, h2, rfl⟩)⟩
  · exact .inl ⟨2, by decide, .inl ⟨h1, rfl⟩⟩

/-- The first eleven by name. -/
theorem list_eleven {zs : List Int} (h : 11 ≤ zs.length) : ∃ a s1 s2 s3 s4 r f1 f2 n c1 c2 t, zs = a :: s1 :: s2 :: s3 :: s4 :: r :: f1 :: f2 :: n :: c1 :: c2 :: t ∧ zs.length = t.length + 11 := by
  match zs, h with
  | a :: s1 :: s2 :: s3 :: s4 :: r :: f1 :: f2 :: n :: c1 :: c2 :: t, h => exact ⟨a, s1, s2, s3, s4, r, f1, f2, n, c1, c2, t, rfl, by simp⟩
  | [], h => simp at h
  | [_], h => simp at h
  | [_, _], h => simp at h
  | [_, _, _], h => simp at h
  | [_, _, _, _], h => simp at h
  | [_, _, _, _, _], h => simp at h
  | [_, _, _, _, _, _], h => simp at h
  | [_, _, _, _, _, _, _], h => simp at h
  | [_, _, _, _, _, _, _, _], h => simp at h
  | [_, _, _, _, _, _, _, _, _], h => simp at h
  | [_, _, _, _, _, _, _, _, _, _], h => simp at h

/-- A packet is read as what it was made of. -/
theorem packD_list (s r f : Int) (xs : List Int) : packD s r f xs = 68 :: s / 2 ^ 24 % 256 :: s / 2 ^ 16 % 256 :: s / 2 ^ 8 % 256 :: s / 2 ^ 0 % 256 :: r :: f / 2 ^ 8 % 256 :: f / 2 ^ 0 % 256 :: (xs.length : Int) :: (beBytes 2 (sum16 (headD s r f xs.length) : Int) ++ xs) := by
  simp [packD, headD, beBytes_four, beBytes_two]
theorem packD_take9 (s r f : Int) (xs : List Int) : (packD s r f xs).take 9 = headD s r f xs.length := by
  unfold packD
  rw [List.take_append_of_le_length (by rw [headD_len]; exact Nat.le_refl _), List.take_of_length_le (by rw [headD_len]; exact Nat.le_refl _)]
theorem packD_drop9 (s r f : Int) (xs : List Int) : (packD s r f xs).drop 9 = beBytes 2 (sum16 (headD s r f xs.length) : Int) ++ xs := by
  unfold packD
  rw [List.drop_append_of_le_length (by rw [headD_len]; exact Nat.le_refl _), List.drop_of_length_le (by rw [headD_len]; exact Nat.le_refl _), List.nil_append]
theorem dC_pack (s r f : Int) (xs : List Int) : dC (packD s r f xs) = (sum16 (headD s r f xs.length) : Int) := by
  unfold dC
  rw [packD_drop9, List.take_append_of_le_length (by rw [beBytes_len]; exact Nat.le_refl _), List.take_of_length_le (by rw [beBytes_len]; exact Nat.le_refl _)]
  have := sum16_lt (headD s r f xs.length)
  exact beNum_beBytes2 (by omega) (by omega)
theorem dSum_pack (s r f : Int) (xs : List Int) : dSum (packD s r f xs) := by
  unfold dSum
  rw [dC_pack, packD_take9]
theorem dX_pack (s r f : Int) (xs : List Int) : dX (packD s r f xs) = xs := by
  unfold dX
  rw [show (11 : Nat) = 9 + 2 from rfl, ← List.drop_drop, packD_drop9, List.drop_append_of_le_length (by rw [beBytes_len]; exact Nat.le_refl _), List.drop_of_length_le (by rw [beBytes_len]; exact Nat.le_refl _), List.nil_append]
theorem dS_pack {s r f : Int} {xs : List Int} (h : RightD s r f xs) : dS (packD s r f xs) = s := by
  unfold dS
  rw [packD_list]
  show beNum [s / 2 ^ 24 % 256, s / 2 ^ 16 % 256, s / 2 ^ 8 % 256, s / 2 ^ 0 % 256] = s
  rw [← beBytes_four]
  exact beNum_beBytes h.1.1 (by have := h.1.2; omega)
theorem dR_pack (s r f : Int) (xs : List Int) : dR (packD s r f xs) = r := by
  unfold dR; rw [packD_list]; rfl
theorem dF_pack {s r f : Int} {xs : List Int} (h : RightD s r f xs) : dF (packD s r f xs) = f := by
  unfold dF
  rw [packD_list]
  show beNum [f / 2 ^ 8 % 256, f / 2 ^ 0 % 256] = f
  rw [← beBytes_two]
  exact beNum_beBytes2 h.2.2.1.1 (by have := h.2.2.1.2; omega)
theorem dN_pack (s r f : Int) (xs : List Int) : dN (packD s r f xs) = (xs.length : Int) := by
  unfold dN; rw [packD_list]; rfl
theorem packD_head (s r f : Int) (xs : List Int) : (packD s r f xs)[0]?.getD 0 = 68 := by rw [packD_list]; rfl
theorem okD_pack {s r f : Int} {xs : List Int} (h : RightD s r f xs) : okD (packD s r f xs) := by
  refine ⟨?_, packD_head s r f xs, dSum_pack s r f xs, ?_, ?_⟩
  · unfold dLen; rw [packD_len]; have := h.2.2.2; omega
  · rw [dS_pack h]; exact h.1.2
  · rw [dN_pack, packD_len]; omega
theorem packD_inj {s r f s' r' f' : Int} {xs xs' : List Int} (h : RightD s r f xs) (h' : RightD s' r' f' xs') (e : packD s r f xs = packD s' r' f' xs') : s = s' ∧ r = r' ∧ f = f' ∧ xs = xs' := by
  have e1 := congrArg dS e
  have e2 := congrArg dR e
  have e3 := congrArg dF e
  have e4 := congrArg dX e
  rw [dS_pack h, dS_pack h'] at e1
  rw [dR_pack, dR_pack] at e2
  rw [dF_pack h, dF_pack h'] at e3
  rw [dX_pack, dX_pack] at e4
  exact ⟨e1, e2, e3, e4⟩
/-- What is read is made again. -/
theorem packD_read {zs : List Int} (bz : ∀ z ∈ zs, 0 ≤ z ∧ z ≤ 255) (h : okD zs) : RightD (dS zs) (dR zs) (dF zs) (dX zs) ∧ packD (dS zs) (dR zs) (dF zs) (dX zs) = zs := by
  obtain ⟨⟨h1, h2⟩, h3, h4, h5, h6⟩ := h
  obtain ⟨a, s1, s2, s3, s4, r, f1, f2, n, c1, c2, t, rfl, ht⟩ := list_eleven (show 11 ≤ zs.length by omega)
  have ba := bz a (by simp)
  have b1 := bz s1 (by simp)
  have b2 := bz s2 (by simp)
  have b3 := bz s3 (by simp)
  have b4 := bz s4 (by simp)
  have br := bz r (by simp)
  have bf1 := bz f1 (by simp)
  have bf2 := bz f2 (by simp)
  have bc1 := bz c1 (by simp)
  have bc2 := bz c2 (by simp)
  have es : dS (a :: s1 :: s2 :: s3 :: s4 :: r :: f1 :: f2 :: n :: c1 :: c2 :: t) = beNum [s1, s2, s3, s4] := rfl
  have er : dR (a :: s1 :: s2 :: s3 :: s4 :: r :: f1 :: f2 :: n :: c1 :: c2 :: t) = r := rfl
  have ef : dF (a :: s1 :: s2 :: s3 :: s4 :: r :: f1 :: f2 :: n :: c1 :: c2 :: t) = beNum [f1, f2] := rfl
  have ec : dC (a :: s1 :: s2 :: s3 :: s4 :: r :: f1 :: f2 :: n :: c1 :: c2 :: t) = beNum [c1, c2] := rfl
  have en : dN (a :: s1 :: s2 :: s3 :: s4 :: r :: f1 :: f2 :: n :: c1 :: c2 :: t) = n := rfl
  have ex : dX (a :: s1 :: s2 :: s3 :: s4 :: r :: f1 :: f2 :: n :: c1 :: c2 :: t) = t := rfl
  have e0 : a = 68 := h3
  rw [es] at h5
  rw [en, ht] at h6
  unfold dSum at h4
  rw [ec] at h4
  rw [ht] at h1 h2
  rw [es, er, ef, ex]
  have hs0 : 0 ≤ beNum [s1, s2, s3, s4] := by rw [beNum_four]; omega
  have hf0 : 0 ≤ beNum [f1, f2] ∧ beNum [f1, f2] ≤ 65535 := by rw [beNum_two]; omega
  have hn : n = (t.length : Int) := by omega
  refine ⟨⟨⟨hs0, h5⟩, br, hf0, by omega, by omega⟩, ?_⟩
  have eh : headD (beNum [s1, s2, s3, s4]) r (beNum [f1, f2]) t.length = [a, s1, s2, s3, s4, r, f1, f2, n] := by
    unfold headD
    rw [beBytes_beNum b1 b2 b3 b4, beBytes_beNum2 bf1 bf2, e0, hn]
    rfl
  unfold packD
  rw [eh]
  have h4' : ((sum16 [a, s1, s2, s3, s4, r, f1, f2, n] : Nat) : Int) = beNum [c1, c2] := h4
  rw [h4', beBytes_beNum2 bc1 bc2]
  rfl

/-- Cut short, or with bytes more, a packet is none. -/
theorem badD_cut {s r f : Int} {xs : List Int} (h : RightD s r f xs) (k : Nat) (hk : k < xs.length + 11) : badD ((packD s r f xs).take k) 2 := by
  obtain ⟨_, _, _, h1, h2⟩ := id h
  have hl : ((packD s r f xs).take k).length = k := by rw [List.length_take, packD_len]; omega
  by_cases h12 : 12 ≤ k
  · have hd : dLen ((packD s r f xs).take k) := by unfold dLen; rw [hl]; omega
    have e0 : ((packD s r f xs).take k)[0]?.getD 0 = 68 := by rw [List.getElem?_take_of_lt (by omega)]; exact packD_head s r f xs
    have e9 : ((packD s r f xs).take k).take 9 = (packD s r f xs).take 9 := by rw [List.take_take, Nat.min_eq_left (by omega)]
    have eC : dC ((packD s r f xs).take k) = dC (packD s r f xs) := by
      unfold dC; rw [List.drop_take, List.take_take, Nat.min_eq_left (by omega)]
    have eS : dS ((packD s r f xs).take k) = dS (packD s r f xs) := by
      unfold dS; rw [List.drop_take, List.take_take, Nat.min_eq_left (by omega)]
    have eN : dN ((packD s r f xs).take k) = dN (packD s r f xs) := by unfold dN; rw [List.getElem?_take_of_lt (by omega)]
    refine .inr (.inr (.inr (.inr ⟨hd, e0, ?_, ?_, ?_, rfl⟩)))
    · unfold dSum; rw [e9, eC]; exact dSum_pack s r f xs
    · rw [eS, dS_pack h]; exact h.1.2
    · rw [eN, dN_pack, hl]; omega
  · exact .inl ⟨by unfold dLen; rw [hl]; omega, rfl⟩
theorem badD_more {s r f : Int} {xs : List Int} (h : RightD s r f xs) (ys : List Int) (hy : 0 < ys.length) : badD (packD s r f xs ++ ys) 2 := by
  obtain ⟨_, _, _, h1, h2⟩ := id h
  have hp := packD_len s r f xs
  have hl : (packD s r f xs ++ ys).length = xs.length + 11 + ys.length := by rw [List.length_append, hp]
  by_cases h75 : xs.length + 11 + ys.length ≤ 75
  · have hd : dLen (packD s r f xs ++ ys) := by unfold dLen; rw [hl]; omega
    have e0 : (packD s r f xs ++ ys)[0]?.getD 0 = 68 := by rw [List.getElem?_append_left (by omega)]; exact packD_head s r f xs
    have e9 : (packD s r f xs ++ ys).take 9 = (packD s r f xs).take 9 := List.take_append_of_le_length (by omega)
    have eC : dC (packD s r f xs ++ ys) = dC (packD s r f xs) := by
      unfold dC; rw [List.drop_append_of_le_length (by omega), List.take_append_of_le_length (by rw [List.length_drop]; omega)]
    have eS : dS (packD s r f xs ++ ys) = dS (packD s r f xs) := by
      unfold dS; rw [List.drop_append_of_le_length (by omega), List.take_append_of_le_length (by rw [List.length_drop]; omega)]
    have eN : dN (packD s r f xs ++ ys) = dN (packD s r f xs) := by unfold dN; rw [List.getElem?_append_left (by omega)]
    refine .inr (.inr (.inr (.inr ⟨hd, e0, ?_, ?_, ?_, rfl⟩)))
    · unfold dSum; rw [e9, eC]; exact dSum_pack s r f xs
    · rw [eS, dS_pack h]; exact h.1.2
    · rw [eN, dN_pack, hl]; omega
  · exact .inl ⟨by unfold dLen; rw [hl]; omega, rfl⟩
/-- With a symbol turned about it is one, with that symbol. -/
theorem packD_set (s r f : Int) (xs : List Int) (k : Nat) (z : Int) : (packD s r f xs).set (11 + k) z = packD s r f (xs.set k z) := by
  unfold packD
  rw [List.length_set, List.set_append_right _ _ (by rw [headD_len]; omega), headD_len, List.set_append_right _ _ (by rw [beBytes_len]; omega), beBytes_len, show 11 + k - 9 - 2 = k by omega]

end Go.Proofs.Ytpfhnefgibiedaa
