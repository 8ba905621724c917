/-
  Blocks as bytes, as lists of numbers: which may be, which bytes they have, what bytes are read as. No function of the program is spoken of.
-/
import Derived.Test.YtklmiapieaogdaaGetNum
import Derived.Test.YtklmiapieaogdaaCrcDefs
namespace Go.Proofs.Ytklmiapieaogdaa
open Go.RowKit

/-- May size, number and mark be? May a text of so many bytes? -/
def bSize (z : Int) : Bool := decide (1 ≤ z) && decide (z ≤ 16)
def bArg (z s m : Int) : Bool := decide (1 ≤ z) && decide (z ≤ 16) && decide (0 ≤ s) && decide (s < 1073741824) && decide (0 ≤ m) && decide (m ≤ 3)
def bLen (z m : Int) (n : Nat) : Bool := decide ((n : Int) ≤ z) && (decide (2 ≤ m) || decide (z ≤ (n : Int)))
/-- The error's number. -/
def errB (z s m : Int) (n : Nat) : Int := if bArg z s m then (if bLen z m n then 0 else 2) else 1

theorem bArg_iff (z s m : Int) : bArg z s m = true ↔ (1 ≤ z ∧ z ≤ 16) ∧ (0 ≤ s ∧ s < 1073741824) ∧ 0 ≤ m ∧ m ≤ 3 := by
  simp only [bArg, Bool.and_eq_true, decide_eq_true_eq]
  omega
theorem bLen_iff (z m : Int) (n : Nat) : bLen z m n = true ↔ (n : Int) ≤ z ∧ (2 ≤ m ∨ z ≤ n) := by
  simp only [bLen, Bool.and_eq_true, Bool.or_eq_true, decide_eq_true_eq]
theorem errB_zero {z s m : Int} {n : Nat} : errB z s m n = 0 ↔ bArg z s m = true ∧ bLen z m n = true := by
  unfold errB
  cases bArg z s m <;> cases bLen z m n <;> simp
theorem errB_arg {z s m : Int} {n : Nat} (h : bArg z s m = false) : errB z s m n = 1 := by simp [errB, h]
theorem errB_len {z s m : Int} {n : Nat} (h : bArg z s m = true) (h' : bLen z m n = false) : errB z s m n = 2 := by simp [errB, h, h']

/-- A block that is right, of size Z. -/
def Right (Z : Nat) (s m : Int) (xs : List Int) : Prop := (1 ≤ Z ∧ Z ≤ 16) ∧ (0 ≤ s ∧ s < 1073741824) ∧ (0 ≤ m ∧ m ≤ 3) ∧ xs.length ≤ Z ∧ (2 ≤ m ∨ Z ≤ xs.length)
theorem right_iff (Z : Nat) (s m : Int) (xs : List Int) : errB (Z : Int) s m xs.length = 0 ↔ Right Z s m xs := by
  rw [errB_zero, bArg_iff, bLen_iff]
  unfold Right
  omega
theorem right_of {z s m : Int} {xs : List Int} (h : errB z s m xs.length = 0) : ∃ Z : Nat, z = (Z : Int) ∧ Right Z s m xs := by
  have h1 := (bArg_iff _ _ _).1 (errB_zero.1 h).1
  obtain ⟨Z, rfl⟩ := Int.eq_ofNat_of_zero_le (show 0 ≤ z by omega)
  exact ⟨Z, rfl, (right_iff _ _ _ _).1 h⟩

/-- Its bytes, without and with the seal. -/
def headB (s m : Int) (n : Nat) : List Int := beBytes 4 s ++ [m, (n : Int)]
def bodyB (Z : Nat) (s m : Int) (xs : List Int) : List Int := headB s m xs.length ++ xs ++ List.replicate (Z - xs.length) 0
def bytesB (Z : Nat) (s m : Int) (xs : List Int) : List Int := sealL (bodyB Z s m xs)

theorem beBytes_four (s : Int) : beBytes 4 s = [s / 2 ^ 24 % 256, s / 2 ^ 16 % 256, s / 2 ^ 8 % 256, s / 2 ^ 0 % 256] := by
  simp [beBytes, List.range, List.range.loop]
theorem headB_len (s m : Int) (n : Nat) : (headB s m n).length = 6 := by simp [headB, beBytes_len]
theorem bodyB_len {Z : Nat} {s m : Int} {xs : List Int} (h : xs.length ≤ Z) : (bodyB Z s m xs).length = Z + 6 := by
  simp only [bodyB, List.length_append, headB_len, List.length_replicate]
  omega
theorem sealL_lenB (xs : List Int) : (sealL xs).length = xs.length + 4 := by simp [sealL, four]
theorem bytesB_len {Z : Nat} {s m : Int} {xs : List Int} (h : xs.length ≤ Z) : (bytesB Z s m xs).length = Z + 10 := by
  rw [bytesB, sealL_lenB, bodyB_len h]
theorem beBytes_bd (k : Nat) (s : Int) : ∀ z ∈ beBytes k s, 0 ≤ z ∧ z ≤ 255 := fun z hz => by
  obtain ⟨i, _, rfl⟩ := List.mem_map.1 hz
  have h0 := Int.emod_nonneg (s / 2 ^ (8 * (k - 1 - i))) (show (256 : Int) ≠ 0 by decide)
  have h1 := Int.emod_lt_of_pos (s / 2 ^ (8 * (k - 1 - i))) (show (0 : Int) < 256 by decide)
  omega
theorem headB_bd {s m : Int} {n : Nat} (hm : 0 ≤ m ∧ m ≤ 255) (hn : n ≤ 255) : ∀ z ∈ headB s m n, 0 ≤ z ∧ z ≤ 255 := fun z hz => by
  rcases List.mem_append.1 hz with h | h
  · exact beBytes_bd 4 s z h
  · simp at h
    omega
theorem bodyB_bd {Z : Nat} {s m : Int} {xs : List Int} (h : Right Z s m xs) (bx : ∀ z ∈ xs, 0 ≤ z ∧ z ≤ 255) : ∀ z ∈ bodyB Z s m xs, 0 ≤ z ∧ z ≤ 255 := fun z hz => by
  obtain ⟨h1, h2, h3, h4, _⟩ := h
  rcases List.mem_append.1 hz with h | h
  · rcases List.mem_append.1 h with h | h
    · exact headB_bd (by omega) (by omega) z h
    · exact bx z h
  · have := List.eq_of_mem_replicate h
    omega
theorem sealL_bdB {xs : List Int} (bx : ∀ z ∈ xs, 0 ≤ z ∧ z ≤ 255) : ∀ z ∈ sealL xs, 0 ≤ z ∧ z ≤ 255 := fun z hz => by
  rcases List.mem_append.1 hz with h | h
  · exact bx z h
  · exact four_bd _ z h
theorem bytesB_bd {Z : Nat} {s m : Int} {xs : List Int} (h : Right Z s m xs) (bx : ∀ z ∈ xs, 0 ≤ z ∧ z ≤ 255) : ∀ z ∈ bytesB Z s m xs, 0 ≤ z ∧ z ≤ 255 := sealL_bdB (bodyB_bd h bx)

/-- Four bytes and their number. -/
theorem beNum_four (a b c d : Int) : beNum [a, b, c, d] = ((a * 256 + b) * 256 + c) * 256 + d := by simp [beNum]
theorem beNum_beBytes {s : Int} (h0 : 0 ≤ s) (h1 : s < 4294967296) : beNum (beBytes 4 s) = s := by
  rw [beBytes_four, beNum_four]
  have e1 : (2 : Int) ^ 24 = 16777216 := by decide
  have e2 : (2 : Int) ^ 16 = 65536 := by decide
  have e3 : (2 : Int) ^ 8 = 256 := by decide
  have e4 : (2 : Int) ^ 0 = 1 := by decide
  rw [e1, e2, e3, e4]
  omega
theorem beBytes_beNum {a b c d : Int} (ha : 0 ≤ a ∧ a ≤ 255) (hb : 0 ≤ b ∧ b ≤ 255) (hc : 0 ≤ c ∧ c ≤ 255) (hd : 0 ≤ d ∧ d ≤ 255) : beBytes 4 (beNum [a, b, c, d]) = [a, b, c, d] := by
  rw [beBytes_four, beNum_four]
  have e1 : (2 : Int) ^ 24 = 16777216 := by decide
  have e2 : (2 : Int) ^ 16 = 65536 := by decide
  have e3 : (2 : Int) ^ 8 = 256 := by decide
  have e4 : (2 : Int) ^ 0 = 1 := by decide
  rw [e1, e2, e3, e4]
  congr 1
  · omega
  congr 1
  · omega
  congr 1
  · omega
  congr 1
  omega

/-- What stands where in a block's bytes. -/
theorem bytesB_eq (Z : Nat) (s m : Int) (xs : List Int) : bytesB Z s m xs = beBytes 4 s ++ (m :: (xs.length : Int) :: (xs ++ (List.replicate (Z - xs.length) 0 ++ four (sum32 (bodyB Z s m xs))))) := by
  simp [bytesB, sealL, bodyB, headB, List.append_assoc]
theorem bytesB_take4 (Z : Nat) (s m : Int) (xs : List Int) : (bytesB Z s m xs).take 4 = beBytes 4 s := by rw [bytesB_eq, beBytes_four]; rfl
theorem bytesB_get4 (Z : Nat) (s m : Int) (xs : List Int) : (bytesB Z s m xs)[4]? = some m := by rw [bytesB_eq, beBytes_four]; rfl
theorem bytesB_get5 (Z : Nat) (s m : Int) (xs : List Int) : (bytesB Z s m xs)[5]? = some (xs.length : Int) := by rw [bytesB_eq, beBytes_four]; rfl
theorem bytesB_drop6 (Z : Nat) (s m : Int) (xs : List Int) : (bytesB Z s m xs).drop 6 = xs ++ (List.replicate (Z - xs.length) 0 ++ four (sum32 (bodyB Z s m xs))) := by rw [bytesB_eq, beBytes_four]; rfl

/-- What bytes say: the number, the mark, the text's length, the text. -/
def rdS (zs : List Int) : Int := beNum (zs.take 4)
def rdM (zs : List Int) : Int := zs[4]?.getD 0
def rdN (zs : List Int) : Nat := (zs[5]?.getD 0).toNat
def rdX (zs : List Int) : List Int := (zs.drop 6).take (rdN zs)
/-- They are the bytes of a right block. -/
def readOk (Z : Nat) (zs : List Int) : Prop := rdN zs ≤ Z ∧ Right Z (rdS zs) (rdM zs) (rdX zs) ∧ bytesB Z (rdS zs) (rdM zs) (rdX zs) = zs

theorem rdS_bytes {Z : Nat} {s m : Int} {xs : List Int} (h : Right Z s m xs) : rdS (bytesB Z s m xs) = s := by
  rw [rdS, bytesB_take4, beNum_beBytes h.2.1.1 (by have := h.2.1.2; omega)]
theorem rdM_bytes (Z : Nat) (s m : Int) (xs : List Int) : rdM (bytesB Z s m xs) = m := by rw [rdM, bytesB_get4]; rfl
theorem rdN_bytes (Z : Nat) (s m : Int) (xs : List Int) : rdN (bytesB Z s m xs) = xs.length := by rw [rdN, bytesB_get5]; rfl
theorem rdX_bytes (Z : Nat) (s m : Int) (xs : List Int) : rdX (bytesB Z s m xs) = xs := by
  rw [rdX, rdN_bytes, bytesB_drop6, List.take_append_of_le_length (Nat.le_refl _), List.take_length]
theorem readOk_bytes {Z : Nat} {s m : Int} {xs : List Int} (h : Right Z s m xs) : readOk Z (bytesB Z s m xs) := by
  unfold readOk
  rw [rdS_bytes h, rdM_bytes, rdN_bytes, rdX_bytes]
  exact ⟨h.2.2.2.1, h, rfl⟩
theorem bytesB_inj {Z : Nat} {s m s' m' : Int} {xs xs' : List Int} (h : Right Z s m xs) (h' : Right Z s' m' xs') (e : bytesB Z s m xs = bytesB Z s' m' xs') : s = s' ∧ m = m' ∧ xs = xs' := by
  have e1 := congrArg rdS e
  have e2 := congrArg rdM e
  have e3 := congrArg rdX e
  rw [rdS_bytes h, rdS_bytes h'] at e1
  rw [rdM_bytes, rdM_bytes] at e2
  rw [rdX_bytes, rdX_bytes] at e3
  exact ⟨e1, e2, e3⟩

theorem isSealed_sealB (xs : List Int) : isSealed (sealL xs) = true := by
  have hl := sealL_lenB xs
  have ht : (sealL xs).take ((sealL xs).length - 4) = xs := by
    rw [hl, Nat.add_sub_cancel]
    unfold sealL
    rw [List.take_append_of_le_length (Nat.le_refl _), List.take_length]
  unfold isSealed
  rw [ht, decide_eq_true rfl, decide_eq_true (show 4 ≤ (sealL xs).length by omega)]
  rfl
theorem sealed_is {zs : List Int} (h : isSealed zs = true) : 4 ≤ zs.length ∧ sealL (zs.take (zs.length - 4)) = zs := by
  unfold isSealed at h
  simp only [Bool.and_eq_true, decide_eq_true_eq] at h
  exact h
theorem sealL_inj {xs ys : List Int} (hl : xs.length = ys.length) : sealL xs = sealL ys ↔ xs = ys :=
  ⟨fun h => (List.append_inj h hl).1, fun h => by rw [h]⟩

/-- A list of so many numbers and more, its first six by name. -/
theorem list_six {zs : List Int} {k : Nat} (h : zs.length = k + 6) : ∃ a b c d e f t, zs = a :: b :: c :: d :: e :: f :: t ∧ t.length = k := by
  match zs, h with
  | a :: b :: c :: d :: e :: f :: t, h => exact ⟨a, b, c, d, e, f, t, rfl, by simpa using h⟩
  | [], h => simp at h
  | [_], h => simp at h
  | [_, _], h => simp at h
  | [_, _, _], h => simp at h
  | [_, _, _, _], h => simp at h
  | [_, _, _, _, _], h => simp at h

/-- Sealed bytes of the right length, whose text fits: they are the block's own just if noughts stand behind the text. -/
theorem pads_iff {Z : Nat} {zs : List Int} (hl : zs.length = Z + 10) (bz : ∀ z ∈ zs, 0 ≤ z ∧ z ≤ 255) (hs : isSealed zs = true) (hn : rdN zs ≤ Z) : bytesB Z (rdS zs) (rdM zs) (rdX zs) = zs ↔ ∀ k, 6 + rdN zs ≤ k → k < Z + 6 → zs[k]? = some 0 := by
  obtain ⟨_, he⟩ := sealed_is hs
  rw [show zs.length - 4 = Z + 6 by omega] at he
  have e0 : bytesB Z (rdS zs) (rdM zs) (rdX zs) = zs ↔ bodyB Z (rdS zs) (rdM zs) (rdX zs) = zs.take (Z + 6) := by
    have h6 : (rdX zs).length ≤ Z := Nat.le_trans (List.length_take_le _ _) hn
    conv => lhs; rhs; rw [← he]
    exact sealL_inj (by rw [bodyB_len h6, List.length_take]; omega)
  rw [e0]
  obtain ⟨a, b, c, d, e, f, t, rfl, ht⟩ := list_six (k := Z + 4) hl
  have ba := bz a (by simp)
  have bb := bz b (by simp)
  have bc := bz c (by simp)
  have bd := bz d (by simp)
  have bf := bz f (by simp)
  have en : rdN (a :: b :: c :: d :: e :: f :: t) = f.toNat := rfl
  have es : rdS (a :: b :: c :: d :: e :: f :: t) = beNum [a, b, c, d] := rfl
  have em : rdM (a :: b :: c :: d :: e :: f :: t) = e := rfl
  have ex : rdX (a :: b :: c :: d :: e :: f :: t) = t.take f.toNat := rfl
  rw [en] at hn
  rw [en, es, em, ex]
  obtain ⟨n, hfn⟩ : ∃ n : Nat, f = (n : Int) := ⟨f.toNat, by omega⟩
  subst hfn
  rw [show (n : Int).toNat = n from rfl] at hn ⊢
  have hx : (t.take n).length = n := by rw [List.length_take]; omega
  have eb : bodyB Z (beNum [a, b, c, d]) e (t.take n) = a :: b :: c :: d :: e :: (n : Int) :: (t.take n ++ List.replicate (Z - n) 0) := by
    unfold bodyB headB
    rw [hx, beBytes_beNum ba bb bc bd]
    simp
  have et : (a :: b :: c :: d :: e :: (n : Int) :: t).take (Z + 6) = a :: b :: c :: d :: e :: (n : Int) :: t.take Z := rfl
  rw [eb, et]
  constructor
  · intro h k h1 h2
    have h3 : t.take n ++ List.replicate (Z - n) 0 = t.take Z := by simpa using h
    obtain ⟨j, rfl⟩ : ∃ j, k = j + 6 := ⟨k - 6, by omega⟩
    have h4 : (a :: b :: c :: d :: e :: (n : Int) :: t)[j + 6]? = t[j]? := rfl
    rw [h4]
    have h5 : (t.take Z)[j]? = t[j]? := List.getElem?_take_of_lt (by omega)
    rw [← h5, ← h3, List.getElem?_append_right (by rw [hx]; omega), hx, List.getElem?_replicate_of_lt (by omega)]
  · intro h
    have h3 : t.take n ++ List.replicate (Z - n) 0 = t.take Z := by
      apply List.ext_getElem?
      intro j
      by_cases h1 : j < n
      · rw [List.getElem?_append_left (by rw [hx]; exact h1), List.getElem?_take_of_lt h1, List.getElem?_take_of_lt (by omega)]
      · by_cases h2 : j < Z
        · rw [List.getElem?_append_right (by rw [hx]; omega), hx, List.getElem?_replicate_of_lt (by omega), List.getElem?_take_of_lt h2]
          have h4 : (a :: b :: c :: d :: e :: (n : Int) :: t)[j + 6]? = t[j]? := rfl
          rw [← h4, h (j + 6) (by omega) (by omega)]
        · rw [List.getElem?_eq_none (by rw [List.length_append, hx, List.length_replicate]; omega), List.getElem?_eq_none (by rw [List.length_take]; omega)]
    rw [h3]

end Go.Proofs.Ytklmiapieaogdaa
