/-
  Sealed texts of a block's length that are no block's bytes: one thing in them is none. No function of the program is spoken of.
-/
import Derived.Test.YtejpnjegahbaoaaRefReads
import Derived.Test.YtejpnjegahbaoaaByteRow
namespace Go.Proofs.Ytejpnjegahbaoaa
open Go.RowKit

theorem seal_get {Y : List Int} {j : Nat} (h : j < Y.length) : (sealL Y)[j]? = Y[j]? := List.getElem?_append_left h
theorem noRead1 {Z : Nat} {Y : List Int} {j : Nat} {v : Int} (hl : Y.length = Z + 6) (bY : ∀ z ∈ Y, 0 ≤ z ∧ z ≤ 255) (h6 : 6 + (Y[5]?.getD 0).toNat ≤ j) (hj : j < Z + 6) (hv : Y[j]? = some v) (h0 : v ≠ 0) : ¬ readOk Z (sealL Y) := by
  rintro ⟨hn, _, he⟩
  have hlz : (sealL Y).length = Z + 10 := by rw [sealL_lenB, hl]
  have h := (pads_iff hlz (sealL_bdB bY) (isSealed_sealB Y) hn).1 he j (by unfold rdN; rw [seal_get (by omega)]; exact h6) hj
  rw [seal_get (by omega), hv] at h
  exact h0 (Option.some.inj h)
theorem noRead2 {Z : Nat} {Y : List Int} {v : Int} (hl : Y.length = Z + 6) (hv : Y[4]? = some v) (h4 : 3 < v) : ¬ readOk Z (sealL Y) := by
  rintro ⟨_, hR, _⟩
  have h := hR.2.2.1.2
  unfold rdM at h
  rw [seal_get (by omega), hv] at h
  simp at h
  omega
theorem noRead3 {Z : Nat} {Y : List Int} {v : Int} (hl : Y.length = Z + 6) (hv : Y[5]? = some v) (h4 : (Z : Int) < v) : ¬ readOk Z (sealL Y) := by
  rintro ⟨hn, _, _⟩
  unfold rdN at hn
  rw [seal_get (by omega), hv] at hn
  simp at hn
  omega
theorem noRead4 {Z : Nat} {Y : List Int} {v : Int} (hl : Y.length = Z + 6) (bY : ∀ z ∈ Y, 0 ≤ z ∧ z ≤ 255) (hv : Y[0]? = some v) (h4 : 64 ≤ v) : ¬ readOk Z (sealL Y) := by
  rintro ⟨_, hR, _⟩
  have h := hR.2.1.2
  obtain ⟨a, b, c, d, e, f, t, rfl, _⟩ := list_six (k := Z) hl
  have es : rdS (sealL (a :: b :: c :: d :: e :: f :: t)) = beNum [a, b, c, d] := rfl
  rw [es, beNum_four] at h
  have ba := bY a (by simp)
  have bb := bY b (by simp)
  have bc := bY c (by simp)
  have bd := bY d (by simp)
  cases hv
  omega

theorem zu8_or (a b : Nat) (ha : a < 256) (hb : b < 256) : bits .or .u8 (a : Int) (b : Int) = ((a ||| b : Nat) : Int) := by
  have e : ∀ n : Nat, n < 256 → (BitVec.ofInt 8 (n : Int)).toNat = n := fun n h => by
    rw [BitVec.ofInt_natCast, BitVec.toNat_ofNat]; exact Nat.mod_eq_of_lt (by omega)
  have hx : a ||| b < 2 ^ 8 := Nat.or_lt_two_pow ha hb
  show IntKind.u8.wrap ((BitVec.ofInt 8 (a : Int) ||| BitVec.ofInt 8 (b : Int)).toNat : Int) = _
  rw [BitVec.toNat_or, e a ha, e b hb]
  exact zu8_wrap _ (by omega) (by exact_mod_cast hx)
theorem zu8_and (a b : Nat) (ha : a < 256) (hb : b < 256) : bits .and .u8 (a : Int) (b : Int) = ((a &&& b : Nat) : Int) := by
  have e : ∀ n : Nat, n < 256 → (BitVec.ofInt 8 (n : Int)).toNat = n := fun n h => by
    rw [BitVec.ofInt_natCast, BitVec.toNat_ofNat]; exact Nat.mod_eq_of_lt (by omega)
  have hx : a &&& b < 2 ^ 8 := Nat.lt_of_le_of_lt Nat.and_le_left ha
  show IntKind.u8.wrap ((BitVec.ofInt 8 (a : Int) &&& BitVec.ofInt 8 (b : Int)).toNat : Int) = _
  rw [BitVec.toNat_and, e a ha, e b hb]
  exact zu8_wrap _ (by omega) (by exact_mod_cast hx)

/-- What stands where in a block's bytes without the seal. -/
theorem bodyB_eq (Z : Nat) (s m : Int) (xs : List Int) : bodyB Z s m xs = beBytes 4 s ++ (m :: (xs.length : Int) :: (xs ++ List.replicate (Z - xs.length) 0)) := by
  simp [bodyB, headB, List.append_assoc]
theorem bodyB_get5 (Z : Nat) (s m : Int) (xs : List Int) : (bodyB Z s m xs)[5]? = some (xs.length : Int) := by rw [bodyB_eq, beBytes_four]; rfl
theorem bodyB_pad {Z : Nat} {s m : Int} {xs : List Int} {j : Nat} (h : 6 + xs.length ≤ j) (hj : j < Z + 6) : (bodyB Z s m xs)[j]? = some 0 := by
  rw [bodyB_eq, beBytes_four]
  obtain ⟨i, rfl⟩ : ∃ i, j = i + 6 := ⟨j - 6, by omega⟩
  show (xs ++ List.replicate (Z - xs.length) 0)[i]? = some 0
  rw [List.getElem?_append_right (by omega), List.getElem?_replicate_of_lt (by omega)]
theorem bytesB_take (Z : Nat) {s m : Int} {xs : List Int} (h : xs.length ≤ Z) : (bytesB Z s m xs).take (Z + 6) = bodyB Z s m xs := by
  have hl := bodyB_len (s := s) (m := m) h
  unfold bytesB sealL
  rw [List.take_append_of_le_length (by omega), List.take_of_length_le (by omega)]
theorem set_bd {Y : List Int} (h : ∀ z ∈ Y, 0 ≤ z ∧ z ≤ 255) {j : Nat} {v : Int} (hv : 0 ≤ v ∧ v ≤ 255) : ∀ z ∈ Y.set j v, 0 ≤ z ∧ z ≤ 255 := fun z hz => by
  rcases List.mem_or_eq_of_mem_set hz with h' | rfl
  · exact h z h'
  · exact hv

end Go.Proofs.Ytejpnjegahbaoaa
