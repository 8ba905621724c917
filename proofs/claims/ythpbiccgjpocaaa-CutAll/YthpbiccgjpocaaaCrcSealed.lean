/-
  What bytes.Equal, of two texts of four bytes, and crc.Sealed, of any text, answer.
-/
import Derived.Test.YthpbiccgjpocaaaCrcSeal
import Derived.Test.YthpbiccgjpocaaaByteRow
import Derived.Laws.BytesArg
import Derived.Deep.RegionWith
namespace Go.Proofs.Ythpbiccgjpocaaa
open Go.RowKit

theorem ofNat_inj {x y : Int} (h0 : 0 ≤ x ∧ x ≤ 255) (h1 : 0 ≤ y ∧ y ≤ 255) (h : UInt8.ofNat x.toNat = UInt8.ofNat y.toNat) : x = y := by
  have := congrArg UInt8.toNat h
  simp at this
  omega

theorem str_inj : ∀ {xs ys : List Int}, (∀ z ∈ xs, 0 ≤ z ∧ z ≤ 255) → (∀ z ∈ ys, 0 ≤ z ∧ z ≤ 255) → xs.map (fun n => UInt8.ofNat n.toNat) = ys.map (fun n => UInt8.ofNat n.toNat) → xs = ys
  | [], [], _, _, _ => rfl
  | [], _ :: _, _, _, h => by simp at h
  | _ :: _, [], _, _, h => by simp at h
  | x :: l, y :: m, h1, h2, h => by
    simp only [List.map_cons, List.cons.injEq] at h
    rw [ofNat_inj (h1 x List.mem_cons_self) (h2 y List.mem_cons_self) h.1, str_inj (fun z hz => h1 z (List.mem_cons_of_mem _ hz)) (fun z hz => h2 z (List.mem_cons_of_mem _ hz)) h.2]

theorem str_eq {xs ys : List Int} (h1 : ∀ z ∈ xs, 0 ≤ z ∧ z ≤ 255) (h2 : ∀ z ∈ ys, 0 ≤ z ∧ z ≤ 255) : ((strOfNums xs).toList == (strOfNums ys).toList) = decide (xs = ys) := by
  rw [ByteArray.toList_eq, ByteArray.toList_eq, strOfNums_data, strOfNums_data]
  by_cases h : xs = ys
  · rw [decide_eq_true h, h, beq_iff_eq]
  · rw [decide_eq_false h, beq_eq_false_iff_ne]
    exact fun e => h (str_inj h1 h2 e)

theorem take_drop4 {xs : List Int} (h : 4 ≤ xs.length) : (xs.drop (xs.length - 4)).length = 4 := by rw [List.length_drop]; omega

theorem sealed_iff {xs : List Int} (h4 : 4 ≤ xs.length) : isSealed xs = decide (xs.drop (xs.length - 4) = four (sum32 (xs.take (xs.length - 4)))) := by
  show (decide (4 ≤ xs.length) && decide (sealL (xs.take (xs.length - 4)) = xs)) = _
  rw [decide_eq_true h4, Bool.true_and]
  have e : xs = xs.take (xs.length - 4) ++ xs.drop (xs.length - 4) := (List.take_append_drop _ _).symm
  apply decide_eq_decide.2
  unfold sealL
  constructor
  · intro h
    have h' := h.trans e
    exact (List.append_cancel_left h').symm
  · intro h
    rw [← h]
    exact e.symm

theorem isSealed_sealL (xs : List Int) : isSealed (sealL xs) = true := by
  have hl : (sealL xs).length = xs.length + 4 := by simp [sealL, four]
  have ht : (sealL xs).take ((sealL xs).length - 4) = xs := by
    rw [hl, Nat.add_sub_cancel]
    unfold sealL
    rw [List.take_append_of_le_length (Nat.le_refl _), List.take_length]
  unfold isSealed
  rw [ht, decide_eq_true rfl, decide_eq_true (show 4 ≤ (sealL xs).length by omega)]
  rfl

end Go.Proofs.Ythpbiccgjpocaaa
