/-
  What bytes.Equal, of two texts of four bytes, and crc.Sealed, of any text, answer.
-/
import Derived.Test.YtmjidhnlofpliabM16
import Derived.Deep.RegionWith
import Derived.Laws.BytesArg
namespace Go.Proofs.Ytmjidhnlofpliab
open Go.RowKit

theorem ofNat_inj {x y : Int} (h0 : 0 ≤ x ∧ x ≤ 255) (h1 : 0 ≤ y ∧ y ≤ 255) (h : UInt8.ofNat x.toNat = UInt8.ofNat y.toNat) : x = y := by
  have := congrArg UInt8.toNat h
  simp at this
  omega

theorem str_inj : ∀ {xs ys : List Int}, (∀ z ∈ xs, 0 ≤ z ∧ z ≤ 255) → (∀ z ∈ ys, 0 ≤ z ∧ z ≤ 255) → xs.map (fun n => UInt8.ofNat n.toNat) = ys.map (fun n => UInt8.ofNat n.toNat) → xs = ys
  | [], [], _, _, _ => rfl
  | [], _ :: _, _, _, h => by simp at h
  | _ :: _, [], _, _, h => by simp at h
  | x :: l, y :: m, h1, h2, h => by
    simp only [List.map_cons, List.cons.injEq] at h
    rw [ofNat_inj (h1 x List.mem_cons_self) (h2 y List.mem_cons_self) h.1, str_inj (fun z hz => h1 z (List.mem_cons_of_mem _ hz)) (fun z hz => h2 z (List.mem_cons_of_mem _ hz)) h.2]

theorem str_eq {xs ys : List Int} (h1 : ∀ z ∈ xs, 0 ≤ z ∧ z ≤ 255) (h2 : ∀ z ∈ ys, 0 ≤ z ∧ z ≤ 255) : ((strOfNums xs).toList == (strOfNums ys).toList) = decide (xs = ys) := by
  rw [ByteArray.toList_eq, ByteArray.toList_eq, strOfNums_data, strOfNums_data]
  by_cases h : xs = ys
  · rw [decide_eq_true h, h, beq_iff_eq]
  · rw [decide_eq_false h, beq_eq_false_iff_ne]
    exact fun e => h (str_inj h1 h2 e)

set_option maxRecDepth 100000 in
set_option maxHeartbeats 1000000 in
/-- bytes.Equal, of two texts that lie somewhere. -/
theorem equal_at (b off n cap b' off' n' cap' : Nat) (xs ys : List Int) (hx : xs.length = n) (hy : ys.length = n') (h1 : ∀ z ∈ xs, 0 ≤ z ∧ z ≤ 255) (h2 : ∀ z ∈ ys, 0 ≤ z ∧ z ≤ 255) (w : World)
    (c1 : ∀ j, j < n → w.cell? ⟨b, off + j, none⟩ = some (.int .u8 (xs[j]?.getD 0))) (c2 : ∀ j, j < n' → w.cell? ⟨b', off' + j, none⟩ = some (.int .u8 (ys[j]?.getD 0))) :
    Calls Try.prog 67 #[.slice (some ⟨b, off, none⟩) n cap, .slice (some ⟨b', off', none⟩) n' cap'] w fun e w' => e = .returned (.bool (decide (xs = ys))) ∧ w = w' := by
  have k1 := run_convert_bytes_arg (P := Try.prog) w 26 5 Try.underlying26 Try.underlying5 b off n cap xs hx (fun i hi => by rw [c1 i hi]; simp [List.getD]) 9 Try.underlying9
  have k2 := run_convert_bytes_arg (P := Try.prog) w 26 5 Try.underlying26 Try.underlying5 b' off' n' cap' ys hy (fun i hi => by rw [c2 i hi]; simp [List.getD]) 9 Try.underlying9
  have ke := str_eq h1 h2
  clear c1 c2
  go_enter Try.func67, Try.ntmps67
  go_wp2
  go_ret
  exact ⟨by rw [← ke]; rfl, rfl⟩

theorem take_drop4 {xs : List Int} (h : 4 ≤ xs.length) : (xs.drop (xs.length - 4)).length = 4 := by rw [List.length_drop]; omega

theorem sealed_iff {xs : List Int} (h4 : 4 ≤ xs.length) : isSealed xs = decide (xs.drop (xs.length - 4) = four (sum32 (xs.take (xs.length - 4)))) := by
  show (decide (4 ≤ xs.length) && decide (sealL (xs.take (xs.length - 4)) = xs)) = _
  rw [decide_eq_true h4, Bool.true_and]
  have e : xs = xs.take (xs.length - 4) ++ xs.drop (xs.length - 4) := (List.take_append_drop _ _).symm
  apply decide_eq_decide.2
  unfold sealL
  constructor
  · intro h
    have h' := h.trans e
    exact (List.append_cancel_left h').symm
  · intro h
    rw [← h]
    exact e.symm

set_option maxRecDepth 100000 in
set_option maxHeartbeats 2000000 in
theorem Sealed_any (a : Option Addr) (cap : Nat) (xs : List Int) (hl : xs.length ≤ 4096) (hc : xs.length ≤ cap) (bx : ∀ z ∈ xs, 0 ≤ z ∧ z ≤ 255) (w : World) (ha : Holds .u8 w.heap.size w (.slice a xs.length cap) xs) :
    Calls Try.prog 44 #[.slice a xs.length cap] w fun e W' => e = .returned (.tuple #[.bool (isSealed xs), .int .i64 0]) ∧ Below w.heap.size w W' := by
  by_cases h4 : 4 ≤ xs.length
  · rcases id ha with ⟨_, e⟩ | ⟨b, off, cap', e, hb, hcs⟩
    · rw [e] at h4; exact absurd h4 (by simp)
    cases e
    have HI : Hid _ := sealed_iff h4
    obtain ⟨Y, hY⟩ : ∃ Y, xs.take (xs.length - 4) = Y := ⟨_, rfl⟩
    obtain ⟨Z, hZ⟩ : ∃ Z, xs.drop (xs.length - 4) = Z := ⟨_, rfl⟩
    have hYl : Y.length = xs.length - 4 := by rw [← hY, List.length_take]; omega
    have hZl : Z.length = 4 := by rw [← hZ]; exact take_drop4 h4
    have ei : (xs.length : Int) - 4 = (Y.length : Int) := by omega
    have hYb : Hid (∀ z ∈ Y, 0 ≤ z ∧ z ≤ 255) := fun z hz => bx z (List.mem_of_mem_take (hY ▸ hz))
    have hZb : Hid (∀ z ∈ Z, 0 ≤ z ∧ z ≤ 255) := fun z hz => bx z (List.mem_of_mem_drop (hZ ▸ hz))
    have hYH : Holds .u8 w.heap.size w (.slice (some ⟨b, off, none⟩) Y.length cap) Y := hY ▸ holds_takeB ha (xs.length - 4) (by omega)
    have hZc : ∀ j, j < 4 → w.cell? ⟨b, off + Y.length + j, none⟩ = some (.int .u8 (Z[j]?.getD 0)) := fun j hj => by
      rw [Nat.add_assoc, hcs (Y.length + j) (by omega), ← hZ, hYl, List.getElem?_drop]
    rw [hY, hZ] at HI
    have HYl : Hid (Y.length = xs.length - 4) := hYl
    have HZl : Hid (Z.length = 4) := hZl
    have hY4 : Y.length ≤ 4294967296 := by omega
    have hne : ¬ cap = Y.length := by omega
    have hYx : Y.length ≤ xs.length := by omega
    clear hY hZ hYl hZl hcs bx ha
    go_enter Try.func44, Try.ntmps44
    go_wp2_with fail
    refine (crcLong_no _ xs.length cap hl w).mono ?_
    rintro e w1 ⟨rfl, rfl⟩
    go_wp2_with fail
    have el : (xs.length : Int) - (Y.length : Int) = 4 := by omega
    have hln : xs.length - Y.length = 4 := by omega
    have ec : (cap : Int) - (Y.length : Int) = ((cap - Y.length : Nat) : Int) := by omega
    have hc32 : Calls Try.prog 65 #[.slice (some ⟨b, off, none⟩) Y.length cap] w.drew fun e w' => e = .returned (.slice (some ⟨w.heap.size, 0, none⟩) 4 4) ∧ Holds .u8 w'.heap.size w' (.slice (some ⟨w.heap.size, 0, none⟩) 4 4) (four (sum32 Y)) ∧ Below w.heap.size w w' := by
      refine (seal_any (some ⟨b, off, none⟩) cap Y hY4 hYb.out w.drew w.heap.size (show Holds .u8 w.heap.size w.drew _ Y from hYH)).mono ?_
      rintro e w2 ⟨rfl, h2, b2⟩
      exact ⟨rfl, h2, (Below.refl _ w).drew.trans b2⟩
    have hq : ∀ w2 : World, Below w.heap.size w w2 → Holds .u8 w2.heap.size w2 (.slice (some ⟨w.heap.size, 0, none⟩) 4 4) (four (sum32 Y)) → Calls Try.prog 67 #[.slice (some ⟨b, off + Y.length, none⟩) 4 (cap - Y.length), .slice (some ⟨w.heap.size, 0, none⟩) 4 4] w2 fun e w' => e = .returned (.bool (decide (Z = four (sum32 Y)))) ∧ w2 = w' := by
      intro w2 b2 h2
      refine equal_at b (off + Y.length) 4 (cap - Y.length) w.heap.size 0 4 4 Z (four (sum32 Y)) HZl.out rfl hZb.out (four_bd _) w2 (fun j hj => (b2.cell (p := ⟨b, off + Y.length + j, none⟩) hb).trans (hZc j hj)) (fun j hj => ?_)
      rcases h2 with ⟨_, e⟩ | ⟨b', o', c', e, _, hcs⟩
      · cases e
      · cases e
        exact hcs j hj
    have HQ : Hid _ := hq
    clear hYH hZc hq
    go_region_with (first | (go_at_call 65; refine hc32.mono ?_; rintro e w2 ⟨rfl, h2, b2⟩; have hc33 := HQ.out w2 b2 h2) | (go_at_call 67; refine hc33.mono ?_; rintro e w3 ⟨rfl, rfl⟩))
    all_goals
      go_wp2
      go_ret2
      exact ⟨by rw [HI.out]; rfl, b2⟩
  · have e4 : (xs.length : Int) < 4 := by omega
    have HI : Hid (isSealed xs = false) := by
      show (decide (4 ≤ xs.length) && decide (sealL (xs.take (xs.length - 4)) = xs)) = false
      rw [decide_eq_false h4, Bool.false_and]
    clear ha bx
    go_enter Try.func44, Try.ntmps44
    go_wp2_with fail
    refine (crcLong_no _ xs.length cap hl w).mono ?_
    rintro e w1 ⟨rfl, rfl⟩
    go_wp2
    go_ret2
    exact ⟨by rw [HI.out]; rfl, Below.refl _ _⟩

theorem Sealed_at (a : Option Addr) (n cap : Nat) (xs : List Int) (hn : xs.length = n) (hl : n ≤ 4096) (hc : n ≤ cap) (bx : ∀ z ∈ xs, 0 ≤ z ∧ z ≤ 255) (w : World) (ha : Holds .u8 w.heap.size w (.slice a n cap) xs) :
    Calls Try.prog 44 #[.slice a n cap] w fun e W' => e = .returned (.tuple #[.bool (isSealed xs), .int .i64 0]) ∧ Below w.heap.size w W' := by
  subst hn; exact Sealed_any a cap xs hl hc bx w ha

end Go.Proofs.Ytmjidhnlofpliab
