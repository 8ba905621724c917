/-
  BlockPads: the walk: whatever the size, the block, the place and what is turned, the law answers true, and nothing that lay has turned. (Written by tpl_blockpads.py, a case a theorem.)
-/
import Derived.Test.YtejpnjegahbaoaaBlockReadsWalk
import Derived.Test.YtejpnjegahbaoaaBlockPadNums
import Derived.Test.YtejpnjegahbaoaaCrcBurstWalk
namespace Go.Proofs.Ytejpnjegahbaoaa
open Go.RowKit

set_option maxRecDepth 100000 in
set_option maxHeartbeats 4000000 in
theorem blockPads_1 (Z : Nat) (s m : Int) (a : Option Addr) (cap : Nat) (xs : List Int) (hl : xs.length ≤ 100) (bx : ∀ z ∈ xs, 0 ≤ z ∧ z ≤ 255) (hR : Right Z s m xs) (at_ : Int) (t : Nat) (ht0 : t ≠ 0) (ht : t < 256) (hn : xs.length < Z) (h2 : at_.tmod 2 = 0) (w : World) (ha : Holds .u8 w.heap.size w (.slice a xs.length cap) xs) :
    Calls Try.prog 7 #[.int .i64 (Z : Int), .agg #[.int .i64 s, .int .i64 m, .slice a xs.length cap], .int .i64 at_, .int .u8 (t : Int)] w fun e w' => e = .returned (.bool true) ∧ Below w.heap.size w w' := by
  have HBX : Hid (∀ z ∈ xs, 0 ≤ z ∧ z ≤ 255) := bx
  have HR : Hid (Right Z s m xs) := hR
  have hZx := hR.2.2.2.1
  have hZ1 := hR.1.1
  have hZ2 := hR.1.2
  have dl : decide (100 < (xs.length : Int)) = false := decide_eq_false (by omega)
  have dl' : decide (100 < xs.length) = false := decide_eq_false (by omega)
  have et0 : ((t : Int) == 0) = false := by rw [beq_eq_false_iff_ne]; omega
  have eq4 : ((Z : Int) + 10 != (Z : Int) + 10) = false := by simp
  have sZ : ((Z : Int) + 6).toNat = Z + 6 := by omega
  have d10 : decide (6 + (xs.length : Int) < (Z : Int) + 6) = true := decide_eq_true (by omega)
  have d10' : decide (6 + xs.length < Z + 6) = true := decide_eq_true (by omega)
  have e2 : (at_.tmod 2 == 0) = true := by rw [h2]; rfl
  obtain ⟨p, hp, et⟩ := at_place at_ ((Z : Int) + 6 - (6 + (xs.length : Int))) (by omega)
  have hn0 : ¬ (Z : Int) + 6 - (6 + (xs.length : Int)) = 0 := by omega
  have ex : bits .xor .u8 0 (t : Int) = (t : Int) := by have := zu8_xor 0 t (by decide) ht; rw [Nat.zero_xor] at this; exact this
  have hj : 6 + xs.length + p < Z + 6 := by omega
  clear h2
  have bb : Below w.heap.size w (w.alloc (.cells #[.int .i64 s, .int .i64 m, .slice a xs.length cap] 24)) := (Below.refl w.heap.size w).alloc (Nat.le_refl _) _
  have xa := Box.new w 24 #[.int .i64 s, .int .i64 m, .slice a xs.length cap]
  replace ha := ha.next bb
  clear bx hR
  go_enter Try.func7, Try.ntmps7
  have cxa0 := xa.cell 0 _ rfl
  have cxa1 := xa.cell 1 _ rfl
  have cxa2 := xa.cell 2 _ rfl
  go_wp2_with fail
  refine (Make_ok Z s m a cap xs HR.out HBX.out _ ha).mono ?_
  rintro e w1 ⟨r, rfl, o9, b9⟩
  clear cxa0 cxa1 cxa2
  replace xa := xa.next b9
  replace ha := ha.next b9
  replace bb := bb.trans (b9.mono bb.size)
  clear b9
  obtain ⟨g, c, rfl, _, hg⟩ := own_block o9 (by omega)
  have hx := holds_of_row o9
  have hc := row_cap o9
  clear o9
  have hbd : Holds .u8 w1.heap.size w1 (.slice (some ⟨g, 0, none⟩) (Z + 6) c) (bodyB Z s m xs) := by
    rw [← bytesB_len (s := s) (m := m) hZx] at hx
    have h9 := holds_takeB hx (Z + 6) (by rw [bytesB_len hZx]; omega)
    rw [bytesB_take Z hZx, bodyB_len hZx] at h9
    exact h9
  have hb1 := bb.size
  have HC := twin_any _ (bodyB Z s m xs) _ (by rw [bodyB_len hZx]; omega) w1 hbd
  rw [bodyB_len hZx] at HC
  have hsl : (Z : Int) + 6 ≤ (c : Int) := by omega
  have hsl' : Z + 6 ≤ c := by omega
  go_wp2_with fail
  refine (HC).mono ?_
  rintro e w2 ⟨r, rfl, o9, b9⟩
  replace xa := xa.next b9
  replace ha := ha.next b9
  replace bb := bb.trans (b9.mono bb.size)
  clear b9
  obtain ⟨g2, c2, rfl, hg2, _⟩ := own_block o9 (by omega)
  have hc2 := row_cap o9
  have hR2 : BRow w2 g2 (bodyB Z s m xs) := .of_own o9
  have hR2 : BRow w2 g2 (bodyB Z s m xs) := .of_own o9
  clear o9 HC hx hbd hg
  have hgg : w.heap.size ≤ g2 := by omega
  have cxa0 := xa.cell 0 _ rfl
  have cxa1 := xa.cell 1 _ rfl
  have cxa2 := xa.cell 2 _ rfl
  have cq := hR2.cell (q := (6 + xs.length + p)) (bodyB_pad (by omega) hj)
  have fq := hR2.2.2 (6 + xs.length + p)
  have HY : Hid (BRow (w2.setCell ⟨g2, (6 + xs.length + p), none⟩ (.int .u8 (t : Int))) g2 ((bodyB Z s m xs).set (6 + xs.length + p) (t : Int))) := hR2.set (6 + xs.length + p) (by rw [bodyB_len hZx]; omega) (t : Int)
  have HBB : Hid (Below w.heap.size w (w2.setCell ⟨g2, (6 + xs.length + p), none⟩ (.int .u8 (t : Int)))) := bb.setCell (p := ⟨g2, (6 + xs.length + p), none⟩) hgg _
  have HNO : Hid (¬ readOk Z (sealL ((bodyB Z s m xs).set (6 + xs.length + p) (t : Int)))) := noRead1 (v := (t : Int)) (j := (6 + xs.length + p)) (by rw [List.length_set, bodyB_len hZx]) (set_bd (bodyB_bd HR.out HBX.out) (by omega)) (by rw [List.getElem?_set_ne (by omega), bodyB_get5]; simp) hj (List.getElem?_set_self (by rw [bodyB_len hZx]; omega)) (by omega)
  have HBY : Hid (∀ z ∈ (bodyB Z s m xs).set (6 + xs.length + p) (t : Int), 0 ≤ z ∧ z ≤ 255) := set_bd (bodyB_bd HR.out HBX.out) (by omega)
  have HLY : Hid (((bodyB Z s m xs).set (6 + xs.length + p) (t : Int)).length = Z + 6) := by show _ = _; rw [List.length_set, bodyB_len hZx]
  obtain ⟨Y, hY⟩ : ∃ Y, (bodyB Z s m xs).set (6 + xs.length + p) (t : Int) = Y := ⟨_, rfl⟩
  rw [hY] at HY HNO HBY HLY
  have HC := Seal_any (some ⟨g2, 0, none⟩) c2 Y (by rw [HLY.out]; omega) HBY.out (w2.setCell ⟨g2, (6 + xs.length + p), none⟩ (.int .u8 (t : Int))) (HY.out.holds HY.out.1 c2)
  rw [HLY.out] at HC
  clear hR2 hY HY
  go_wp2_with fail
  refine HC.mono ?_
  rintro e w4 ⟨r, rfl, o4, b4⟩
  have bb4 := HBB.out.trans (b4.mono HBB.out.size)
  obtain ⟨ra, rc, rfl⟩ := row_shape1 o4
  have h4 := holds_of_row o4
  have hc4 := row_cap o4
  clear o4 HC cq fq HBB b4
  clear cxa0 cxa1 cxa2
  have e10 : Z + 6 + 4 = (sealL Y).length := by rw [sealL_lenB, HLY.out]
  have HC := Read_no (Z : Int) ra rc (sealL Y) (by omega) (by omega) (sealL_bdB HBY.out) 3 (.inr (.inr (.inr ⟨(bSize_iff _).2 ⟨by omega, by omega⟩, by omega, isSealed_sealB Y, HNO.out, rfl⟩))) w4 (by rw [← e10]; exact h4)
  rw [← e10] at HC
  clear h4 e10
  go_wp2_with fail
  refine HC.mono ?_
  rintro e w5 ⟨rfl, b5⟩
  have bb5 := bb4.trans (b5.mono bb4.size)
  have bb6 := bb5.alloc bb5.size (.cells #[.int .i64 0, .int .i64 0, .slice none 0 0] 24)
  clear HC b5
  have HK := keepBlock_any 0 0 0 0 (.slice none 0 0) (.slice none 0 0) [] [] (w5.alloc (.cells #[.int .i64 0, .int .i64 0, .slice none 0 0] 24)) _ _ (Nat.le_refl _) (Nat.le_refl _) (by decide) (holds_nilB _ _) (holds_nilB _ _)
  rw [decide_eq_true ⟨rfl, rfl, rfl⟩] at HK
  go_wp2_with fail
  refine HK.mono ?_
  rintro e w7 ⟨rfl, b7⟩
  have bb7 := bb6.trans (b7.mono bb6.size)
  have HWK := blockWakes_any w7
  go_wp2_with (go_at_call 13; refine HWK.mono ?_; rintro e w99 ⟨rfl, b99⟩)
  go_ret
  exact ⟨rfl, bb7.trans (b99.mono bb7.size)⟩

set_option maxRecDepth 100000 in
set_option maxHeartbeats 4000000 in
theorem blockPads_2r (Z : Nat) (s m : Int) (a : Option Addr) (cap : Nat) (xs : List Int) (hl : xs.length ≤ 100) (bx : ∀ z ∈ xs, 0 ≤ z ∧ z ≤ 255) (hR : Right Z s m xs) (at_ : Int) (t : Nat) (ht0 : t ≠ 0) (ht : t < 256) (h3 : at_.tmod 3 = 0) (hn : xs.length < Z) (h2 : at_.tmod 2 ≠ 0) (w : World) (ha : Holds .u8 w.heap.size w (.slice a xs.length cap) xs) :
    Calls Try.prog 7 #[.int .i64 (Z : Int), .agg #[.int .i64 s, .int .i64 m, .slice a xs.length cap], .int .i64 at_, .int .u8 (t : Int)] w fun e w' => e = .returned (.bool true) ∧ Below w.heap.size w w' := by
  have HBX : Hid (∀ z ∈ xs, 0 ≤ z ∧ z ≤ 255) := bx
  have HR : Hid (Right Z s m xs) := hR
  have hZx := hR.2.2.2.1
  have hZ1 := hR.1.1
  have hZ2 := hR.1.2
  have dl : decide (100 < (xs.length : Int)) = false := decide_eq_false (by omega)
  have dl' : decide (100 < xs.length) = false := decide_eq_false (by omega)
  have et0 : ((t : Int) == 0) = false := by rw [beq_eq_false_iff_ne]; omega
  have eq4 : ((Z : Int) + 10 != (Z : Int) + 10) = false := by simp
  have sZ : ((Z : Int) + 6).toNat = Z + 6 := by omega
  have d10 : decide (6 + (xs.length : Int) < (Z : Int) + 6) = true := decide_eq_true (by omega)
  have d10' : decide (6 + xs.length < Z + 6) = true := decide_eq_true (by omega)
  have e2 : (at_.tmod 2 == 0) = false := by simp [h2]
  clear h2
  have e3 : (at_.tmod 3 == 0) = true := by rw [h3]; rfl
  clear h3
  obtain ⟨A, hA, eA⟩ : ∃ A : Nat, A ≤ 127 ∧ bits .and .u8 (t : Int) 127 = (A : Int) := ⟨t &&& 127, Nat.and_le_right, zu8_and t 127 ht (by decide)⟩
  have bb : Below w.heap.size w (w.alloc (.cells #[.int .i64 s, .int .i64 m, .slice a xs.length cap] 24)) := (Below.refl w.heap.size w).alloc (Nat.le_refl _) _
  have xa := Box.new w 24 #[.int .i64 s, .int .i64 m, .slice a xs.length cap]
  replace ha := ha.next bb
  clear bx hR
  go_enter Try.func7, Try.ntmps7
  have cxa0 := xa.cell 0 _ rfl
  have cxa1 := xa.cell 1 _ rfl
  have cxa2 := xa.cell 2 _ rfl
  go_wp2_with fail
  refine (Make_ok Z s m a cap xs HR.out HBX.out _ ha).mono ?_
  rintro e w1 ⟨r, rfl, o9, b9⟩
  clear cxa0 cxa1 cxa2
  replace xa := xa.next b9
  replace ha := ha.next b9
  replace bb := bb.trans (b9.mono bb.size)
  clear b9
  obtain ⟨g, c, rfl, _, hg⟩ := own_block o9 (by omega)
  have hx := holds_of_row o9
  have hc := row_cap o9
  clear o9
  have hbd : Holds .u8 w1.heap.size w1 (.slice (some ⟨g, 0, none⟩) (Z + 6) c) (bodyB Z s m xs) := by
    rw [← bytesB_len (s := s) (m := m) hZx] at hx
    have h9 := holds_takeB hx (Z + 6) (by rw [bytesB_len hZx]; omega)
    rw [bytesB_take Z hZx, bodyB_len hZx] at h9
    exact h9
  have hb1 := bb.size
  have HC := twin_any _ (bodyB Z s m xs) _ (by rw [bodyB_len hZx]; omega) w1 hbd
  rw [bodyB_len hZx] at HC
  have hsl : (Z : Int) + 6 ≤ (c : Int) := by omega
  have hsl' : Z + 6 ≤ c := by omega
  go_wp2_with fail
  refine (HC).mono ?_
  rintro e w2 ⟨r, rfl, o9, b9⟩
  replace xa := xa.next b9
  replace ha := ha.next b9
  replace bb := bb.trans (b9.mono bb.size)
  clear b9
  obtain ⟨g2, c2, rfl, hg2, _⟩ := own_block o9 (by omega)
  have hc2 := row_cap o9
  have hR2 : BRow w2 g2 (bodyB Z s m xs) := .of_own o9
  have hR2 : BRow w2 g2 (bodyB Z s m xs) := .of_own o9
  clear o9 HC hx hbd hg
  have hgg : w.heap.size ≤ g2 := by omega
  have cxa0 := xa.cell 0 _ rfl
  have cxa1 := xa.cell 1 _ rfl
  have cxa2 := xa.cell 2 _ rfl
  obtain ⟨old, hold⟩ : ∃ x, (bodyB Z s m xs)[4]? = some x := ⟨_, List.getElem?_eq_getElem (by rw [bodyB_len hZx]; omega)⟩
  have cq := hR2.cell hold
  clear hold
  have fq := hR2.2.2 4
  have HY : Hid (BRow (w2.setCell ⟨g2, 4, none⟩ (.int .u8 (4 + (A : Int)))) g2 ((bodyB Z s m xs).set 4 (4 + (A : Int)))) := hR2.set 4 (by rw [bodyB_len hZx]; omega) (4 + (A : Int))
  have HBB : Hid (Below w.heap.size w (w2.setCell ⟨g2, 4, none⟩ (.int .u8 (4 + (A : Int))))) := bb.setCell (p := ⟨g2, 4, none⟩) hgg _
  have HNO : Hid (¬ readOk Z (sealL ((bodyB Z s m xs).set 4 (4 + (A : Int))))) := noRead2 (v := (4 + (A : Int))) (by rw [List.length_set, bodyB_len hZx]) (List.getElem?_set_self (by rw [bodyB_len hZx]; omega)) (by omega)
  have HBY : Hid (∀ z ∈ (bodyB Z s m xs).set 4 (4 + (A : Int)), 0 ≤ z ∧ z ≤ 255) := set_bd (bodyB_bd HR.out HBX.out) (by omega)
  have HLY : Hid (((bodyB Z s m xs).set 4 (4 + (A : Int))).length = Z + 6) := by show _ = _; rw [List.length_set, bodyB_len hZx]
  obtain ⟨Y, hY⟩ : ∃ Y, (bodyB Z s m xs).set 4 (4 + (A : Int)) = Y := ⟨_, rfl⟩
  rw [hY] at HY HNO HBY HLY
  have HC := Seal_any (some ⟨g2, 0, none⟩) c2 Y (by rw [HLY.out]; omega) HBY.out (w2.setCell ⟨g2, 4, none⟩ (.int .u8 (4 + (A : Int)))) (HY.out.holds HY.out.1 c2)
  rw [HLY.out] at HC
  clear hR2 hY HY
  go_wp2_with fail
  refine HC.mono ?_
  rintro e w4 ⟨r, rfl, o4, b4⟩
  have bb4 := HBB.out.trans (b4.mono HBB.out.size)
  obtain ⟨ra, rc, rfl⟩ := row_shape1 o4
  have h4 := holds_of_row o4
  have hc4 := row_cap o4
  clear o4 HC cq fq HBB b4
  clear cxa0 cxa1 cxa2
  have e10 : Z + 6 + 4 = (sealL Y).length := by rw [sealL_lenB, HLY.out]
  have HC := Read_no (Z : Int) ra rc (sealL Y) (by omega) (by omega) (sealL_bdB HBY.out) 3 (.inr (.inr (.inr ⟨(bSize_iff _).2 ⟨by omega, by omega⟩, by omega, isSealed_sealB Y, HNO.out, rfl⟩))) w4 (by rw [← e10]; exact h4)
  rw [← e10] at HC
  clear h4 e10
  go_wp2_with fail
  refine HC.mono ?_
  rintro e w5 ⟨rfl, b5⟩
  have bb5 := bb4.trans (b5.mono bb4.size)
  have bb6 := bb5.alloc bb5.size (.cells #[.int .i64 0, .int .i64 0, .slice none 0 0] 24)
  clear HC b5
  have HK := keepBlock_any 0 0 0 0 (.slice none 0 0) (.slice none 0 0) [] [] (w5.alloc (.cells #[.int .i64 0, .int .i64 0, .slice none 0 0] 24)) _ _ (Nat.le_refl _) (Nat.le_refl _) (by decide) (holds_nilB _ _) (holds_nilB _ _)
  rw [decide_eq_true ⟨rfl, rfl, rfl⟩] at HK
  go_wp2_with fail
  refine HK.mono ?_
  rintro e w7 ⟨rfl, b7⟩
  have bb7 := bb6.trans (b7.mono bb6.size)
  have HWK := blockWakes_any w7
  go_wp2_with (go_at_call 13; refine HWK.mono ?_; rintro e w99 ⟨rfl, b99⟩)
  go_ret
  exact ⟨rfl, bb7.trans (b99.mono bb7.size)⟩

set_option maxRecDepth 100000 in
set_option maxHeartbeats 4000000 in
theorem blockPads_2f (Z : Nat) (s m : Int) (a : Option Addr) (cap : Nat) (xs : List Int) (hl : xs.length ≤ 100) (bx : ∀ z ∈ xs, 0 ≤ z ∧ z ≤ 255) (hR : Right Z s m xs) (at_ : Int) (t : Nat) (ht0 : t ≠ 0) (ht : t < 256) (h3 : at_.tmod 3 = 0) (hn : Z ≤ xs.length) (w : World) (ha : Holds .u8 w.heap.size w (.slice a xs.length cap) xs) :
    Calls Try.prog 7 #[.int .i64 (Z : Int), .agg #[.int .i64 s, .int .i64 m, .slice a xs.length cap], .int .i64 at_, .int .u8 (t : Int)] w fun e w' => e = .returned (.bool true) ∧ Below w.heap.size w w' := by
  have HBX : Hid (∀ z ∈ xs, 0 ≤ z ∧ z ≤ 255) := bx
  have HR : Hid (Right Z s m xs) := hR
  have hZx := hR.2.2.2.1
  have hZ1 := hR.1.1
  have hZ2 := hR.1.2
  have dl : decide (100 < (xs.length : Int)) = false := decide_eq_false (by omega)
  have dl' : decide (100 < xs.length) = false := decide_eq_false (by omega)
  have et0 : ((t : Int) == 0) = false := by rw [beq_eq_false_iff_ne]; omega
  have eq4 : ((Z : Int) + 10 != (Z : Int) + 10) = false := by simp
  have sZ : ((Z : Int) + 6).toNat = Z + 6 := by omega
  have d10 : decide (6 + (xs.length : Int) < (Z : Int) + 6) = false := decide_eq_false (by omega)
  have d10' : decide (6 + xs.length < Z + 6) = false := decide_eq_false (by omega)
  have e3 : (at_.tmod 3 == 0) = true := by rw [h3]; rfl
  clear h3
  obtain ⟨A, hA, eA⟩ : ∃ A : Nat, A ≤ 127 ∧ bits .and .u8 (t : Int) 127 = (A : Int) := ⟨t &&& 127, Nat.and_le_right, zu8_and t 127 ht (by decide)⟩
  have bb : Below w.heap.size w (w.alloc (.cells #[.int .i64 s, .int .i64 m, .slice a xs.length cap] 24)) := (Below.refl w.heap.size w).alloc (Nat.le_refl _) _
  have xa := Box.new w 24 #[.int .i64 s, .int .i64 m, .slice a xs.length cap]
  replace ha := ha.next bb
  clear bx hR
  go_enter Try.func7, Try.ntmps7
  have cxa0 := xa.cell 0 _ rfl
  have cxa1 := xa.cell 1 _ rfl
  have cxa2 := xa.cell 2 _ rfl
  go_wp2_with fail
  refine (Make_ok Z s m a cap xs HR.out HBX.out _ ha).mono ?_
  rintro e w1 ⟨r, rfl, o9, b9⟩
  clear cxa0 cxa1 cxa2
  replace xa := xa.next b9
  replace ha := ha.next b9
  replace bb := bb.trans (b9.mono bb.size)
  clear b9
  obtain ⟨g, c, rfl, _, hg⟩ := own_block o9 (by omega)
  have hx := holds_of_row o9
  have hc := row_cap o9
  clear o9
  have hbd : Holds .u8 w1.heap.size w1 (.slice (some ⟨g, 0, none⟩) (Z + 6) c) (bodyB Z s m xs) := by
    rw [← bytesB_len (s := s) (m := m) hZx] at hx
    have h9 := holds_takeB hx (Z + 6) (by rw [bytesB_len hZx]; omega)
    rw [bytesB_take Z hZx, bodyB_len hZx] at h9
    exact h9
  have hb1 := bb.size
  have HC := twin_any _ (bodyB Z s m xs) _ (by rw [bodyB_len hZx]; omega) w1 hbd
  rw [bodyB_len hZx] at HC
  have hsl : (Z : Int) + 6 ≤ (c : Int) := by omega
  have hsl' : Z + 6 ≤ c := by omega
  go_wp2_with fail
  refine (HC).mono ?_
  rintro e w2 ⟨r, rfl, o9, b9⟩
  replace xa := xa.next b9
  replace ha := ha.next b9
  replace bb := bb.trans (b9.mono bb.size)
  clear b9
  obtain ⟨g2, c2, rfl, hg2, _⟩ := own_block o9 (by omega)
  have hc2 := row_cap o9
  have hR2 : BRow w2 g2 (bodyB Z s m xs) := .of_own o9
  have hR2 : BRow w2 g2 (bodyB Z s m xs) := .of_own o9
  clear o9 HC hx hbd hg
  have hgg : w.heap.size ≤ g2 := by omega
  have cxa0 := xa.cell 0 _ rfl
  have cxa1 := xa.cell 1 _ rfl
  have cxa2 := xa.cell 2 _ rfl
  obtain ⟨old, hold⟩ : ∃ x, (bodyB Z s m xs)[4]? = some x := ⟨_, List.getElem?_eq_getElem (by rw [bodyB_len hZx]; omega)⟩
  have cq := hR2.cell hold
  clear hold
  have fq := hR2.2.2 4
  have HY : Hid (BRow (w2.setCell ⟨g2, 4, none⟩ (.int .u8 (4 + (A : Int)))) g2 ((bodyB Z s m xs).set 4 (4 + (A : Int)))) := hR2.set 4 (by rw [bodyB_len hZx]; omega) (4 + (A : Int))
  have HBB : Hid (Below w.heap.size w (w2.setCell ⟨g2, 4, none⟩ (.int .u8 (4 + (A : Int))))) := bb.setCell (p := ⟨g2, 4, none⟩) hgg _
  have HNO : Hid (¬ readOk Z (sealL ((bodyB Z s m xs).set 4 (4 + (A : Int))))) := noRead2 (v := (4 + (A : Int))) (by rw [List.length_set, bodyB_len hZx]) (List.getElem?_set_self (by rw [bodyB_len hZx]; omega)) (by omega)
  have HBY : Hid (∀ z ∈ (bodyB Z s m xs).set 4 (4 + (A : Int)), 0 ≤ z ∧ z ≤ 255) := set_bd (bodyB_bd HR.out HBX.out) (by omega)
  have HLY : Hid (((bodyB Z s m xs).set 4 (4 + (A : Int))).length = Z + 6) := by show _ = _; rw [List.length_set, bodyB_len hZx]
  obtain ⟨Y, hY⟩ : ∃ Y, (bodyB Z s m xs).set 4 (4 + (A : Int)) = Y := ⟨_, rfl⟩
  rw [hY] at HY HNO HBY HLY
  have HC := Seal_any (some ⟨g2, 0, none⟩) c2 Y (by rw [HLY.out]; omega) HBY.out (w2.setCell ⟨g2, 4, none⟩ (.int .u8 (4 + (A : Int)))) (HY.out.holds HY.out.1 c2)
  rw [HLY.out] at HC
  clear hR2 hY HY
  go_wp2_with fail
  refine HC.mono ?_
  rintro e w4 ⟨r, rfl, o4, b4⟩
  have bb4 := HBB.out.trans (b4.mono HBB.out.size)
  obtain ⟨ra, rc, rfl⟩ := row_shape1 o4
  have h4 := holds_of_row o4
  have hc4 := row_cap o4
  clear o4 HC cq fq HBB b4
  clear cxa0 cxa1 cxa2
  have e10 : Z + 6 + 4 = (sealL Y).length := by rw [sealL_lenB, HLY.out]
  have HC := Read_no (Z : Int) ra rc (sealL Y) (by omega) (by omega) (sealL_bdB HBY.out) 3 (.inr (.inr (.inr ⟨(bSize_iff _).2 ⟨by omega, by omega⟩, by omega, isSealed_sealB Y, HNO.out, rfl⟩))) w4 (by rw [← e10]; exact h4)
  rw [← e10] at HC
  clear h4 e10
  go_wp2_with fail
  refine HC.mono ?_
  rintro e w5 ⟨rfl, b5⟩
  have bb5 := bb4.trans (b5.mono bb4.size)
  have bb6 := bb5.alloc bb5.size (.cells #[.int .i64 0, .int .i64 0, .slice none 0 0] 24)
  clear HC b5
  have HK := keepBlock_any 0 0 0 0 (.slice none 0 0) (.slice none 0 0) [] [] (w5.alloc (.cells #[.int .i64 0, .int .i64 0, .slice none 0 0] 24)) _ _ (Nat.le_refl _) (Nat.le_refl _) (by decide) (holds_nilB _ _) (holds_nilB _ _)
  rw [decide_eq_true ⟨rfl, rfl, rfl⟩] at HK
  go_wp2_with fail
  refine HK.mono ?_
  rintro e w7 ⟨rfl, b7⟩
  have bb7 := bb6.trans (b7.mono bb6.size)
  have HWK := blockWakes_any w7
  go_wp2_with (go_at_call 13; refine HWK.mono ?_; rintro e w99 ⟨rfl, b99⟩)
  go_ret
  exact ⟨rfl, bb7.trans (b99.mono bb7.size)⟩

set_option maxRecDepth 100000 in
set_option maxHeartbeats 4000000 in
theorem blockPads_3r (Z : Nat) (s m : Int) (a : Option Addr) (cap : Nat) (xs : List Int) (hl : xs.length ≤ 100) (bx : ∀ z ∈ xs, 0 ≤ z ∧ z ≤ 255) (hR : Right Z s m xs) (at_ : Int) (t : Nat) (ht0 : t ≠ 0) (ht : t < 256) (h3 : at_.tmod 3 = 1) (hn : xs.length < Z) (h2 : at_.tmod 2 ≠ 0) (w : World) (ha : Holds .u8 w.heap.size w (.slice a xs.length cap) xs) :
    Calls Try.prog 7 #[.int .i64 (Z : Int), .agg #[.int .i64 s, .int .i64 m, .slice a xs.length cap], .int .i64 at_, .int .u8 (t : Int)] w fun e w' => e = .returned (.bool true) ∧ Below w.heap.size w w' := by
  have HBX : Hid (∀ z ∈ xs, 0 ≤ z ∧ z ≤ 255) := bx
  have HR : Hid (Right Z s m xs) := hR
  have hZx := hR.2.2.2.1
  have hZ1 := hR.1.1
  have hZ2 := hR.1.2
  have dl : decide (100 < (xs.length : Int)) = false := decide_eq_false (by omega)
  have dl' : decide (100 < xs.length) = false := decide_eq_false (by omega)
  have et0 : ((t : Int) == 0) = false := by rw [beq_eq_false_iff_ne]; omega
  have eq4 : ((Z : Int) + 10 != (Z : Int) + 10) = false := by simp
  have sZ : ((Z : Int) + 6).toNat = Z + 6 := by omega
  have d10 : decide (6 + (xs.length : Int) < (Z : Int) + 6) = true := decide_eq_true (by omega)
  have d10' : decide (6 + xs.length < Z + 6) = true := decide_eq_true (by omega)
  have e2 : (at_.tmod 2 == 0) = false := by simp [h2]
  clear h2
  have e3 : (at_.tmod 3 == 0) = false := by rw [h3]; rfl
  have e3b : (at_.tmod 3 == 1) = true := by rw [h3]; rfl
  clear h3
  obtain ⟨A, hA, eA⟩ : ∃ A : Nat, A ≤ 63 ∧ bits .and .u8 (t : Int) 63 = (A : Int) := ⟨t &&& 63, Nat.and_le_right, zu8_and t 63 ht (by decide)⟩
  have bb : Below w.heap.size w (w.alloc (.cells #[.int .i64 s, .int .i64 m, .slice a xs.length cap] 24)) := (Below.refl w.heap.size w).alloc (Nat.le_refl _) _
  have xa := Box.new w 24 #[.int .i64 s, .int .i64 m, .slice a xs.length cap]
  replace ha := ha.next bb
  clear bx hR
  go_enter Try.func7, Try.ntmps7
  have cxa0 := xa.cell 0 _ rfl
  have cxa1 := xa.cell 1 _ rfl
  have cxa2 := xa.cell 2 _ rfl
  go_wp2_with fail
  refine (Make_ok Z s m a cap xs HR.out HBX.out _ ha).mono ?_
  rintro e w1 ⟨r, rfl, o9, b9⟩
  clear cxa0 cxa1 cxa2
  replace xa := xa.next b9
  replace ha := ha.next b9
  replace bb := bb.trans (b9.mono bb.size)
  clear b9
  obtain ⟨g, c, rfl, _, hg⟩ := own_block o9 (by omega)
  have hx := holds_of_row o9
  have hc := row_cap o9
  clear o9
  have hbd : Holds .u8 w1.heap.size w1 (.slice (some ⟨g, 0, none⟩) (Z + 6) c) (bodyB Z s m xs) := by
    rw [← bytesB_len (s := s) (m := m) hZx] at hx
    have h9 := holds_takeB hx (Z + 6) (by rw [bytesB_len hZx]; omega)
    rw [bytesB_take Z hZx, bodyB_len hZx] at h9
    exact h9
  have hb1 := bb.size
  have HC := twin_any _ (bodyB Z s m xs) _ (by rw [bodyB_len hZx]; omega) w1 hbd
  rw [bodyB_len hZx] at HC
  have hsl : (Z : Int) + 6 ≤ (c : Int) := by omega
  have hsl' : Z + 6 ≤ c := by omega
  go_wp2_with fail
  refine (HC).mono ?_
  rintro e w2 ⟨r, rfl, o9, b9⟩
  replace xa := xa.next b9
  replace ha := ha.next b9
  replace bb := bb.trans (b9.mono bb.size)
  clear b9
  obtain ⟨g2, c2, rfl, hg2, _⟩ := own_block o9 (by omega)
  have hc2 := row_cap o9
  have hR2 : BRow w2 g2 (bodyB Z s m xs) := .of_own o9
  have hR2 : BRow w2 g2 (bodyB Z s m xs) := .of_own o9
  clear o9 HC hx hbd hg
  have hgg : w.heap.size ≤ g2 := by omega
  have cxa0 := xa.cell 0 _ rfl
  have cxa1 := xa.cell 1 _ rfl
  have cxa2 := xa.cell 2 _ rfl
  obtain ⟨old, hold⟩ : ∃ x, (bodyB Z s m xs)[5]? = some x := ⟨_, List.getElem?_eq_getElem (by rw [bodyB_len hZx]; omega)⟩
  have cq := hR2.cell hold
  clear hold
  have fq := hR2.2.2 5
  have HY : Hid (BRow (w2.setCell ⟨g2, 5, none⟩ (.int .u8 ((Z : Int) + 1 + (A : Int)))) g2 ((bodyB Z s m xs).set 5 ((Z : Int) + 1 + (A : Int)))) := hR2.set 5 (by rw [bodyB_len hZx]; omega) ((Z : Int) + 1 + (A : Int))
  have HBB : Hid (Below w.heap.size w (w2.setCell ⟨g2, 5, none⟩ (.int .u8 ((Z : Int) + 1 + (A : Int))))) := bb.setCell (p := ⟨g2, 5, none⟩) hgg _
  have HNO : Hid (¬ readOk Z (sealL ((bodyB Z s m xs).set 5 ((Z : Int) + 1 + (A : Int))))) := noRead3 (v := ((Z : Int) + 1 + (A : Int))) (by rw [List.length_set, bodyB_len hZx]) (List.getElem?_set_self (by rw [bodyB_len hZx]; omega)) (by omega)
  have HBY : Hid (∀ z ∈ (bodyB Z s m xs).set 5 ((Z : Int) + 1 + (A : Int)), 0 ≤ z ∧ z ≤ 255) := set_bd (bodyB_bd HR.out HBX.out) (by omega)
  have HLY : Hid (((bodyB Z s m xs).set 5 ((Z : Int) + 1 + (A : Int))).length = Z + 6) := by show _ = _; rw [List.length_set, bodyB_len hZx]
  obtain ⟨Y, hY⟩ : ∃ Y, (bodyB Z s m xs).set 5 ((Z : Int) + 1 + (A : Int)) = Y := ⟨_, rfl⟩
  rw [hY] at HY HNO HBY HLY
  have HC := Seal_any (some ⟨g2, 0, none⟩) c2 Y (by rw [HLY.out]; omega) HBY.out (w2.setCell ⟨g2, 5, none⟩ (.int .u8 ((Z : Int) + 1 + (A : Int)))) (HY.out.holds HY.out.1 c2)
  rw [HLY.out] at HC
  clear hR2 hY HY
  go_wp2_with fail
  refine HC.mono ?_
  rintro e w4 ⟨r, rfl, o4, b4⟩
  have bb4 := HBB.out.trans (b4.mono HBB.out.size)
  obtain ⟨ra, rc, rfl⟩ := row_shape1 o4
  have h4 := holds_of_row o4
  have hc4 := row_cap o4
  clear o4 HC cq fq HBB b4
  clear cxa0 cxa1 cxa2
  have e10 : Z + 6 + 4 = (sealL Y).length := by rw [sealL_lenB, HLY.out]
  have HC := Read_no (Z : Int) ra rc (sealL Y) (by omega) (by omega) (sealL_bdB HBY.out) 3 (.inr (.inr (.inr ⟨(bSize_iff _).2 ⟨by omega, by omega⟩, by omega, isSealed_sealB Y, HNO.out, rfl⟩))) w4 (by rw [← e10]; exact h4)
  rw [← e10] at HC
  clear h4 e10
  go_wp2_with fail
  refine HC.mono ?_
  rintro e w5 ⟨rfl, b5⟩
  have bb5 := bb4.trans (b5.mono bb4.size)
  have bb6 := bb5.alloc bb5.size (.cells #[.int .i64 0, .int .i64 0, .slice none 0 0] 24)
  clear HC b5
  have HK := keepBlock_any 0 0 0 0 (.slice none 0 0) (.slice none 0 0) [] [] (w5.alloc (.cells #[.int .i64 0, .int .i64 0, .slice none 0 0] 24)) _ _ (Nat.le_refl _) (Nat.le_refl _) (by decide) (holds_nilB _ _) (holds_nilB _ _)
  rw [decide_eq_true ⟨rfl, rfl, rfl⟩] at HK
  go_wp2_with fail
  refine HK.mono ?_
  rintro e w7 ⟨rfl, b7⟩
  have bb7 := bb6.trans (b7.mono bb6.size)
  have HWK := blockWakes_any w7
  go_wp2_with (go_at_call 13; refine HWK.mono ?_; rintro e w99 ⟨rfl, b99⟩)
  go_ret
  exact ⟨rfl, bb7.trans (b99.mono bb7.size)⟩

set_option maxRecDepth 100000 in
set_option maxHeartbeats 4000000 in
theorem blockPads_3f (Z : Nat) (s m : Int) (a : Option Addr) (cap : Nat) (xs : List Int) (hl : xs.length ≤ 100) (bx : ∀ z ∈ xs, 0 ≤ z ∧ z ≤ 255) (hR : Right Z s m xs) (at_ : Int) (t : Nat) (ht0 : t ≠ 0) (ht : t < 256) (h3 : at_.tmod 3 = 1) (hn : Z ≤ xs.length) (w : World) (ha : Holds .u8 w.heap.size w (.slice a xs.length cap) xs) :
    Calls Try.prog 7 #[.int .i64 (Z : Int), .agg #[.int .i64 s, .int .i64 m, .slice a xs.length cap], .int .i64 at_, .int .u8 (t : Int)] w fun e w' => e = .returned (.bool true) ∧ Below w.heap.size w w' := by
  have HBX : Hid (∀ z ∈ xs, 0 ≤ z ∧ z ≤ 255) := bx
  have HR : Hid (Right Z s m xs) := hR
  have hZx := hR.2.2.2.1
  have hZ1 := hR.1.1
  have hZ2 := hR.1.2
  have dl : decide (100 < (xs.length : Int)) = false := decide_eq_false (by omega)
  have dl' : decide (100 < xs.length) = false := decide_eq_false (by omega)
  have et0 : ((t : Int) == 0) = false := by rw [beq_eq_false_iff_ne]; omega
  have eq4 : ((Z : Int) + 10 != (Z : Int) + 10) = false := by simp
  have sZ : ((Z : Int) + 6).toNat = Z + 6 := by omega
  have d10 : decide (6 + (xs.length : Int) < (Z : Int) + 6) = false := decide_eq_false (by omega)
  have d10' : decide (6 + xs.length < Z + 6) = false := decide_eq_false (by omega)
  have e3 : (at_.tmod 3 == 0) = false := by rw [h3]; rfl
  have e3b : (at_.tmod 3 == 1) = true := by rw [h3]; rfl
  clear h3
  obtain ⟨A, hA, eA⟩ : ∃ A : Nat, A ≤ 63 ∧ bits .and .u8 (t : Int) 63 = (A : Int) := ⟨t &&& 63, Nat.and_le_right, zu8_and t 63 ht (by decide)⟩
  have bb : Below w.heap.size w (w.alloc (.cells #[.int .i64 s, .int .i64 m, .slice a xs.length cap] 24)) := (Below.refl w.heap.size w).alloc (Nat.le_refl _) _
  have xa := Box.new w 24 #[.int .i64 s, .int .i64 m, .slice a xs.length cap]
  replace ha := ha.next bb
  clear bx hR
  go_enter Try.func7, Try.ntmps7
  have cxa0 := xa.cell 0 _ rfl
  have cxa1 := xa.cell 1 _ rfl
  have cxa2 := xa.cell 2 _ rfl
  go_wp2_with fail
  refine (Make_ok Z s m a cap xs HR.out HBX.out _ ha).mono ?_
  rintro e w1 ⟨r, rfl, o9, b9⟩
  clear cxa0 cxa1 cxa2
  replace xa := xa.next b9
  replace ha := ha.next b9
  replace bb := bb.trans (b9.mono bb.size)
  clear b9
  obtain ⟨g, c, rfl, _, hg⟩ := own_block o9 (by omega)
  have hx := holds_of_row o9
  have hc := row_cap o9
  clear o9
  have hbd : Holds .u8 w1.heap.size w1 (.slice (some ⟨g, 0, none⟩) (Z + 6) c) (bodyB Z s m xs) := by
    rw [← bytesB_len (s := s) (m := m) hZx] at hx
    have h9 := holds_takeB hx (Z + 6) (by rw [bytesB_len hZx]; omega)
    rw [bytesB_take Z hZx, bodyB_len hZx] at h9
    exact h9
  have hb1 := bb.size
  have HC := twin_any _ (bodyB Z s m xs) _ (by rw [bodyB_len hZx]; omega) w1 hbd
  rw [bodyB_len hZx] at HC
  have hsl : (Z : Int) + 6 ≤ (c : Int) := by omega
  have hsl' : Z + 6 ≤ c := by omega
  go_wp2_with fail
  refine (HC).mono ?_
  rintro e w2 ⟨r, rfl, o9, b9⟩
  replace xa := xa.next b9
  replace ha := ha.next b9
  replace bb := bb.trans (b9.mono bb.size)
  clear b9
  obtain ⟨g2, c2, rfl, hg2, _⟩ := own_block o9 (by omega)
  have hc2 := row_cap o9
  have hR2 : BRow w2 g2 (bodyB Z s m xs) := .of_own o9
  have hR2 : BRow w2 g2 (bodyB Z s m xs) := .of_own o9
  clear o9 HC hx hbd hg
  have hgg : w.heap.size ≤ g2 := by omega
  have cxa0 := xa.cell 0 _ rfl
  have cxa1 := xa.cell 1 _ rfl
  have cxa2 := xa.cell 2 _ rfl
  obtain ⟨old, hold⟩ : ∃ x, (bodyB Z s m xs)[5]? = some x := ⟨_, List.getElem?_eq_getElem (by rw [bodyB_len hZx]; omega)⟩
  have cq := hR2.cell hold
  clear hold
  have fq := hR2.2.2 5
  have HY : Hid (BRow (w2.setCell ⟨g2, 5, none⟩ (.int .u8 ((Z : Int) + 1 + (A : Int)))) g2 ((bodyB Z s m xs).set 5 ((Z : Int) + 1 + (A : Int)))) := hR2.set 5 (by rw [bodyB_len hZx]; omega) ((Z : Int) + 1 + (A : Int))
  have HBB : Hid (Below w.heap.size w (w2.setCell ⟨g2, 5, none⟩ (.int .u8 ((Z : Int) + 1 + (A : Int))))) := bb.setCell (p := ⟨g2, 5, none⟩) hgg _
  have HNO : Hid (¬ readOk Z (sealL ((bodyB Z s m xs).set 5 ((Z : Int) + 1 + (A : Int))))) := noRead3 (v := ((Z : Int) + 1 + (A : Int))) (by rw [List.length_set, bodyB_len hZx]) (List.getElem?_set_self (by rw [bodyB_len hZx]; omega)) (by omega)
  have HBY : Hid (∀ z ∈ (bodyB Z s m xs).set 5 ((Z : Int) + 1 + (A : Int)), 0 ≤ z ∧ z ≤ 255) := set_bd (bodyB_bd HR.out HBX.out) (by omega)
  have HLY : Hid (((bodyB Z s m xs).set 5 ((Z : Int) + 1 + (A : Int))).length = Z + 6) := by show _ = _; rw [List.length_set, bodyB_len hZx]
  obtain ⟨Y, hY⟩ : ∃ Y, (bodyB Z s m xs).set 5 ((Z : Int) + 1 + (A : Int)) = Y := ⟨_, rfl⟩
  rw [hY] at HY HNO HBY HLY
  have HC := Seal_any (some ⟨g2, 0, none⟩) c2 Y (by rw [HLY.out]; omega) HBY.out (w2.setCell ⟨g2, 5, none⟩ (.int .u8 ((Z : Int) + 1 + (A : Int)))) (HY.out.holds HY.out.1 c2)
  rw [HLY.out] at HC
  clear hR2 hY HY
  go_wp2_with fail
  refine HC.mono ?_
  rintro e w4 ⟨r, rfl, o4, b4⟩
  have bb4 := HBB.out.trans (b4.mono HBB.out.size)
  obtain ⟨ra, rc, rfl⟩ := row_shape1 o4
  have h4 := holds_of_row o4
  have hc4 := row_cap o4
  clear o4 HC cq fq HBB b4
  clear cxa0 cxa1 cxa2
  have e10 : Z + 6 + 4 = (sealL Y).length := by rw [sealL_lenB, HLY.out]
  have HC := Read_no (Z : Int) ra rc (sealL Y) (by omega) (by omega) (sealL_bdB HBY.out) 3 (.inr (.inr (.inr ⟨(bSize_iff _).2 ⟨by omega, by omega⟩, by omega, isSealed_sealB Y, HNO.out, rfl⟩))) w4 (by rw [← e10]; exact h4)
  rw [← e10] at HC
  clear h4 e10
  go_wp2_with fail
  refine HC.mono ?_
  rintro e w5 ⟨rfl, b5⟩
  have bb5 := bb4.trans (b5.mono bb4.size)
  have bb6 := bb5.alloc bb5.size (.cells #[.int .i64 0, .int .i64 0, .slice none 0 0] 24)
  clear HC b5
  have HK := keepBlock_any 0 0 0 0 (.slice none 0 0) (.slice none 0 0) [] [] (w5.alloc (.cells #[.int .i64 0, .int .i64 0, .slice none 0 0] 24)) _ _ (Nat.le_refl _) (Nat.le_refl _) (by decide) (holds_nilB _ _) (holds_nilB _ _)
  rw [decide_eq_true ⟨rfl, rfl, rfl⟩] at HK
  go_wp2_with fail
  refine HK.mono ?_
  rintro e w7 ⟨rfl, b7⟩
  have bb7 := bb6.trans (b7.mono bb6.size)
  have HWK := blockWakes_any w7
  go_wp2_with (go_at_call 13; refine HWK.mono ?_; rintro e w99 ⟨rfl, b99⟩)
  go_ret
  exact ⟨rfl, bb7.trans (b99.mono bb7.size)⟩

set_option maxRecDepth 100000 in
set_option maxHeartbeats 4000000 in
theorem blockPads_4r (Z : Nat) (s m : Int) (a : Option Addr) (cap : Nat) (xs : List Int) (hl : xs.length ≤ 100) (bx : ∀ z ∈ xs, 0 ≤ z ∧ z ≤ 255) (hR : Right Z s m xs) (at_ : Int) (t : Nat) (ht0 : t ≠ 0) (ht : t < 256) (h3 : at_.tmod 3 ≠ 0) (h1 : at_.tmod 3 ≠ 1) (hn : xs.length < Z) (h2 : at_.tmod 2 ≠ 0) (w : World) (ha : Holds .u8 w.heap.size w (.slice a xs.length cap) xs) :
    Calls Try.prog 7 #[.int .i64 (Z : Int), .agg #[.int .i64 s, .int .i64 m, .slice a xs.length cap], .int .i64 at_, .int .u8 (t : Int)] w fun e w' => e = .returned (.bool true) ∧ Below w.heap.size w w' := by
  have HBX : Hid (∀ z ∈ xs, 0 ≤ z ∧ z ≤ 255) := bx
  have HR : Hid (Right Z s m xs) := hR
  have hZx := hR.2.2.2.1
  have hZ1 := hR.1.1
  have hZ2 := hR.1.2
  have dl : decide (100 < (xs.length : Int)) = false := decide_eq_false (by omega)
  have dl' : decide (100 < xs.length) = false := decide_eq_false (by omega)
  have et0 : ((t : Int) == 0) = false := by rw [beq_eq_false_iff_ne]; omega
  have eq4 : ((Z : Int) + 10 != (Z : Int) + 10) = false := by simp
  have sZ : ((Z : Int) + 6).toNat = Z + 6 := by omega
  have d10 : decide (6 + (xs.length : Int) < (Z : Int) + 6) = true := decide_eq_true (by omega)
  have d10' : decide (6 + xs.length < Z + 6) = true := decide_eq_true (by omega)
  have e2 : (at_.tmod 2 == 0) = false := by simp [h2]
  clear h2
  have e3 : (at_.tmod 3 == 0) = false := by simp [h3]
  have e3b : (at_.tmod 3 == 1) = false := by simp [h1]
  clear h1
  clear h3
  obtain ⟨A, hA, eA⟩ : ∃ A : Nat, A ≤ 64 ∧ bits .and .u8 (t : Int) 64 = (A : Int) := ⟨t &&& 64, Nat.and_le_right, zu8_and t 64 ht (by decide)⟩
  have hs30 : s / 2 ^ 24 % 256 < 256 := Int.emod_lt_of_pos _ (by decide)
  have hs31 : 0 ≤ s / 2 ^ 24 % 256 := Int.emod_nonneg _ (by decide)
  obtain ⟨X0, hX0⟩ : ∃ X : Nat, s / 2 ^ 24 % 256 = (X : Int) := ⟨(s / 2 ^ 24 % 256).toNat, by omega⟩
  have hXl : X0 < 256 := by omega
  obtain ⟨O, hO1, hO2, eO⟩ : ∃ O : Nat, 64 ≤ O ∧ O < 256 ∧ bits .or .u8 (X0 : Int) (64 + (A : Int)) = (O : Int) := ⟨X0 ||| (64 + A), Nat.le_trans (by omega) Nat.right_le_or, Nat.or_lt_two_pow (n := 8) hXl (by omega), by have := zu8_or X0 (64 + A) hXl (by omega); push_cast at this; exact this⟩
  have H0 : Hid ((bodyB Z s m xs)[0]? = some (X0 : Int)) := by show _ = _; rw [bodyB_eq, beBytes_four, hX0]; rfl
  clear hs30 hs31 hX0
  have bb : Below w.heap.size w (w.alloc (.cells #[.int .i64 s, .int .i64 m, .slice a xs.length cap] 24)) := (Below.refl w.heap.size w).alloc (Nat.le_refl _) _
  have xa := Box.new w 24 #[.int .i64 s, .int .i64 m, .slice a xs.length cap]
  replace ha := ha.next bb
  clear bx hR
  go_enter Try.func7, Try.ntmps7
  have cxa0 := xa.cell 0 _ rfl
  have cxa1 := xa.cell 1 _ rfl
  have cxa2 := xa.cell 2 _ rfl
  go_wp2_with fail
  refine (Make_ok Z s m a cap xs HR.out HBX.out _ ha).mono ?_
  rintro e w1 ⟨r, rfl, o9, b9⟩
  clear cxa0 cxa1 cxa2
  replace xa := xa.next b9
  replace ha := ha.next b9
  replace bb := bb.trans (b9.mono bb.size)
  clear b9
  obtain ⟨g, c, rfl, _, hg⟩ := own_block o9 (by omega)
  have hx := holds_of_row o9
  have hc := row_cap o9
  clear o9
  have hbd : Holds .u8 w1.heap.size w1 (.slice (some ⟨g, 0, none⟩) (Z + 6) c) (bodyB Z s m xs) := by
    rw [← bytesB_len (s := s) (m := m) hZx] at hx
    have h9 := holds_takeB hx (Z + 6) (by rw [bytesB_len hZx]; omega)
    rw [bytesB_take Z hZx, bodyB_len hZx] at h9
    exact h9
  have hb1 := bb.size
  have HC := twin_any _ (bodyB Z s m xs) _ (by rw [bodyB_len hZx]; omega) w1 hbd
  rw [bodyB_len hZx] at HC
  have hsl : (Z : Int) + 6 ≤ (c : Int) := by omega
  have hsl' : Z + 6 ≤ c := by omega
  go_wp2_with fail
  refine (HC).mono ?_
  rintro e w2 ⟨r, rfl, o9, b9⟩
  replace xa := xa.next b9
  replace ha := ha.next b9
  replace bb := bb.trans (b9.mono bb.size)
  clear b9
  obtain ⟨g2, c2, rfl, hg2, _⟩ := own_block o9 (by omega)
  have hc2 := row_cap o9
  have hR2 : BRow w2 g2 (bodyB Z s m xs) := .of_own o9
  have hR2 : BRow w2 g2 (bodyB Z s m xs) := .of_own o9
  clear o9 HC hx hbd hg
  have hgg : w.heap.size ≤ g2 := by omega
  have cxa0 := xa.cell 0 _ rfl
  have cxa1 := xa.cell 1 _ rfl
  have cxa2 := xa.cell 2 _ rfl
  have cq := hR2.cell (q := 0) (H0.out)
  have fq := hR2.2.2 0
  have HY : Hid (BRow (w2.setCell ⟨g2, 0, none⟩ (.int .u8 (O : Int))) g2 ((bodyB Z s m xs).set 0 (O : Int))) := hR2.set 0 (by rw [bodyB_len hZx]; omega) (O : Int)
  have HBB : Hid (Below w.heap.size w (w2.setCell ⟨g2, 0, none⟩ (.int .u8 (O : Int)))) := bb.setCell (p := ⟨g2, 0, none⟩) hgg _
  have HNO : Hid (¬ readOk Z (sealL ((bodyB Z s m xs).set 0 (O : Int)))) := noRead4 (v := (O : Int)) (by rw [List.length_set, bodyB_len hZx]) (set_bd (bodyB_bd HR.out HBX.out) (by omega)) (List.getElem?_set_self (by rw [bodyB_len hZx]; omega)) (by omega)
  have HBY : Hid (∀ z ∈ (bodyB Z s m xs).set 0 (O : Int), 0 ≤ z ∧ z ≤ 255) := set_bd (bodyB_bd HR.out HBX.out) (by omega)
  have HLY : Hid (((bodyB Z s m xs).set 0 (O : Int)).length = Z + 6) := by show _ = _; rw [List.length_set, bodyB_len hZx]
  obtain ⟨Y, hY⟩ : ∃ Y, (bodyB Z s m xs).set 0 (O : Int) = Y := ⟨_, rfl⟩
  rw [hY] at HY HNO HBY HLY
  have HC := Seal_any (some ⟨g2, 0, none⟩) c2 Y (by rw [HLY.out]; omega) HBY.out (w2.setCell ⟨g2, 0, none⟩ (.int .u8 (O : Int))) (HY.out.holds HY.out.1 c2)
  rw [HLY.out] at HC
  clear hR2 hY HY H0
  go_wp2_with fail
  refine HC.mono ?_
  rintro e w4 ⟨r, rfl, o4, b4⟩
  have bb4 := HBB.out.trans (b4.mono HBB.out.size)
  obtain ⟨ra, rc, rfl⟩ := row_shape1 o4
  have h4 := holds_of_row o4
  have hc4 := row_cap o4
  clear o4 HC cq fq HBB b4
  clear cxa0 cxa1 cxa2
  have e10 : Z + 6 + 4 = (sealL Y).length := by rw [sealL_lenB, HLY.out]
  have HC := Read_no (Z : Int) ra rc (sealL Y) (by omega) (by omega) (sealL_bdB HBY.out) 3 (.inr (.inr (.inr ⟨(bSize_iff _).2 ⟨by omega, by omega⟩, by omega, isSealed_sealB Y, HNO.out, rfl⟩))) w4 (by rw [← e10]; exact h4)
  rw [← e10] at HC
  clear h4 e10
  go_wp2_with fail
  refine HC.mono ?_
  rintro e w5 ⟨rfl, b5⟩
  have bb5 := bb4.trans (b5.mono bb4.size)
  have bb6 := bb5.alloc bb5.size (.cells #[.int .i64 0, .int .i64 0, .slice none 0 0] 24)
  clear HC b5
  have HK := keepBlock_any 0 0 0 0 (.slice none 0 0) (.slice none 0 0) [] [] (w5.alloc (.cells #[.int .i64 0, .int .i64 0, .slice none 0 0] 24)) _ _ (Nat.le_refl _) (Nat.le_refl _) (by decide) (holds_nilB _ _) (holds_nilB _ _)
  rw [decide_eq_true ⟨rfl, rfl, rfl⟩] at HK
  go_wp2_with fail
  refine HK.mono ?_
  rintro e w7 ⟨rfl, b7⟩
  have bb7 := bb6.trans (b7.mono bb6.size)
  have HWK := blockWakes_any w7
  go_wp2_with (go_at_call 13; refine HWK.mono ?_; rintro e w99 ⟨rfl, b99⟩)
  go_ret
  exact ⟨rfl, bb7.trans (b99.mono bb7.size)⟩

set_option maxRecDepth 100000 in
set_option maxHeartbeats 4000000 in
theorem blockPads_4f (Z : Nat) (s m : Int) (a : Option Addr) (cap : Nat) (xs : List Int) (hl : xs.length ≤ 100) (bx : ∀ z ∈ xs, 0 ≤ z ∧ z ≤ 255) (hR : Right Z s m xs) (at_ : Int) (t : Nat) (ht0 : t ≠ 0) (ht : t < 256) (h3 : at_.tmod 3 ≠ 0) (h1 : at_.tmod 3 ≠ 1) (hn : Z ≤ xs.length) (w : World) (ha : Holds .u8 w.heap.size w (.slice a xs.length cap) xs) :
    Calls Try.prog 7 #[.int .i64 (Z : Int), .agg #[.int .i64 s, .int .i64 m, .slice a xs.length cap], .int .i64 at_, .int .u8 (t : Int)] w fun e w' => e = .returned (.bool true) ∧ Below w.heap.size w w' := by
  have HBX : Hid (∀ z ∈ xs, 0 ≤ z ∧ z ≤ 255) := bx
  have HR : Hid (Right Z s m xs) := hR
  have hZx := hR.2.2.2.1
  have hZ1 := hR.1.1
  have hZ2 := hR.1.2
  have dl : decide (100 < (xs.length : Int)) = false := decide_eq_false (by omega)
  have dl' : decide (100 < xs.length) = false := decide_eq_false (by omega)
  have et0 : ((t : Int) == 0) = false := by rw [beq_eq_false_iff_ne]; omega
  have eq4 : ((Z : Int) + 10 != (Z : Int) + 10) = false := by simp
  have sZ : ((Z : Int) + 6).toNat = Z + 6 := by omega
  have d10 : decide (6 + (xs.length : Int) < (Z : Int) + 6) = false := decide_eq_false (by omega)
  have d10' : decide (6 + xs.length < Z + 6) = false := decide_eq_false (by omega)
  have e3 : (at_.tmod 3 == 0) = false := by simp [h3]
  have e3b : (at_.tmod 3 == 1) = false := by simp [h1]
  clear h1
  clear h3
  obtain ⟨A, hA, eA⟩ : ∃ A : Nat, A ≤ 64 ∧ bits .and .u8 (t : Int) 64 = (A : Int) := ⟨t &&& 64, Nat.and_le_right, zu8_and t 64 ht (by decide)⟩
  have hs30 : s / 2 ^ 24 % 256 < 256 := Int.emod_lt_of_pos _ (by decide)
  have hs31 : 0 ≤ s / 2 ^ 24 % 256 := Int.emod_nonneg _ (by decide)
  obtain ⟨X0, hX0⟩ : ∃ X : Nat, s / 2 ^ 24 % 256 = (X : Int) := ⟨(s / 2 ^ 24 % 256).toNat, by omega⟩
  have hXl : X0 < 256 := by omega
  obtain ⟨O, hO1, hO2, eO⟩ : ∃ O : Nat, 64 ≤ O ∧ O < 256 ∧ bits .or .u8 (X0 : Int) (64 + (A : Int)) = (O : Int) := ⟨X0 ||| (64 + A), Nat.le_trans (by omega) Nat.right_le_or, Nat.or_lt_two_pow (n := 8) hXl (by omega), by have := zu8_or X0 (64 + A) hXl (by omega); push_cast at this; exact this⟩
  have H0 : Hid ((bodyB Z s m xs)[0]? = some (X0 : Int)) := by show _ = _; rw [bodyB_eq, beBytes_four, hX0]; rfl
  clear hs30 hs31 hX0
  have bb : Below w.heap.size w (w.alloc (.cells #[.int .i64 s, .int .i64 m, .slice a xs.length cap] 24)) := (Below.refl w.heap.size w).alloc (Nat.le_refl _) _
  have xa := Box.new w 24 #[.int .i64 s, .int .i64 m, .slice a xs.length cap]
  replace ha := ha.next bb
  clear bx hR
  go_enter Try.func7, Try.ntmps7
  have cxa0 := xa.cell 0 _ rfl
  have cxa1 := xa.cell 1 _ rfl
  have cxa2 := xa.cell 2 _ rfl
  go_wp2_with fail
  refine (Make_ok Z s m a cap xs HR.out HBX.out _ ha).mono ?_
  rintro e w1 ⟨r, rfl, o9, b9⟩
  clear cxa0 cxa1 cxa2
  replace xa := xa.next b9
  replace ha := ha.next b9
  replace bb := bb.trans (b9.mono bb.size)
  clear b9
  obtain ⟨g, c, rfl, _, hg⟩ := own_block o9 (by omega)
  have hx := holds_of_row o9
  have hc := row_cap o9
  clear o9
  have hbd : Holds .u8 w1.heap.size w1 (.slice (some ⟨g, 0, none⟩) (Z + 6) c) (bodyB Z s m xs) := by
    rw [← bytesB_len (s := s) (m := m) hZx] at hx
    have h9 := holds_takeB hx (Z + 6) (by rw [bytesB_len hZx]; omega)
    rw [bytesB_take Z hZx, bodyB_len hZx] at h9
    exact h9
  have hb1 := bb.size
  have HC := twin_any _ (bodyB Z s m xs) _ (by rw [bodyB_len hZx]; omega) w1 hbd
  rw [bodyB_len hZx] at HC
  have hsl : (Z : Int) + 6 ≤ (c : Int) := by omega
  have hsl' : Z + 6 ≤ c := by omega
  go_wp2_with fail
  refine (HC).mono ?_
  rintro e w2 ⟨r, rfl, o9, b9⟩
  replace xa := xa.next b9
  replace ha := ha.next b9
  replace bb := bb.trans (b9.mono bb.size)
  clear b9
  obtain ⟨g2, c2, rfl, hg2, _⟩ := own_block o9 (by omega)
  have hc2 := row_cap o9
  have hR2 : BRow w2 g2 (bodyB Z s m xs) := .of_own o9
  have hR2 : BRow w2 g2 (bodyB Z s m xs) := .of_own o9
  clear o9 HC hx hbd hg
  have hgg : w.heap.size ≤ g2 := by omega
  have cxa0 := xa.cell 0 _ rfl
  have cxa1 := xa.cell 1 _ rfl
  have cxa2 := xa.cell 2 _ rfl
  have cq := hR2.cell (q := 0) (H0.out)
  have fq := hR2.2.2 0
  have HY : Hid (BRow (w2.setCell ⟨g2, 0, none⟩ (.int .u8 (O : Int))) g2 ((bodyB Z s m xs).set 0 (O : Int))) := hR2.set 0 (by rw [bodyB_len hZx]; omega) (O : Int)
  have HBB : Hid (Below w.heap.size w (w2.setCell ⟨g2, 0, none⟩ (.int .u8 (O : Int)))) := bb.setCell (p := ⟨g2, 0, none⟩) hgg _
  have HNO : Hid (¬ readOk Z (sealL ((bodyB Z s m xs).set 0 (O : Int)))) := noRead4 (v := (O : Int)) (by rw [List.length_set, bodyB_len hZx]) (set_bd (bodyB_bd HR.out HBX.out) (by omega)) (List.getElem?_set_self (by rw [bodyB_len hZx]; omega)) (by omega)
  have HBY : Hid (∀ z ∈ (bodyB Z s m xs).set 0 (O : Int), 0 ≤ z ∧ z ≤ 255) := set_bd (bodyB_bd HR.out HBX.out) (by omega)
  have HLY : Hid (((bodyB Z s m xs).set 0 (O : Int)).length = Z + 6) := by show _ = _; rw [List.length_set, bodyB_len hZx]
  obtain ⟨Y, hY⟩ : ∃ Y, (bodyB Z s m xs).set 0 (O : Int) = Y := ⟨_, rfl⟩
  rw [hY] at HY HNO HBY HLY
  have HC := Seal_any (some ⟨g2, 0, none⟩) c2 Y (by rw [HLY.out]; omega) HBY.out (w2.setCell ⟨g2, 0, none⟩ (.int .u8 (O : Int))) (HY.out.holds HY.out.1 c2)
  rw [HLY.out] at HC
  clear hR2 hY HY H0
  go_wp2_with fail
  refine HC.mono ?_
  rintro e w4 ⟨r, rfl, o4, b4⟩
  have bb4 := HBB.out.trans (b4.mono HBB.out.size)
  obtain ⟨ra, rc, rfl⟩ := row_shape1 o4
  have h4 := holds_of_row o4
  have hc4 := row_cap o4
  clear o4 HC cq fq HBB b4
  clear cxa0 cxa1 cxa2
  have e10 : Z + 6 + 4 = (sealL Y).length := by rw [sealL_lenB, HLY.out]
  have HC := Read_no (Z : Int) ra rc (sealL Y) (by omega) (by omega) (sealL_bdB HBY.out) 3 (.inr (.inr (.inr ⟨(bSize_iff _).2 ⟨by omega, by omega⟩, by omega, isSealed_sealB Y, HNO.out, rfl⟩))) w4 (by rw [← e10]; exact h4)
  rw [← e10] at HC
  clear h4 e10
  go_wp2_with fail
  refine HC.mono ?_
  rintro e w5 ⟨rfl, b5⟩
  have bb5 := bb4.trans (b5.mono bb4.size)
  have bb6 := bb5.alloc bb5.size (.cells #[.int .i64 0, .int .i64 0, .slice none 0 0] 24)
  clear HC b5
  have HK := keepBlock_any 0 0 0 0 (.slice none 0 0) (.slice none 0 0) [] [] (w5.alloc (.cells #[.int .i64 0, .int .i64 0, .slice none 0 0] 24)) _ _ (Nat.le_refl _) (Nat.le_refl _) (by decide) (holds_nilB _ _) (holds_nilB _ _)
  rw [decide_eq_true ⟨rfl, rfl, rfl⟩] at HK
  go_wp2_with fail
  refine HK.mono ?_
  rintro e w7 ⟨rfl, b7⟩
  have bb7 := bb6.trans (b7.mono bb6.size)
  have HWK := blockWakes_any w7
  go_wp2_with (go_at_call 13; refine HWK.mono ?_; rintro e w99 ⟨rfl, b99⟩)
  go_ret
  exact ⟨rfl, bb7.trans (b99.mono bb7.size)⟩

set_option maxRecDepth 100000 in
set_option maxHeartbeats 2000000 in
theorem blockPads_no (z s m : Int) (a : Option Addr) (n cap : Nat) (hl : n ≤ 100) (hE : errB z s m n ≠ 0) (at_ : Int) (t : Nat) (ht0 : t ≠ 0) (w : World) :
    Calls Try.prog 7 #[.int .i64 z, .agg #[.int .i64 s, .int .i64 m, .slice a n cap], .int .i64 at_, .int .u8 (t : Int)] w fun e w' => e = .returned (.bool true) ∧ Below w.heap.size w w' := by
  have dl : decide (100 < (n : Int)) = false := decide_eq_false (by omega)
  have dl' : decide (100 < n) = false := decide_eq_false (by omega)
  have et0 : ((t : Int) == 0) = false := by rw [beq_eq_false_iff_ne]; omega
  have b0 : Below w.heap.size w (w.alloc (.cells #[.int .i64 s, .int .i64 m, .slice a n cap] 24)) := (Below.refl w.heap.size w).alloc (Nat.le_refl _) _
  have HM := Make_no z s m a n cap hE (w.alloc (.cells #[.int .i64 s, .int .i64 m, .slice a n cap] 24))
  obtain ⟨E, hEe⟩ : ∃ E, errB z s m n = E := ⟨_, rfl⟩
  rw [hEe] at HM hE
  have dE : (E != 0) = true := by simp [hE]
  clear hE hEe ht0 hl
  go_enter Try.func7, Try.ntmps7
  go_wp2_with fail
  refine HM.mono ?_
  rintro e w1 ⟨rfl, b1⟩
  have bb1 := b0.trans (b1.mono (by simp))
  have HWK := blockWakes_any w1
  clear HM b0 b1
  go_wp2_with (go_at_call 13; refine HWK.mono ?_; rintro e w99 ⟨rfl, b99⟩)
  go_ret
  exact ⟨rfl, bb1.trans (b99.mono bb1.size)⟩

set_option maxRecDepth 100000 in
set_option maxHeartbeats 2000000 in
theorem blockPads_long (z s m : Int) (a : Option Addr) (n cap : Nat) (at_ : Int) (t : Nat) (h : 100 < n ∨ t = 0) (w : World) :
    Calls Try.prog 7 #[.int .i64 z, .agg #[.int .i64 s, .int .i64 m, .slice a n cap], .int .i64 at_, .int .u8 (t : Int)] w fun e w' => e = .returned (.bool true) ∧ Below w.heap.size w w' := by
  have b0 : Below w.heap.size w (w.alloc (.cells #[.int .i64 s, .int .i64 m, .slice a n cap] 24)) := (Below.refl w.heap.size w).alloc (Nat.le_refl _) _
  by_cases h3 : 100 < n
  · have dl : decide (100 < (n : Int)) = true := decide_eq_true (by omega)
    have dl' : decide (100 < n) = true := decide_eq_true h3
    clear h h3
    go_enter Try.func7, Try.ntmps7
    go_wp2
    go_ret
    exact ⟨rfl, b0⟩
  · obtain rfl : t = 0 := by omega
    have dl : decide (100 < (n : Int)) = false := decide_eq_false (by omega)
    have dl' : decide (100 < n) = false := decide_eq_false (by omega)
    have e0 : (((0 : Nat) : Int) == 0) = true := rfl
    clear h h3
    go_enter Try.func7, Try.ntmps7
    go_wp2
    go_ret
    exact ⟨rfl, b0⟩

/-- The law, of whatever size, block, place, and whatever is turned. -/
theorem blockPads_walk (z s m : Int) (a : Option Addr) (len cap : Nat) (z1 : List Int) (x2 x3 : Int) (w : World) (h1 : IsRow .u8 w a len cap z1) (h3 : 0 ≤ x3 ∧ x3 ≤ 255) :
    Calls Try.prog 7 #[.int .i64 z, .agg #[.int .i64 s, .int .i64 m, .slice a len cap], .int .i64 x2, .int .u8 x3] w fun e w' => e = .returned (.bool true) ∧ Below w.heap.size w w' := by
  obtain ⟨xs, rfl, hx, bx⟩ := holds_of_isRow h1
  obtain ⟨t, rfl⟩ := Int.eq_ofNat_of_zero_le h3.1
  by_cases h : 100 < xs.length ∨ t = 0
  · exact blockPads_long z s m a _ cap x2 t h w
  by_cases hE : errB z s m xs.length = 0
  · obtain ⟨Z, rfl, hR⟩ := right_of hE
    by_cases hn : xs.length < Z
    · by_cases h2 : x2.tmod 2 = 0
      · exact blockPads_1 Z s m a cap xs (by omega) (bytes_bd bx) hR x2 t (by omega) (by omega) hn h2 w hx
      by_cases h3 : x2.tmod 3 = 0
      · exact blockPads_2r Z s m a cap xs (by omega) (bytes_bd bx) hR x2 t (by omega) (by omega) h3 hn h2 w hx
      by_cases h4 : x2.tmod 3 = 1
      · exact blockPads_3r Z s m a cap xs (by omega) (bytes_bd bx) hR x2 t (by omega) (by omega) h4 hn h2 w hx
      exact blockPads_4r Z s m a cap xs (by omega) (bytes_bd bx) hR x2 t (by omega) (by omega) h3 h4 hn h2 w hx
    · have hn' : Z ≤ xs.length := by omega
      by_cases h3 : x2.tmod 3 = 0
      · exact blockPads_2f Z s m a cap xs (by omega) (bytes_bd bx) hR x2 t (by omega) (by omega) h3 hn' w hx
      by_cases h4 : x2.tmod 3 = 1
      · exact blockPads_3f Z s m a cap xs (by omega) (bytes_bd bx) hR x2 t (by omega) (by omega) h4 hn' w hx
      exact blockPads_4f Z s m a cap xs (by omega) (bytes_bd bx) hR x2 t (by omega) (by omega) h3 h4 hn' w hx
  · exact blockPads_no z s m a _ cap (by omega) hE x2 t (by omega) w

end Go.Proofs.Ytejpnjegahbaoaa
