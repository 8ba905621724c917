/-
  BlockTurned: the walk: whatever the size, the block, the place, the bits, the law answers true, and nothing that lay has turned. (Written by tpl_blockturned.py.)
-/
import Derived.Test.YtejpnjegahbaoaaBlockReadsWalk
import Derived.Test.YtejpnjegahbaoaaCrcBurstWalk
namespace Go.Proofs.Ytejpnjegahbaoaa
open Go.RowKit

set_option maxRecDepth 100000 in
set_option maxHeartbeats 4000000 in
theorem blockTurned_ok (Z : Nat) (s m : Int) (a : Option Addr) (cap : Nat) (xs : List Int) (hl : xs.length ≤ 100) (bx : ∀ z ∈ xs, 0 ≤ z ∧ z ≤ 255) (hR : Right Z s m xs) (at_ : Int) (bb : Nat) (hb0 : bb ≠ 0) (hb : bb < 4294967296) (w : World) (ha : Holds .u8 w.heap.size w (.slice a xs.length cap) xs) :
    Calls Try.prog 5 #[.int .i64 (Z : Int), .agg #[.int .i64 s, .int .i64 m, .slice a xs.length cap], .int .i64 at_, .int .u32 bb] w fun e w' => e = .returned (.bool true) ∧ Below w.heap.size w w' := by
  have HBX : Hid (∀ z ∈ xs, 0 ≤ z ∧ z ≤ 255) := bx
  have HR : Hid (Right Z s m xs) := hR
  have hZx := hR.2.2.2.1
  have hZ1 := hR.1.1
  have hZ2 := hR.1.2
  have dl : decide (100 < (xs.length : Int)) = false := decide_eq_false (by omega)
  have dl' : decide (100 < xs.length) = false := decide_eq_false (by omega)
  have eb0 : ((bb : Int) == 0) = false := by rw [beq_eq_false_iff_ne]; omega
  obtain ⟨p, hp, et⟩ := at_place at_ (8 * ((Z : Int) + 10)) (by omega)
  have hn0 : ¬ 8 * ((Z : Int) + 10) = 0 := by omega
  have b0 : Below w.heap.size w (w.alloc (.cells #[.int .i64 s, .int .i64 m, .slice a xs.length cap] 24)) := (Below.refl w.heap.size w).alloc (Nat.le_refl _) _
  have HM := Make_ok Z s m a cap xs hR bx _ (ha.next b0)
  have hlen : (bytesB Z s m xs).length = Z + 10 := bytesB_len hZx
  have HLEN : Hid ((bytesB Z s m xs).length = Z + 10) := hlen
  clear bx hR ha
  go_enter Try.func5, Try.ntmps5
  go_wp2_with fail
  refine HM.mono ?_
  rintro e w1 ⟨r1, rfl, o1, b1⟩
  obtain ⟨g, c1, rfl, hg0, hg'⟩ := own_block o1 (by omega)
  have hg : w.heap.size ≤ g := by simp at hg0; omega
  have hc1 := row_cap o1
  have hR1 : BRow w1 g (bytesB Z s m xs) := .of_own o1
  have bb1 := b0.trans (b1.mono (by simp))
  have HT0 : Hid (Turned (bytesB Z s m xs) p (bits32 bb) 0 (bytesB Z s m xs)) := Turned.start (bytesB_bd HR.out HBX.out) (by rw [HLEN.out]; omega)
  have eq4 : ((Z : Int) + 10 != (Z : Int) + 10) = false := by simp
  clear o1 HM b0 b1 hg0 hlen
  go_wp2_with fail
  go_loopw [12, 13] (fun t i wr => ∃ k : Nat, k ≤ 32 ∧ p + k ≤ 8 * (Z + 10) ∧ i = .int .i64 k ∧ t = .bool (anyBit (bits32 bb) k) ∧ Below w.heap.size w wr ∧ ∃ Y, BRow wr g Y ∧ Hid (Turned (bytesB Z s m xs) p (bits32 bb) k Y) ∧ Hid (anyBit (bits32 bb) k = false → Y = bytesB Z s m xs)) (fun _ i _ => 32 - (intOf i).toNat)
  case atStart => exact ⟨0, by omega, by omega, rfl, rfl, bb1, _, hR1, HT0, fun _ => rfl⟩
  case round =>
    clear HT0 hR1 bb1 hg'
    obtain ⟨k, hk, hpk, rfl, rfl, hbw, Y, hR, HT, HY0⟩ := hrel
    by_cases hlt : k < 32 ∧ p + k < 8 * (Z + 10)
    · obtain ⟨hk1, hk2⟩ := hlt
      have hLY : Y.length = Z + 10 := HT.out.1.trans HLEN.out
      have hq : (p + k) / 8 < Z + 10 := by omega
      obtain ⟨x, hx, hx2⟩ : ∃ x : Nat, Y[(p + k) / 8]? = some (x : Int) ∧ x < 256 := by
        have hlt' : (p + k) / 8 < Y.length := by omega
        have := HT.out.2.1 _ (List.getElem_mem hlt')
        exact ⟨Y[(p + k) / 8].toNat, by rw [List.getElem?_eq_getElem hlt']; congr 1; omega, by omega⟩
      have hbk := bits32_get bb k hk1
      have hnk : p + k < 8 * (bytesB Z s m xs).length := by rw [HLEN.out]; exact hk2
      have hle : bb / 2 ^ k ≤ bb := Nat.div_le_self _ _
      have ed : (bb : Int) / 2 ^ k = ((bb / 2 ^ k : Nat) : Int) := by simp
      have ea : bits .and .u32 ((bb / 2 ^ k : Nat) : Int) 1 = ((bb / 2 ^ k % 2 : Nat) : Int) := zu32_and1 _ (by omega)
      have h01 : bb / 2 ^ k % 2 = 0 ∨ bb / 2 ^ k % 2 = 1 := by omega
      obtain ⟨d, hd⟩ : ∃ d, bb / 2 ^ k = d := ⟨_, rfl⟩
      rw [hd] at ed ea hbk h01 hle
      have HA : Hid _ := anyBit_next hbk
      rcases h01 with h0 | h1
      · rw [h0] at ea hbk HA
        have HT' : Hid (Turned (bytesB Z s m xs) p (bits32 bb) (k + 1) Y) := HT.out.same hbk hnk
        have HA' : Hid (anyBit (bits32 bb) (k + 1) = anyBit (bits32 bb) k) := HA.out.trans (by simp)
        obtain ⟨t, ht⟩ : ∃ t, anyBit (bits32 bb) k = t := ⟨_, rfl⟩
        rw [ht] at HA' HY0 ⊢
        clear HA HT hbk hd h0 ht hx hLY hnk
        go_wp2
        go_roundw
        case rel => exact ⟨k + 1, by omega, by omega, by go_num, by rw [HA'.out], hbw, Y, hR, HT', by rw [HA'.out]; exact HY0⟩
        case measure => simp [intOf]; omega
      · rw [h1] at ea hbk HA
        have HT' : Hid (Turned (bytesB Z s m xs) p (bits32 bb) (k + 1) (Y.set ((p + k) / 8) ((x ^^^ 2 ^ ((p + k) % 8) : Nat) : Int))) := HT.out.turn hbk hnk hx
        have HA' : Hid (anyBit (bits32 bb) (k + 1) = true) := HA.out.trans (by simp)
        have c1 := hR.cell hx
        have f1 := hR.2.2 ((p + k) / 8)
        have HR' := hR.set ((p + k) / 8) (by omega) ((x ^^^ 2 ^ ((p + k) % 8) : Nat) : Int)
        obtain ⟨t, ht⟩ : ∃ t, anyBit (bits32 bb) k = t := ⟨_, rfl⟩
        rw [ht]
        clear HA HT hbk hd h1 ht hx hLY hnk HY0
        have e8 : ((2 : Int) ^ ((p + k) % 8)) % 256 = ((2 ^ ((p + k) % 8) : Nat) : Int) := by
          have h8 : (p + k) % 8 < 8 := Nat.mod_lt _ (by decide)
          generalize (p + k) % 8 = r at h8
          match r, h8 with
          | 0, _ => rfl
          | 1, _ => rfl
          | 2, _ => rfl
          | 3, _ => rfl
          | 4, _ => rfl
          | 5, _ => rfl
          | 6, _ => rfl
          | 7, _ => rfl
        have h8' : 2 ^ ((p + k) % 8) < 256 := Nat.pow_lt_pow_right (n := 8) (by omega) (Nat.mod_lt _ (by decide))
        have eu : Hid (bits .xor .u8 (x : Int) ((2 : Int) ^ ((p + k) % 8) % 256) = ((x ^^^ 2 ^ ((p + k) % 8) : Nat) : Int)) := by
          show bits .xor .u8 (x : Int) ((2 : Int) ^ ((p + k) % 8) % 256) = _
          rw [e8]; exact zu8_xor x _ hx2 h8'
        have HRB : Hid (Below w.heap.size w (wr.setCell ⟨g, (p + k) / 8, none⟩ (.int .u8 ((x ^^^ 2 ^ ((p + k) % 8) : Nat) : Int)))) := hbw.setCell (p := ⟨g, (p + k) / 8, none⟩) hg _
        have HRR : Hid _ := HR'
        clear e8 h8' HR' hR hbw
        go_wp2
        refine ⟨⟨k + 1, by omega, by omega, by go_num, by rw [HA'.out], ?_, ?_⟩, by simp [intOf]; omega⟩
        · rw [eu.out]; exact HRB.out
        · rw [eu.out]; exact ⟨_, HRR.out, HT', fun h => by rw [HA'.out] at h; cases h⟩
    · have hLY : Y.length = Z + 10 := HT.out.1.trans HLEN.out
      have HBY : Hid (∀ z ∈ Y, 0 ≤ z ∧ z ≤ 255) := HT.out.2.1
      have HS : Hid (isSealed Y = !anyBit (bits32 bb) k) := Turned.end (xs := bodyB Z s m xs) HT.out (bits32_01 bb) (by rw [bits32_len]; omega) hk (by have := HLEN.out; unfold bytesB at this; rw [this]; omega)
      obtain ⟨t, ht⟩ : ∃ t, anyBit (bits32 bb) k = t := ⟨_, rfl⟩
      rw [ht] at HS HY0 ⊢
      have hHY : Holds .u8 wr.heap.size wr (.slice (some ⟨g, 0, none⟩) (Z + 10) c1) Y := by have := hR.holds hR.1 c1; rwa [hLY] at this
      have HLY : Hid (Y.length = Z + 10) := hLY
      clear hLY HT ht hR
      by_cases hk3 : k < 32
      · have hk4 : p + k = 8 * (Z + 10) := by omega
        have hk5 : ¬ (p : Int) + (k : Int) < 8 * ((Z : Int) + 10) := by omega
        clear hlt
        cases t with
        | true =>
          have HC := Read_no (Z : Int) (some ⟨g, 0, none⟩) c1 Y (by rw [HLY.out]; omega) (by rw [HLY.out]; exact hc1) HBY.out 4 (.inr (.inr (.inl ⟨(bSize_iff _).2 ⟨by omega, by omega⟩, by rw [HLY.out]; rfl, HS.out, rfl⟩))) wr (by rw [HLY.out]; exact hHY)
          rw [HLY.out] at HC
          go_wp2_with fail
          refine HC.mono ?_
          rintro e w3 ⟨rfl, b3⟩
          have bb3 := hbw.trans (b3.mono hbw.size)
          have bb4 := bb3.alloc bb3.size (.cells #[.int .i64 0, .int .i64 0, .slice none 0 0] 24)
          have HK := keepBlock_any 0 0 0 0 (.slice none 0 0) (.slice none 0 0) [] [] (w3.alloc (.cells #[.int .i64 0, .int .i64 0, .slice none 0 0] 24)) _ _ (Nat.le_refl _) (Nat.le_refl _) (by decide) (holds_nilB _ _) (holds_nilB _ _)
          rw [decide_eq_true ⟨rfl, rfl, rfl⟩] at HK
          clear HC
          go_wp2_with fail
          refine HK.mono ?_
          rintro e w5 ⟨rfl, b5⟩
          have bb5 := bb4.trans (b5.mono bb4.size)
          have HWK := blockWakes_any w5
          go_wp2_with (go_at_call 13; refine HWK.mono ?_; rintro e w99 ⟨rfl, b99⟩)
          go_ret
          exact ⟨rfl, bb5.trans (b99.mono bb5.size)⟩
        | false =>
          obtain rfl := HY0.out rfl
          have HC := Read_ok Z hZ1 hZ2 (some ⟨g, 0, none⟩) c1 (bytesB Z s m xs) (bytesB_len hZx) (by rw [bytesB_len hZx]; exact hc1) (bytesB_bd HR.out HBX.out) (isSealed_sealB _) (readOk_bytes HR.out) wr (by rw [bytesB_len hZx]; exact hHY)
          rw [bytesB_len hZx, rdS_bytes HR.out, rdM_bytes, rdX_bytes] at HC
          go_wp2_with fail
          refine HC.mono ?_
          rintro e w3 ⟨ya, yc, rfl, hy, b3⟩
          have bb3 := hbw.trans (b3.mono hbw.size)
          have bb5 := bb3.alloc bb3.size (.cells #[.int .i64 s, .int .i64 m, .slice ya xs.length yc] 24)
          clear HC
          have HWK := blockWakes_any (w3.alloc (.cells #[.int .i64 s, .int .i64 m, .slice ya xs.length yc] 24))
          go_wp2_with (go_at_call 13; refine HWK.mono ?_; rintro e w99 ⟨rfl, b99⟩)
          go_ret
          exact ⟨rfl, bb5.trans (b99.mono bb5.size)⟩
      · obtain rfl : k = 32 := by omega
        clear hlt
        cases t with
        | true =>
          have HC := Read_no (Z : Int) (some ⟨g, 0, none⟩) c1 Y (by rw [HLY.out]; omega) (by rw [HLY.out]; exact hc1) HBY.out 4 (.inr (.inr (.inl ⟨(bSize_iff _).2 ⟨by omega, by omega⟩, by rw [HLY.out]; rfl, HS.out, rfl⟩))) wr (by rw [HLY.out]; exact hHY)
          rw [HLY.out] at HC
          go_wp2_with fail
          refine HC.mono ?_
          rintro e w3 ⟨rfl, b3⟩
          have bb3 := hbw.trans (b3.mono hbw.size)
          have bb4 := bb3.alloc bb3.size (.cells #[.int .i64 0, .int .i64 0, .slice none 0 0] 24)
          have HK := keepBlock_any 0 0 0 0 (.slice none 0 0) (.slice none 0 0) [] [] (w3.alloc (.cells #[.int .i64 0, .int .i64 0, .slice none 0 0] 24)) _ _ (Nat.le_refl _) (Nat.le_refl _) (by decide) (holds_nilB _ _) (holds_nilB _ _)
          rw [decide_eq_true ⟨rfl, rfl, rfl⟩] at HK
          clear HC
          go_wp2_with fail
          refine HK.mono ?_
          rintro e w5 ⟨rfl, b5⟩
          have bb5 := bb4.trans (b5.mono bb4.size)
          have HWK := blockWakes_any w5
          go_wp2_with (go_at_call 13; refine HWK.mono ?_; rintro e w99 ⟨rfl, b99⟩)
          go_ret
          exact ⟨rfl, bb5.trans (b99.mono bb5.size)⟩
        | false =>
          obtain rfl := HY0.out rfl
          have HC := Read_ok Z hZ1 hZ2 (some ⟨g, 0, none⟩) c1 (bytesB Z s m xs) (bytesB_len hZx) (by rw [bytesB_len hZx]; exact hc1) (bytesB_bd HR.out HBX.out) (isSealed_sealB _) (readOk_bytes HR.out) wr (by rw [bytesB_len hZx]; exact hHY)
          rw [bytesB_len hZx, rdS_bytes HR.out, rdM_bytes, rdX_bytes] at HC
          go_wp2_with fail
          refine HC.mono ?_
          rintro e w3 ⟨ya, yc, rfl, hy, b3⟩
          have bb3 := hbw.trans (b3.mono hbw.size)
          have bb5 := bb3.alloc bb3.size (.cells #[.int .i64 s, .int .i64 m, .slice ya xs.length yc] 24)
          clear HC
          have HWK := blockWakes_any (w3.alloc (.cells #[.int .i64 s, .int .i64 m, .slice ya xs.length yc] 24))
          go_wp2_with (go_at_call 13; refine HWK.mono ?_; rintro e w99 ⟨rfl, b99⟩)
          go_ret
          exact ⟨rfl, bb5.trans (b99.mono bb5.size)⟩

set_option maxRecDepth 100000 in
set_option maxHeartbeats 2000000 in
theorem blockTurned_no (z s m : Int) (a : Option Addr) (n cap : Nat) (hl : n ≤ 100) (hE : errB z s m n ≠ 0) (at_ : Int) (bb : Nat) (hb0 : bb ≠ 0) (w : World) :
    Calls Try.prog 5 #[.int .i64 z, .agg #[.int .i64 s, .int .i64 m, .slice a n cap], .int .i64 at_, .int .u32 bb] w fun e w' => e = .returned (.bool true) ∧ Below w.heap.size w w' := by
  have dl : decide (100 < (n : Int)) = false := decide_eq_false (by omega)
  have dl' : decide (100 < n) = false := decide_eq_false (by omega)
  have eb0 : ((bb : Int) == 0) = false := by rw [beq_eq_false_iff_ne]; omega
  have b0 : Below w.heap.size w (w.alloc (.cells #[.int .i64 s, .int .i64 m, .slice a n cap] 24)) := (Below.refl w.heap.size w).alloc (Nat.le_refl _) _
  have HM := Make_no z s m a n cap hE (w.alloc (.cells #[.int .i64 s, .int .i64 m, .slice a n cap] 24))
  obtain ⟨E, hEe⟩ : ∃ E, errB z s m n = E := ⟨_, rfl⟩
  rw [hEe] at HM hE
  have dE : (E != 0) = true := by simp [hE]
  clear hE hEe hb0 hl
  go_enter Try.func5, Try.ntmps5
  go_wp2_with fail
  refine HM.mono ?_
  rintro e w1 ⟨rfl, b1⟩
  have bb1 := b0.trans (b1.mono (by simp))
  have HWK := blockWakes_any w1
  clear HM b0 b1
  go_wp2_with (go_at_call 13; refine HWK.mono ?_; rintro e w99 ⟨rfl, b99⟩)
  go_ret
  exact ⟨rfl, bb1.trans (b99.mono bb1.size)⟩

set_option maxRecDepth 100000 in
set_option maxHeartbeats 2000000 in
theorem blockTurned_long (z s m : Int) (a : Option Addr) (n cap : Nat) (at_ : Int) (bb : Nat) (h : 100 < n ∨ bb = 0) (w : World) :
    Calls Try.prog 5 #[.int .i64 z, .agg #[.int .i64 s, .int .i64 m, .slice a n cap], .int .i64 at_, .int .u32 bb] w fun e w' => e = .returned (.bool true) ∧ Below w.heap.size w w' := by
  have b0 : Below w.heap.size w (w.alloc (.cells #[.int .i64 s, .int .i64 m, .slice a n cap] 24)) := (Below.refl w.heap.size w).alloc (Nat.le_refl _) _
  by_cases h3 : 100 < n
  · have dl : decide (100 < (n : Int)) = true := decide_eq_true (by omega)
    have dl' : decide (100 < n) = true := decide_eq_true h3
    clear h h3
    go_enter Try.func5, Try.ntmps5
    go_wp2
    go_ret
    exact ⟨rfl, b0⟩
  · obtain rfl : bb = 0 := by omega
    have dl : decide (100 < (n : Int)) = false := decide_eq_false (by omega)
    have dl' : decide (100 < n) = false := decide_eq_false (by omega)
    have e0 : (((0 : Nat) : Int) == 0) = true := rfl
    clear h h3
    go_enter Try.func5, Try.ntmps5
    go_wp2
    go_ret
    exact ⟨rfl, b0⟩

/-- The law, of whatever size, block, place, bits. -/
theorem blockTurned_walk (z s m : Int) (a : Option Addr) (len cap : Nat) (z1 : List Int) (x2 x3 : Int) (w : World) (h1 : IsRow .u8 w a len cap z1) (h3 : (Lit.int .u32 x3).wf = true) :
    Calls Try.prog 5 #[.int .i64 z, .agg #[.int .i64 s, .int .i64 m, .slice a len cap], .int .i64 x2, .int .u32 x3] w fun e w' => e = .returned (.bool true) ∧ Below w.heap.size w w' := by
  obtain ⟨xs, rfl, hx, bx⟩ := holds_of_isRow h1
  have h3 := bounds_u32 h3
  obtain ⟨b, rfl⟩ := Int.eq_ofNat_of_zero_le h3.1
  by_cases h : 100 < xs.length ∨ b = 0
  · exact blockTurned_long z s m a _ cap x2 b h w
  by_cases hE : errB z s m xs.length = 0
  · obtain ⟨Z, rfl, hR⟩ := right_of hE
    exact blockTurned_ok Z s m a cap xs (by omega) (bytes_bd bx) hR x2 b (by omega) (by omega) w hx
  · exact blockTurned_no z s m a _ cap (by omega) hE x2 b (by omega) w

end Go.Proofs.Ytejpnjegahbaoaa
