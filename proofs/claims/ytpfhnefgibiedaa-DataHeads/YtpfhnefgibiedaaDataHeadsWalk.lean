/-
  DataHeads: the walk: whatever the data, the place, the bits, the law answers true, and nothing that lay has turned. (Written by tpl_dataheads.py.)
-/
import Derived.Test.YtpfhnefgibiedaaDataReadsWalk
import Derived.Test.YtpfhnefgibiedaaCrcBurstWalk
import Derived.Test.YtpfhnefgibiedaaDataTurnNums
namespace Go.Proofs.Ytpfhnefgibiedaa
open Go.RowKit

/-- The lowest 16 bits of a number, the lowest first. -/
def bits16 (b : Nat) : List Nat := (List.range 16).map fun i => b / 2 ^ i % 2
theorem bits16_len (b : Nat) : (bits16 b).length = 16 := by simp [bits16]
theorem bits16_get (b i : Nat) (hi : i < 16) : (bits16 b)[i]? = some (b / 2 ^ i % 2) := by simp [bits16, hi]
theorem bits16_01 (b : Nat) : Bits01 (bits16 b) := fun x hx => by
  obtain ⟨i, _, rfl⟩ := List.mem_map.1 hx
  exact Nat.mod_lt _ (by decide)
theorem zu16_and1 (a : Nat) (ha : a < 65536) : bits .and .u16 (a : Int) 1 = ((a % 2 : Nat) : Int) := by
  have h1 : (a : Int) < 2 ^ 16 := by exact_mod_cast ha
  have := bits_mask .u16 16 (by decide) zu16_wrap 1 (by omega) a (by omega) h1
  simpa using this
theorem bounds_u16' {n : Int} (h : (Lit.int .u16 n).wf = true) : 0 ≤ n ∧ n ≤ 65535 := by
  simp [Lit.wf, IntKind.min, IntKind.max, IntKind.signed, IntKind.bits] at h
  omega

set_option maxRecDepth 100000 in
set_option maxHeartbeats 4000000 in
theorem dataHeads_ok (s r f : Int) (a : Option Addr) (cap : Nat) (xs : List Int) (hl : xs.length ≤ 200) (bx : ∀ z ∈ xs, 0 ≤ z ∧ z ≤ 255) (hR : RightD s r f xs) (at_ : Int) (bb : Nat) (hb0 : bb ≠ 0) (hb : bb < 65536) (w : World) (ha : Holds .u8 w.heap.size w (.slice a xs.length cap) xs) :
    Calls Try.prog 6 #[.agg #[.int .i64 s, .int .i64 r, .int .i64 f, .slice a xs.length cap], .int .i64 at_, .int .u16 bb] w fun e w' => e = .returned (.bool true) ∧ Below w.heap.size w w' := by
  have HBX : Hid (∀ z ∈ xs, 0 ≤ z ∧ z ≤ 255) := bx
  have HR : Hid (RightD s r f xs) := hR
  have hx1 := hR.2.2.2.1
  have hx2' := hR.2.2.2.2
  have dl : decide (200 < (xs.length : Int)) = false := decide_eq_false (by omega)
  have dl' : decide (200 < xs.length) = false := decide_eq_false (by omega)
  have eb0 : ((bb : Int) == 0) = false := by rw [beq_eq_false_iff_ne]; omega
  obtain ⟨p, hp, et⟩ := at_place at_ 80 (by omega)
  have b0 : Below w.heap.size w (w.alloc (.cells #[.int .i64 s, .int .i64 r, .int .i64 f, .slice a xs.length cap] 24)) := (Below.refl w.heap.size w).alloc (Nat.le_refl _) _
  have x0 := Box.new w 24 #[.int .i64 s, .int .i64 r, .int .i64 f, .slice a xs.length cap]
  have HM := DataMake_ok s r f a cap xs hR bx _ (ha.next b0)
  have hlen : (packD s r f xs).length = xs.length + 11 := packD_len s r f xs
  have HLEN : Hid ((packD s r f xs).length = xs.length + 11) := hlen
  clear bx hR ha
  go_enter Try.func6, Try.ntmps6
  go_wp2_with fail
  refine HM.mono ?_
  rintro e w1 ⟨r1, rfl, o1, b1⟩
  obtain ⟨g, c1, rfl, hg0, hg'⟩ := own_block o1 (by omega)
  have hg : w.heap.size ≤ g := by simp at hg0; omega
  have hc1 := row_cap o1
  have hR1 : BRow w1 g (packD s r f xs) := .of_own o1
  have bb1 := b0.trans (b1.mono (by simp))
  have HT0 : Hid (TurnedH (packD s r f xs) (8 + p) (bits16 bb) 0 (packD s r f xs)) := TurnedH.start (packD_bd HR.out HBX.out) (by rw [HLEN.out]; omega)
  have eq4 : ((xs.length : Int) + 11 != 11 + (xs.length : Int)) = false := by rw [bne_eq_false_iff_eq]; omega
  have k3 := (x0.next b1).cell 3 _ rfl
  clear o1 HM b0 b1 hg0 hlen x0
  go_wp2_with fail
  go_loopw [9, 10] (fun t i wr => ∃ k : Nat, k ≤ 16 ∧ p + k ≤ 80 ∧ i = .int .i64 k ∧ t = .bool (anyBit (bits16 bb) k) ∧ Below w.heap.size w wr ∧ ∃ Y, BRow wr g Y ∧ Hid (TurnedH (packD s r f xs) (8 + p) (bits16 bb) k Y)) (fun _ i _ => 16 - (intOf i).toNat)
  case atStart => exact ⟨0, by omega, by omega, rfl, rfl, bb1, _, hR1, HT0⟩
  case round =>
    clear HT0 hR1 bb1 hg'
    obtain ⟨k, hk, hpk, rfl, rfl, hbw, Y, hR, HT⟩ := hrel
    have HY0 : Hid (anyBit (bits16 bb) k = false → Y = packD s r f xs) := HT.out.2.2.2.2
    by_cases hlt : k < 16 ∧ p + k < 80
    · obtain ⟨hk1, hk2⟩ := hlt
      have hLY : Y.length = xs.length + 11 := HT.out.1.trans HLEN.out
      have hq : 1 + (p + k) / 8 < xs.length + 11 := by omega
      have e1 : (8 + p + k) / 8 = 1 + (p + k) / 8 := by omega
      have e2 : (8 + p + k) % 8 = (p + k) % 8 := by omega
      obtain ⟨x, hx, hx2⟩ : ∃ x : Nat, Y[1 + (p + k) / 8]? = some (x : Int) ∧ x < 256 := by
        have hlt' : 1 + (p + k) / 8 < Y.length := by omega
        have := HT.out.2.1 _ (List.getElem_mem hlt')
        exact ⟨Y[1 + (p + k) / 8].toNat, by rw [List.getElem?_eq_getElem hlt']; congr 1; omega, by omega⟩
      have hbk := bits16_get bb k hk1
      have hnk : 8 + p + k < 8 * (packD s r f xs).length := by rw [HLEN.out]; omega
      have hle : bb / 2 ^ k ≤ bb := Nat.div_le_self _ _
      have ed : (bb : Int) / 2 ^ k = ((bb / 2 ^ k : Nat) : Int) := by simp
      have ea : bits .and .u16 ((bb / 2 ^ k : Nat) : Int) 1 = ((bb / 2 ^ k % 2 : Nat) : Int) := zu16_and1 _ (by omega)
      have h01 : bb / 2 ^ k % 2 = 0 ∨ bb / 2 ^ k % 2 = 1 := by omega
      obtain ⟨d, hd⟩ : ∃ d, bb / 2 ^ k = d := ⟨_, rfl⟩
      rw [hd] at ed ea hbk h01 hle
      have HA : Hid _ := anyBit_next hbk
      rcases h01 with h0 | h1
      · rw [h0] at ea hbk HA
        have HT' : Hid (TurnedH (packD s r f xs) (8 + p) (bits16 bb) (k + 1) Y) := HT.out.same hbk hnk
        have HA' : Hid (anyBit (bits16 bb) (k + 1) = anyBit (bits16 bb) k) := HA.out.trans (by simp)
        obtain ⟨t, ht⟩ : ∃ t, anyBit (bits16 bb) k = t := ⟨_, rfl⟩
        rw [ht] at HA' HY0 ⊢
        clear HA HT hbk hd h0 ht hx hLY hnk
        go_wp2
        go_roundw
        case rel => exact ⟨k + 1, by omega, by omega, by go_num, by rw [HA'.out], hbw, Y, hR, HT'⟩
        case measure => simp [intOf]; omega
      · rw [h1] at ea hbk HA
        have HT' : Hid (TurnedH (packD s r f xs) (8 + p) (bits16 bb) (k + 1) (Y.set (1 + (p + k) / 8) ((x ^^^ 2 ^ (7 - (p + k) % 8) : Nat) : Int))) := by
          have := HT.out.turn hbk (by omega) hnk (by rw [e1]; exact hx)
          rw [e1, e2] at this
          exact this
        have HA' : Hid (anyBit (bits16 bb) (k + 1) = true) := HA.out.trans (by simp)
        have c1 := hR.cell hx
        have f1 := hR.2.2 (1 + (p + k) / 8)
        have HR' := hR.set (1 + (p + k) / 8) (by omega) ((x ^^^ 2 ^ (7 - (p + k) % 8) : Nat) : Int)
        obtain ⟨t, ht⟩ : ∃ t, anyBit (bits16 bb) k = t := ⟨_, rfl⟩
        rw [ht]
        clear HA HT hbk hd h1 ht hx hLY hnk HY0
        obtain ⟨j, hj⟩ : ∃ j, 7 - (p + k) % 8 = j := ⟨_, rfl⟩
        have hj7 : j ≤ 7 := by omega
        have es7 : (7 : Int) - ((p : Int) + (k : Int)) % 8 = (j : Int) := by omega
        have es8 : (7 : Int) - (((p + k) % 8 : Nat) : Int) = (j : Int) := by omega
        rw [hj] at HT' HR'
        have e8 : ((2 : Int) ^ j) % 256 = ((2 ^ j : Nat) : Int) := by
          match j, hj7 with
          | 0, _ => rfl
          | 1, _ => rfl
          | 2, _ => rfl
          | 3, _ => rfl
          | 4, _ => rfl
          | 5, _ => rfl
          | 6, _ => rfl
          | 7, _ => rfl
        have h8' : 2 ^ j < 256 := Nat.pow_lt_pow_right (n := 8) (by omega) (by omega)
        have eu : Hid (bits .xor .u8 (x : Int) ((2 : Int) ^ j % 256) = ((x ^^^ 2 ^ j : Nat) : Int)) := by
          show bits .xor .u8 (x : Int) ((2 : Int) ^ j % 256) = _
          rw [e8]; exact zu8_xor x _ hx2 h8'
        have HRB : Hid (Below w.heap.size w (wr.setCell ⟨g, 1 + (p + k) / 8, none⟩ (.int .u8 ((x ^^^ 2 ^ j : Nat) : Int)))) := hbw.setCell (p := ⟨g, 1 + (p + k) / 8, none⟩) hg _
        have HRR : Hid _ := HR'
        clear e8 h8' HR' hR hbw hj e1 e2
        go_wp2
        refine ⟨⟨k + 1, by omega, by omega, by go_num, by rw [HA'.out], ?_, ?_⟩, by simp [intOf]; omega⟩
        · rw [eu.out]; exact HRB.out
        · rw [eu.out]; exact ⟨_, HRR.out, HT'⟩
    · have hLY : Y.length = xs.length + 11 := HT.out.1.trans HLEN.out
      have HBY : Hid (∀ z ∈ Y, 0 ≤ z ∧ z ≤ 255) := HT.out.2.1
      have HS : Hid (anyBit (bits16 bb) k = true → badD Y 4) := fun ht => HT.out.bad HR.out HBX.out (bits16_01 bb) (by rw [bits16_len]; omega) hk (by omega) ht
      obtain ⟨t, ht⟩ : ∃ t, anyBit (bits16 bb) k = t := ⟨_, rfl⟩
      rw [ht] at HS HY0 ⊢
      have hHY : Holds .u8 wr.heap.size wr (.slice (some ⟨g, 0, none⟩) (xs.length + 11) c1) Y := by have := hR.holds hR.1 c1; rwa [hLY] at this
      have HLY : Hid (Y.length = xs.length + 11) := hLY
      clear hLY HT ht hR
      by_cases hk3 : k < 16
      · have hk4 : decide (p + k < 80) = false := decide_eq_false (by omega)
        have hk5 : decide ((p : Int) + (k : Int) < 80) = false := decide_eq_false (by omega)
        have hk6 : decide ((k : Int) < 16) = true := decide_eq_true (by omega)
        have hk7 : decide (k < 16) = true := decide_eq_true hk3
        clear hlt k3
        cases t with
        | true =>
          have HC := DataRead_no (some ⟨g, 0, none⟩) c1 Y (by rw [HLY.out]; omega) (by rw [HLY.out]; exact hc1) HBY.out 4 (HS.out rfl) wr (by rw [HLY.out]; exact hHY)
          rw [HLY.out] at HC
          clear HS HY0 HBY HLY hHY
          go_wp2_with fail
          refine HC.mono ?_
          rintro e w3 ⟨rfl, b3⟩
          have bb3 := hbw.trans (b3.mono hbw.size)
          have bb4 := bb3.alloc bb3.size (.cells #[.int .i64 0, .int .i64 0, .int .i64 0, .slice none 0 0] 24)
          have HK := keepData_any 0 0 0 0 0 0 (.slice none 0 0) (.slice none 0 0) [] [] (w3.alloc (.cells #[.int .i64 0, .int .i64 0, .int .i64 0, .slice none 0 0] 24)) _ _ (Nat.le_refl _) (Nat.le_refl _) (by decide) (holds_nilB _ _) (holds_nilB _ _)
          rw [decide_eq_true ⟨rfl, rfl, rfl, rfl⟩] at HK
          clear HC
          go_wp2_with fail
          refine HK.mono ?_
          rintro e w5 ⟨rfl, b5⟩
          have bb5 := bb4.trans (b5.mono bb4.size)
          have HWK := dataWakes_any w5
          go_wp2_with (go_at_call 13; refine HWK.mono ?_; rintro e w99 ⟨rfl, b99⟩)
          go_ret
          exact ⟨rfl, bb5.trans (b99.mono bb5.size)⟩
        | false =>
          obtain rfl := HY0.out rfl
          have HC := DataRead_ok (some ⟨g, 0, none⟩) c1 (packD s r f xs) (by rw [packD_len]; exact hc1) (packD_bd HR.out HBX.out) (okD_pack HR.out) wr (by rw [packD_len]; exact hHY)
          rw [packD_len, dS_pack HR.out, dR_pack, dF_pack HR.out, dX_pack] at HC
          go_wp2_with fail
          refine HC.mono ?_
          rintro e w3 ⟨ya, yc, rfl, hy, b3⟩
          have bb3 := hbw.trans (b3.mono hbw.size)
          have bb5 := bb3.alloc bb3.size (.cells #[.int .i64 s, .int .i64 r, .int .i64 f, .slice ya xs.length yc] 24)
          clear HC
          have HWK := dataWakes_any (w3.alloc (.cells #[.int .i64 s, .int .i64 r, .int .i64 f, .slice ya xs.length yc] 24))
          go_wp2_with (go_at_call 13; refine HWK.mono ?_; rintro e w99 ⟨rfl, b99⟩)
          go_ret
          exact ⟨rfl, bb5.trans (b99.mono bb5.size)⟩
      · obtain rfl : k = 16 := by omega
        clear hlt
        cases t with
        | true =>
          have HC := DataRead_no (some ⟨g, 0, none⟩) c1 Y (by rw [HLY.out]; omega) (by rw [HLY.out]; exact hc1) HBY.out 4 (HS.out rfl) wr (by rw [HLY.out]; exact hHY)
          rw [HLY.out] at HC
          clear HS HY0 HBY HLY hHY
          go_wp2_with fail
          refine HC.mono ?_
          rintro e w3 ⟨rfl, b3⟩
          have bb3 := hbw.trans (b3.mono hbw.size)
          have bb4 := bb3.alloc bb3.size (.cells #[.int .i64 0, .int .i64 0, .int .i64 0, .slice none 0 0] 24)
          have HK := keepData_any 0 0 0 0 0 0 (.slice none 0 0) (.slice none 0 0) [] [] (w3.alloc (.cells #[.int .i64 0, .int .i64 0, .int .i64 0, .slice none 0 0] 24)) _ _ (Nat.le_refl _) (Nat.le_refl _) (by decide) (holds_nilB _ _) (holds_nilB _ _)
          rw [decide_eq_true ⟨rfl, rfl, rfl, rfl⟩] at HK
          clear HC
          go_wp2_with fail
          refine HK.mono ?_
          rintro e w5 ⟨rfl, b5⟩
          have bb5 := bb4.trans (b5.mono bb4.size)
          have HWK := dataWakes_any w5
          go_wp2_with (go_at_call 13; refine HWK.mono ?_; rintro e w99 ⟨rfl, b99⟩)
          go_ret
          exact ⟨rfl, bb5.trans (b99.mono bb5.size)⟩
        | false =>
          obtain rfl := HY0.out rfl
          have HC := DataRead_ok (some ⟨g, 0, none⟩) c1 (packD s r f xs) (by rw [packD_len]; exact hc1) (packD_bd HR.out HBX.out) (okD_pack HR.out) wr (by rw [packD_len]; exact hHY)
          rw [packD_len, dS_pack HR.out, dR_pack, dF_pack HR.out, dX_pack] at HC
          go_wp2_with fail
          refine HC.mono ?_
          rintro e w3 ⟨ya, yc, rfl, hy, b3⟩
          have bb3 := hbw.trans (b3.mono hbw.size)
          have bb5 := bb3.alloc bb3.size (.cells #[.int .i64 s, .int .i64 r, .int .i64 f, .slice ya xs.length yc] 24)
          clear HC
          have HWK := dataWakes_any (w3.alloc (.cells #[.int .i64 s, .int .i64 r, .int .i64 f, .slice ya xs.length yc] 24))
          go_wp2_with (go_at_call 13; refine HWK.mono ?_; rintro e w99 ⟨rfl, b99⟩)
          go_ret
          exact ⟨rfl, bb5.trans (b99.mono bb5.size)⟩

set_option maxRecDepth 100000 in
set_option maxHeartbeats 2000000 in
theorem dataHeads_no (s r f : Int) (a : Option Addr) (n cap : Nat) (hl : n ≤ 200) (hE : errD s r f n ≠ 0) (at_ : Int) (bb : Nat) (hb0 : bb ≠ 0) (w : World) :
    Calls Try.prog 6 #[.agg #[.int .i64 s, .int .i64 r, .int .i64 f, .slice a n cap], .int .i64 at_, .int .u16 bb] w fun e w' => e = .returned (.bool true) ∧ Below w.heap.size w w' := by
  have dl : decide (200 < (n : Int)) = false := decide_eq_false (by omega)
  have dl' : decide (200 < n) = false := decide_eq_false (by omega)
  have eb0 : ((bb : Int) == 0) = false := by rw [beq_eq_false_iff_ne]; omega
  have b0 : Below w.heap.size w (w.alloc (.cells #[.int .i64 s, .int .i64 r, .int .i64 f, .slice a n cap] 24)) := (Below.refl w.heap.size w).alloc (Nat.le_refl _) _
  have HM := DataMake_no s r f a n cap hE (w.alloc (.cells #[.int .i64 s, .int .i64 r, .int .i64 f, .slice a n cap] 24))
  obtain ⟨E, hEe⟩ : ∃ E, errD s r f n = E := ⟨_, rfl⟩
  rw [hEe] at HM hE
  have dE : (E != 0) = true := by simp [hE]
  clear hE hEe hb0 hl
  go_enter Try.func6, Try.ntmps6
  go_wp2_with fail
  refine HM.mono ?_
  rintro e w1 ⟨rfl, b1⟩
  have bb1 := b0.trans (b1.mono (by simp))
  have HWK := dataWakes_any w1
  clear HM b0 b1
  go_wp2_with (go_at_call 13; refine HWK.mono ?_; rintro e w99 ⟨rfl, b99⟩)
  go_ret
  exact ⟨rfl, bb1.trans (b99.mono bb1.size)⟩

set_option maxRecDepth 100000 in
set_option maxHeartbeats 2000000 in
theorem dataHeads_long (s r f : Int) (a : Option Addr) (n cap : Nat) (at_ : Int) (bb : Nat) (h : 200 < n ∨ bb = 0) (w : World) :
    Calls Try.prog 6 #[.agg #[.int .i64 s, .int .i64 r, .int .i64 f, .slice a n cap], .int .i64 at_, .int .u16 bb] w fun e w' => e = .returned (.bool true) ∧ Below w.heap.size w w' := by
  have b0 : Below w.heap.size w (w.alloc (.cells #[.int .i64 s, .int .i64 r, .int .i64 f, .slice a n cap] 24)) := (Below.refl w.heap.size w).alloc (Nat.le_refl _) _
  by_cases h3 : 200 < n
  · have dl : decide (200 < (n : Int)) = true := decide_eq_true (by omega)
    have dl' : decide (200 < n) = true := decide_eq_true h3
    clear h h3
    go_enter Try.func6, Try.ntmps6
    go_wp2
    go_ret
    exact ⟨rfl, b0⟩
  · obtain rfl : bb = 0 := by omega
    have dl : decide (200 < (n : Int)) = false := decide_eq_false (by omega)
    have dl' : decide (200 < n) = false := decide_eq_false (by omega)
    have e0 : (((0 : Nat) : Int) == 0) = true := rfl
    clear h h3
    go_enter Try.func6, Try.ntmps6
    go_wp2
    go_ret
    exact ⟨rfl, b0⟩

/-- The law, of whatever data, place, bits. -/
theorem dataHeads_walk (s r f : Int) (a : Option Addr) (len cap : Nat) (z1 : List Int) (x2 x3 : Int) (w : World) (h1 : IsRow .u8 w a len cap z1) (h3 : (Lit.int .u16 x3).wf = true) :
    Calls Try.prog 6 #[.agg #[.int .i64 s, .int .i64 r, .int .i64 f, .slice a len cap], .int .i64 x2, .int .u16 x3] w fun e w' => e = .returned (.bool true) ∧ Below w.heap.size w w' := by
  obtain ⟨xs, rfl, hx, bx⟩ := holds_of_isRow h1
  have h3 := bounds_u16' h3
  obtain ⟨b, rfl⟩ := Int.eq_ofNat_of_zero_le h3.1
  by_cases h : 200 < xs.length ∨ b = 0
  · exact dataHeads_long s r f a _ cap x2 b h w
  by_cases hE : errD s r f xs.length = 0
  · exact dataHeads_ok s r f a cap xs (by omega) (bytes_bd bx) ((rightD_iff _ _ _ _).1 hE) x2 b (by omega) (by omega) w hx
  · exact dataHeads_no s r f a _ cap (by omega) hE x2 b (by omega) w

end Go.Proofs.Ytpfhnefgibiedaa
