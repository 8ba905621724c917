/-
  AckCuts: the walk: whatever the ack, the cut, the bytes more, the place and the bits, the law answers true, and nothing that lay has turned. (Written by tpl_ackcuts.py.)
-/
import Derived.Test.YtkhmcoeffaeppaaAckReadsWalk
import Derived.Test.YtkhmcoeffaeppaaCrcBurstWalk
namespace Go.Proofs.Ytkhmcoeffaeppaa
open Go.RowKit

theorem BRow.nextA {W W' : World} {g : Nat} {zs : List Int} (h : BRow W g zs) (hb : Below W.heap.size W W') : BRow W' g zs := h.below hb h.1
/-- A packet behind i rounds: as Turned, and its first byte; as long as nothing was turned about it is what it was. -/
def TurnedA (X : List Int) (p : Nat) (bs : List Nat) (i : Nat) (Y : List Int) : Prop := Turned X p bs i Y ∧ Y[0]? = X[0]? ∧ (anyBit bs i = false → Y = X)
theorem TurnedA.same {X Y : List Int} {p : Nat} {bs : List Nat} {i : Nat} (h : TurnedA X p bs i Y) (hb : bs[i]? = some 0) (hn : p + i < 8 * X.length) : TurnedA X p bs (i + 1) Y :=
  ⟨h.1.same hb hn, h.2.1, fun ha => h.2.2 (by rw [anyBit_next hb] at ha; simpa using ha)⟩
theorem TurnedA.turn {X Y : List Int} {p : Nat} {bs : List Nat} {i x : Nat} (h : TurnedA X p bs i Y) (hb : bs[i]? = some 1) (hp : 8 ≤ p) (hn : p + i < 8 * X.length) (hx : Y[(p + i) / 8]? = some (x : Int)) : TurnedA X p bs (i + 1) (Y.set ((p + i) / 8) ((x ^^^ 2 ^ ((p + i) % 8) : Nat) : Int)) :=
  ⟨h.1.turn hb hn hx, by rw [List.getElem?_set_ne (by omega)]; exact h.2.1, fun ha => by rw [anyBit_next hb] at ha; simp at ha⟩
theorem TurnedA.bad {n b : Int} {Y : List Int} {p : Nat} {bs : List Nat} {i : Nat} (h : TurnedA (packA n b) p bs i Y) (h01 : Bits01 bs) (hi : i ≤ bs.length) (h32 : i ≤ 32) (hn : p + i ≤ 104) (ha : anyBit bs i = true) : badA Y 4 := by
  have he := Turned.end (xs := bodyA n b) h.1 h01 hi h32 (by show p + i ≤ 8 * (packA n b).length; rw [packA_len]; omega)
  rw [ha] at he
  exact .inr (.inr (.inl ⟨h.1.1.trans (packA_len n b), by rw [h.2.1]; exact packA_head n b, he, rfl⟩))

set_option maxRecDepth 100000 in
set_option maxHeartbeats 4000000 in
theorem ackCuts_more (n b : Int) (h0 : 0 ≤ n) (h1 : n ≤ 1073741824) (hb0' : 0 ≤ b) (hb1' : b < 4294967296) (cut at_ : Int) (am : Option Addr) (capm : Nat) (ms : List Int) (hlm : ms.length ≤ 100) (bm : ∀ z ∈ ms, 0 ≤ z ∧ z ≤ 255) (hm0 : 0 < ms.length) (bb : Nat) (hb0 : bb ≠ 0) (hb : bb < 4294967296) (w : World) (hm : Holds .u8 w.heap.size w (.slice am ms.length capm) ms) :
    Calls Try.prog 5 #[.agg #[.int .i64 n, .int .u32 b], .int .i64 cut, .slice am ms.length capm, .int .i64 at_, .int .u32 bb] w fun e w' => e = .returned (.bool true) ∧ Below w.heap.size w w' := by
  have d1 : decide (n < 0) = false := decide_eq_false (by omega)
  have d2 : decide (1073741824 < n) = false := decide_eq_false (by omega)
  have dlm : decide (100 < (ms.length : Int)) = false := decide_eq_false (by omega)
  have dkm : decide (100 < ms.length) = false := decide_eq_false (by omega)
  have eb0 : ((bb : Int) == 0) = false := by rw [beq_eq_false_iff_ne]; omega
  have HBM : Hid (∀ z ∈ ms, 0 ≤ z ∧ z ≤ 255) := bm
  have dmm : decide (0 < (ms.length : Int)) = true := decide_eq_true (by omega)
  have dmn : decide (0 < ms.length) = true := decide_eq_true hm0
  clear bm
  obtain ⟨pc, hpc, etc⟩ := at_place cut 13 (by decide)
  obtain ⟨p, hp, et⟩ := at_place at_ 96 (by decide)
  have hpc' : pc < 13 := by omega
  have bbw : Below w.heap.size w (w.alloc (.cells #[.int .i64 n, .int .u32 b] 24)) := (Below.refl w.heap.size w).alloc (Nat.le_refl _) _
  replace hm := hm.next bbw
  go_enter Try.func5, Try.ntmps5
  go_wp2_with fail
  refine (AckMake_ok n b h0 h1 hb0' hb1' _).mono ?_
  rintro e w1 ⟨q1, rfl, o9, b9⟩
  replace hm := hm.next b9
  replace bbw := bbw.trans (b9.mono bbw.size)
  clear b9
  obtain ⟨g, c1, rfl, hg0, hg'⟩ := own_block o9 (by decide)
  have hg : w.heap.size ≤ g := by simp at hg0; omega
  have hc1 := row_cap o9
  have hB : BRow w1 g (packA n b) := .of_own o9
  clear o9 hg0 hg'
  have HPL : Hid ((packA n b).length = 13) := packA_len n b
  have htl : ((packA n b).take pc).length = pc := by rw [List.length_take, HPL.out]; omega
  have hHt : Holds .u8 w1.heap.size w1 (.slice (some ⟨g, 0, none⟩) pc c1) ((packA n b).take pc) := by
    have := holds_takeB (hB.holds hB.1 c1) pc (by rw [HPL.out]; omega)
    rw [htl] at this
    exact this
  have HC := AckRead_no (some ⟨g, 0, none⟩) c1 ((packA n b).take pc) (by rw [htl]; omega) (by rw [htl]; omega) (fun z hz => packA_bd n b z (List.mem_of_mem_take hz)) 2 (.inl ⟨by rw [htl]; omega, rfl⟩) w1 (by rw [htl]; exact hHt)
  rw [htl] at HC
  clear htl hHt
  have hqc : (pc : Int) ≤ (c1 : Int) := by omega
  have hqc' : pc ≤ c1 := by omega
  go_wp2_with fail
  refine (HC).mono ?_
  rintro e w2 ⟨rfl, b9⟩
  replace hm := hm.next b9
  replace hB := hB.nextA b9
  replace bbw := bbw.trans (b9.mono bbw.size)
  clear b9
  clear HC
  have b9 : Below w2.heap.size w2 (w2.alloc (.cells #[.int .i64 0, .int .u32 0] 24)) := (Below.refl _ _).alloc (Nat.le_refl _) _
  replace hm := hm.next b9
  replace hB := hB.nextA b9
  replace bbw := bbw.trans (b9.mono bbw.size)
  clear b9
  have HC := keepAck_any 0 0 0 0 (w2.alloc (.cells #[.int .i64 0, .int .u32 0] 24))
  rw [decide_eq_true ⟨rfl, rfl⟩] at HC
  go_wp2_with fail
  refine (HC).mono ?_
  rintro e w3 ⟨rfl, b9⟩
  replace hm := hm.next b9
  replace hB := hB.nextA b9
  replace bbw := bbw.trans (b9.mono bbw.size)
  clear b9
  clear HC
  have HC := twin_any (.slice (some ⟨g, 0, none⟩) 13 c1) (packA n b) w3.heap.size (by rw [HPL.out]; decide) w3 (by have := hB.holds hB.1 c1; rw [HPL.out] at this; exact this)
  rw [HPL.out] at HC
  go_wp2_with fail
  refine (HC).mono ?_
  rintro e w4 ⟨q5, rfl, o5, bT⟩
  clear HC
  obtain ⟨v6, w5, hr6, o6, g6⟩ := run_append_u8 _ (.slice am ms.length capm) 13 w3.heap.size _ _ ms 25 w4 o5 (hm.next bT) bT.size (by decide) (by omega)
  have b9 : Below w3.heap.size w3 w5 := bT.trans ((Below.refl _ _).grown g6 bT.size (fun z e => (o5.lt z e).1))
  obtain ⟨va, vc, rfl⟩ := row_shapeA o6
  have hv := holds_of_row o6
  have hvc := row_cap o6
  replace hm := hm.next b9
  replace hB := hB.nextA b9
  replace bbw := bbw.trans (b9.mono bbw.size)
  clear b9 o5 g6 bT
  go_wp2_with (at_builtin; refine wpList_append_run rfl _ _ 25 rfl _ _ rfl rfl _ _ hr6 ?_)
  clear hr6 o6
  have hml : (packA n b ++ ms).length = 13 + ms.length := by rw [List.length_append, HPL.out]
  have HC := AckRead_no va vc (packA n b ++ ms) (by rw [hml]; omega) (by rw [hml]; exact hvc) (fun z hz => (List.mem_append.1 hz).elim (packA_bd n b z) (HBM.out z)) 2 (.inl ⟨by rw [hml]; omega, rfl⟩) _ (by rw [hml]; exact hv)
  rw [hml] at HC
  clear hml hv hvc
  go_wp2_with fail
  refine (HC).mono ?_
  rintro e w6 ⟨rfl, b9⟩
  replace hm := hm.next b9
  replace hB := hB.nextA b9
  replace bbw := bbw.trans (b9.mono bbw.size)
  clear b9
  clear HC hm
  have HT0 : Hid (TurnedA (packA n b) (8 + p) (bits32 bb) 0 (packA n b)) := ⟨Turned.start (packA_bd n b) (by rw [HPL.out]; omega), rfl, fun _ => rfl⟩
  go_wp2_with fail
  go_loopw [14, 15] (fun t i wr => ∃ k : Nat, k ≤ 32 ∧ p + k ≤ 96 ∧ i = .int .i64 k ∧ t = .bool (anyBit (bits32 bb) k) ∧ Below w.heap.size w wr ∧ ∃ Y, BRow wr g Y ∧ Hid (TurnedA (packA n b) (8 + p) (bits32 bb) k Y)) (fun _ i _ => 32 - (intOf i).toNat)
  case atStart => exact ⟨0, by omega, by omega, rfl, rfl, bbw, _, hB, HT0⟩
  case round =>
    clear HT0 hB bbw
    obtain ⟨k, hk, hpk, rfl, rfl, hbw, Y, hR, HT⟩ := hrel
    have HY0 : Hid (anyBit (bits32 bb) k = false → Y = packA n b) := HT.out.2.2
    by_cases hlt : k < 32 ∧ p + k < 96
    · obtain ⟨hk1, hk2⟩ := hlt
      have hLY : Y.length = 13 := HT.out.1.1.trans HPL.out
      have e1 : (8 + p + k) / 8 = 1 + (p + k) / 8 := by omega
      have e2 : (8 + p + k) % 8 = (p + k) % 8 := by omega
      have hq : 1 + (p + k) / 8 < 13 := by omega
      obtain ⟨x, hx, hx2⟩ : ∃ x : Nat, Y[1 + (p + k) / 8]? = some (x : Int) ∧ x < 256 := by
        have hlt' : 1 + (p + k) / 8 < Y.length := by omega
        have := HT.out.1.2.1 _ (List.getElem_mem hlt')
        exact ⟨Y[1 + (p + k) / 8].toNat, by rw [List.getElem?_eq_getElem hlt']; congr 1; omega, by omega⟩
      have hbk := bits32_get bb k hk1
      have hnk : 8 + p + k < 8 * (packA n b).length := by rw [HPL.out]; omega
      have hle : bb / 2 ^ k ≤ bb := Nat.div_le_self _ _
      have ed : (bb : Int) / 2 ^ k = ((bb / 2 ^ k : Nat) : Int) := by simp
      have ea : bits .and .u32 ((bb / 2 ^ k : Nat) : Int) 1 = ((bb / 2 ^ k % 2 : Nat) : Int) := zu32_and1 _ (by omega)
      have h01 : bb / 2 ^ k % 2 = 0 ∨ bb / 2 ^ k % 2 = 1 := by omega
      obtain ⟨d, hd⟩ : ∃ d, bb / 2 ^ k = d := ⟨_, rfl⟩
      rw [hd] at ed ea hbk h01 hle
      have HA : Hid _ := anyBit_next hbk
      have dk1 : decide (k < 32) = true := decide_eq_true hk1
      have dk2 : decide (p + k < 96) = true := decide_eq_true hk2
      have dk3 : decide ((p : Int) + (k : Int) < 96) = true := decide_eq_true (by omega)
      rcases h01 with h00 | h11
      · rw [h00] at ea hbk HA
        have HT' : Hid (TurnedA (packA n b) (8 + p) (bits32 bb) (k + 1) Y) := HT.out.same hbk hnk
        have HA' : Hid (anyBit (bits32 bb) (k + 1) = anyBit (bits32 bb) k) := HA.out.trans (by simp)
        obtain ⟨t, ht⟩ : ∃ t, anyBit (bits32 bb) k = t := ⟨_, rfl⟩
        rw [ht] at HA' ⊢
        clear HA HT hbk hd h00 ht hx hLY hnk HY0
        go_wp2
        go_roundw
        case rel => exact ⟨k + 1, by omega, by omega, by go_num, by rw [HA'.out], hbw, Y, hR, HT'⟩
        case measure => simp [intOf]; omega
      · rw [h11] at ea hbk HA
        have HT' : Hid (TurnedA (packA n b) (8 + p) (bits32 bb) (k + 1) (Y.set (1 + (p + k) / 8) ((x ^^^ 2 ^ ((p + k) % 8) : Nat) : Int))) := by
          have := HT.out.turn hbk (by omega) hnk (by rw [e1]; exact hx)
          rw [e1, e2] at this
          exact this
        have HA' : Hid (anyBit (bits32 bb) (k + 1) = true) := HA.out.trans (by simp)
        have c1' := hR.cell hx
        have f1 := hR.2.2 (1 + (p + k) / 8)
        have HR' := hR.set (1 + (p + k) / 8) (by omega) ((x ^^^ 2 ^ ((p + k) % 8) : Nat) : Int)
        obtain ⟨t, ht⟩ : ∃ t, anyBit (bits32 bb) k = t := ⟨_, rfl⟩
        rw [ht]
        clear HA HT hbk hd h11 ht hx hLY hnk HY0
        have e8 : ((2 : Int) ^ ((p + k) % 8)) % 256 = ((2 ^ ((p + k) % 8) : Nat) : Int) := by
          have h8 : (p + k) % 8 < 8 := Nat.mod_lt _ (by decide)
          generalize (p + k) % 8 = r at h8
          match r, h8 with
          | 0, _ => rfl
          | 1, _ => rfl
          | 2, _ => rfl
          | 3, _ => rfl
          | 4, _ => rfl
          | 5, _ => rfl
          | 6, _ => rfl
          | 7, _ => rfl
        have h8' : 2 ^ ((p + k) % 8) < 256 := Nat.pow_lt_pow_right (n := 8) (by omega) (Nat.mod_lt _ (by decide))
        have eu : Hid (bits .xor .u8 (x : Int) ((2 : Int) ^ ((p + k) % 8) % 256) = ((x ^^^ 2 ^ ((p + k) % 8) : Nat) : Int)) := by
          show bits .xor .u8 (x : Int) ((2 : Int) ^ ((p + k) % 8) % 256) = _
          rw [e8]; exact zu8_xor x _ hx2 h8'
        have HRB : Hid (Below w.heap.size w (wr.setCell ⟨g, 1 + (p + k) / 8, none⟩ (.int .u8 ((x ^^^ 2 ^ ((p + k) % 8) : Nat) : Int)))) := hbw.setCell (p := ⟨g, 1 + (p + k) / 8, none⟩) hg _
        have HRR : Hid _ := HR'
        clear e8 h8' HR' hR hbw e1 e2
        go_wp2
        refine ⟨⟨k + 1, by omega, by omega, by go_num, by rw [HA'.out], ?_, ?_⟩, by simp [intOf]; omega⟩
        · rw [eu.out]; exact HRB.out
        · rw [eu.out]; exact ⟨_, HRR.out, HT'⟩
    · have hLY : Y.length = 13 := HT.out.1.1.trans HPL.out
      have HBY : Hid (∀ z ∈ Y, 0 ≤ z ∧ z ≤ 255) := HT.out.1.2.1
      have HS : Hid (anyBit (bits32 bb) k = true → badA Y 4) := fun ht => HT.out.bad (bits32_01 bb) (by rw [bits32_len]; omega) hk (by omega) ht
      obtain ⟨t, ht⟩ : ∃ t, anyBit (bits32 bb) k = t := ⟨_, rfl⟩
      rw [ht] at HS HY0 ⊢
      have hHY : Holds .u8 wr.heap.size wr (.slice (some ⟨g, 0, none⟩) 13 c1) Y := by have := hR.holds hR.1 c1; rwa [hLY] at this
      have HLY : Hid (Y.length = 13) := hLY
      clear hLY HT ht hR
      by_cases hk3 : k < 32
      · have hk4 : decide (p + k < 96) = false := decide_eq_false (by omega)
        have hk5 : decide ((p : Int) + (k : Int) < 96) = false := decide_eq_false (by omega)
        have hk6 : decide ((k : Int) < 32) = true := decide_eq_true (by omega)
        have hk7 : decide (k < 32) = true := decide_eq_true hk3
        clear hlt
        cases t with
        | true =>
          have HC := AckRead_no (some ⟨g, 0, none⟩) c1 Y (by rw [HLY.out]; decide) (by rw [HLY.out]; exact hc1) HBY.out 4 (HS.out rfl) wr (by rw [HLY.out]; exact hHY)
          rw [HLY.out] at HC
          clear HS HY0 HBY HLY hHY
          go_wp2_with fail
          refine HC.mono ?_
          rintro e w3 ⟨rfl, b3⟩
          have bb3 := hbw.trans (b3.mono hbw.size)
          clear HC
          have HWK := ackWakes_any w3
          go_wp2_with (go_at_call 11; refine HWK.mono ?_; rintro e w99 ⟨rfl, b99⟩)
          go_ret
          exact ⟨rfl, bb3.trans (b99.mono bb3.size)⟩
        | false =>
          obtain rfl := HY0.out rfl
          have HC := AckRead_ok (some ⟨g, 0, none⟩) c1 (packA n b) (by rw [packA_len]; exact hc1) (packA_bd n b) (okA_pack h0 h1) wr (by rw [packA_len]; exact hHY)
          rw [packA_len] at HC
          clear HS HY0 HBY HLY hHY
          go_wp2_with fail
          refine HC.mono ?_
          rintro e w3 ⟨rfl, b3⟩
          have bb3 := hbw.trans (b3.mono hbw.size)
          clear HC
          have HWK := ackWakes_any w3
          go_wp2_with (go_at_call 11; refine HWK.mono ?_; rintro e w99 ⟨rfl, b99⟩)
          go_ret
          exact ⟨rfl, bb3.trans (b99.mono bb3.size)⟩
      · obtain rfl : k = 32 := by omega
        clear hlt
        cases t with
        | true =>
          have HC := AckRead_no (some ⟨g, 0, none⟩) c1 Y (by rw [HLY.out]; decide) (by rw [HLY.out]; exact hc1) HBY.out 4 (HS.out rfl) wr (by rw [HLY.out]; exact hHY)
          rw [HLY.out] at HC
          clear HS HY0 HBY HLY hHY
          go_wp2_with fail
          refine HC.mono ?_
          rintro e w3 ⟨rfl, b3⟩
          have bb3 := hbw.trans (b3.mono hbw.size)
          clear HC
          have HWK := ackWakes_any w3
          go_wp2_with (go_at_call 11; refine HWK.mono ?_; rintro e w99 ⟨rfl, b99⟩)
          go_ret
          exact ⟨rfl, bb3.trans (b99.mono bb3.size)⟩
        | false =>
          obtain rfl := HY0.out rfl
          have HC := AckRead_ok (some ⟨g, 0, none⟩) c1 (packA n b) (by rw [packA_len]; exact hc1) (packA_bd n b) (okA_pack h0 h1) wr (by rw [packA_len]; exact hHY)
          rw [packA_len] at HC
          clear HS HY0 HBY HLY hHY
          go_wp2_with fail
          refine HC.mono ?_
          rintro e w3 ⟨rfl, b3⟩
          have bb3 := hbw.trans (b3.mono hbw.size)
          clear HC
          have HWK := ackWakes_any w3
          go_wp2_with (go_at_call 11; refine HWK.mono ?_; rintro e w99 ⟨rfl, b99⟩)
          go_ret
          exact ⟨rfl, bb3.trans (b99.mono bb3.size)⟩

set_option maxRecDepth 100000 in
set_option maxHeartbeats 4000000 in
theorem ackCuts_none (n b : Int) (h0 : 0 ≤ n) (h1 : n ≤ 1073741824) (hb0' : 0 ≤ b) (hb1' : b < 4294967296) (cut at_ : Int) (am : Option Addr) (capm : Nat) (ms : List Int) (_hlm : ms.length ≤ 100) (_bm : ∀ z ∈ ms, 0 ≤ z ∧ z ≤ 255) (hm0 : ms.length = 0) (bb : Nat) (hb0 : bb ≠ 0) (hb : bb < 4294967296) (w : World) :
    Calls Try.prog 5 #[.agg #[.int .i64 n, .int .u32 b], .int .i64 cut, .slice am ms.length capm, .int .i64 at_, .int .u32 bb] w fun e w' => e = .returned (.bool true) ∧ Below w.heap.size w w' := by
  have d1 : decide (n < 0) = false := decide_eq_false (by omega)
  have d2 : decide (1073741824 < n) = false := decide_eq_false (by omega)
  have dlm : decide (100 < (ms.length : Int)) = false := decide_eq_false (by omega)
  have dkm : decide (100 < ms.length) = false := decide_eq_false (by omega)
  have eb0 : ((bb : Int) == 0) = false := by rw [beq_eq_false_iff_ne]; omega
  have dmm : decide (0 < (ms.length : Int)) = false := decide_eq_false (by omega)
  have dmn : decide (0 < ms.length) = false := decide_eq_false (by omega)
  obtain ⟨pc, hpc, etc⟩ := at_place cut 13 (by decide)
  obtain ⟨p, hp, et⟩ := at_place at_ 96 (by decide)
  have hpc' : pc < 13 := by omega
  have bbw : Below w.heap.size w (w.alloc (.cells #[.int .i64 n, .int .u32 b] 24)) := (Below.refl w.heap.size w).alloc (Nat.le_refl _) _
  go_enter Try.func5, Try.ntmps5
  go_wp2_with fail
  refine (AckMake_ok n b h0 h1 hb0' hb1' _).mono ?_
  rintro e w1 ⟨q1, rfl, o9, b9⟩
  replace bbw := bbw.trans (b9.mono bbw.size)
  clear b9
  obtain ⟨g, c1, rfl, hg0, hg'⟩ := own_block o9 (by decide)
  have hg : w.heap.size ≤ g := by simp at hg0; omega
  have hc1 := row_cap o9
  have hB : BRow w1 g (packA n b) := .of_own o9
  clear o9 hg0 hg'
  have HPL : Hid ((packA n b).length = 13) := packA_len n b
  have htl : ((packA n b).take pc).length = pc := by rw [List.length_take, HPL.out]; omega
  have hHt : Holds .u8 w1.heap.size w1 (.slice (some ⟨g, 0, none⟩) pc c1) ((packA n b).take pc) := by
    have := holds_takeB (hB.holds hB.1 c1) pc (by rw [HPL.out]; omega)
    rw [htl] at this
    exact this
  have HC := AckRead_no (some ⟨g, 0, none⟩) c1 ((packA n b).take pc) (by rw [htl]; omega) (by rw [htl]; omega) (fun z hz => packA_bd n b z (List.mem_of_mem_take hz)) 2 (.inl ⟨by rw [htl]; omega, rfl⟩) w1 (by rw [htl]; exact hHt)
  rw [htl] at HC
  clear htl hHt
  have hqc : (pc : Int) ≤ (c1 : Int) := by omega
  have hqc' : pc ≤ c1 := by omega
  go_wp2_with fail
  refine (HC).mono ?_
  rintro e w2 ⟨rfl, b9⟩
  replace hB := hB.nextA b9
  replace bbw := bbw.trans (b9.mono bbw.size)
  clear b9
  clear HC
  have b9 : Below w2.heap.size w2 (w2.alloc (.cells #[.int .i64 0, .int .u32 0] 24)) := (Below.refl _ _).alloc (Nat.le_refl _) _
  replace hB := hB.nextA b9
  replace bbw := bbw.trans (b9.mono bbw.size)
  clear b9
  have HC := keepAck_any 0 0 0 0 (w2.alloc (.cells #[.int .i64 0, .int .u32 0] 24))
  rw [decide_eq_true ⟨rfl, rfl⟩] at HC
  go_wp2_with fail
  refine (HC).mono ?_
  rintro e w3 ⟨rfl, b9⟩
  replace hB := hB.nextA b9
  replace bbw := bbw.trans (b9.mono bbw.size)
  clear b9
  clear HC
  have HT0 : Hid (TurnedA (packA n b) (8 + p) (bits32 bb) 0 (packA n b)) := ⟨Turned.start (packA_bd n b) (by rw [HPL.out]; omega), rfl, fun _ => rfl⟩
  go_wp2_with fail
  go_loopw [14, 15] (fun t i wr => ∃ k : Nat, k ≤ 32 ∧ p + k ≤ 96 ∧ i = .int .i64 k ∧ t = .bool (anyBit (bits32 bb) k) ∧ Below w.heap.size w wr ∧ ∃ Y, BRow wr g Y ∧ Hid (TurnedA (packA n b) (8 + p) (bits32 bb) k Y)) (fun _ i _ => 32 - (intOf i).toNat)
  case atStart => exact ⟨0, by omega, by omega, rfl, rfl, bbw, _, hB, HT0⟩
  case round =>
    clear HT0 hB bbw
    obtain ⟨k, hk, hpk, rfl, rfl, hbw, Y, hR, HT⟩ := hrel
    have HY0 : Hid (anyBit (bits32 bb) k = false → Y = packA n b) := HT.out.2.2
    by_cases hlt : k < 32 ∧ p + k < 96
    · obtain ⟨hk1, hk2⟩ := hlt
      have hLY : Y.length = 13 := HT.out.1.1.trans HPL.out
      have e1 : (8 + p + k) / 8 = 1 + (p + k) / 8 := by omega
      have e2 : (8 + p + k) % 8 = (p + k) % 8 := by omega
      have hq : 1 + (p + k) / 8 < 13 := by omega
      obtain ⟨x, hx, hx2⟩ : ∃ x : Nat, Y[1 + (p + k) / 8]? = some (x : Int) ∧ x < 256 := by
        have hlt' : 1 + (p + k) / 8 < Y.length := by omega
        have := HT.out.1.2.1 _ (List.getElem_mem hlt')
        exact ⟨Y[1 + (p + k) / 8].toNat, by rw [List.getElem?_eq_getElem hlt']; congr 1; omega, by omega⟩
      have hbk := bits32_get bb k hk1
      have hnk : 8 + p + k < 8 * (packA n b).length := by rw [HPL.out]; omega
      have hle : bb / 2 ^ k ≤ bb := Nat.div_le_self _ _
      have ed : (bb : Int) / 2 ^ k = ((bb / 2 ^ k : Nat) : Int) := by simp
      have ea : bits .and .u32 ((bb / 2 ^ k : Nat) : Int) 1 = ((bb / 2 ^ k % 2 : Nat) : Int) := zu32_and1 _ (by omega)
      have h01 : bb / 2 ^ k % 2 = 0 ∨ bb / 2 ^ k % 2 = 1 := by omega
      obtain ⟨d, hd⟩ : ∃ d, bb / 2 ^ k = d := ⟨_, rfl⟩
      rw [hd] at ed ea hbk h01 hle
      have HA : Hid _ := anyBit_next hbk
      have dk1 : decide (k < 32) = true := decide_eq_true hk1
      have dk2 : decide (p + k < 96) = true := decide_eq_true hk2
      have dk3 : decide ((p : Int) + (k : Int) < 96) = true := decide_eq_true (by omega)
      rcases h01 with h00 | h11
      · rw [h00] at ea hbk HA
        have HT' : Hid (TurnedA (packA n b) (8 + p) (bits32 bb) (k + 1) Y) := HT.out.same hbk hnk
        have HA' : Hid (anyBit (bits32 bb) (k + 1) = anyBit (bits32 bb) k) := HA.out.trans (by simp)
        obtain ⟨t, ht⟩ : ∃ t, anyBit (bits32 bb) k = t := ⟨_, rfl⟩
        rw [ht] at HA' ⊢
        clear HA HT hbk hd h00 ht hx hLY hnk HY0
        go_wp2
        go_roundw
        case rel => exact ⟨k + 1, by omega, by omega, by go_num, by rw [HA'.out], hbw, Y, hR, HT'⟩
        case measure => simp [intOf]; omega
      · rw [h11] at ea hbk HA
        have HT' : Hid (TurnedA (packA n b) (8 + p) (bits32 bb) (k + 1) (Y.set (1 + (p + k) / 8) ((x ^^^ 2 ^ ((p + k) % 8) : Nat) : Int))) := by
          have := HT.out.turn hbk (by omega) hnk (by rw [e1]; exact hx)
          rw [e1, e2] at this
          exact this
        have HA' : Hid (anyBit (bits32 bb) (k + 1) = true) := HA.out.trans (by simp)
        have c1' := hR.cell hx
        have f1 := hR.2.2 (1 + (p + k) / 8)
        have HR' := hR.set (1 + (p + k) / 8) (by omega) ((x ^^^ 2 ^ ((p + k) % 8) : Nat) : Int)
        obtain ⟨t, ht⟩ : ∃ t, anyBit (bits32 bb) k = t := ⟨_, rfl⟩
        rw [ht]
        clear HA HT hbk hd h11 ht hx hLY hnk HY0
        have e8 : ((2 : Int) ^ ((p + k) % 8)) % 256 = ((2 ^ ((p + k) % 8) : Nat) : Int) := by
          have h8 : (p + k) % 8 < 8 := Nat.mod_lt _ (by decide)
          generalize (p + k) % 8 = r at h8
          match r, h8 with
          | 0, _ => rfl
          | 1, _ => rfl
          | 2, _ => rfl
          | 3, _ => rfl
          | 4, _ => rfl
          | 5, _ => rfl
          | 6, _ => rfl
          | 7, _ => rfl
        have h8' : 2 ^ ((p + k) % 8) < 256 := Nat.pow_lt_pow_right (n := 8) (by omega) (Nat.mod_lt _ (by decide))
        have eu : Hid (bits .xor .u8 (x : Int) ((2 : Int) ^ ((p + k) % 8) % 256) = ((x ^^^ 2 ^ ((p + k) % 8) : Nat) : Int)) := by
          show bits .xor .u8 (x : Int) ((2 : Int) ^ ((p + k) % 8) % 256) = _
          rw [e8]; exact zu8_xor x _ hx2 h8'
        have HRB : Hid (Below w.heap.size w (wr.setCell ⟨g, 1 + (p + k) / 8, none⟩ (.int .u8 ((x ^^^ 2 ^ ((p + k) % 8) : Nat) : Int)))) := hbw.setCell (p := ⟨g, 1 + (p + k) / 8, none⟩) hg _
        have HRR : Hid _ := HR'
        clear e8 h8' HR' hR hbw e1 e2
        go_wp2
        refine ⟨⟨k + 1, by omega, by omega, by go_num, by rw [HA'.out], ?_, ?_⟩, by simp [intOf]; omega⟩
        · rw [eu.out]; exact HRB.out
        · rw [eu.out]; exact ⟨_, HRR.out, HT'⟩
    · have hLY : Y.length = 13 := HT.out.1.1.trans HPL.out
      have HBY : Hid (∀ z ∈ Y, 0 ≤ z ∧ z ≤ 255) := HT.out.1.2.1
      have HS : Hid (anyBit (bits32 bb) k = true → badA Y 4) := fun ht => HT.out.bad (bits32_01 bb) (by rw [bits32_len]; omega) hk (by omega) ht
      obtain ⟨t, ht⟩ : ∃ t, anyBit (bits32 bb) k = t := ⟨_, rfl⟩
      rw [ht] at HS HY0 ⊢
      have hHY : Holds .u8 wr.heap.size wr (.slice (some ⟨g, 0, none⟩) 13 c1) Y := by have := hR.holds hR.1 c1; rwa [hLY] at this
      have HLY : Hid (Y.length = 13) := hLY
      clear hLY HT ht hR
      by_cases hk3 : k < 32
      · have hk4 : decide (p + k < 96) = false := decide_eq_false (by omega)
        have hk5 : decide ((p : Int) + (k : Int) < 96) = false := decide_eq_false (by omega)
        have hk6 : decide ((k : Int) < 32) = true := decide_eq_true (by omega)
        have hk7 : decide (k < 32) = true := decide_eq_true hk3
        clear hlt
        cases t with
        | true =>
          have HC := AckRead_no (some ⟨g, 0, none⟩) c1 Y (by rw [HLY.out]; decide) (by rw [HLY.out]; exact hc1) HBY.out 4 (HS.out rfl) wr (by rw [HLY.out]; exact hHY)
          rw [HLY.out] at HC
          clear HS HY0 HBY HLY hHY
          go_wp2_with fail
          refine HC.mono ?_
          rintro e w3 ⟨rfl, b3⟩
          have bb3 := hbw.trans (b3.mono hbw.size)
          clear HC
          have HWK := ackWakes_any w3
          go_wp2_with (go_at_call 11; refine HWK.mono ?_; rintro e w99 ⟨rfl, b99⟩)
          go_ret
          exact ⟨rfl, bb3.trans (b99.mono bb3.size)⟩
        | false =>
          obtain rfl := HY0.out rfl
          have HC := AckRead_ok (some ⟨g, 0, none⟩) c1 (packA n b) (by rw [packA_len]; exact hc1) (packA_bd n b) (okA_pack h0 h1) wr (by rw [packA_len]; exact hHY)
          rw [packA_len] at HC
          clear HS HY0 HBY HLY hHY
          go_wp2_with fail
          refine HC.mono ?_
          rintro e w3 ⟨rfl, b3⟩
          have bb3 := hbw.trans (b3.mono hbw.size)
          clear HC
          have HWK := ackWakes_any w3
          go_wp2_with (go_at_call 11; refine HWK.mono ?_; rintro e w99 ⟨rfl, b99⟩)
          go_ret
          exact ⟨rfl, bb3.trans (b99.mono bb3.size)⟩
      · obtain rfl : k = 32 := by omega
        clear hlt
        cases t with
        | true =>
          have HC := AckRead_no (some ⟨g, 0, none⟩) c1 Y (by rw [HLY.out]; decide) (by rw [HLY.out]; exact hc1) HBY.out 4 (HS.out rfl) wr (by rw [HLY.out]; exact hHY)
          rw [HLY.out] at HC
          clear HS HY0 HBY HLY hHY
          go_wp2_with fail
          refine HC.mono ?_
          rintro e w3 ⟨rfl, b3⟩
          have bb3 := hbw.trans (b3.mono hbw.size)
          clear HC
          have HWK := ackWakes_any w3
          go_wp2_with (go_at_call 11; refine HWK.mono ?_; rintro e w99 ⟨rfl, b99⟩)
          go_ret
          exact ⟨rfl, bb3.trans (b99.mono bb3.size)⟩
        | false =>
          obtain rfl := HY0.out rfl
          have HC := AckRead_ok (some ⟨g, 0, none⟩) c1 (packA n b) (by rw [packA_len]; exact hc1) (packA_bd n b) (okA_pack h0 h1) wr (by rw [packA_len]; exact hHY)
          rw [packA_len] at HC
          clear HS HY0 HBY HLY hHY
          go_wp2_with fail
          refine HC.mono ?_
          rintro e w3 ⟨rfl, b3⟩
          have bb3 := hbw.trans (b3.mono hbw.size)
          clear HC
          have HWK := ackWakes_any w3
          go_wp2_with (go_at_call 11; refine HWK.mono ?_; rintro e w99 ⟨rfl, b99⟩)
          go_ret
          exact ⟨rfl, bb3.trans (b99.mono bb3.size)⟩

set_option maxRecDepth 100000 in
set_option maxHeartbeats 2000000 in
theorem ackCuts_long (n b : Int) (cut at_ : Int) (am : Option Addr) (nm capm : Nat) (bb : Nat) (h : (n < 0 ∨ 1073741824 < n) ∨ 100 < nm ∨ bb = 0) (w : World) :
    Calls Try.prog 5 #[.agg #[.int .i64 n, .int .u32 b], .int .i64 cut, .slice am nm capm, .int .i64 at_, .int .u32 bb] w fun e w' => e = .returned (.bool true) ∧ Below w.heap.size w w' := by
  have b0 : Below w.heap.size w (w.alloc (.cells #[.int .i64 n, .int .u32 b] 24)) := (Below.refl w.heap.size w).alloc (Nat.le_refl _) _
  by_cases h1 : n < 0
  · have d1 : decide (n < 0) = true := decide_eq_true h1
    clear h h1
    go_enter Try.func5, Try.ntmps5
    go_wp2
    go_ret
    exact ⟨rfl, b0⟩
  have d1 : decide (n < 0) = false := decide_eq_false h1
  by_cases h2 : 1073741824 < n
  · have d2 : decide (1073741824 < n) = true := decide_eq_true h2
    clear h h1 h2
    go_enter Try.func5, Try.ntmps5
    go_wp2
    go_ret
    exact ⟨rfl, b0⟩
  have d2 : decide (1073741824 < n) = false := decide_eq_false h2
  by_cases h3 : 100 < nm
  · have d3 : decide (100 < (nm : Int)) = true := decide_eq_true (by omega)
    have d3' : decide (100 < nm) = true := decide_eq_true h3
    clear h h1 h2 h3
    go_enter Try.func5, Try.ntmps5
    go_wp2
    go_ret
    exact ⟨rfl, b0⟩
  have d3 : decide (100 < (nm : Int)) = false := decide_eq_false (by omega)
  have d3' : decide (100 < nm) = false := decide_eq_false h3
  obtain rfl : bb = 0 := by omega
  have e0 : (((0 : Nat) : Int) == 0) = true := rfl
  clear h h1 h2 h3
  go_enter Try.func5, Try.ntmps5
  go_wp2
  go_ret
  exact ⟨rfl, b0⟩

/-- The law, of whatever ack, cut, bytes more, place, bits. -/
theorem ackCuts_walk (n b cut : Int) (am : Option Addr) (lenm capm : Nat) (zm : List Int) (at_ x4 : Int) (w : World) (hb : (Lit.int .u32 b).wf = true) (h2 : IsRow .u8 w am lenm capm zm) (h4 : (Lit.int .u32 x4).wf = true) :
    Calls Try.prog 5 #[.agg #[.int .i64 n, .int .u32 b], .int .i64 cut, .slice am lenm capm, .int .i64 at_, .int .u32 x4] w fun e w' => e = .returned (.bool true) ∧ Below w.heap.size w w' := by
  obtain ⟨ms, rfl, hm, bm⟩ := holds_of_isRow h2
  have hb := bounds_u32 hb
  have h4 := bounds_u32 h4
  obtain ⟨t, rfl⟩ := Int.eq_ofNat_of_zero_le h4.1
  by_cases h : (n < 0 ∨ 1073741824 < n) ∨ 100 < ms.length ∨ t = 0
  · exact ackCuts_long n b cut at_ am _ capm t h w
  by_cases h0 : 0 < ms.length
  · exact ackCuts_more n b (by omega) (by omega) hb.1 (by omega) cut at_ am capm ms (by omega) (bytes_bd bm) h0 t (by omega) (by omega) w hm
  · exact ackCuts_none n b (by omega) (by omega) hb.1 (by omega) cut at_ am capm ms (by omega) (bytes_bd bm) (by omega) t (by omega) (by omega) w

end Go.Proofs.Ytkhmcoeffaeppaa
