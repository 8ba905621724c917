/-
  AckBits: the walk: whatever the two numbers, the law answers true, and nothing that lay has turned. (Written by tpl_ackbits.py.)
-/
import Derived.Test.YtkhmcoeffaeppaaAckWakes
import Derived.Test.YtkhmcoeffaeppaaCrcBurstWalk
namespace Go.Proofs.Ytkhmcoeffaeppaa
open Go.RowKit

set_option maxRecDepth 100000 in
set_option maxHeartbeats 4000000 in
theorem ackBits_at (next : Int) (p b : Nat) (hp : p < 200) (et : (IntKind.u64.wrap next).tmod 200 = (p : Int)) (hb : b < 4294967296) (w : World) :
    Calls Try.prog 6 #[.int .i64 next, .int .u32 (b : Int)] w fun e w' => e = .returned (.bool true) ∧ Below w.heap.size w w' := by
  have bb : Below w.heap.size w (w.alloc (.cells #[.int .i64 (p : Int), .int .u32 (b : Int)] 24)) := (Below.refl w.heap.size w).alloc (Nat.le_refl _) _
  have xa := Box.new w 24 #[.int .i64 (p : Int), .int .u32 (b : Int)]
  go_enter Try.func6, Try.ntmps6
  go_wp2_with fail
  generalize w.alloc (.cells #[.int .i64 (p : Int), .int .u32 (b : Int)] 24) = W1 at *
  go_loopw [6, 7, 8] (fun c s _ wr => ∃ (k : Nat) (sq : Int) (cn : Nat), sq = (k : Int) - 3 ∧ k ≤ p + 43 ∧ cn ≤ k ∧ (sq ≤ (cn : Int) ∨ p ≤ cn) ∧ c = .int .i64 (cn : Int) ∧ s = .int .i64 sq ∧ Box wr w.heap.size 24 #[.int .i64 (p : Int), .int .u32 (b : Int)] ∧ Below w.heap.size w wr) (fun _ s _ _ => (p + 40 - intOf s).toNat)
  case atStart => exact ⟨0, -3, 0, by decide, by omega, by omega, .inl (by decide), rfl, rfl, xa, bb⟩
  case round =>
    obtain ⟨k, sq, cn, hsq, hk, hck, hc, rfl, rfl, hx, hbw⟩ := hrel
    clear xa bb
    by_cases hlt : k < p + 43
    · have dlt : decide (sq < (p : Int) + 40) = true := decide_eq_true (by omega)
      by_cases h0 : sq < 0
      · have e1 : decide (0 ≤ sq) = false := decide_eq_false (by omega)
        have e2 : decide ((p : Int) ≤ sq) = false := decide_eq_false (by omega)
        have HC := AckHas_any (p : Int) b sq (by omega) (by omega) hb wr
        rw [show hasA (p : Int) b sq = false from hasA_neg h0] at HC
        have c0 := hx.cell 0 _ rfl
        have c1 := hx.cell 1 _ rfl
        have hm : ((p : Int) + 40 - (sq + 1)).toNat < ((p : Int) + 40 - sq).toNat := by omega
        have HREL : Hid (sq + 1 = ((k + 1 : Nat) : Int) - 3 ∧ k + 1 ≤ p + 43 ∧ cn ≤ k + 1 ∧ (sq + 1 ≤ ((cn : Nat) : Int) ∨ p ≤ cn)) := ⟨by omega, by omega, by omega, by omega⟩
        have ew : IntKind.i64.wrap (sq + 1) = sq + 1 := by rw [IntKind.wrap_i64]; omega
        have ewc : wrap64 ((cn : Int) + 1) = (cn : Int) + 1 := by unfold wrap64; omega
        have HM : Hid _ := hm
        clear hm hc hsq hck
        go_wp2_with fail
        refine HC.mono ?_
        rintro e w2 ⟨rfl, b2⟩
        have hx2 := hx.next b2
        have bb2 := hbw.trans (b2.mono hbw.size)
        clear HC c0 c1 hx hbw b2
        go_wp2
        go_roundw
        case rel => exact ⟨k + 1, sq + 1, cn, HREL.out.1, HREL.out.2.1, HREL.out.2.2.1, HREL.out.2.2.2, by go_num, by go_num, hx2, bb2⟩
        case measure => simpa [intOf] using HM.out
      have e1 : decide (0 ≤ sq) = true := decide_eq_true (by omega)
      by_cases h1 : sq < (p : Int)
      · have e2 : decide (sq < (p : Int)) = true := decide_eq_true h1
        have HC := AckHas_any (p : Int) b sq (by omega) (by omega) hb wr
        rw [show hasA (p : Int) b sq = true from hasA_low (by omega) h1] at HC
        have c0 := hx.cell 0 _ rfl
        have c1 := hx.cell 1 _ rfl
        have hm : ((p : Int) + 40 - (sq + 1)).toNat < ((p : Int) + 40 - sq).toNat := by omega
        have HREL : Hid (sq + 1 = ((k + 1 : Nat) : Int) - 3 ∧ k + 1 ≤ p + 43 ∧ cn + 1 ≤ k + 1 ∧ (sq + 1 ≤ ((cn + 1 : Nat) : Int) ∨ p ≤ cn + 1)) := ⟨by omega, by omega, by omega, by omega⟩
        have ew : IntKind.i64.wrap (sq + 1) = sq + 1 := by rw [IntKind.wrap_i64]; omega
        have ewc : wrap64 ((cn : Int) + 1) = (cn : Int) + 1 := by unfold wrap64; omega
        have HM : Hid _ := hm
        clear hm hc hsq hck
        go_wp2_with fail
        refine HC.mono ?_
        rintro e w2 ⟨rfl, b2⟩
        have hx2 := hx.next b2
        have bb2 := hbw.trans (b2.mono hbw.size)
        clear HC c0 c1 hx hbw b2
        go_wp2
        go_roundw
        case rel => exact ⟨k + 1, sq + 1, cn + 1, HREL.out.1, HREL.out.2.1, HREL.out.2.2.1, HREL.out.2.2.2, by go_num, by go_num, hx2, bb2⟩
        case measure => simpa [intOf] using HM.out
      have e2 : decide (sq < (p : Int)) = false := decide_eq_false h1
      have e3 : decide ((p : Int) ≤ sq) = true := decide_eq_true (by omega)
      by_cases h2 : sq < (p : Int) + 32
      · have e4 : decide (sq < (p : Int) + 32) = true := decide_eq_true h2
        obtain ⟨i, hi⟩ : ∃ i : Nat, sq = (p : Int) + i := ⟨(sq - p).toNat, by omega⟩
        have hi32 : i < 32 := by omega
        have es : sq - (p : Int) = (i : Int) := by omega
        have hle : b / 2 ^ i ≤ b := Nat.div_le_self _ _
        have ed : (b : Int) / 2 ^ i = ((b / 2 ^ i : Nat) : Int) := by simp
        have ea : bits .and .u32 ((b / 2 ^ i : Nat) : Int) 1 = ((b / 2 ^ i % 2 : Nat) : Int) := zu32_and1 _ (by omega)
        have hbit : hasA (p : Int) b sq = (b / 2 ^ i % 2 == 1) := by rw [hi]; exact hasA_bit (by omega) hi32
        obtain ⟨D, hD⟩ : ∃ D, b / 2 ^ i = D := ⟨_, rfl⟩
        rw [hD] at ed ea hle hbit
        rcases Nat.mod_two_eq_zero_or_one D with hz | hz
        · rw [hz] at ea hbit
          clear hD hi
          have HC := AckHas_any (p : Int) b sq (by omega) (by omega) hb wr
          rw [show hasA (p : Int) b sq = false from hbit] at HC
          have c0 := hx.cell 0 _ rfl
          have c1 := hx.cell 1 _ rfl
          have hm : ((p : Int) + 40 - (sq + 1)).toNat < ((p : Int) + 40 - sq).toNat := by omega
          have HREL : Hid (sq + 1 = ((k + 1 : Nat) : Int) - 3 ∧ k + 1 ≤ p + 43 ∧ cn ≤ k + 1 ∧ (sq + 1 ≤ ((cn : Nat) : Int) ∨ p ≤ cn)) := ⟨by omega, by omega, by omega, by omega⟩
          have ew : IntKind.i64.wrap (sq + 1) = sq + 1 := by rw [IntKind.wrap_i64]; omega
          have ewc : wrap64 ((cn : Int) + 1) = (cn : Int) + 1 := by unfold wrap64; omega
          have HM : Hid _ := hm
          clear hm hc hsq hck hbit hz
          go_wp2_with fail
          refine HC.mono ?_
          rintro e w2 ⟨rfl, b2⟩
          have hx2 := hx.next b2
          have bb2 := hbw.trans (b2.mono hbw.size)
          clear HC c0 c1 hx hbw b2
          go_wp2
          go_roundw
          case rel => exact ⟨k + 1, sq + 1, cn, HREL.out.1, HREL.out.2.1, HREL.out.2.2.1, HREL.out.2.2.2, by go_num, by go_num, hx2, bb2⟩
          case measure => simpa [intOf] using HM.out
        · rw [hz] at ea hbit
          clear hD hi
          have HC := AckHas_any (p : Int) b sq (by omega) (by omega) hb wr
          rw [show hasA (p : Int) b sq = true from hbit] at HC
          have c0 := hx.cell 0 _ rfl
          have c1 := hx.cell 1 _ rfl
          have hm : ((p : Int) + 40 - (sq + 1)).toNat < ((p : Int) + 40 - sq).toNat := by omega
          have HREL : Hid (sq + 1 = ((k + 1 : Nat) : Int) - 3 ∧ k + 1 ≤ p + 43 ∧ cn + 1 ≤ k + 1 ∧ (sq + 1 ≤ ((cn + 1 : Nat) : Int) ∨ p ≤ cn + 1)) := ⟨by omega, by omega, by omega, by omega⟩
          have ew : IntKind.i64.wrap (sq + 1) = sq + 1 := by rw [IntKind.wrap_i64]; omega
          have ewc : wrap64 ((cn : Int) + 1) = (cn : Int) + 1 := by unfold wrap64; omega
          have HM : Hid _ := hm
          clear hm hc hsq hck hbit hz
          go_wp2_with fail
          refine HC.mono ?_
          rintro e w2 ⟨rfl, b2⟩
          have hx2 := hx.next b2
          have bb2 := hbw.trans (b2.mono hbw.size)
          clear HC c0 c1 hx hbw b2
          go_wp2
          go_roundw
          case rel => exact ⟨k + 1, sq + 1, cn + 1, HREL.out.1, HREL.out.2.1, HREL.out.2.2.1, HREL.out.2.2.2, by go_num, by go_num, hx2, bb2⟩
          case measure => simpa [intOf] using HM.out
      have e4 : decide (sq < (p : Int) + 32) = false := decide_eq_false h2
      have HC := AckHas_any (p : Int) b sq (by omega) (by omega) hb wr
      rw [show hasA (p : Int) b sq = false from hasA_far (by omega) h1 (by omega)] at HC
      have c0 := hx.cell 0 _ rfl
      have c1 := hx.cell 1 _ rfl
      have hm : ((p : Int) + 40 - (sq + 1)).toNat < ((p : Int) + 40 - sq).toNat := by omega
      have HREL : Hid (sq + 1 = ((k + 1 : Nat) : Int) - 3 ∧ k + 1 ≤ p + 43 ∧ cn ≤ k + 1 ∧ (sq + 1 ≤ ((cn : Nat) : Int) ∨ p ≤ cn)) := ⟨by omega, by omega, by omega, by omega⟩
      have ew : IntKind.i64.wrap (sq + 1) = sq + 1 := by rw [IntKind.wrap_i64]; omega
      have ewc : wrap64 ((cn : Int) + 1) = (cn : Int) + 1 := by unfold wrap64; omega
      have HM : Hid _ := hm
      clear hm hc hsq hck
      go_wp2_with fail
      refine HC.mono ?_
      rintro e w2 ⟨rfl, b2⟩
      have hx2 := hx.next b2
      have bb2 := hbw.trans (b2.mono hbw.size)
      clear HC c0 c1 hx hbw b2
      go_wp2
      go_roundw
      case rel => exact ⟨k + 1, sq + 1, cn, HREL.out.1, HREL.out.2.1, HREL.out.2.2.1, HREL.out.2.2.2, by go_num, by go_num, hx2, bb2⟩
      case measure => simpa [intOf] using HM.out
    · have dlt : decide (sq < (p : Int) + 40) = false := decide_eq_false (by omega)
      have dge : decide ((p : Int) ≤ (cn : Int)) = true := decide_eq_true (by omega)
      have dge' : decide (p ≤ cn) = true := decide_eq_true (by omega)
      have HWK := ackWakes_any wr
      clear hlt hc hsq hk
      go_wp2_with (go_at_call 11; refine HWK.mono ?_; rintro e w99 ⟨rfl, b99⟩)
      go_ret
      exact ⟨rfl, hbw.trans (b99.mono hbw.size)⟩

/-- The law, of whatever numbers. -/
theorem ackBits_walk (next b : Int) (w : World) (h2 : (Lit.int .u32 b).wf = true) :
    Calls Try.prog 6 #[.int .i64 next, .int .u32 b] w fun e w' => e = .returned (.bool true) ∧ Below w.heap.size w w' := by
  have h2 := bounds_u32 h2
  obtain ⟨b, rfl⟩ := Int.eq_ofNat_of_zero_le h2.1
  obtain ⟨p, hp, et⟩ := at_place next 200 (by decide)
  exact ackBits_at next p b (by omega) et (by omega) w

end Go.Proofs.Ytkhmcoeffaeppaa
