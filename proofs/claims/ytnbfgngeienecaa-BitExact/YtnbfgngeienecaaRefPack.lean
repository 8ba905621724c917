/-
  What the page's Pack answers, for every row of numbers.
-/
import Derived.Test.YtnbfgngeienecaaRefTogether
namespace Go.Proofs.Ytnbfgngeienecaa
open Go.RowKit

/-- A byte of the row, behind i bits. -/
def packTo (ls : List Int) (i q : Nat) : Int := joinW 1 ((ls.drop (8 * q)).take (min 8 (i - 8 * q)))

theorem packTo_same (ls : List Int) (i q : Nat) (h : q ≠ i / 8) : packTo ls (i + 1) q = packTo ls i q := by
  unfold packTo
  have e : min 8 (i + 1 - 8 * q) = min 8 (i - 8 * q) := by omega
  rw [e]

theorem packTo_step (ls : List Int) (i : Nat) (z : Int) (hz : ls[i]? = some z) : packTo ls (i + 1) (i / 8) = packTo ls i (i / 8) * 2 + z := by
  unfold packTo
  have e1 : min 8 (i + 1 - 8 * (i / 8)) = i % 8 + 1 := by omega
  have e2 : min 8 (i - 8 * (i / 8)) = i % 8 := by omega
  have e3 : 8 * (i / 8) + i % 8 = i := by omega
  rw [e1, e2, List.take_add_one, List.getElem?_drop, e3, hz]
  exact joinW_snoc 1 _ z

theorem packTo_bd (ls : List Int) (hz : ∀ z ∈ ls, 0 ≤ z ∧ z < 2) (i : Nat) : 0 ≤ packTo ls i (i / 8) ∧ packTo ls i (i / 8) ≤ 127 := by
  unfold packTo
  have e2 : min 8 (i - 8 * (i / 8)) = i % 8 := by omega
  rw [e2]
  have h := joinW_bd 1 2 rfl ls hz (8 * (i / 8)) (i % 8)
  have hp : (2 : Int) ^ (i % 8) ≤ 128 := by
    have hj : i % 8 < 8 := by omega
    generalize i % 8 = j at hj
    match j, hj with
    | 0, _ => decide
    | 1, _ => decide
    | 2, _ => decide
    | 3, _ => decide
    | 4, _ => decide
    | 5, _ => decide
    | 6, _ => decide
    | 7, _ => decide
  omega

theorem packTo_end (ls : List Int) (kk q : Nat) (hq : q < kk) : packTo ls (8 * kk) q = joinW 1 ((ls.drop (8 * q)).take 8) := by
  unfold packTo
  have e : min 8 (8 * kk - 8 * q) = 8 := by omega
  rw [e]

theorem wholesOf_get (wd c : Nat) (ls : List Int) (kk q : Nat) (hq : q < kk) : (wholesOf wd c ls kk)[q]?.getD 0 = joinW wd ((ls.drop (c * q)).take c) := by simp [wholesOf, hq]

theorem or_join_u8 (x z : Int) (h0 : 0 ≤ x) (h1 : x ≤ 127) (hz : 0 ≤ z) (hz' : z < 2) : bits .or .u8 (x * 2) z = x * 2 + z := by
  have e8 : (2 : Int) ^ 8 = 256 := by decide
  exact bits_join .u8 8 (by decide) wraps_u8 1 (x * 2) z (by omega) (by simp) (by rw [e8]; omega) hz (by simpa using hz') (by rw [e8]; omega)

set_option maxRecDepth 100000 in
set_option maxHeartbeats 1000000 in
theorem refPack_len (a : Option Addr) (len cap : Nat) (h : 32768 < len ∨ ¬ len % 8 = 0) (w : World) :
    Calls Try.prog 18 #[.slice a len cap] w fun e w' => e = .returned (.tuple #[.slice none 0 0, .int .i64 2]) ∧ w = w' := by
  by_cases g : 32768 < len
  · clear h
    go_enter Try.func18, Try.ntmps18
    go_wp2
    go_ret2
    exact ⟨rfl, rfl⟩
  · have g2 : (((len : Int) % 8) != 0) = true := by rw [bne_iff_ne]; omega
    clear h
    go_enter Try.func18, Try.ntmps18
    go_wp2
    go_ret2
    exact ⟨rfl, rfl⟩

set_option maxRecDepth 100000 in
set_option maxHeartbeats 1000000 in
theorem refPack_arg (a : Option Addr) (cap : Nat) (ls : List Int) (hl : ls.length ≤ 32768) (hc : ls.length % 8 = 0) (n₀ : Nat) (w : World) (hH : Holds .i64 n₀ w (.slice a ls.length cap) ls) (hbad : ¬ ∀ z ∈ ls, 0 ≤ z ∧ z < 2) :
    Calls Try.prog 18 #[.slice a ls.length cap] w fun e w' => e = .returned (.tuple #[.slice none 0 0, .int .i64 1]) ∧ w = w' := by
  have d1 : decide (32768 < (ls.length : Int)) = false := by simp; omega
  have d2 : (((ls.length : Int) % 8) != 0) = false := by rw [bne_eq_false_iff_eq]; omega
  have HB : Hid (¬ ∀ z ∈ ls, 0 ≤ z ∧ z ≤ 1) := fun h => hbad (fun z hz => by have := h z hz; omega)
  clear hc hbad
  go_enter Try.func18, Try.ntmps18
  go_wp2_with (go_at_call 34; refine (within_no _ _ ls 0 1 (by omega) _ _ hH HB.out).mono ?_; rintro e w' ⟨rfl, rfl⟩)
  go_ret2
  exact ⟨rfl, rfl⟩

set_option maxRecDepth 100000 in
set_option maxHeartbeats 2000000 in
theorem refPack_ok (a : Option Addr) (cap : Nat) (ls : List Int) (kk : Nat) (hkk : ls.length = 8 * kk) (hl : ls.length ≤ 32768) (hz : ∀ z ∈ ls, 0 ≤ z ∧ z < 2) (w : World) (hH : Holds .i64 w.heap.size w (.slice a ls.length cap) ls) :
    Calls Try.prog 18 #[.slice a ls.length cap] w fun e W' => ∃ r, e = .returned (.tuple #[r, .int .i64 0]) ∧ Holds .u8 W'.heap.size W' r (wholesOf 1 8 ls kk) ∧ Below w.heap.size w W' := by
  obtain ⟨i0, hi, hz0, hz1, hz2⟩ := info_parts infoU8
  have d1 : decide (32768 < (ls.length : Int)) = false := by simp; omega
  have d2 : (((ls.length : Int) % 8) != 0) = false := by rw [bne_eq_false_iff_eq]; omega
  have HB : Hid (∀ z ∈ ls, 0 ≤ z ∧ z ≤ 1) := fun z h => by have := hz z h; omega
  have HZ : Hid (∀ z ∈ ls, 0 ≤ z ∧ z < 2) := hz
  have ek : (ls.length : Int) / 8 = (kk : Int) := by omega
  have hk1 : 8 * kk ≤ ls.length := by omega
  have hk2 : ls.length ≤ 8 * kk := by omega
  have HKK : Hid (ls.length = 8 * kk) := hkk
  clear hkk hz
  go_enter Try.func18, Try.ntmps18
  go_wp2_with (first | (go_at_call 34; refine (within_yes _ _ ls 0 1 (by omega) _ _ hH HB.out).mono ?_; rintro e w' ⟨rfl, rfl⟩) | (at_make; refine wpList_make_full _ rfl _ _ 22 rfl w.heap.size 5 i0 (.int .u8 0) 1 Try.underlying22 hi hz0 hz1 .i64 .i64 _ _ kk rfl rfl rfl rfl (by rw [hz2]; omega) (by unfold maxLen; omega) (Nat.le_refl _) ?_; intro w1 hown1 hgrow1))
  have b1 : Below w.heap.size w w1 := (Below.refl _ w).grown hgrow1 (Nat.le_refl _) (fun k e => by cases e)
  have hs1 : w.heap.size < w1.heap.size := (hown1.lt w.heap.size rfl).2
  have hc1 : ∀ q, q < kk → w1.cell? ⟨w.heap.size, q, none⟩ = some (.int .u8 0) := fun q hq => by
    have := hown1.cells (g := w.heap.size) rfl q (.int .u8 0) (by rw [show (Value.int IntKind.u8 0).cells = #[.int .u8 0] from rfl, toList_madeCells_one]; simp [hq])
    rw [Addr.add_lit] at this
    simpa using this
  have hf1 : ∀ q, w1.frozen? ⟨w.heap.size, q, none⟩ = false := fun q => by
    rcases hown1.2 with ⟨e, _⟩ | ⟨g, c, cur, e, _, hg, _⟩
    · cases e
    · cases e; simp [World.frozen?, hg]
  clear hown1 hgrow1
  go_loopw [5] (fun i wr => ∃ k : Nat, k ≤ ls.length ∧ i = .int .i64 k ∧ (∀ q, q < kk → wr.cell? ⟨w.heap.size, q, none⟩ = some (.int .u8 (packTo ls k q))) ∧ (∀ q, wr.frozen? ⟨w.heap.size, q, none⟩ = false) ∧ Below w.heap.size w wr ∧ w.heap.size < wr.heap.size) (fun i _ => ls.length - (intOf i).toNat)
  case atStart => exact ⟨0, Nat.zero_le _, rfl, fun q hq => by rw [hc1 q hq]; simp [packTo, joinW], hf1, b1, hs1⟩
  case round =>
    obtain ⟨k, hk, rfl, hcq, hfq, hbw, hsw⟩ := hrel
    by_cases hlt : k < ls.length
    · obtain ⟨z, hzk⟩ : ∃ z, ls[k]? = some z := ⟨ls[k], by simp⟩
      have hzb := HZ.out z (List.mem_of_getElem? hzk)
      obtain ⟨hzb0, hzb1⟩ := hzb
      rcases hH with ⟨_, e⟩ | ⟨b, off, cap', e, hb, hcs⟩
      · rw [e] at hlt; exact absurd hlt (by simp)
      · cases e
        have c2 : wr.cell? ⟨b, off + k, none⟩ = some (.int .i64 z) := (hbw.cell (p := ⟨b, off + k, none⟩) hb).trans ((hcs k hlt).trans (by rw [hzk]; rfl))
        have hq : k / 8 < kk := by omega
        have c1 := hcq (k / 8) hq
        have f1 := hfq (k / 8)
        have hpb := packTo_bd ls HZ.out k
        have HC : Hid (∀ q, q < kk → (wr.setCell ⟨w.heap.size, k / 8, none⟩ (.int .u8 (packTo ls k (k / 8) * 2 + z))).cell? ⟨w.heap.size, q, none⟩ = some (.int .u8 (packTo ls (k + 1) q))) := fun q hq' => by
          by_cases hqe : q = k / 8
          · subst hqe
            rw [World.cell?_setCell_same' _ _ _ (by rw [hcq _ hq']; rfl), packTo_step ls k z hzk]
          · rw [World.cell?_setCell_other _ _ _ _ (by intro e; cases e; exact hqe rfl), hcq q hq', packTo_same ls k q hqe]
        have HF : Hid (∀ v q, (wr.setCell ⟨w.heap.size, k / 8, none⟩ v).frozen? ⟨w.heap.size, q, none⟩ = false) := fun v q => by rw [World.frozen?_setCell]; exact hfq q
        obtain ⟨x, hx⟩ : ∃ x, packTo ls k (k / 8) = x := ⟨_, rfl⟩
        rw [hx] at c1 hpb HC
        obtain ⟨hx0, hx1⟩ := hpb
        have hor := or_join_u8 x z hx0 hx1 hzb0 hzb1
        have ewz : IntKind.u8.wrap z = z := by rw [IntKind.wrap_u8]; omega
        have ewx : IntKind.u8.wrap (x * 2) = x * 2 := by rw [IntKind.wrap_u8]; omega
        have ewx' : x * 2 % 256 = x * 2 := by omega
        clear hcq hfq hc1 hf1 hcs hzk hx
        go_wp2
        go_region
        go_wp2
        go_roundw
        case rel => exact ⟨k + 1, by omega, by go_num, HC.out, HF.out _, (hbw.setCell (p := ⟨w.heap.size, k / 8, none⟩) (Nat.le_refl _) _).drew, by simp [World.setCell]; omega⟩
        case measure => simp [intOf]; omega
    · have hkl : k = 8 * kk := by omega
      have HC : Hid (∀ q, q < kk → wr.cell? ⟨w.heap.size, q, none⟩ = some (.int .u8 (packTo ls (8 * kk) q))) := by rw [hkl] at hcq; exact hcq
      clear hcq hfq hc1 hf1 hH hkl
      go_wp2
      go_ret2
      refine ⟨_, rfl, .inr ⟨w.heap.size, 0, kk, by rw [wholesOf_len]; rfl, hsw, fun q hq => ?_⟩, hbw⟩
      rw [wholesOf_len] at hq
      rw [Nat.zero_add, HC.out q hq, wholesOf_get 1 8 ls kk q hq, packTo_end ls kk q hq]

end Go.Proofs.Ytnbfgngeienecaa
