/-
  CrcBurst: the walk: whatever the text, the place, the bits, the law answers true, and nothing that lay has turned.
-/
import Derived.Test.YtplobmkfmflkaaaCrcWakes
import Derived.Test.YtplobmkfmflkaaaCrcSealed
import Derived.Test.YtplobmkfmflkaaaCrcBits
import Derived.RegionTactic
import Derived.BigRegion
namespace Go.Proofs.Ytplobmkfmflkaaa
open Go.RowKit

theorem at_place (at_ d : Int) (hd : 0 < d) : ∃ p : Nat, (p : Int) < d ∧ (IntKind.u64.wrap at_).tmod d = (p : Int) := by
  have h0 : 0 ≤ IntKind.u64.wrap at_ := by rw [IntKind.wrap_u64]; omega
  have h1 := Int.tmod_nonneg d h0
  have h2 := Int.tmod_lt_of_pos (IntKind.u64.wrap at_) hd
  exact ⟨((IntKind.u64.wrap at_).tmod d).toNat, by omega, by omega⟩

/-- A row that is not empty lies at a block of its own. -/
theorem own_block {W : World} {base n : Nat} {e : TypeId} {v : Value} {xs : List Value} (h : W.ownsRow base e 1 v n xs) (h0 : 0 < n) : ∃ g cap, v = .slice (some ⟨g, 0, none⟩) n cap ∧ base ≤ g ∧ g < W.heap.size := by
  rcases h.2 with ⟨_, e0⟩ | ⟨g, c, cur, e, hb, hg, _⟩
  · omega
  · exact ⟨g, c, e, hb, (Array.getElem?_eq_some_iff.1 hg).1⟩

/-- The lowest 32 bits of a number, the lowest first. -/
def bits32 (b : Nat) : List Nat := (List.range 32).map fun i => b / 2 ^ i % 2
theorem bits32_len (b : Nat) : (bits32 b).length = 32 := by simp [bits32]
theorem bits32_get (b i : Nat) (hi : i < 32) : (bits32 b)[i]? = some (b / 2 ^ i % 2) := by simp [bits32, hi]
theorem bits32_01 (b : Nat) : Bits01 (bits32 b) := fun x hx => by
  obtain ⟨i, _, rfl⟩ := List.mem_map.1 hx
  exact Nat.mod_lt _ (by decide)

set_option maxRecDepth 100000 in
set_option maxHeartbeats 4000000 in
theorem crcBurst_short (a : Option Addr) (cap : Nat) (xs : List Int) (hl : xs.length ≤ 300) (bx : ∀ z ∈ xs, 0 ≤ z ∧ z ≤ 255) (at_ : Int) (bb : Nat) (hb0 : bb ≠ 0) (hb : bb < 4294967296) (w : World) (ha : Holds .u8 w.heap.size w (.slice a xs.length cap) xs) :
    Calls Try.prog 6 #[.slice a xs.length cap, .int .i64 at_, .int .u32 bb] w fun e w' => e = .returned (.bool true) ∧ Below w.heap.size w w' := by
  have HBX : Hid (∀ z ∈ xs, 0 ≤ z ∧ z ≤ 255) := bx
  have eb0 : ((bb : Int) == 0) = false := by rw [beq_eq_false_iff_ne]; omega
  obtain ⟨p, hp, et⟩ := at_place at_ (8 * ((xs.length : Int) + 4)) (by omega)
  have hn0 : ¬ 8 * ((xs.length : Int) + 4) = 0 := by omega
  clear bx
  go_enter Try.func6, Try.ntmps6
  go_wp2_with fail
  refine (Seal_any a cap xs (by omega) HBX.out w ha).mono ?_
  rintro e w1 ⟨r1, rfl, o1, b1⟩
  obtain ⟨g, c1, rfl, hg, hg'⟩ := own_block o1 (by omega)
  have hc1 := row_cap o1
  have hR1 : BRow w1 g (sealL xs) := .of_own o1
  have HT0 : Hid (Turned (sealL xs) p (bits32 bb) 0 (sealL xs)) := Turned.start (sealL_bd HBX.out) (by rw [sealL_len]; omega)
  have eq4 : ((xs.length : Int) + 4 != (xs.length : Int) + 4) = false := by simp
  clear o1 ha
  go_wp2_with fail
  go_loopw [10, 11] (fun t i wr => ∃ k : Nat, k ≤ 32 ∧ p + k ≤ 8 * (xs.length + 4) ∧ i = .int .i64 k ∧ t = .bool (anyBit (bits32 bb) k) ∧ Below w.heap.size w wr ∧ ∃ Y, BRow wr g Y ∧ Hid (Turned (sealL xs) p (bits32 bb) k Y)) (fun _ i _ => 32 - (intOf i).toNat)
  case atStart => exact ⟨0, by omega, by omega, rfl, rfl, b1, _, hR1, HT0⟩
  case round =>
    clear HT0 hR1 b1 hg'
    obtain ⟨k, hk, hpk, rfl, rfl, hbw, Y, hR, HT⟩ := hrel
    by_cases hlt : k < 32 ∧ p + k < 8 * (xs.length + 4)
    · obtain ⟨hk1, hk2⟩ := hlt
      have hLY : Y.length = xs.length + 4 := HT.out.1.trans (sealL_len xs)
      have hq : (p + k) / 8 < xs.length + 4 := by omega
      obtain ⟨x, hx, hx2⟩ : ∃ x : Nat, Y[(p + k) / 8]? = some (x : Int) ∧ x < 256 := by
        have hlt' : (p + k) / 8 < Y.length := by omega
        have := HT.out.2.1 _ (List.getElem_mem hlt')
        exact ⟨Y[(p + k) / 8].toNat, by rw [List.getElem?_eq_getElem hlt']; congr 1; omega, by omega⟩
      have hbk := bits32_get bb k hk1
      have hnk : p + k < 8 * (sealL xs).length := by rw [sealL_len]; exact hk2
      have hle : bb / 2 ^ k ≤ bb := Nat.div_le_self _ _
      have ed : (bb : Int) / 2 ^ k = ((bb / 2 ^ k : Nat) : Int) := by simp
      have ea : bits .and .u32 ((bb / 2 ^ k : Nat) : Int) 1 = ((bb / 2 ^ k % 2 : Nat) : Int) := zu32_and1 _ (by omega)
      have h01 : bb / 2 ^ k % 2 = 0 ∨ bb / 2 ^ k % 2 = 1 := by omega
      obtain ⟨d, hd⟩ : ∃ d, bb / 2 ^ k = d := ⟨_, rfl⟩
      rw [hd] at ed ea hbk h01 hle
      have HA : Hid _ := anyBit_next hbk
      rcases h01 with h0 | h1
      · rw [h0] at ea hbk HA
        have HT' : Hid (Turned (sealL xs) p (bits32 bb) (k + 1) Y) := HT.out.same hbk hnk
        have HA' : Hid (anyBit (bits32 bb) (k + 1) = anyBit (bits32 bb) k) := HA.out.trans (by simp)
        obtain ⟨t, ht⟩ : ∃ t, anyBit (bits32 bb) k = t := ⟨_, rfl⟩
        rw [ht] at HA' ⊢
        clear HA HT hbk hd h0 ht hx hLY hnk
        go_wp2
        go_roundw
        case rel => exact ⟨k + 1, by omega, by omega, by go_num, by rw [HA'.out], hbw, Y, hR, HT'⟩
        case measure => simp [intOf]; omega
      · rw [h1] at ea hbk HA
        have HT' : Hid (Turned (sealL xs) p (bits32 bb) (k + 1) (Y.set ((p + k) / 8) ((x ^^^ 2 ^ ((p + k) % 8) : Nat) : Int))) := HT.out.turn hbk hnk hx
        have HA' : Hid (anyBit (bits32 bb) (k + 1) = true) := HA.out.trans (by simp)
        have c1 := hR.cell hx
        have f1 := hR.2.2 ((p + k) / 8)
        have HR' := hR.set ((p + k) / 8) (by omega) ((x ^^^ 2 ^ ((p + k) % 8) : Nat) : Int)
        obtain ⟨t, ht⟩ : ∃ t, anyBit (bits32 bb) k = t := ⟨_, rfl⟩
        rw [ht]
        clear HA HT hbk hd h1 ht hx hLY hnk
        have e8 : ((2 : Int) ^ ((p + k) % 8)) % 256 = ((2 ^ ((p + k) % 8) : Nat) : Int) := by
          have h8 : (p + k) % 8 < 8 := Nat.mod_lt _ (by decide)
          generalize (p + k) % 8 = r at h8
          match r, h8 with
          | 0, _ => rfl
          | 1, _ => rfl
          | 2, _ => rfl
          | 3, _ => rfl
          | 4, _ => rfl
          | 5, _ => rfl
          | 6, _ => rfl
          | 7, _ => rfl
        have h8' : 2 ^ ((p + k) % 8) < 256 := Nat.pow_lt_pow_right (n := 8) (by omega) (Nat.mod_lt _ (by decide))
        have eu : Hid (bits .xor .u8 (x : Int) ((2 : Int) ^ ((p + k) % 8) % 256) = ((x ^^^ 2 ^ ((p + k) % 8) : Nat) : Int)) := by
          show bits .xor .u8 (x : Int) ((2 : Int) ^ ((p + k) % 8) % 256) = _
          rw [e8]; exact zu8_xor x _ hx2 h8'
        have HRB : Hid (Below w.heap.size w (wr.setCell ⟨g, (p + k) / 8, none⟩ (.int .u8 ((x ^^^ 2 ^ ((p + k) % 8) : Nat) : Int)))) := hbw.setCell (p := ⟨g, (p + k) / 8, none⟩) hg _
        have HRR : Hid _ := HR'
        clear e8 h8' HR' hR hbw
        go_wp2
        refine ⟨⟨k + 1, by omega, by omega, by go_num, by rw [HA'.out], ?_, ?_⟩, by simp [intOf]; omega⟩
        · rw [eu.out]; exact HRB.out
        · rw [eu.out]; exact ⟨_, HRR.out, HT'⟩
    · have hLY : Y.length = xs.length + 4 := HT.out.1.trans (sealL_len xs)
      have HBY : Hid (∀ z ∈ Y, 0 ≤ z ∧ z ≤ 255) := HT.out.2.1
      have HS : Hid (isSealed Y = !anyBit (bits32 bb) k) := HT.out.end (bits32_01 bb) (by rw [bits32_len]; omega) hk (by rw [sealL_len]; omega)
      obtain ⟨t, ht⟩ : ∃ t, anyBit (bits32 bb) k = t := ⟨_, rfl⟩
      rw [ht] at HS ⊢
      have hHY : Holds .u8 wr.heap.size wr (.slice (some ⟨g, 0, none⟩) (xs.length + 4) c1) Y := by have := hR.holds hR.1 c1; rwa [hLY] at this
      have HLY : Hid (Y.length = xs.length + 4) := hLY
      have ex : ((!t) != t) = true := by cases t <;> rfl
      clear hLY HT ht hR
      by_cases hk3 : k < 32
      · have hk4 : p + k = 8 * (xs.length + 4) := by omega
        have hk5 : ¬ (p : Int) + (k : Int) < 8 * ((xs.length : Int) + 4) := by omega
        clear hlt
        go_wp2_with fail
        refine (Sealed_at _ (xs.length + 4) c1 Y HLY.out (by omega) hc1 HBY.out wr hHY).mono ?_
        rw [HS.out]
        rintro e w3 ⟨rfl, b3⟩
        go_wp2_with fail
        refine (wakes_any _).mono ?_
        rintro e w11 ⟨rfl, hw⟩
        go_wp2
        go_ret
        have bb5 := hbw.trans (b3.mono hbw.size)
        exact ⟨rfl, bb5.trans (hw.mono bb5.size)⟩
      · obtain rfl : k = 32 := by omega
        clear hlt
        go_wp2_with fail
        refine (Sealed_at _ (xs.length + 4) c1 Y HLY.out (by omega) hc1 HBY.out wr hHY).mono ?_
        rw [HS.out]
        rintro e w3 ⟨rfl, b3⟩
        go_wp2_with fail
        refine (wakes_any _).mono ?_
        rintro e w11 ⟨rfl, hw⟩
        go_wp2
        go_ret
        have bb5 := hbw.trans (b3.mono hbw.size)
        exact ⟨rfl, bb5.trans (hw.mono bb5.size)⟩

set_option maxRecDepth 100000 in
set_option maxHeartbeats 2000000 in
theorem crcBurst_long (a : Option Addr) (n cap : Nat) (at_ : Int) (bb : Nat) (w : World) (h : 300 < n ∨ bb = 0) :
    Calls Try.prog 6 #[.slice a n cap, .int .i64 at_, .int .u32 bb] w fun e w' => e = .returned (.bool true) ∧ Below w.heap.size w w' := by
  by_cases h3 : 300 < n
  · clear h
    go_enter Try.func6, Try.ntmps6
    go_wp2
    go_ret
    exact ⟨rfl, Below.refl _ _⟩
  · obtain rfl : bb = 0 := by omega
    have e0 : (((0 : Nat) : Int) == 0) = true := rfl
    clear h
    go_enter Try.func6, Try.ntmps6
    go_wp2
    go_ret
    exact ⟨rfl, Below.refl _ _⟩

/-- The law, of whatever text, place, bits. -/
theorem crcBurst_walk (a0 : Option Addr) (len0 cap0 : Nat) (z0 : List Int) (x1 x2 : Int) (w : World) (w0 : IsRow .u8 w a0 len0 cap0 z0) (h2 : (Lit.int .u32 x2).wf = true) :
    Calls Try.prog 6 #[.slice a0 len0 cap0, .int .i64 x1, .int .u32 x2] w fun e w' => e = .returned (.bool true) ∧ Below w.heap.size w w' := by
  obtain ⟨xs, rfl, hx, bx⟩ := holds_of_isRow w0
  have h2 := bounds_u32 h2
  obtain ⟨b, rfl⟩ := Int.eq_ofNat_of_zero_le h2.1
  by_cases h : 300 < xs.length ∨ b = 0
  · exact crcBurst_long a0 _ cap0 x1 b w h
  · exact crcBurst_short a0 cap0 xs (by omega) (bytes_bd bx) x1 b (by omega) (by omega) w hx

end Go.Proofs.Ytplobmkfmflkaaa
