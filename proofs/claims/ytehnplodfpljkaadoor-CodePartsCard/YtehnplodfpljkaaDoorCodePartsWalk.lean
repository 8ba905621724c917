/-
  CodeParts: the walk: whatever the bytes and the cuts, the law answers true, and nothing that lay has turned.
-/
import Derived.Test.YtehnplodfpljkaaDoorCodeWakes
import Derived.Test.YtehnplodfpljkaaDoorKeepBytes
import Derived.Test.YtehnplodfpljkaaDoorPlaces
namespace Go.Proofs.YtehnplodfpljkaaDoor
open Go.RowKit

set_option maxRecDepth 100000 in
set_option maxHeartbeats 2000000 in
theorem codeParts_few (a : Option Addr) (n cap : Nat) (a' : Option Addr) (n' cap' : Nat) (w : World) (h : n < 1) :
    Calls Tryd.prog 4 #[.slice a n cap, .slice a' n' cap'] w fun e w' => e = .returned (.bool true) ∧ Below w.heap.size w w' := by
  have d0 : decide ((n : Int) < 1) = true := decide_eq_true (by omega)
  go_enter Tryd.func4, Tryd.ntmps4
  go_wp2
  go_ret
  exact ⟨rfl, Below.refl _ _⟩

set_option maxRecDepth 100000 in
set_option maxHeartbeats 2000000 in
theorem codeParts_many (a : Option Addr) (n cap : Nat) (a' : Option Addr) (n' cap' : Nat) (w : World) (h : 32 < n) :
    Calls Tryd.prog 4 #[.slice a n cap, .slice a' n' cap'] w fun e w' => e = .returned (.bool true) ∧ Below w.heap.size w w' := by
  have d0 : decide ((n : Int) < 1) = false := decide_eq_false (by omega)
  have d1 : decide (32 < (n : Int)) = true := decide_eq_true (by omega)
  go_enter Tryd.func4, Tryd.ntmps4
  go_wp2
  go_ret
  exact ⟨rfl, Below.refl _ _⟩

set_option maxRecDepth 100000 in
set_option maxHeartbeats 2000000 in
theorem codeParts_cuts (a : Option Addr) (n cap : Nat) (a' : Option Addr) (n' cap' : Nat) (w : World) (h1 : 1 ≤ n) (h : n ≤ 32) (hc : 20 < n') :
    Calls Tryd.prog 4 #[.slice a n cap, .slice a' n' cap'] w fun e w' => e = .returned (.bool true) ∧ Below w.heap.size w w' := by
  have d0 : decide ((n : Int) < 1) = false := decide_eq_false (by omega)
  have d1 : decide (32 < (n : Int)) = false := decide_eq_false (by omega)
  have d2 : decide (20 < (n' : Int)) = true := decide_eq_true (by omega)
  go_enter Tryd.func4, Tryd.ntmps4
  go_wp2
  go_ret
  exact ⟨rfl, Below.refl _ _⟩

/-- A part of a row of symbols in memory. -/
theorem holds_part {zs : List Int} {W : World} {b off T cr p m : Nat} (hr : Holds .u8 W.heap.size W (.slice (some ⟨b, off, none⟩) T cr) (codeL zs 0 T)) (h : p + m ≤ T) (c : Nat) (h0 : 0 < m) :
    Holds .u8 W.heap.size W (.slice (some ⟨b, off + p, none⟩) m c) (codeL zs p m) := by
  rcases hr with ⟨_, e⟩ | ⟨b', off', c', e, hb, hcs⟩
  · have := codeL_len zs 0 T; rw [e] at this; simp at this; omega
  · rw [codeL_len] at e
    cases e
    rw [codeL_len] at hcs
    refine .inr ⟨b, off + p, c, by rw [codeL_len], hb, fun j hj => ?_⟩
    rw [codeL_len] at hj
    have := hcs (p + j) (by omega)
    rw [codeL_get (by omega), Nat.zero_add] at this
    rw [codeL_get hj, Nat.add_assoc]
    exact this

set_option maxRecDepth 100000 in
set_option maxHeartbeats 4000000 in
theorem codeParts_in (a : Option Addr) (cap : Nat) (zs : List Int) (bz : ∀ z ∈ zs, 0 ≤ z ∧ z ≤ 255) (h1 : 1 ≤ zs.length) (h : zs.length ≤ 32) (a' : Option Addr) (cap' : Nat) (cs : List Int) (hc : cs.length ≤ 20) (w : World) (hF : Firsts w) (ha : Holds .u8 w.heap.size w (.slice a zs.length cap) zs) (hcs : Holds .i64 w.heap.size w (.slice a' cs.length cap') cs) :
    Calls Tryd.prog 4 #[.slice a zs.length cap, .slice a' cs.length cap'] w fun e w' => e = .returned (.bool true) ∧ Below w.heap.size w w' := by
  have d0 : decide ((zs.length : Int) < 1) = false := decide_eq_false (by omega)
  have d1 : decide (32 < (zs.length : Int)) = false := decide_eq_false (by omega)
  have d2 : decide (20 < (cs.length : Int)) = false := decide_eq_false (by omega)
  have HB : Hid (∀ z ∈ zs, 0 ≤ z ∧ z ≤ 255) := bz
  clear bz
  obtain ⟨T, hT⟩ : ∃ T, 2 * zs.length * 16 = T := ⟨_, rfl⟩
  have HM : Hid (2 * zs.length * 16 = T) := hT
  have HM2 : Hid (T = 32 * zs.length) := by
    show T = 32 * zs.length
    omega
  have hT1 : T ≤ 1024 := by omega
  have hT0 : 32 ≤ T := by omega
  clear hT
  go_enter Tryd.func4, Tryd.ntmps4
  go_wp2_with fail
  refine (most_any (2 * zs.length) (by omega) _).mono ?_
  rw [HM.out]
  rintro e w1 ⟨rfl, rfl⟩
  go_wp2_with fail
  refine (Encode_ok a zs.length cap zs rfl h1 h HB.out 0 T (by have := HM2.out; omega) w hF ha).mono ?_
  rintro e w1 ⟨r1, rfl, ⟨hr, ar, cr, rfl, hcr⟩, b1⟩
  have HL : Hid ((codeL zs 0 T).length = T) := codeL_len _ _ _
  rw [HL.out] at hr hcr ⊢
  have ha1 := ha.next b1
  have hF1 := hF.next b1
  have hcs1 := hcs.next b1
  obtain ⟨b, off, rfl⟩ : ∃ b off, ar = some ⟨b, off, none⟩ := by
    rcases hr with ⟨_, e⟩ | ⟨b, off, c', e, hb, _⟩
    · have := HL.out; rw [e] at this; simp at this; omega
    · rw [HL.out] at e; cases e; exact ⟨b, off, rfl⟩
  have n1 : ((T : Int) != (T : Int)) = false := by simp
  clear ha hcs
  go_wp2
  go_loopw [8, 9] (fun p i wr => ∃ (k P : Nat), k ≤ cs.length ∧ P ≤ T ∧ i = .int .i64 k ∧ p = .int .i64 P ∧ Below w1.heap.size w1 wr) (fun _ i _ => cs.length - (intOf i).toNat)
  case atStart => exact ⟨0, 0, Nat.zero_le _, Nat.zero_le _, rfl, rfl, Below.refl _ _⟩
  case round =>
    obtain ⟨k, P, hk, hP, rfl, rfl, hbw⟩ := hrel
    by_cases hlt : k < cs.length
    · obtain ⟨z, hzk⟩ : ∃ z, cs[k]? = some z := ⟨cs[k], by simp⟩
      have hcw := hcs1.next hbw
      rcases hcw with ⟨_, e⟩ | ⟨bc, offc, c', e, _, hcell⟩
      · rw [e] at hlt; exact absurd hlt (by simp)
      cases e
      have c1 : wr.cell? ⟨bc, offc + k, none⟩ = some (.int .i64 z) := (hcell k hlt).trans (by rw [hzk]; rfl)
      have ed : (T : Int) - (P : Int) + 1 = ((T - P + 1 : Nat) : Int) := by omega
      obtain ⟨D, hD⟩ : ∃ D, T - P + 1 = D := ⟨_, rfl⟩
      rw [hD] at ed
      have hDP : P + D = T + 1 := by omega
      have eu : IntKind.u64.wrap (D : Int) = (D : Int) := by rw [IntKind.wrap_u64]; omega
      obtain ⟨m, hm, em⟩ := at_place z (D : Int) (by omega)
      have ew : IntKind.i64.wrap (m : Int) = (m : Int) := by rw [IntKind.wrap_i64]; omega
      have hn0 : ¬ (D : Int) = 0 := by omega
      have HPM : Hid (P + m ≤ T) := by
        show P + m ≤ T
        omega
      have haw := ha1.next hbw
      have hrw := hr.next hbw
      obtain ⟨S, hS⟩ : ∃ S, P + m = S := ⟨_, rfl⟩
      have HS : Hid (P + m = S) := hS
      have e2 : (P : Int) + (m : Int) = (S : Int) := by omega
      have hpm1 : S ≤ T := by omega
      have hpm2 : S ≤ cr := by omega
      have hpm3 : P ≤ S := by omega
      have hms : S - P = m := by omega
      clear hS
      clear hcell hzk hD
      go_wp2_with fail
      refine (Encode_ok a zs.length cap zs rfl h1 h HB.out P m (by have := HM2.out; have := HPM.out; omega) wr (hF1.next hbw) haw).mono ?_
      rintro e w2 ⟨r2, rfl, ⟨hr2, ar2, cr2, rfl, _⟩, b2⟩
      have HL2 : Hid ((codeL zs P m).length = m) := codeL_len _ _ _
      rw [HL2.out] at hr2 ⊢
      have hr1 := hrw.next b2
      have nm : ((m : Int) != (m : Int)) = false := by simp
      clear haw hrw c1
      by_cases hcP : cr = P
      · have hm0 : m = 0 := by omega
        subst hm0
        have hcP' : (cr = P) = True := eq_true hcP
        clear hcP
        go_wp2_with fail
        refine (bytes_any _ _ (codeL zs P 0) [] _ w2.heap.size w2 (by simp) hr2 (.inl ⟨⟨_, _, rfl, fun e => by cases e⟩, rfl⟩)).mono ?_
        rw [show codeL zs P 0 = [] from rfl, decide_eq_true rfl]
        rintro e w3 ⟨rfl, q3, rfl⟩
        go_wp2
        refine ⟨⟨k + 1, P, by omega, hP, by go_num, by simp, below_drewN (hbw.trans (b2.mono hbw.size)) q3⟩, by simp [intOf]; omega⟩
      · by_cases hm0 : m = 0
        · subst hm0
          go_wp2_with fail
          refine (bytes_any _ _ (codeL zs P 0) [] _ w2.heap.size w2 (by simp) hr2 (.inl ⟨⟨_, _, rfl, fun e => by cases e⟩, rfl⟩)).mono ?_
          rw [show codeL zs P 0 = [] from rfl, decide_eq_true rfl]
          rintro e w3 ⟨rfl, q3, rfl⟩
          go_wp2
          refine ⟨⟨k + 1, P, by omega, hP, by go_num, by simp, below_drewN (hbw.trans (b2.mono hbw.size)) q3⟩, by simp [intOf]; omega⟩
        · have hpart := holds_part hr1 HPM.out (cr - P) (by omega)
          have HPL : Hid ((codeL zs P m).length ≤ 4611686018427387904) := by
            show (codeL zs P m).length ≤ _
            rw [HL2.out]; omega
          go_wp2_with fail
          refine (bytes_any _ _ (codeL zs P m) (codeL zs P m) _ _ w2 HPL.out hr2 hpart).mono ?_
          rw [decide_eq_true rfl]
          rintro e w3 ⟨rfl, q3, rfl⟩
          go_wp2
          refine ⟨⟨k + 1, S, by omega, hpm1, by go_num, rfl, below_drewN (hbw.trans (b2.mono hbw.size)) q3⟩, by simp [intOf]; omega⟩
    · obtain rfl : k = cs.length := by omega
      have haw := ha1.next hbw
      have bb1 := b1.trans (hbw.mono b1.size)
      clear ha1 hcs1 hr hlt
      go_wp2_with fail
      refine (Encode_ok a zs.length cap zs rfl h1 h HB.out P 0 (by have := HM2.out; omega) wr (hF1.next hbw) haw).mono ?_
      rintro e w2 ⟨r2, rfl, ⟨_, ar2, cr2, rfl, _⟩, b2⟩
      rw [show (codeL zs P 0).length = 0 from rfl]
      go_wp2_with fail
      refine (codeWakes_any _ ((hF1.next hbw).next b2)).mono ?_
      rintro e w5 ⟨rfl, b5⟩
      go_wp2
      go_ret
      have bb2 := bb1.trans (b2.mono bb1.size)
      exact ⟨rfl, bb2.trans (b5.mono bb2.size)⟩

/-- The law, of whatever bytes and cuts. -/
theorem codeParts_walk (a0 : Option Addr) (len0 cap0 : Nat) (z0 : List Int) (a1 : Option Addr) (len1 cap1 : Nat) (z1 : List Int) (w : World) (w0 : IsRow .u8 w a0 len0 cap0 z0) (w1 : IsRow .i64 w a1 len1 cap1 z1) (hF : Firsts w) :
    Calls Tryd.prog 4 #[.slice a0 len0 cap0, .slice a1 len1 cap1] w fun e w' => e = .returned (.bool true) ∧ Below w.heap.size w w' := by
  obtain ⟨xs, rfl, hx, bx⟩ := holds_of_isRow w0
  obtain ⟨ys, rfl, hy, _⟩ := holds_of_isRow w1
  by_cases h0 : xs.length < 1
  · exact codeParts_few a0 _ cap0 a1 _ cap1 w h0
  by_cases h1 : 32 < xs.length
  · exact codeParts_many a0 _ cap0 a1 _ cap1 w h1
  by_cases h2 : 20 < ys.length
  · exact codeParts_cuts a0 _ cap0 a1 _ cap1 w (by omega) (by omega) h2
  · exact codeParts_in a0 cap0 xs (bytes_bd bx) (by omega) (by omega) a1 cap1 ys (by omega) w hF hx hy

end Go.Proofs.YtehnplodfpljkaaDoor
