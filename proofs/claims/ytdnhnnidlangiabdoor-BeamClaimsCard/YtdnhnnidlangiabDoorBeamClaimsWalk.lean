/-
  BeamClaims: the walk: whatever the bytes, the turns and the numbers, the law answers true, and nothing that lay has turned.
-/
import Derived.Test.YtdnhnnidlangiabDoorBeamClaimNums
import Derived.Test.YtdnhnnidlangiabDoorLight12
namespace Go.Proofs.YtdnhnnidlangiabDoor
open Go.RowKit

theorem at_place16 (at_ d : Int) (hd : 0 < d) : ∃ p : Nat, (p : Int) < d ∧ (IntKind.u64.wrap at_).tmod d = (p : Int) := by
  have h0 : 0 ≤ IntKind.u64.wrap at_ := by rw [IntKind.wrap_u64]; omega
  have h1 := Int.tmod_nonneg d h0
  have h2 := Int.tmod_lt_of_pos (IntKind.u64.wrap at_) hd
  exact ⟨((IntKind.u64.wrap at_).tmod d).toNat, by omega, by omega⟩

set_option maxRecDepth 100000 in
theorem claim_and (a : Nat) (ha : a < 256) : bits .and .u8 (a : Int) 1 = ((a % 2 : Nat) : Int) := by
  have : ∀ b : Fin 256, bits .and .u8 ((b.val : Nat) : Int) 1 = ((b.val % 2 : Nat) : Int) := by decide
  exact this ⟨a, ha⟩
theorem claim_bit (t k : Nat) (ht : t < 256) : bits .and .u8 ((t : Int) / 2 ^ k) 1 = ((t.testBit k).toNat : Int) := by
  have hd : ((t : Int) / 2 ^ k) = ((t / 2 ^ k : Nat) : Int) := by simp
  have hle : t / 2 ^ k ≤ t := Nat.div_le_self _ _
  rw [hd, claim_and _ (by omega), Nat.toNat_testBit]
theorem claim_next (tt t k : Nat) (h : tt ≤ 1048576) (hk : k < 8) : Value.int .i64 (wrap64 ((tt : Int) + (pcTo k t : Int) + wrap64 ((t.testBit k).toNat : Int))) = Value.int .i64 ((tt + pcTo (k + 1) t : Nat) : Int) := by
  have h1 := pcTo_le k t
  have h2 := Bool.toNat_le (t.testBit k)
  rw [pcTo_succ]
  congr 1
  unfold wrap64
  omega

set_option maxRecDepth 100000 in
set_option maxHeartbeats 2000000 in
theorem beamClaims_few (a : Option Addr) (n cap : Nat) (x y : Int) (oa : Option Addr) (on oc : Nat) (u v : Int) (w : World) (h : n < 1 ∨ 4 < n ∨ 200 < on) :
    Calls Tryd.prog 6 #[.slice a n cap, .int .i64 x, .int .i64 y, .slice oa on oc, .int .i64 u, .int .i64 v] w fun e w' => e = .returned (.bool true) ∧ Below w.heap.size w w' := by
  by_cases h1 : n < 1
  · have d0 : decide ((n : Int) < 1) = true := decide_eq_true (by omega)
    clear h h1
    go_enter Tryd.func6, Tryd.ntmps6
    go_wp2
    go_ret
    exact ⟨rfl, Below.refl _ _⟩
  · have d0 : decide ((n : Int) < 1) = false := decide_eq_false (by omega)
    by_cases h2 : 4 < n
    · have d1 : decide (4 < (n : Int)) = true := decide_eq_true (by omega)
      clear h h1 h2
      go_enter Tryd.func6, Tryd.ntmps6
      go_wp2
      go_ret
      exact ⟨rfl, Below.refl _ _⟩
    · have d1 : decide (4 < (n : Int)) = false := decide_eq_false (by omega)
      have d2 : decide (200 < (on : Int)) = true := decide_eq_true (by omega)
      clear h h1 h2
      go_enter Tryd.func6, Tryd.ntmps6
      go_wp2
      go_ret
      exact ⟨rfl, Below.refl _ _⟩

set_option maxRecDepth 100000 in
set_option maxHeartbeats 4000000 in
theorem beamClaims_in (a : Option Addr) (cap : Nat) (zs : List Int) (bz : ∀ z ∈ zs, 0 ≤ z ∧ z ≤ 255) (h1 : 1 ≤ zs.length) (h8 : zs.length ≤ 4) (x y : Int) (ta : Option Addr) (tn tc : Nat) (ts : List Nat) (htl : ts.length = tn) (htn : tn ≤ 200) (bt : ∀ t ∈ ts, t < 256) (u v : Int) (w : World) (hF : Firsts w) (ha : Holds .u8 w.heap.size w (.slice a zs.length cap) zs) (hT : Holds .u8 w.heap.size w (.slice ta tn tc) (ts.map fun t : Nat => (t : Int))) :
    Calls Tryd.prog 6 #[.slice a zs.length cap, .int .i64 x, .int .i64 y, .slice ta tn tc, .int .i64 u, .int .i64 v] w fun e w' => e = .returned (.bool true) ∧ Below w.heap.size w w' := by
  have HA : Hid (Holds .u8 w.heap.size w (.slice a zs.length cap) zs) := ha
  have HTT : Hid (Holds .u8 w.heap.size w (.slice ta tn tc) (ts.map fun t : Nat => (t : Int))) := hT
  have HBT : Hid (∀ t ∈ ts, t < 256) := bt
  have HTL : Hid (ts.length = tn) := htl
  have HFW : Hid (Firsts w) := hF
  obtain ⟨L, hL⟩ : ∃ L, zs.length = L := ⟨_, rfl⟩
  have HZ : Hid (zs.length = L) := hL
  rw [hL] at HA h1 h8 ⊢
  obtain ⟨n, hn⟩ : ∃ n, 2 * L = n := ⟨_, rfl⟩
  have e2 : 2 * (L : Int) = (n : Int) := by omega
  obtain ⟨px, hpx, ex⟩ := at_place16 x 5 (by decide)
  obtain ⟨pu, hpu, eu⟩ := at_place16 u 4 (by decide)
  obtain ⟨D, hD, ev⟩ := at_place16 v 2 (by decide)
  have ewx : IntKind.i64.wrap (px : Int) = (px : Int) := by rw [IntKind.wrap_i64]; omega
  have ewu : IntKind.i64.wrap (pu : Int) = (pu : Int) := by rw [IntKind.wrap_i64]; omega
  have ewz : IntKind.i64.wrap (D : Int) = (D : Int) := by rw [IntKind.wrap_i64]; omega
  obtain ⟨P, hP⟩ : ∃ P, 1 + px = P := ⟨_, rfl⟩
  have eP : 1 + (px : Int) = (P : Int) := by omega
  obtain ⟨B, hB⟩ : ∃ B, 1 + pu = B := ⟨_, rfl⟩
  have eB : 1 + (pu : Int) = (B : Int) := by omega
  obtain ⟨D1, hD1⟩ : ∃ D1, D + 1 = D1 := ⟨_, rfl⟩
  have eD : 1 + (D : Int) = (D1 : Int) := by omega
  have hP1 : 1 ≤ P := by omega
  have hP4 : P ≤ 5 := by omega
  obtain ⟨Q, hQ⟩ : ∃ Q, n * P + 1 = Q := ⟨_, rfl⟩
  have hnP : n * P ≤ 40 := by
    have h9 : n * P ≤ 8 * 5 := Nat.mul_le_mul (by omega) hP4
    omega
  obtain ⟨T, hT⟩ : ∃ T, n * P = T := ⟨_, rfl⟩
  have eT : (n : Int) * (P : Int) = (T : Int) := by rw [← hT]; simp
  rw [hT] at hQ hnP
  have eQ : (T : Int) + 1 = (Q : Int) := by omega
  have ewQ : IntKind.u64.wrap (Q : Int) = (Q : Int) := by rw [IntKind.wrap_u64]; omega
  obtain ⟨C, hC, ey⟩ := at_place16 y (Q : Int) (by omega)
  have ewC : IntKind.i64.wrap (C : Int) = (C : Int) := by rw [IntKind.wrap_i64]; omega
  have hCT : C ≤ 2 * L * P := by rw [hn, hT]; omega
  have HLT := light_any (n : Int) (B : Int) (D1 : Int)
  have HH := heard_any a L cap zs HZ.out h1 (by omega) bz P C hP1 (by omega) hCT none 0 0 [] rfl (by decide) ta tn tc ts htl (by omega) bt w hF HA.out (flags_nil _ _) HTT.out
  have HOK : Hid (PileOk ((n : Nat) : Int) ((P : Nat) : Int) (heardL zs [] ts C)) := heardL_ok ⟨by omega, by omega, by omega, by omega⟩ bt (fun k => codeN_lt _ k) (by rw [eT]; omega)
  have HDE : Hid (∀ ps M, decB (walkB n (heardL zs [] ts C) B D n).1 (walkB n (heardL zs [] ts C) B D n).2 = some (ps, M) → Path ps ∧ ps.length = n ∧ metB n (heardL zs [] ts C) ps = M ∧ M ≤ (turnTo ts C : Int)) := fun ps M h => by
    have h9 := claim_told (zs := zs) (ts := ts) (C := C) (b := B) (D := D) (by rw [HZ.out]; exact h1) (by rw [HZ.out]; omega) bt (by omega) (ps := ps) (M := M) (by rw [HZ.out, hn]; exact h)
    rw [HZ.out, hn] at h9
    exact h9
  rw [hn] at HH
  have hB1 : 1 ≤ B := by omega
  have hB4 : B ≤ 4 := by omega
  have hD2 : D ≤ 1 := by omega
  have hn16 : n ≤ 8 := by omega
  have hC96 : C ≤ 40 := by omega
  have HD1 : Hid (D + 1 = D1) := hD1
  have d0 : decide ((L : Int) < 1) = false := decide_eq_false (by omega)
  have d1 : decide (4 < (L : Int)) = false := decide_eq_false (by omega)
  have d2 : decide (200 < (tn : Int)) = false := decide_eq_false (by omega)
  have d0' : decide (L < 1) = false := decide_eq_false (by omega)
  have d1' : decide (4 < L) = false := decide_eq_false (by omega)
  have d2' : decide (200 < tn) = false := decide_eq_false (by omega)
  clear ha bz hF hL hn hQ hB hD1 hC hpx hpu hD hP hT hCT htl bt
  go_enter Tryd.func6, Tryd.ntmps6
  go_wp2_with fail
  refine (HLT w).mono ?_
  rintro e wz ⟨he | he, rfl⟩
  case inr =>
    subst he
    go_wp2
    go_ret
    exact ⟨rfl, Below.refl _ _⟩
  subst he
  go_wp2_with fail
  refine HH.mono ?_
  rintro e w1 ⟨r, rfl, o1, b1⟩
  clear HH
  obtain ⟨ra, rc, e1⟩ := rowN_shape o1
  have hs1 := syms_of_row o1
  rw [e1] at hs1
  obtain ⟨ll, hll⟩ : ∃ ll, heardL zs [] ts C = ll := ⟨_, rfl⟩
  rw [hll] at hs1 HOK HDE e1
  obtain ⟨ln, hln⟩ : ∃ ln, ll.length = ln := ⟨_, rfl⟩
  have HLN : Hid (ll.length = ln) := hln
  have b2 : Below w1.heap.size w1 (w1.alloc (.cells #[.int .i64 (n : Int), .int .i64 (P : Int), .slice ra ln rc] 24)) := (Below.refl _ _).alloc (Nat.le_refl _) _
  have xp := Box.new w1 24 #[.int .i64 (n : Int), .int .i64 (P : Int), .slice ra ln rc]
  have bb2 := b1.trans (b2.mono b1.size)
  have HD := Decode_ok n P ra rc ll HOK.out B hB1 (by omega) D (by omega) (w1.alloc (.cells #[.int .i64 (n : Int), .int .i64 (P : Int), .slice ra ln rc] 24)) (hs1.next b2) (HFW.out.next bb2)
  rw [hln, HD1.out] at HD
  rw [hln] at e1
  have HSY : Hid (Syms (w1.alloc (.cells #[.int .i64 (n : Int), .int .i64 (P : Int), .slice ra ln rc] 24)).heap.size (w1.alloc (.cells #[.int .i64 (n : Int), .int .i64 (P : Int), .slice ra ln rc] 24)) (.slice ra ll.length rc) ll) := hs1.next b2
  subst e1
  clear hs1 o1 hll hln b1 b2
  go_wp2_with fail
  refine HD.mono ?_
  rintro e w3 ⟨he, b3⟩
  clear HD
  have bb3 := bb2.trans (b3.mono bb2.size)
  have HWK3 := beamWakes_any w3 (HFW.out.next bb3)
  rcases he with ⟨_, rfl⟩ | ⟨ps, M, hsm, qa, qc, rfl, hqc, hH⟩
  · clear HDE b3
    go_wp2_with (go_at_call 11; refine HWK3.mono ?_; rintro e w6 ⟨rfl, b6⟩)
    go_ret
    exact ⟨rfl, bb3.trans (b6.mono bb3.size)⟩
  clear HWK3
  obtain ⟨f1, f2, f3, f4⟩ := HDE.out ps M hsm
  have xp3 := xp.next b3
  have HS3 : Hid (Syms w3.heap.size w3 (.slice ra ll.length rc) ll) := HSY.out.next b3
  have HND := Node_ok n P ra rc ll HOK.out qa qc ps f1 (by omega) w3 HS3.out hH (HFW.out.next bb3)
  rw [f2, HLN.out, f3] at HND
  have hM0 : 0 ≤ M := by rw [← f3]; exact metB_pos _ _ _
  rw [f2]
  have HF4 : Hid (M ≤ (turnTo ts C : Int)) := f4
  have HTH : Hid (Holds .u8 w3.heap.size w3 (.slice ta tn tc) (ts.map fun t : Nat => (t : Int))) := HTT.out.next bb3
  have hTC := turnTo_le ts C
  clear HDE hsm f1 f2 f3 f4 hH hqc HSY xp b3 bb2 HTT
  go_wp2
  obtain ⟨E, hE⟩ : ∃ E, min C tn = E := ⟨_, rfl⟩
  go_loopw [18, 19] (fun sa sb wr => ∃ i : Nat, i ≤ E ∧ sb = .int .i64 i ∧ sa = .int .i64 ((turnTo ts i : Nat) : Int) ∧ w3 = wr) (fun _ i _ => E - (intOf i).toNat)
  case atStart => exact ⟨0, by omega, rfl, rfl, rfl⟩
  case round =>
    obtain ⟨i, hi, rfl, rfl, rfl⟩ := hrel
    by_cases hlt : i < E
    · have hiC : i < C := by omega
      have hit : i < tn := by omega
      have di : decide ((i : Int) < (C : Int)) = true := decide_eq_true (by omega)
      have di' : decide (i < C) = true := decide_eq_true hiC
      have dj : decide ((i : Int) < (tn : Int)) = true := decide_eq_true (by omega)
      have dj' : decide (i < tn) = true := decide_eq_true hit
      obtain ⟨t, ht⟩ : ∃ t, ts[i]? = some t := ⟨ts[i]'(by rw [HTL.out]; exact hit), by simp⟩
      have ht256 : t < 256 := HBT.out t (List.mem_of_getElem? ht)
      have HNX : Hid (turnTo ts (i + 1) = turnTo ts i + pcTo 8 t) := by
        show turnTo ts (i + 1) = turnTo ts i + pcTo 8 t
        rw [turnTo, ht]
        rfl
      have hTi := turnTo_le ts i
      obtain ⟨tb, tof, rfl, htb, htc⟩ := holds_at HTH.out (show (ts.map fun t : Nat => (t : Int)).length = tn by rw [List.length_map, HTL.out]) (by omega)
      have ct := htc i (t : Int) (by rw [List.getElem?_map, ht]; rfl)
      obtain ⟨tt, htt⟩ : ∃ tt, turnTo ts i = tt := ⟨_, rfl⟩
      rw [htt] at HNX hTi ⊢
      clear htc htt ht
      go_wp2
      go_loopw [18, 20] (fun sa sk wq => ∃ k : Nat, k ≤ 8 ∧ sk = .int .i64 k ∧ sa = .int .i64 ((tt + pcTo k t : Nat) : Int) ∧ w3 = wq) (fun _ k _ => 8 - (intOf k).toNat)
      case atStart => exact ⟨0, by omega, rfl, rfl, rfl⟩
      case round =>
        obtain ⟨k, hk, rfl, rfl, rfl⟩ := hrel
        have hpk := pcTo_le k t
        by_cases hk8 : k < 8
        · go_wp2
          refine ⟨⟨k + 1, by omega, by go_num, ?_, trivial⟩, by simp [intOf]; omega⟩
          rw [claim_bit t k ht256, claim_next tt t k (by omega) hk8]
        · obtain rfl : k = 8 := by omega
          go_wp2
          go_roundw
          case rel => exact ⟨i + 1, by omega, by go_num, by rw [HNX.out], trivial⟩
          case measure => simp [intOf]; omega
    · obtain rfl : i = E := by omega
      have ed : (decide (i < C) && decide (i < tn)) = false := by
        by_cases hc : i < C
        · have : ¬ i < tn := by omega
          simp [this]
        · simp [hc]
      have eTT : turnTo ts i = turnTo ts C := by
        by_cases hc : C ≤ tn
        · rw [show i = C by omega]
        · rw [show i = ts.length by rw [HTL.out]; omega, turnTo_stop (k := C) (by rw [HTL.out]; omega)]
      rw [eTT]
      obtain ⟨TT, hTT⟩ : ∃ TT, turnTo ts C = TT := ⟨_, rfl⟩
      have hMT := HF4.out
      rw [hTT] at hMT hTC ⊢
      have dMT : decide (M ≤ (TT : Int)) = true := decide_eq_true hMT
      have dMC : decide (M ≤ 8 * (C : Int)) = true := decide_eq_true (by omega)
      have dMM : (M == M) = true := by simp
      have dnn : ((n : Int) == (n : Int)) = true := by simp
      have HWA : Hid (∀ wx : World, Below w.heap.size w wx → Syms wx.heap.size wx (.slice ra ll.length rc) ll → Calls Tryd.prog 14 #[.agg #[.int .i64 n, .int .i64 P, .slice ra ln rc], .int .i64 (B : Int), .int .i64 (D1 : Int)] wx fun e W' => ∃ r c, e = .returned (.tuple #[r, .int .i64 c, .int .i64 0]) ∧ Below wx.heap.size wx W') := fun wx hb hs => by
        have h9 := Walk_ok n P ra rc ll HOK.out B hB1 (by omega) D (by omega) wx hs (HFW.out.next hb)
        rw [HLN.out, HD1.out] at h9
        refine h9.mono ?_
        rintro e W' ⟨r, rfl, _, hb'⟩
        exact ⟨r, _, rfl, hb'⟩
      clear eTT hTT hMT HTH
      by_cases hc : i < C
      · have di : decide ((i : Int) < (C : Int)) = true := decide_eq_true (by omega)
        have di' : decide (i < C) = true := decide_eq_true hc
        have dj : decide ((i : Int) < (tn : Int)) = false := decide_eq_false (by omega)
        have dj' : decide (i < tn) = false := decide_eq_false (by omega)
        clear hc ed
        have c0 := xp3.cell 0 _ rfl
        have c1 := xp3.cell 1 _ rfl
        have c2 := xp3.cell 2 _ rfl
        go_wp2_with fail
        refine HND.mono ?_
        rintro e w5 ⟨pa, pc, rfl, o5, b5⟩
        clear HND o5 c0 c1 c2
        have xn := Box.new w5 34 #[.int .u32 (staB n ll ps), .int .i64 M, .int .i64 0, .slice pa n pc]
        have b6 : Below w3.heap.size w3 (w5.alloc (.cells #[.int .u32 (staB n ll ps), .int .i64 M, .int .i64 0, .slice pa n pc] 34)) := b5.alloc b5.size _
        have bb6 := bb3.trans (b6.mono bb3.size)
        have x6 := xp3.next b6
        have c0 := x6.cell 0 _ rfl
        have c1 := x6.cell 1 _ rfl
        have c2 := x6.cell 2 _ rfl
        have HW6 := HWA.out _ bb6 (HS3.out.next b6)
        clear b5
        go_wp2_with fail
        refine HW6.mono ?_
        rintro e w7 ⟨r7, cu, rfl, b7⟩
        have bb7 := bb6.trans (b7.mono bb6.size)
        have xn7 := xn.next b7
        have x7 := x6.next b7
        have j1 := xn7.cell 1 _ rfl
        have j0 := x7.cell 0 _ rfl
        have HWK := beamWakes_any w7 (HFW.out.next bb7)
        clear HW6 b7 c0 c1 c2
        go_wp2_with (go_at_call 11; refine HWK.mono ?_; rintro e w8 ⟨rfl, b8⟩)
        go_ret
        exact ⟨rfl, bb7.trans (b8.mono bb7.size)⟩
      · have di : decide ((i : Int) < (C : Int)) = false := decide_eq_false (by omega)
        have di' : decide (i < C) = false := decide_eq_false hc
        clear hc ed
        have c0 := xp3.cell 0 _ rfl
        have c1 := xp3.cell 1 _ rfl
        have c2 := xp3.cell 2 _ rfl
        go_wp2_with fail
        refine HND.mono ?_
        rintro e w5 ⟨pa, pc, rfl, o5, b5⟩
        clear HND o5 c0 c1 c2
        have xn := Box.new w5 34 #[.int .u32 (staB n ll ps), .int .i64 M, .int .i64 0, .slice pa n pc]
        have b6 : Below w3.heap.size w3 (w5.alloc (.cells #[.int .u32 (staB n ll ps), .int .i64 M, .int .i64 0, .slice pa n pc] 34)) := b5.alloc b5.size _
        have bb6 := bb3.trans (b6.mono bb3.size)
        have x6 := xp3.next b6
        have c0 := x6.cell 0 _ rfl
        have c1 := x6.cell 1 _ rfl
        have c2 := x6.cell 2 _ rfl
        have HW6 := HWA.out _ bb6 (HS3.out.next b6)
        clear b5
        go_wp2_with fail
        refine HW6.mono ?_
        rintro e w7 ⟨r7, cu, rfl, b7⟩
        have bb7 := bb6.trans (b7.mono bb6.size)
        have xn7 := xn.next b7
        have x7 := x6.next b7
        have j1 := xn7.cell 1 _ rfl
        have j0 := x7.cell 0 _ rfl
        have HWK := beamWakes_any w7 (HFW.out.next bb7)
        clear HW6 b7 c0 c1 c2
        go_wp2_with (go_at_call 11; refine HWK.mono ?_; rintro e w8 ⟨rfl, b8⟩)
        go_ret
        exact ⟨rfl, bb7.trans (b8.mono bb7.size)⟩

/-- The law, of whatever bytes, turns and numbers. -/
theorem beamClaims_walk (a0 : Option Addr) (len0 cap0 : Nat) (z0 : List Int) (a1 a2 : Int) (a3 : Option Addr) (len3 cap3 : Nat) (z3 : List Int) (a4 a5 : Int) (w : World) (w0 : IsRow .u8 w a0 len0 cap0 z0) (w3 : IsRow .u8 w a3 len3 cap3 z3) (hF : Firsts w) :
    Calls Tryd.prog 6 #[.slice a0 len0 cap0, .int .i64 a1, .int .i64 a2, .slice a3 len3 cap3, .int .i64 a4, .int .i64 a5] w fun e w' => e = .returned (.bool true) ∧ Below w.heap.size w w' := by
  obtain ⟨zs, rfl, hz, bz⟩ := holds_of_isRow w0
  obtain ⟨xs, rfl, hx, bx⟩ := holds_of_isRow w3
  by_cases h0 : zs.length < 1 ∨ 4 < zs.length ∨ 200 < xs.length
  · exact beamClaims_few _ _ _ _ _ _ _ _ _ _ w h0
  · have bxx := bytes_bd bx
    have e : (xs.map Int.toNat).map (fun t : Nat => (t : Int)) = xs := by
      rw [List.map_map]
      refine (List.map_congr_left fun q hq => ?_).trans (List.map_id xs)
      have := bxx q hq
      show ((q.toNat : Nat) : Int) = q
      omega
    exact beamClaims_in _ _ zs (bytes_bd bz) (by omega) (by omega) _ _ _ _ _ (xs.map Int.toNat) (by simp) (by omega) (fun t ht => by obtain ⟨q, hq, rfl⟩ := List.mem_map.1 ht; have := bxx q hq; omega) _ _ w hF hz (by rw [e]; exact hx)

end Go.Proofs.YtdnhnnidlangiabDoor
