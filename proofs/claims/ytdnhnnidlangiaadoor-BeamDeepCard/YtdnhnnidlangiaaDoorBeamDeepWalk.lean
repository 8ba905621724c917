/-
  BeamDeep: the walk: whatever the byte, the turns and the numbers, the law answers true, and nothing that lay has turned. (Written by tpl_beamwhole.py.)
-/
import Derived.Test.YtdnhnnidlangiaaDoorBeamWholeNums
import Derived.Test.YtdnhnnidlangiaaDoorBeamFourWalk
namespace Go.Proofs.YtdnhnnidlangiaaDoor
open Go.RowKit

set_option maxRecDepth 100000 in
set_option maxHeartbeats 2000000 in
theorem beamDeep_few (x y z : Int) (ta : Option Addr) (tn tc : Nat) (u : Int) (w : World) (h : 60 < tn) :
    Calls Tryd.prog 8 #[.int .u8 x, .int .i64 y, .int .i64 z, .slice ta tn tc, .int .i64 u] w fun e w' => e = .returned (.bool true) ∧ Below w.heap.size w w' := by
  have d0 : decide (60 < (tn : Int)) = true := decide_eq_true (by omega)
  go_enter Tryd.func8, Tryd.ntmps8
  go_wp2
  go_ret
  exact ⟨rfl, Below.refl _ _⟩

set_option maxRecDepth 100000 in
set_option maxHeartbeats 4000000 in
theorem beamDeep_in (x : Int) (hx0 : 0 ≤ x) (hx1 : x ≤ 255) (y z : Int) (ta : Option Addr) (tn tc : Nat) (ts : List Nat) (htl : ts.length = tn) (htn : tn ≤ 60) (bt : ∀ t ∈ ts, t < 256) (u : Int) (w : World) (hF : Firsts w) (hT : Holds .u8 w.heap.size w (.slice ta tn tc) (ts.map fun t : Nat => (t : Int))) :
    Calls Tryd.prog 8 #[.int .u8 x, .int .i64 y, .int .i64 z, .slice ta tn tc, .int .i64 u] w fun e w' => e = .returned (.bool true) ∧ Below w.heap.size w w' := by
  have HFW : Hid (Firsts w) := hF
  obtain ⟨py, hpy, ey⟩ := at_place12 y 4 (by decide)
  obtain ⟨pu, hpu, eu⟩ := at_place12 u 3 (by decide)
  have ewy : IntKind.i64.wrap (py : Int) = (py : Int) := by rw [IntKind.wrap_i64]; omega
  have ewu : IntKind.i64.wrap (pu : Int) = (pu : Int) := by rw [IntKind.wrap_i64]; omega
  obtain ⟨P, hP⟩ : ∃ P, 1 + py = P := ⟨_, rfl⟩
  have eP : 1 + (py : Int) = (P : Int) := by omega
  obtain ⟨U, hU⟩ : ∃ U, pu + 1 = U := ⟨_, rfl⟩
  have eU : 1 + (pu : Int) = (U : Int) := by omega
  obtain ⟨Q, hQ⟩ : ∃ Q, 2 * P + 1 = Q := ⟨_, rfl⟩
  have eQ : 2 * (P : Int) + 1 = (Q : Int) := by omega
  have ewQ : IntKind.u64.wrap (Q : Int) = (Q : Int) := by rw [IntKind.wrap_u64]; omega
  obtain ⟨C, hC, ez⟩ := at_place12 z (Q : Int) (by omega)
  have ewC : IntKind.i64.wrap (C : Int) = (C : Int) := by rw [IntKind.wrap_i64]; omega
  have b0 : Below w.heap.size w (w.alloc (.cells #[.int .u8 x] 5)) := (Below.refl w.heap.size w).alloc (Nat.le_refl _) _
  have h0 := held_new .u8 w [x] 1 5 (0, 0)
  have HH := heard_any (some ⟨w.heap.size, 0, none⟩) 1 1 [x] rfl (by decide) (by decide) (fun z hz => by simp at hz; subst hz; exact ⟨hx0, hx1⟩) P C (by omega) (by omega) (by omega) none 0 0 [] rfl (by decide) ta tn tc ts htl (by omega) bt (w.alloc (.cells #[.int .u8 x] 5)) (hF.next b0) h0 (flags_nil _ _) ((hT.below b0).mono b0.size)
  have HOK : Hid (PileOk ((2 : Nat) : Int) ((P : Nat) : Int) (heardL [x] [] ts C)) := heardL_ok ⟨by decide, by decide, by omega, by omega⟩ bt (fun k => codeN_lt _ k) (by omega)
  have hP1 : 1 ≤ P := by omega
  have hP4 : P ≤ 4 := by omega
  have hU1 : 1 ≤ U := by omega
  have hU4 : U ≤ 3 := by omega
  have hC9 : C ≤ 8 := by omega
  have hpu9 : pu < 3 := by omega
  have HU : Hid (pu + 1 = U) := hU
  have d0 : decide (60 < (tn : Int)) = false := decide_eq_false (by omega)
  have d0' : decide (60 < tn) = false := decide_eq_false (by omega)
  obtain ⟨ll, hll⟩ : ∃ ll, heardL [x] [] ts C = ll := ⟨_, rfl⟩
  rw [hll] at HH HOK
  obtain ⟨ln, hln⟩ : ∃ ln, ll.length = ln := ⟨_, rfl⟩
  have HLN : Hid (ll.length = ln) := hln
  clear hT hF hP hU hQ hC hpy hpu h0 hll hln htl bt
  go_enter Tryd.func8, Tryd.ntmps8
  go_wp2_with fail
  refine HH.mono ?_
  rintro e w1 ⟨r, rfl, o1, b1⟩
  clear HH
  have bb1 := b0.trans (b1.mono (by simp))
  obtain ⟨ra, rc, e1⟩ := rowN_shape o1
  have hs1 := syms_of_row o1
  rw [HLN.out] at e1
  subst e1
  have b2 : Below w1.heap.size w1 (w1.alloc (.cells #[.int .i64 2, .int .i64 (P : Int), .slice ra ln rc] 24)) := (Below.refl _ _).alloc (Nat.le_refl _) _
  have xp := Box.new w1 24 #[.int .i64 2, .int .i64 (P : Int), .slice ra ln rc]
  have bb2 := bb1.trans (b2.mono bb1.size)
  have hs2 := hs1.next b2
  obtain ⟨S, hS⟩ : ∃ S, scanN (metF ll) 256 = S := ⟨_, rfl⟩
  have HSC : Hid (scanN (metF ll) 256 = S) := hS
  clear hS b1 b2 o1 hs1
  go_wp2
  obtain ⟨W3, hW3⟩ : ∃ W, w1.alloc (.cells #[.int .i64 2, .int .i64 (P : Int), .slice ra ln rc] 24) = W := ⟨_, rfl⟩
  rw [hW3] at xp bb2 hs2 ⊢
  clear hW3
  go_loopw [13, 14, 16, 15] (fun sa sb sc sd wr => ∃ k : Nat, k ≤ 256 ∧ sc = .int .i64 k ∧ sa = .int .i64 (scanN (metF ll) k).1 ∧ sb = .int .i64 ((scanN (metF ll) k).2.1 : Int) ∧ sd = .int .i64 ((scanN (metF ll) k).2.2 : Int) ∧ Below W3.heap.size W3 wr) (fun _ _ i _ _ => 256 - (intOf i).toNat)
  case atStart => exact ⟨0, by omega, rfl, rfl, rfl, rfl, Below.refl _ _⟩
  case round =>
    obtain ⟨k, hk, rfl, rfl, rfl, rfl, bw⟩ := hrel
    have xr := xp.next bw
    have hsr := hs2.next bw
    have bbw := bb2.trans (bw.mono bb2.size)
    have c0 := xr.cell 0 _ rfl
    have c1 := xr.cell 1 _ rfl
    have c2 := xr.cell 2 _ rfl
    by_cases hlt : k < 256
    · have hpb : Path (pth k) := pth_path hlt
      obtain ⟨qk, hqk⟩ : ∃ qk, k / 16 = qk := ⟨_, rfl⟩
      obtain ⟨rk, hrk⟩ : ∃ rk, k % 16 = rk := ⟨_, rfl⟩
      have epth : pth k = [(qk : Int), (rk : Int)] := by unfold pth; rw [hqk, hrk]
      have eq1 : (k : Int).tdiv 16 = (qk : Int) := by rw [Int.tdiv_eq_ediv_of_nonneg (by omega), ← hqk]; simp
      have eq2 : (k : Int).tmod 16 = (rk : Int) := by rw [Int.tmod_eq_emod_of_nonneg (by omega), ← hrk]; simp
      have ewq : IntKind.i64.wrap (qk : Int) = (qk : Int) := by rw [IntKind.wrap_i64]; omega
      have ewr : IntKind.i64.wrap (rk : Int) = (rk : Int) := by rw [IntKind.wrap_i64]; omega
      have b4 : Below wr.heap.size wr (wr.alloc (.cells #[.int .i64 (qk : Int), .int .i64 (rk : Int)] 3)) := (Below.refl _ _).alloc (Nat.le_refl _) _
      have h4 := held_new .i64 wr [(qk : Int), (rk : Int)] 2 3 (0, 0)
      have HND := Node_ok 2 (P : Int) ra rc ll HOK.out (some ⟨wr.heap.size, 0, none⟩) 2 (pth k) hpb (by rw [pth_len]; exact Nat.le_refl _) (wr.alloc (.cells #[.int .i64 (qk : Int), .int .i64 (rk : Int)] 3)) ((by rw [HLN.out]; exact hsr) |> fun h : Syms wr.heap.size wr (.slice ra ll.length rc) ll => h.next b4) (by rw [epth]; exact h4) ((HFW.out.next bbw).next b4)
      rw [pth_len, HLN.out] at HND
      have hM0 : 0 ≤ metF ll k := metF_pos ll k
      obtain ⟨St, hSt⟩ : ∃ St, staB 2 ll (pth k) = St := ⟨_, rfl⟩
      obtain ⟨M, hM⟩ : ∃ M, metF ll k = M := ⟨_, rfl⟩
      have hM' : metB 2 ll (pth k) = M := by rw [← hM]; rfl
      rw [hSt, hM'] at HND
      rw [hM] at hM0
      have HLE : Hid (∀ (h : (scanN (metF ll) k).1 < 0 ∨ M < (scanN (metF ll) k).1), scanN (metF ll) (k + 1) = (M, 1, k)) := fun h => by
        have := scanN_less (f := metF ll) (k := k) (by rw [hM]; exact h)
        rw [hM] at this
        exact this
      have HEQ : Hid (∀ (h : ¬ ((scanN (metF ll) k).1 < 0 ∨ M < (scanN (metF ll) k).1)) (e : M = (scanN (metF ll) k).1), scanN (metF ll) (k + 1) = ((scanN (metF ll) k).1, (scanN (metF ll) k).2.1 + 1, (scanN (metF ll) k).2.2)) := fun h e => scanN_same (f := metF ll) (k := k) (by rw [hM]; exact h) (by rw [hM]; exact e)
      have HMO : Hid (∀ (h : ¬ ((scanN (metF ll) k).1 < 0 ∨ M < (scanN (metF ll) k).1)) (e : ¬ M = (scanN (metF ll) k).1), scanN (metF ll) (k + 1) = scanN (metF ll) k) := fun h e => scanN_more (f := metF ll) (k := k) (by rw [hM]; exact h) (by rw [hM]; exact e)
      have hmak : (scanN (metF ll) k).2.1 ≤ k := by
        by_cases hk0 : k = 0
        · subst hk0; exact Nat.le_refl _
        · exact (scanN_spec (metF_pos ll) k (by omega)).2.2.2.2.2.2
      obtain ⟨Sk, hSk⟩ : ∃ Sk, scanN (metF ll) k = Sk := ⟨_, rfl⟩
      rw [hSk] at HLE HEQ HMO hmak ⊢
      obtain ⟨le, ma, be⟩ := Sk
      dsimp only at HLE HEQ HMO hmak ⊢
      clear hqk hrk hSt hM hM' hSk h4 hpb epth
      by_cases hl0 : le < 0
      · have dl0 : decide (le < 0) = true := decide_eq_true hl0
        have HNX : Hid (scanN (metF ll) (k + 1) = (M, 1, k)) := HLE.out (.inl hl0)
        have dmm : (M == M) = true := by simp
        clear hl0 HLE HEQ HMO
        go_wp2_with fail
        refine HND.mono ?_
        rintro e w5 ⟨qa, qc, rfl, o5, b5⟩
        clear HND o5
        have xn := Box.new w5 32 #[.int .u32 St, .int .i64 M, .int .i64 0, .slice qa 2 qc]
        have hb6 : Below W3.heap.size W3 (w5.alloc (.cells #[.int .u32 St, .int .i64 M, .int .i64 0, .slice qa 2 qc] 32)) := ((bw.trans (b4.mono bw.size)).trans (b5.mono (Nat.le_trans bw.size b4.size))).alloc (Nat.le_trans bw.size (Nat.le_trans b4.size b5.size)) _
        have k1 := xn.cell 1 _ rfl
        go_wp2
        go_roundw
        case rel => exact ⟨k + 1, hlt, by go_num, by rw [HNX.out], by first | (rw [HNX.out]; done) | (rw [HNX.out]; rfl) | (rw [HNX.out]; go_num), by first | (rw [HNX.out]; done) | (rw [HNX.out]; rfl) | (rw [HNX.out]; go_num), hb6⟩
        case measure => simp [intOf]; omega
      · have dl0 : decide (le < 0) = false := decide_eq_false hl0
        by_cases hl1 : M < le
        · have dl1 : decide (M < le) = true := decide_eq_true hl1
          have HNX : Hid (scanN (metF ll) (k + 1) = (M, 1, k)) := HLE.out (.inr hl1)
          have dmm : (M == M) = true := by simp
          clear hl0 hl1 HLE HEQ HMO
          go_wp2_with fail
          refine HND.mono ?_
          rintro e w5 ⟨qa, qc, rfl, o5, b5⟩
          clear HND o5
          have xn := Box.new w5 32 #[.int .u32 St, .int .i64 M, .int .i64 0, .slice qa 2 qc]
          have hb6 : Below W3.heap.size W3 (w5.alloc (.cells #[.int .u32 St, .int .i64 M, .int .i64 0, .slice qa 2 qc] 32)) := ((bw.trans (b4.mono bw.size)).trans (b5.mono (Nat.le_trans bw.size b4.size))).alloc (Nat.le_trans bw.size (Nat.le_trans b4.size b5.size)) _
          have k1 := xn.cell 1 _ rfl
          go_wp2
          go_roundw
          case rel => exact ⟨k + 1, hlt, by go_num, by rw [HNX.out], by first | (rw [HNX.out]; done) | (rw [HNX.out]; rfl) | (rw [HNX.out]; go_num), by first | (rw [HNX.out]; done) | (rw [HNX.out]; rfl) | (rw [HNX.out]; go_num), hb6⟩
          case measure => simp [intOf]; omega
        · have dl1 : decide (M < le) = false := decide_eq_false hl1
          by_cases hl2 : M = le
          · have dmm : (M == le) = true := by simp [hl2]
            have HNX : Hid (scanN (metF ll) (k + 1) = (le, ma + 1, be)) := HEQ.out (by omega) hl2
            clear hl0 hl1 hl2 HLE HEQ HMO
            go_wp2_with fail
            refine HND.mono ?_
            rintro e w5 ⟨qa, qc, rfl, o5, b5⟩
            clear HND o5
            have xn := Box.new w5 32 #[.int .u32 St, .int .i64 M, .int .i64 0, .slice qa 2 qc]
            have hb6 : Below W3.heap.size W3 (w5.alloc (.cells #[.int .u32 St, .int .i64 M, .int .i64 0, .slice qa 2 qc] 32)) := ((bw.trans (b4.mono bw.size)).trans (b5.mono (Nat.le_trans bw.size b4.size))).alloc (Nat.le_trans bw.size (Nat.le_trans b4.size b5.size)) _
            have k1 := xn.cell 1 _ rfl
            go_wp2
            go_roundw
            case rel => exact ⟨k + 1, hlt, by go_num, by rw [HNX.out], by first | (rw [HNX.out]; done) | (rw [HNX.out]; rfl) | (rw [HNX.out]; go_num), by first | (rw [HNX.out]; done) | (rw [HNX.out]; rfl) | (rw [HNX.out]; go_num), hb6⟩
            case measure => simp [intOf]; omega
          · have dmm : (M == le) = false := by rw [beq_eq_false_iff_ne]; exact hl2
            have HNX : Hid (scanN (metF ll) (k + 1) = (le, ma, be)) := HMO.out (by omega) hl2
            clear hl0 hl1 hl2 HLE HEQ HMO
            go_wp2_with fail
            refine HND.mono ?_
            rintro e w5 ⟨qa, qc, rfl, o5, b5⟩
            clear HND o5
            have xn := Box.new w5 32 #[.int .u32 St, .int .i64 M, .int .i64 0, .slice qa 2 qc]
            have hb6 : Below W3.heap.size W3 (w5.alloc (.cells #[.int .u32 St, .int .i64 M, .int .i64 0, .slice qa 2 qc] 32)) := ((bw.trans (b4.mono bw.size)).trans (b5.mono (Nat.le_trans bw.size b4.size))).alloc (Nat.le_trans bw.size (Nat.le_trans b4.size b5.size)) _
            have k1 := xn.cell 1 _ rfl
            go_wp2
            go_roundw
            case rel => exact ⟨k + 1, hlt, by go_num, by rw [HNX.out], by first | (rw [HNX.out]; done) | (rw [HNX.out]; rfl) | (rw [HNX.out]; go_num), by first | (rw [HNX.out]; done) | (rw [HNX.out]; rfl) | (rw [HNX.out]; go_num), hb6⟩
            case measure => simp [intOf]; omega
    · obtain rfl : k = 256 := by omega
      rw [HSC.out]
      obtain ⟨_, _, _, s4, _, _, s7⟩ := scanN_spec (metF_pos ll) 256 (by decide)
      rw [HSC.out] at s4 s7
      have HDE := Decode_ok 2 (P : Int) ra rc ll HOK.out U hU1 (by omega) 1 (by decide) wr (by rw [HLN.out]; exact hsr) (HFW.out.next bbw)
      have HTI : Hid (1 < S.2.1 → decB (walkB 2 ll U 1 2).1 (walkB 2 ll U 1 2).2 = none) := fun h => two_tie hU1 HSC.out h
      have HCL : Hid (S.2.1 = 1 → decB (walkB 2 ll U 1 2).1 (walkB 2 ll U 1 2).2 = some (pth S.2.2, S.1)) := fun h => deep_clear hU1 HSC.out h
      rw [HLN.out] at HDE
      obtain ⟨oz, hoz⟩ : ∃ oz, decB (walkB 2 ll U 1 2).1 (walkB 2 ll U 1 2).2 = oz := ⟨_, rfl⟩
      rw [hoz] at HDE HTI HCL
      obtain ⟨_, s2, _⟩ := scanN_spec (metF_pos ll) 256 (by decide)
      rw [HSC.out] at s2
      obtain ⟨le, ma, be⟩ := S
      dsimp only at s2 s4 s7 HTI HCL ⊢
      clear hoz
      by_cases hma : 1 < ma
      · have dma : decide (1 < (ma : Int)) = true := decide_eq_true (by omega)
        have dma' : decide (1 < ma) = true := decide_eq_true hma
        obtain rfl := HTI.out hma
        clear hma HTI HCL
        go_wp2_with fail
        refine HDE.mono ?_
        rintro e w7 ⟨he, b7⟩
        clear HDE
        have bb7 := bbw.trans (b7.mono bbw.size)
        have HWK := beamWakes_any w7 (HFW.out.next bb7)
        rcases he with ⟨_, rfl⟩ | ⟨ps, M, hsm, _⟩
        · go_wp2_with (go_at_call 24; refine HWK.mono ?_; rintro e w8 ⟨rfl, b8⟩)
          go_ret
          exact ⟨rfl, bb7.trans (b8.mono bb7.size)⟩
        · cases hsm
      · have dma : decide (1 < (ma : Int)) = false := decide_eq_false (by omega)
        have dma' : decide (1 < ma) = false := decide_eq_false hma
        obtain rfl := HCL.out (by omega)
        clear hma HTI HCL
        go_wp2_with fail
        refine HDE.mono ?_
        rintro e w7 ⟨he, b7⟩
        clear HDE
        have bb7 := bbw.trans (b7.mono bbw.size)
        have HWK := beamWakes_any w7 (HFW.out.next bb7)
        rcases he with ⟨hno, _⟩ | ⟨ps, M, hsm, qa, qc, rfl, hqc, hH⟩
        · cases hno
        cases hsm
        have dll : (le == le) = true := by simp
        obtain ⟨qb, hqb⟩ : ∃ qb, be / 16 = qb := ⟨_, rfl⟩
        obtain ⟨rb, hrb⟩ : ∃ rb, be % 16 = rb := ⟨_, rfl⟩
        have epth : pth be = [(qb : Int), (rb : Int)] := by unfold pth; rw [hqb, hrb]
        have eq1 : (be : Int).tdiv 16 = (qb : Int) := by rw [Int.tdiv_eq_ediv_of_nonneg (by omega), ← hqb]; simp
        have eq2 : (be : Int).tmod 16 = (rb : Int) := by rw [Int.tmod_eq_emod_of_nonneg (by omega), ← hrb]; simp
        have ewq : IntKind.i64.wrap (qb : Int) = (qb : Int) := by rw [IntKind.wrap_i64]; omega
        have ewr : IntKind.i64.wrap (rb : Int) = (rb : Int) := by rw [IntKind.wrap_i64]; omega
        rw [epth] at hH
        rw [pth_len]
        obtain ⟨xb, xo, rfl, _, hxc⟩ := holds_at hH (n := 2) rfl (by decide)
        have y0 := hxc 0 _ rfl
        have y1 := hxc 1 _ rfl
        rw [Nat.add_zero] at y0
        have dq : ((qb : Int) == (qb : Int)) = true := by simp
        have dr : ((rb : Int) == (rb : Int)) = true := by simp
        clear hH hxc hqb hrb epth hqc
        go_wp2_with (go_at_call 24; refine HWK.mono ?_; rintro e w8 ⟨rfl, b8⟩)
        go_ret
        exact ⟨rfl, bb7.trans (b8.mono bb7.size)⟩

/-- The law, of whatever byte, turns and numbers. -/
theorem beamDeep_walk (a0 a1 a2 : Int) (a3 : Option Addr) (len3 cap3 : Nat) (z3 : List Int) (a4 : Int) (w : World) (w0 : (Lit.int .u8 a0).wf = true) (w3 : IsRow .u8 w a3 len3 cap3 z3) (hF : Firsts w) :
    Calls Tryd.prog 8 #[.int .u8 a0, .int .i64 a1, .int .i64 a2, .slice a3 len3 cap3, .int .i64 a4] w fun e w' => e = .returned (.bool true) ∧ Below w.heap.size w w' := by
  obtain ⟨xs, rfl, hx, bx⟩ := holds_of_isRow w3
  have h8 := bounds_u8 w0
  by_cases h0 : 60 < xs.length
  · exact beamDeep_few _ _ _ _ _ _ _ w h0
  · have bxx := bytes_bd bx
    have e : (xs.map Int.toNat).map (fun t : Nat => (t : Int)) = xs := by
      rw [List.map_map]
      refine (List.map_congr_left fun q hq => ?_).trans (List.map_id xs)
      have := bxx q hq
      show ((q.toNat : Nat) : Int) = q
      omega
    exact beamDeep_in a0 h8.1 h8.2 _ _ _ _ _ (xs.map Int.toNat) (by simp) (by omega) (fun t ht => by obtain ⟨q, hq, rfl⟩ := List.mem_map.1 ht; have := bxx q hq; omega) _ w hF (by rw [e]; exact hx)

end Go.Proofs.YtdnhnnidlangiaaDoor
