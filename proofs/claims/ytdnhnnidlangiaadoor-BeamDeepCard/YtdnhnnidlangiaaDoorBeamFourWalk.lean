/-
  BeamFour: the walk: whatever the bytes and the numbers, the law answers true, and nothing that lay has turned.
-/
import Derived.Test.YtdnhnnidlangiaaDoorBeamWakes
import Derived.Test.YtdnhnnidlangiaaDoorKeepBytes
import Derived.Test.YtdnhnnidlangiaaDoorLight12
import Derived.Test.YtdnhnnidlangiaaDoorTogether
namespace Go.Proofs.YtdnhnnidlangiaaDoor
open Go.RowKit

theorem at_place12 (at_ d : Int) (hd : 0 < d) : ∃ p : Nat, (p : Int) < d ∧ (IntKind.u64.wrap at_).tmod d = (p : Int) := by
  have h0 : 0 ≤ IntKind.u64.wrap at_ := by rw [IntKind.wrap_u64]; omega
  have h1 := Int.tmod_nonneg d h0
  have h2 := Int.tmod_lt_of_pos (IntKind.u64.wrap at_) hd
  exact ⟨((IntKind.u64.wrap at_).tmod d).toNat, by omega, by omega⟩

set_option maxRecDepth 100000 in
set_option maxHeartbeats 2000000 in
theorem beamFour_few (a : Option Addr) (n cap : Nat) (x y z : Int) (w : World) (h : n < 1 ∨ 8 < n) :
    Calls Tryd.prog 5 #[.slice a n cap, .int .i64 x, .int .i64 y, .int .i64 z] w fun e w' => e = .returned (.bool true) ∧ Below w.heap.size w w' := by
  by_cases h1 : n < 1
  · have d0 : decide ((n : Int) < 1) = true := decide_eq_true (by omega)
    clear h h1
    go_enter Tryd.func5, Tryd.ntmps5
    go_wp2
    go_ret
    exact ⟨rfl, Below.refl _ _⟩
  · have d0 : decide ((n : Int) < 1) = false := decide_eq_false (by omega)
    have d1 : decide (8 < (n : Int)) = true := decide_eq_true (by omega)
    clear h h1
    go_enter Tryd.func5, Tryd.ntmps5
    go_wp2
    go_ret
    exact ⟨rfl, Below.refl _ _⟩

set_option maxRecDepth 100000 in
set_option maxHeartbeats 4000000 in
theorem beamFour_in (a : Option Addr) (cap : Nat) (zs : List Int) (bz : ∀ z ∈ zs, 0 ≤ z ∧ z ≤ 255) (h1 : 1 ≤ zs.length) (h8 : zs.length ≤ 8) (x y z : Int) (w : World) (hF : Firsts w) (ha : Holds .u8 w.heap.size w (.slice a zs.length cap) zs) :
    Calls Tryd.prog 5 #[.slice a zs.length cap, .int .i64 x, .int .i64 y, .int .i64 z] w fun e w' => e = .returned (.bool true) ∧ Below w.heap.size w w' := by
  have HA : Hid (Holds .u8 w.heap.size w (.slice a zs.length cap) zs) := ha
  have HB : Hid (∀ z ∈ zs, 0 ≤ z ∧ z ≤ 255) := bz
  have HFW : Hid (Firsts w) := hF
  obtain ⟨L, hL⟩ : ∃ L, zs.length = L := ⟨_, rfl⟩
  have HZ : Hid (zs.length = L) := hL
  rw [hL] at HA h1 h8 ⊢
  obtain ⟨n, hn⟩ : ∃ n, 2 * L = n := ⟨_, rfl⟩
  have e2 : 2 * (L : Int) = (n : Int) := by omega
  obtain ⟨Q, hQ⟩ : ∃ Q, 2 * n + 1 = Q := ⟨_, rfl⟩
  have eQ : 2 * (n : Int) + 1 = (Q : Int) := by omega
  have ewQ : IntKind.u64.wrap (Q : Int) = (Q : Int) := by rw [IntKind.wrap_u64]; omega
  obtain ⟨px, hpx, ex⟩ := at_place12 x (Q : Int) (by omega)
  obtain ⟨py, hpy, ey⟩ := at_place12 y 4 (by decide)
  obtain ⟨D, hD, ez⟩ := at_place12 z 2 (by decide)
  have ewx : IntKind.i64.wrap (px : Int) = (px : Int) := by rw [IntKind.wrap_i64]; omega
  have ewy : IntKind.i64.wrap (py : Int) = (py : Int) := by rw [IntKind.wrap_i64]; omega
  have ewz : IntKind.i64.wrap (D : Int) = (D : Int) := by rw [IntKind.wrap_i64]; omega
  obtain ⟨B, hB⟩ : ∃ B, 1 + py = B := ⟨_, rfl⟩
  have eB : 1 + (py : Int) = (B : Int) := by omega
  obtain ⟨D1, hD1⟩ : ∃ D1, D + 1 = D1 := ⟨_, rfl⟩
  have eD : 1 + (D : Int) = (D1 : Int) := by omega
  obtain ⟨C, hC⟩ : ∃ C, 4 * n + px = C := ⟨_, rfl⟩
  have eC : 4 * (n : Int) + (px : Int) = (C : Int) := by omega
  have HLT := light_any (n : Int) (B : Int) (D1 : Int)
  have HH := heard_any a L cap zs HZ.out h1 (by omega) bz 6 C (by decide) (by decide) (by omega) none 0 0 [] rfl (by decide) none 0 0 [] rfl (by decide) (by simp) w hF HA.out (flags_nil _ _) (holds_nil8 _ _)
  have HOK : Hid (PileOk ((n : Nat) : Int) ((6 : Nat) : Int) (heardL zs [] [] C)) := heardL_ok ⟨by omega, by omega, by decide, by decide⟩ (by simp) (fun k => codeN_lt _ k) (by omega)
  have HDE : Hid (decB (walkB n (heardL zs [] [] C) B D n).1 (walkB n (heardL zs [] [] C) B D n).2 = some (nibs zs, 0)) := by
    have := dec_four zs C D B (by omega) (by rw [HZ.out]; exact h1) (by rw [HZ.out]; omega) (by rw [HZ.out]; omega)
    rw [HZ.out, hn] at this
    exact this
  rw [hn] at HH
  have hB1 : 1 ≤ B := by omega
  have hB4 : B ≤ 4 := by omega
  have hD2 : D ≤ 1 := by omega
  have hn16 : n ≤ 16 := by omega
  have hC96 : C ≤ 96 := by omega
  have HN : Hid (2 * L = n) := hn
  have HD1 : Hid (D + 1 = D1) := hD1
  have d0 : decide ((L : Int) < 1) = false := decide_eq_false (by omega)
  have d1 : decide (8 < (L : Int)) = false := decide_eq_false (by omega)
  have d0' : decide (L < 1) = false := decide_eq_false (by omega)
  have d1' : decide (8 < L) = false := decide_eq_false (by omega)
  clear ha bz hF hL hn hQ hB hD1 hC hpx hpy hD
  go_enter Tryd.func5, Tryd.ntmps5
  go_wp2_with fail
  refine (HLT w).mono ?_
  rintro e wz ⟨he | he, rfl⟩
  · subst he
    go_wp2_with fail
    refine HH.mono ?_
    rintro e w1 ⟨r, rfl, o1, b1⟩
    clear HH
    obtain ⟨ra, rc, e1⟩ := rowN_shape o1
    have hs1 := syms_of_row o1
    rw [e1] at hs1
    obtain ⟨ll, hll⟩ : ∃ ll, heardL zs [] [] C = ll := ⟨_, rfl⟩
    rw [hll] at hs1 HOK HDE e1
    obtain ⟨ln, hln⟩ : ∃ ln, ll.length = ln := ⟨_, rfl⟩
    have b2 : Below w1.heap.size w1 (w1.alloc (.cells #[.int .i64 (n : Int), .int .i64 6, .slice ra ln rc] 24)) := (Below.refl _ _).alloc (Nat.le_refl _) _
    have bb2 := b1.trans (b2.mono b1.size)
    have HD := Decode_ok n 6 ra rc ll HOK.out B hB1 (by omega) D (by omega) (w1.alloc (.cells #[.int .i64 (n : Int), .int .i64 6, .slice ra ln rc] 24)) (hs1.next b2) (HFW.out.next bb2)
    rw [HDE.out, hln, HD1.out] at HD
    rw [hln] at e1
    subst e1
    clear HDE HOK hs1 o1 hll hln b1 b2
    go_wp2_with fail
    refine HD.mono ?_
    rintro e w3 ⟨he, b3⟩
    rcases he with ⟨hno, _⟩ | ⟨ps, M, hsm, qa, qc, rfl, hqc, hH⟩
    · cases hno
    cases hsm
    clear HD
    have bb3 := bb2.trans (b3.mono bb2.size)
    have HJ := join_ok qa qc (nibs zs) L (by rw [nibs_len, HZ.out]) (by rw [nibs_len, HZ.out]; omega) hqc (nibs_bd zs) w3 hH
    have hnb : wholesOf 4 2 (nibs zs) L = zs := by rw [← HZ.out]; exact nibs_back HB.out
    rw [hnb] at HJ
    obtain ⟨nl, hnl⟩ : ∃ nl, (nibs zs).length = nl := ⟨_, rfl⟩
    rw [hnl] at HJ ⊢
    clear hH hqc b3 hnb hnl
    go_wp2_with fail
    refine HJ.mono ?_
    rintro e w4 ⟨r4, rfl, o4, b4⟩
    clear HJ
    have bb4 := bb3.trans (b4.mono bb3.size)
    have h4 := holds_of_row o4
    have HBY := bytes_any r4 (.slice a L cap) zs zs _ _ w4 (by rw [HZ.out]; omega) h4 (HA.out.next bb4)
    rw [decide_eq_true rfl] at HBY
    have HWK := fun q => beamWakes_any (w4.drewN q) ((HFW.out.next bb4).drewN q)
    clear o4 h4 b4
    go_wp2_with (first | (go_at_call 30; refine HBY.mono ?_; rintro e w5 ⟨rfl, q5, rfl⟩) | (go_at_call 24; refine (HWK _).mono ?_; rintro e w6 ⟨rfl, b6⟩))
    go_ret
    exact ⟨rfl, (below_drewN bb4 q5).trans (b6.mono bb4.size)⟩
  · subst he
    go_wp2
    go_ret
    exact ⟨rfl, Below.refl _ _⟩

/-- The law, of whatever bytes and numbers. -/
theorem beamFour_walk (a0 : Option Addr) (len0 cap0 : Nat) (z0 : List Int) (a1 a2 a3 : Int) (w : World) (w0 : IsRow .u8 w a0 len0 cap0 z0) (hF : Firsts w) :
    Calls Tryd.prog 5 #[.slice a0 len0 cap0, .int .i64 a1, .int .i64 a2, .int .i64 a3] w fun e w' => e = .returned (.bool true) ∧ Below w.heap.size w w' := by
  obtain ⟨xs, rfl, hx, bx⟩ := holds_of_isRow w0
  by_cases h0 : xs.length < 1 ∨ 8 < xs.length
  · exact beamFour_few _ _ _ _ _ _ w h0
  · exact beamFour_in _ _ xs (bytes_bd bx) (by omega) (by omega) _ _ _ w hF hx

end Go.Proofs.YtdnhnnidlangiaaDoor
