/-
  BeamTrue: the walk: whatever the bytes, the flags and the numbers, the law answers true, and nothing that lay has turned.
-/
import Derived.Test.YtdnhnnidlangiaaDoorBeamFourWalk
namespace Go.Proofs.YtdnhnnidlangiaaDoor
open Go.RowKit

/-- What the row's step is told of a slice of flags that came in. -/
def IsFlags (w : World) (a : Option Addr) (len cap : Nat) (os : List Bool) : Prop := os.length = len ∧ Flags w.heap.size w (.slice a len cap) os
theorem cellsBool : Tryd.prog.cellsOf 4 = 1 := by kernel_rfl
theorem isFlags_of_trod {H : Type} {enc : TypeId × Value → H} {w : World} {base : Nat} {held : Bool} {fuel : Nat} {a : Option Addr} {len cap : Nat} {x : DataW H × List MemPlace}
    (h : DataW.trod enc Tryd.prog w base (fun _ => true) held fuel 56 [.slice a len cap] = some x) : ∃ os, IsFlags w a len cap os := by
  rcases Go.Deep.open_slice Tryd.underlying56 h with ⟨hcs, _⟩ | ⟨ad, len', cap', m, n, D, Pl, hcs, _, hl, hc, hm, _, hx⟩
  · simp at hcs
    obtain ⟨rfl, rfl, rfl⟩ := hcs
    exact ⟨[], rfl, flags_nil _ _⟩
  · simp at hcs
    obtain ⟨rfl, rfl, rfl⟩ := hcs
    have hlm : len ≤ m := by rw [hm]; split <;> omega
    have each : ∀ i, i < len → ∃ q : Bool, w.cell? (ad.add i) = some (.bool q) := by
      intro i hi
      obtain ⟨cs', h1, h2⟩ := hx i (by omega)
      rw [cellsBool] at h1
      obtain ⟨_, hlen, hcell⟩ := World.cells?_some h1
      match cs', hlen with
      | [v0], _ =>
        obtain ⟨q, e, _⟩ := DataW.trod_bool Tryd.underlying4 h2
        simp at e
        have c0 := hcell 0 (by omega)
        rw [Go.Deep.add_add] at c0
        simp at c0
        exact ⟨q, by rw [c0, e]⟩
    by_cases h0 : len = 0
    · subst h0
      exact ⟨[], rfl, .inl ⟨⟨_, _, rfl⟩, rfl⟩⟩
    · obtain ⟨q, hq⟩ := Go.Deep.choose_lt each
      obtain ⟨b, off, spot⟩ := ad
      have hspot : spot = none := by
        have := hq 0 (by omega)
        simpa [Addr.add] using World.cell?_spot this
      subst hspot
      have hlen : ((List.range len).map q).length = len := by simp
      refine ⟨(List.range len).map q, hlen, .inr ⟨b, off, cap, by rw [hlen], ?_, fun j x hj => ?_⟩⟩
      · have := symAt_lt (hq 0 (by omega))
        rwa [Go.WideShapes.add_plain] at this
      · have hjl : j < len := by have := (List.getElem?_eq_some_iff.1 hj).1; rwa [hlen] at this
        have e : x = q j := by
          rw [List.getElem?_map, List.getElem?_range hjl] at hj
          simpa using hj.symm
        subst e
        have h2 := hq j hjl
        rw [Go.WideShapes.add_plain] at h2
        exact h2

/-- Of a block's own symbols no other is told. -/
theorem dec_own (zs : List Int) (os : List Bool) (C D b : Nat) (hb : 1 ≤ b) (h0 : 1 ≤ zs.length) {ps : List Int} {M : Int} (h : decB (walkB (2 * zs.length) (heardL zs os [] C) b D (2 * zs.length)).1 (walkB (2 * zs.length) (heardL zs os [] C) b D (2 * zs.length)).2 = some (ps, M)) : ps = nibs zs ∧ M = 0 := by
  obtain ⟨n, t, h1, h2, h3, h4, h5⟩ := decB_inv h
  obtain ⟨h6, h7⟩ := told_own zs os C D b hb h0 h1 h4 h5
  exact ⟨h2.symm.trans h6, h3.symm.trans h7⟩

set_option maxRecDepth 100000 in
set_option maxHeartbeats 2000000 in
theorem beamTrue_few (a : Option Addr) (n cap : Nat) (x y : Int) (oa : Option Addr) (on oc : Nat) (u v : Int) (w : World) (h : n < 1 ∨ 6 < n ∨ 400 < on) :
    Calls Tryd.prog 4 #[.slice a n cap, .int .i64 x, .int .i64 y, .slice oa on oc, .int .i64 u, .int .i64 v] w fun e w' => e = .returned (.bool true) ∧ Below w.heap.size w w' := by
  by_cases h1 : n < 1
  · have d0 : decide ((n : Int) < 1) = true := decide_eq_true (by omega)
    clear h h1
    go_enter Tryd.func4, Tryd.ntmps4
    go_wp2
    go_ret
    exact ⟨rfl, Below.refl _ _⟩
  · have d0 : decide ((n : Int) < 1) = false := decide_eq_false (by omega)
    by_cases h2 : 6 < n
    · have d1 : decide (6 < (n : Int)) = true := decide_eq_true (by omega)
      clear h h1 h2
      go_enter Tryd.func4, Tryd.ntmps4
      go_wp2
      go_ret
      exact ⟨rfl, Below.refl _ _⟩
    · have d1 : decide (6 < (n : Int)) = false := decide_eq_false (by omega)
      have d2 : decide (400 < (on : Int)) = true := decide_eq_true (by omega)
      clear h h1 h2
      go_enter Tryd.func4, Tryd.ntmps4
      go_wp2
      go_ret
      exact ⟨rfl, Below.refl _ _⟩

set_option maxRecDepth 100000 in
set_option maxHeartbeats 4000000 in
theorem beamTrue_in (a : Option Addr) (cap : Nat) (zs : List Int) (bz : ∀ z ∈ zs, 0 ≤ z ∧ z ≤ 255) (h1 : 1 ≤ zs.length) (h8 : zs.length ≤ 6) (x y : Int) (oa : Option Addr) (on oc : Nat) (os : List Bool) (hol : os.length = on) (hon : on ≤ 400) (u v : Int) (w : World) (hF : Firsts w) (ha : Holds .u8 w.heap.size w (.slice a zs.length cap) zs) (ho : Flags w.heap.size w (.slice oa on oc) os) :
    Calls Tryd.prog 4 #[.slice a zs.length cap, .int .i64 x, .int .i64 y, .slice oa on oc, .int .i64 u, .int .i64 v] w fun e w' => e = .returned (.bool true) ∧ Below w.heap.size w w' := by
  have HA : Hid (Holds .u8 w.heap.size w (.slice a zs.length cap) zs) := ha
  have HB : Hid (∀ z ∈ zs, 0 ≤ z ∧ z ≤ 255) := bz
  have HFW : Hid (Firsts w) := hF
  obtain ⟨L, hL⟩ : ∃ L, zs.length = L := ⟨_, rfl⟩
  have HZ : Hid (zs.length = L) := hL
  rw [hL] at HA h1 h8 ⊢
  obtain ⟨n, hn⟩ : ∃ n, 2 * L = n := ⟨_, rfl⟩
  have e2 : 2 * (L : Int) = (n : Int) := by omega
  obtain ⟨px, hpx, ex⟩ := at_place12 x 4 (by decide)
  obtain ⟨pu, hpu, eu⟩ := at_place12 u 4 (by decide)
  obtain ⟨D, hD, ev⟩ := at_place12 v 2 (by decide)
  have ewx : IntKind.i64.wrap (px : Int) = (px : Int) := by rw [IntKind.wrap_i64]; omega
  have ewu : IntKind.i64.wrap (pu : Int) = (pu : Int) := by rw [IntKind.wrap_i64]; omega
  have ewz : IntKind.i64.wrap (D : Int) = (D : Int) := by rw [IntKind.wrap_i64]; omega
  obtain ⟨P, hP⟩ : ∃ P, 1 + px = P := ⟨_, rfl⟩
  have eP : 1 + (px : Int) = (P : Int) := by omega
  obtain ⟨B, hB⟩ : ∃ B, 1 + pu = B := ⟨_, rfl⟩
  have eB : 1 + (pu : Int) = (B : Int) := by omega
  obtain ⟨D1, hD1⟩ : ∃ D1, D + 1 = D1 := ⟨_, rfl⟩
  have eD : 1 + (D : Int) = (D1 : Int) := by omega
  have hP1 : 1 ≤ P := by omega
  have hP4 : P ≤ 4 := by omega
  obtain ⟨Q, hQ⟩ : ∃ Q, n * P + 1 = Q := ⟨_, rfl⟩
  have hnP : n * P ≤ 48 := by
    have h9 : n * P ≤ 12 * 4 := Nat.mul_le_mul (by omega) hP4
    omega
  obtain ⟨T, hT⟩ : ∃ T, n * P = T := ⟨_, rfl⟩
  have eT : (n : Int) * (P : Int) = (T : Int) := by rw [← hT]; simp
  rw [hT] at hQ hnP
  have eQ : (T : Int) + 1 = (Q : Int) := by omega
  have ewQ : IntKind.u64.wrap (Q : Int) = (Q : Int) := by rw [IntKind.wrap_u64]; omega
  obtain ⟨C, hC, ey⟩ := at_place12 y (Q : Int) (by omega)
  have ewC : IntKind.i64.wrap (C : Int) = (C : Int) := by rw [IntKind.wrap_i64]; omega
  have hCT : C ≤ 2 * L * P := by rw [hn, hT]; omega
  have HLT := light_any (n : Int) (B : Int) (D1 : Int)
  have HH := heard_any a L cap zs HZ.out h1 (by omega) bz P C hP1 (by omega) hCT oa on oc os hol (by omega) none 0 0 [] rfl (by decide) (by simp) w hF HA.out ho (holds_nil8 _ _)
  have HOK : Hid (PileOk ((n : Nat) : Int) ((P : Nat) : Int) (heardL zs os [] C)) := heardL_ok ⟨by omega, by omega, by omega, by omega⟩ (by simp) (fun k => codeN_lt _ k) (by rw [eT]; omega)
  have HDE : Hid (∀ ps M, decB (walkB n (heardL zs os [] C) B D n).1 (walkB n (heardL zs os [] C) B D n).2 = some (ps, M) → ps = nibs zs ∧ M = 0) := fun ps M h => by
    refine dec_own zs os C D B (by omega) (by rw [HZ.out]; exact h1) (ps := ps) (M := M) ?_
    rw [HZ.out, hn]
    exact h
  rw [hn] at HH
  have hB1 : 1 ≤ B := by omega
  have hB4 : B ≤ 4 := by omega
  have hD2 : D ≤ 1 := by omega
  have hn16 : n ≤ 12 := by omega
  have hC96 : C ≤ 48 := by omega
  have HD1 : Hid (D + 1 = D1) := hD1
  have d0 : decide ((L : Int) < 1) = false := decide_eq_false (by omega)
  have d1 : decide (6 < (L : Int)) = false := decide_eq_false (by omega)
  have d2 : decide (400 < (on : Int)) = false := decide_eq_false (by omega)
  have d0' : decide (L < 1) = false := decide_eq_false (by omega)
  have d1' : decide (6 < L) = false := decide_eq_false (by omega)
  have d2' : decide (400 < on) = false := decide_eq_false (by omega)
  clear ha bz hF hL hn hQ hB hD1 hC hpx hpu hD hP hT hCT ho hol
  go_enter Tryd.func4, Tryd.ntmps4
  go_wp2_with fail
  refine (HLT w).mono ?_
  rintro e wz ⟨he | he, rfl⟩
  · subst he
    go_wp2_with fail
    refine HH.mono ?_
    rintro e w1 ⟨r, rfl, o1, b1⟩
    clear HH
    obtain ⟨ra, rc, e1⟩ := rowN_shape o1
    have hs1 := syms_of_row o1
    rw [e1] at hs1
    obtain ⟨ll, hll⟩ : ∃ ll, heardL zs os [] C = ll := ⟨_, rfl⟩
    rw [hll] at hs1 HOK HDE e1
    obtain ⟨ln, hln⟩ : ∃ ln, ll.length = ln := ⟨_, rfl⟩
    have b2 : Below w1.heap.size w1 (w1.alloc (.cells #[.int .i64 (n : Int), .int .i64 (P : Int), .slice ra ln rc] 24)) := (Below.refl _ _).alloc (Nat.le_refl _) _
    have bb2 := b1.trans (b2.mono b1.size)
    have HD := Decode_ok n P ra rc ll HOK.out B hB1 (by omega) D (by omega) (w1.alloc (.cells #[.int .i64 (n : Int), .int .i64 (P : Int), .slice ra ln rc] 24)) (hs1.next b2) (HFW.out.next bb2)
    rw [hln, HD1.out] at HD
    rw [hln] at e1
    subst e1
    clear HOK hs1 o1 hll hln b1 b2
    go_wp2_with fail
    refine HD.mono ?_
    rintro e w3 ⟨he, b3⟩
    clear HD
    have bb3 := bb2.trans (b3.mono bb2.size)
    have HWK3 := beamWakes_any w3 (HFW.out.next bb3)
    rcases he with ⟨_, rfl⟩ | ⟨ps, M, hsm, qa, qc, rfl, hqc, hH⟩
    · clear HDE b3
      go_wp2_with (go_at_call 24; refine HWK3.mono ?_; rintro e w6 ⟨rfl, b6⟩)
      go_ret
      exact ⟨rfl, bb3.trans (b6.mono bb3.size)⟩
    · obtain ⟨rfl, rfl⟩ := HDE.out ps M hsm
      have HJ := join_ok qa qc (nibs zs) L (by rw [nibs_len, HZ.out]) (by rw [nibs_len, HZ.out]; omega) hqc (nibs_bd zs) w3 hH
      have hnb : wholesOf 4 2 (nibs zs) L = zs := by rw [← HZ.out]; exact nibs_back HB.out
      rw [hnb] at HJ
      obtain ⟨nl, hnl⟩ : ∃ nl, (nibs zs).length = nl := ⟨_, rfl⟩
      rw [hnl] at HJ ⊢
      clear hH hqc b3 hnb hnl HDE hsm HWK3
      go_wp2_with fail
      refine HJ.mono ?_
      rintro e w4 ⟨r4, rfl, o4, b4⟩
      clear HJ
      have bb4 := bb3.trans (b4.mono bb3.size)
      have h4 := holds_of_row o4
      have HBY := bytes_any r4 (.slice a L cap) zs zs _ _ w4 (by rw [HZ.out]; omega) h4 (HA.out.next bb4)
      rw [decide_eq_true rfl] at HBY
      have HWK := fun q => beamWakes_any (w4.drewN q) ((HFW.out.next bb4).drewN q)
      clear o4 h4 b4
      go_wp2_with (first | (go_at_call 30; refine HBY.mono ?_; rintro e w5 ⟨rfl, q5, rfl⟩) | (go_at_call 24; refine (HWK _).mono ?_; rintro e w6 ⟨rfl, b6⟩))
      go_ret
      exact ⟨rfl, (below_drewN bb4 q5).trans (b6.mono bb4.size)⟩
  · subst he
    go_wp2
    go_ret
    exact ⟨rfl, Below.refl _ _⟩

/-- The law, of whatever bytes, flags and numbers. -/
theorem beamTrue_walk (a0 : Option Addr) (len0 cap0 : Nat) (z0 : List Int) (a1 a2 : Int) (a3 : Option Addr) (len3 cap3 : Nat) (o3 : List Bool) (a4 a5 : Int) (w : World) (w0 : IsRow .u8 w a0 len0 cap0 z0) (w3 : IsFlags w a3 len3 cap3 o3) (hF : Firsts w) :
    Calls Tryd.prog 4 #[.slice a0 len0 cap0, .int .i64 a1, .int .i64 a2, .slice a3 len3 cap3, .int .i64 a4, .int .i64 a5] w fun e w' => e = .returned (.bool true) ∧ Below w.heap.size w w' := by
  obtain ⟨xs, rfl, hx, bx⟩ := holds_of_isRow w0
  by_cases h0 : xs.length < 1 ∨ 6 < xs.length ∨ 400 < len3
  · exact beamTrue_few _ _ _ _ _ _ _ _ _ _ w h0
  · exact beamTrue_in _ _ xs (bytes_bd bx) (by omega) (by omega) _ _ _ _ _ o3 w3.1 (by omega) _ _ w hF hx w3.2

end Go.Proofs.YtdnhnnidlangiaaDoor
