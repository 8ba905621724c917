/-
  BeamFirst: the walk: whatever the pile, the beam and the depth, the law answers true, and nothing that lay has turned. (Written by tpl_beamfirst.py.)
-/
import Derived.Test.YtdnhnnidlangiabDoorM20
import Derived.Test.YtdnhnnidlangiabDoorM21
import Derived.Test.YtdnhnnidlangiabDoorM28
import Derived.Test.YtdnhnnidlangiabDoorM33
import Derived.BigQuiet
import Derived.Deep.Cut
import Derived.Deep.CutRange
import Derived.Deep.DeepCutAuto
import Derived.Deep.QuietTactic
namespace Go.Proofs.YtdnhnnidlangiabDoor
open Go.RowKit

theorem at_place15 (at_ d : Int) (hd : 0 < d) : ∃ p : Nat, (p : Int) < d ∧ (IntKind.u64.wrap at_).tmod d = (p : Int) := by
  have h0 : 0 ≤ IntKind.u64.wrap at_ := by rw [IntKind.wrap_u64]; omega
  have h1 := Int.tmod_nonneg d h0
  have h2 := Int.tmod_lt_of_pos (IntKind.u64.wrap at_) hd
  exact ⟨((IntKind.u64.wrap at_).tmod d).toNat, by omega, by omega⟩

/-- A node of the walk's list. -/
theorem first_at {N : Nat} {l : List (Int × Int)} {b D : Nat} (hb : 1 ≤ b) (hN : 1 ≤ N) {i : Nat} {y : Nd} (h : (walkB N l b D N).1[i]? = some y) : Path y.2.2.2 ∧ y.2.2.2.length = N ∧ y.1 = staB N l y.2.2.2 ∧ y.2.1 = metB N l y.2.2.2 ∧ y.2.2.1 = y.2.1 := by
  have hW := walkTo_inv stB (coB N l) N (beginN : Int) D b hb N
  obtain ⟨P, h1, h2, ⟨h3, h4, h5⟩, h6⟩ := hW.node y (List.mem_of_getElem? h)
  rw [h5]
  refine ⟨fun z hz => by have := h2 z hz; omega, h1, h3, h4, ?_⟩
  have := h6 (by omega)
  rw [scA_end stB (coB N l) N (beginN : Int) D P h1] at this
  rw [h4]
  exact this
theorem first_rise {N : Nat} {l : List (Int × Int)} {b D : Nat} (hb : 1 ≤ b) (hN : 1 ≤ N) {i : Nat} {y z : Nd} (h : (walkB N l b D N).1[i]? = some y) (h' : (walkB N l b D N).1[i + 1]? = some z) : ¬ z.2.1 < y.2.1 := by
  have hW := walkTo_inv stB (coB N l) N (beginN : Int) D b hb N
  obtain ⟨h1, e1⟩ := List.getElem?_eq_some_iff.1 h
  obtain ⟨h2, e2⟩ := List.getElem?_eq_some_iff.1 h'
  have h3 := List.pairwise_iff_getElem.1 hW.rise i (i + 1) h1 h2 (by omega)
  have h4 := (first_at hb hN h).2.2.2.2
  have h5 := (first_at hb hN h').2.2.2.2
  have h6 : y.2.2.1 ≤ z.2.2.1 := by
    rw [← e1, ← e2]
    exact h3
  omega
theorem first_once {N : Nat} {l : List (Int × Int)} {b D : Nat} (hb : 1 ≤ b) {i k : Nat} (hki : k < i) {y z : Nd} (h : (walkB N l b D N).1[k]? = some y) (h' : (walkB N l b D N).1[i]? = some z) : y.2.2.2 ≠ z.2.2.2 := by
  have hW := walkTo_inv stB (coB N l) N (beginN : Int) D b hb N
  obtain ⟨h1, e1⟩ := List.getElem?_eq_some_iff.1 h
  obtain ⟨h2, e2⟩ := List.getElem?_eq_some_iff.1 h'
  have h3 := List.pairwise_iff_getElem.1 hW.once k i (by rw [List.length_map]; exact h1) (by rw [List.length_map]; exact h2) hki
  rw [List.getElem_map, List.getElem_map] at h3
  rw [← e1, ← e2]
  exact h3

set_option maxRecDepth 100000 in
set_option maxHeartbeats 8000000 in
theorem beamFirst_any (n p : Int) (a : Option Addr) (cap : Nat) (l : List (Int × Int)) (b d : Int) (w : World) (ha : Syms w.heap.size w (.slice a l.length cap) l) (hF : Firsts w) :
    Calls Tryd.prog 4 #[.agg #[.int .i64 n, .int .i64 p, .slice a l.length cap], .int .i64 b, .int .i64 d] w fun e w' => e = .returned (.bool true) ∧ Below w.heap.size w w' := by
  have HFW : Hid (Firsts w) := hF
  have b1 : Below w.heap.size w (w.alloc (.cells #[.int .i64 n, .int .i64 p, .slice a l.length cap] 24)) := (Below.refl w.heap.size w).alloc (Nat.le_refl _) _
  have x1 := Box.new w 24 #[.int .i64 n, .int .i64 p, .slice a l.length cap]
  have ha1 := ha.next b1
  by_cases hm : 400 < l.length
  · have dm : decide (400 < (l.length : Int)) = true := decide_eq_true (by omega)
    clear ha ha1
    go_enter Tryd.func4, Tryd.ntmps4
    go_wp2
    go_ret
    exact ⟨rfl, b1⟩
  have dm : decide (400 < (l.length : Int)) = false := decide_eq_false (by omega)
  have dm' : decide (400 < l.length) = false := decide_eq_false hm
  by_cases hp : PileOk n p l
  case neg =>
    have HRP := refPile_no n p a cap l (by omega) hp _ ha1
    clear ha ha1 hp
    go_enter Tryd.func4, Tryd.ntmps4
    go_wp2_with (go_at_call 7; refine HRP.mono ?_; rintro e w2 ⟨rfl, b2⟩)
    go_ret
    exact ⟨rfl, b1.trans (b2.mono b1.size)⟩
  obtain ⟨N, rfl⟩ := Int.eq_ofNat_of_zero_le (a := n) (by have := hp.1.1; omega)
  have hN1 : 1 ≤ N := by have := hp.1.1; omega
  have hN2 : N < 65 := by have := hp.1.2.1; omega
  have HRP := refPile_yes (N : Int) p a cap l (by omega) hp _ ha1
  have HP : Hid (PileOk (N : Int) p l) := hp
  have HA : Hid (Syms w.heap.size w (.slice a l.length cap) l) := ha
  obtain ⟨ln, hln⟩ : ∃ ln, l.length = ln := ⟨_, rfl⟩
  have HLN : Hid (l.length = ln) := hln
  rw [hln] at HA HRP dm dm' x1 b1 hm ⊢
  by_cases hlong : 30 < N
  · have dl : decide (30 < (N : Int)) = true := decide_eq_true (by omega)
    have dl' : decide (30 < N) = true := decide_eq_true hlong
    clear ha ha1 hp hln
    go_enter Tryd.func4, Tryd.ntmps4
    go_wp2_with fail
    refine HRP.mono ?_
    rintro e w2 ⟨rfl, b2⟩
    have x2 := x1.next b2
    have c0 := x2.cell 0 _ rfl
    go_wp2
    go_ret
    exact ⟨rfl, b1.trans (b2.mono b1.size)⟩
  have dl : decide (30 < (N : Int)) = false := decide_eq_false (by omega)
  have dl' : decide (30 < N) = false := decide_eq_false hlong
  obtain ⟨pb, q2, e2⟩ := at_place15 b 6 (by decide)
  obtain ⟨D, q3, e3⟩ := at_place15 d 2 (by decide)
  have ew2 : IntKind.i64.wrap (pb : Int) = (pb : Int) := by rw [IntKind.wrap_i64]; omega
  have ew3 : IntKind.i64.wrap (D : Int) = (D : Int) := by rw [IntKind.wrap_i64]; omega
  obtain ⟨B, hB⟩ : ∃ B, 1 + pb = B := ⟨_, rfl⟩
  obtain ⟨D1, hD1⟩ : ∃ D1, D + 1 = D1 := ⟨_, rfl⟩
  have eB : 1 + (pb : Int) = (B : Int) := by omega
  have eD : 1 + (D : Int) = (D1 : Int) := by omega
  have hB1 : 1 ≤ B := by omega
  have hB6 : B ≤ 6 := by omega
  have hDb : D ≤ 1 := by omega
  have HD1 : Hid (D + 1 = D1) := hD1
  have HLT := light_any (N : Int) (B : Int) (D1 : Int)
  clear ha ha1 hp hln hB hD1 q2 q3 hm hlong
  go_enter Tryd.func4, Tryd.ntmps4
  go_wp2_with fail
  refine HRP.mono ?_
  rintro e w2 ⟨rfl, b2⟩
  clear HRP
  have x2 := x1.next b2
  have c0 := x2.cell 0 _ rfl
  have c1 := x2.cell 1 _ rfl
  have c2 := x2.cell 2 _ rfl
  have bb2 := b1.trans (b2.mono b1.size)
  clear b2
  go_wp2_with fail
  refine (HLT w2).mono ?_
  rintro e wz ⟨he | he, rfl⟩
  case inr =>
    subst he
    go_wp2
    go_ret
    exact ⟨rfl, bb2⟩
  subst he
  have HWA := Walk_ok N p a cap l HP.out B hB1 (by omega) D (by omega) w2 (by rw [HLN.out]; exact HA.out.next bb2) (HFW.out.next bb2)
  rw [HLN.out, HD1.out] at HWA
  have hWI := walkTo_inv stB (coB N l) N (beginN : Int) D B hB1 N
  have hw1 : 0 < (walkB N l B D N).1.length := hWI.some
  have hw2 : (walkB N l B D N).1.length ≤ B := by have h9 : (walkB N l B D N).1.length ≤ max 1 B := hWI.most; omega
  have hw3 : -1 ≤ (walkB N l B D N).2 := hWI.cut1
  have HAT : Hid (∀ (i : Nat) (y : Nd), (walkB N l B D N).1[i]? = some y → Path y.2.2.2 ∧ y.2.2.2.length = N ∧ y.1 = staB N l y.2.2.2 ∧ y.2.1 = metB N l y.2.2.2 ∧ y.2.2.1 = y.2.1) := fun i y h => first_at hB1 hN1 h
  have HRI : Hid (∀ (i : Nat) (y z : Nd), (walkB N l B D N).1[i]? = some y → (walkB N l B D N).1[i + 1]? = some z → ¬ z.2.1 < y.2.1) := fun i y z h h' => first_rise hB1 hN1 h h'
  have HON : Hid (∀ (i k : Nat) (y z : Nd), k < i → (walkB N l B D N).1[k]? = some y → (walkB N l B D N).1[i]? = some z → y.2.2.2 ≠ z.2.2.2) := fun i k y z hki h h' => first_once hB1 hki h h'
  have HDO : Hid (∀ wr : World, Below w.heap.size w wr → Calls Tryd.prog 16 #[.agg #[.int .i64 N, .int .i64 p, .slice a ln cap], .int .i64 (B : Int), .int .i64 (D1 : Int)] wr fun e W' => ((decB (walkB N l B D N).1 (walkB N l B D N).2 = none ∧ e = .returned (.tuple #[.slice none 0 0, .int .i64 0, .int .i64 5])) ∨ ∃ ps M, decB (walkB N l B D N).1 (walkB N l B D N).2 = some (ps, M) ∧ ∃ qa qc, e = .returned (.tuple #[.slice qa ps.length qc, .int .i64 M, .int .i64 0]) ∧ ps.length ≤ qc ∧ Holds .i64 W'.heap.size W' (.slice qa ps.length qc) ps) ∧ Below wr.heap.size wr W') := fun wr hbw => by
    have h9 := Decode_ok N p a cap l HP.out B hB1 (by omega) D (by omega) wr (by rw [HLN.out]; exact HA.out.next hbw) (HFW.out.next hbw)
    rw [HLN.out, HD1.out] at h9
    exact h9
  obtain ⟨LL, hLL⟩ : ∃ LL, (walkB N l B D N).1 = LL := ⟨_, rfl⟩
  obtain ⟨cu, hcu⟩ : ∃ cu, (walkB N l B D N).2 = cu := ⟨_, rfl⟩
  rw [hLL, hcu] at HWA HDO
  rw [hLL] at hw1 hw2 HAT HRI HON
  rw [hcu] at hw3
  obtain ⟨m, hmm⟩ : ∃ m, LL.length = m := ⟨_, rfl⟩
  have HM : Hid (LL.length = m) := hmm
  rw [hmm] at hw1 hw2
  have dw1 : decide ((m : Int) < 1) = false := decide_eq_false (by omega)
  have dw1' : decide (m < 1) = false := decide_eq_false (by omega)
  have dw2 : decide ((B : Int) < (m : Int)) = false := decide_eq_false (by omega)
  have dw2' : decide (B < m) = false := decide_eq_false (by omega)
  have dw3 : decide (cu < -1) = false := decide_eq_false (by omega)
  clear hLL hcu hmm hWI HLT
  go_wp2_with fail
  refine HWA.mono ?_
  rintro e w3 ⟨r3, rfl, hN3, b3⟩
  clear HWA c0 c1 c2
  have hN3' := hN3.nodes
  obtain ⟨la, lc, e9⟩ := hN3'.shape
  rw [HM.out] at e9
  subst e9
  obtain ⟨lb, lof, rfl, hlb, hcs⟩ := nodes_at hN3' HM.out hw1
  have HCS : Hid (∀ (j : Nat) (y : Nd), LL[j]? = some y → ∃ p, Holds .i64 w3.heap.size w3 p y.2.2.2 ∧ w3.cell? ⟨lb, lof + j * 4, none⟩ = some (.int .u32 y.1) ∧ w3.cell? ⟨lb, lof + j * 4 + 1, none⟩ = some (.int .i64 y.2.1) ∧ w3.cell? ⟨lb, lof + j * 4 + 2, none⟩ = some (.int .i64 y.2.2.1) ∧ w3.cell? ⟨lb, lof + j * 4 + 3, none⟩ = some p) := hcs
  have x3 := x2.next b3
  have bb3 := bb2.trans (b3.mono bb2.size)
  clear x2 b3 bb2 hN3 hN3' hcs
  go_wp2
  go_loopw [10] (fun si wr => ∃ i : Nat, i ≤ m ∧ si = .int .i64 i ∧ Below w3.heap.size w3 wr) (fun i _ => m - (intOf i).toNat)
  case atStart => exact ⟨0, by omega, rfl, Below.refl _ _⟩
  case round =>
    obtain ⟨i, hi, rfl, bw⟩ := hrel
    have xr := x3.next bw
    have bbw := bb3.trans (bw.mono bb3.size)
    have hsz := bw.size
    clear x3
    have k0 := xr.cell 0 _ rfl
    have k1 := xr.cell 1 _ rfl
    have k2 := xr.cell 2 _ rfl
    have hlx := xr.lt
    by_cases hlt : i < m
    · have dlt : decide ((i : Int) < (m : Int)) = true := decide_eq_true (by omega)
      have dlt' : decide (i < m) = true := decide_eq_true hlt
      obtain ⟨⟨s, M, c, ps⟩, hy⟩ : ∃ y, LL[i]? = some y := ⟨LL[i]'(by rw [HM.out]; exact hlt), by simp⟩
      have HY : Hid (LL[i]? = some (s, M, c, ps)) := hy
      obtain ⟨f1, f2, f3, f4, f5⟩ := HAT.out i _ hy
      dsimp only at f1 f2 f3 f4 f5
      obtain ⟨pv, g1, g2, g3, g4, g5⟩ := HCS.out i _ hy
      dsimp only at g1 g2 g3 g4 g5
      obtain ⟨pa, pc, epv⟩ := g1.shape
      rw [f2] at epv
      subst epv
      have hib : lb < wr.heap.size := by omega
      have h2 := (bw.cell (p := ⟨lb, lof + i * 4, none⟩) hlb).trans g2
      have h3 := (bw.cell (p := ⟨lb, lof + i * 4 + 1, none⟩) hlb).trans g3
      have h4 := (bw.cell (p := ⟨lb, lof + i * 4 + 2, none⟩) hlb).trans g4
      have h5 := (bw.cell (p := ⟨lb, lof + i * 4 + 3, none⟩) hlb).trans g5
      have HPV : Hid (Holds .i64 w3.heap.size w3 (.slice pa N pc) ps) := g1
      have HND : Hid (∀ wx : World, Below wr.heap.size wr wx → Calls Tryd.prog 10 #[.agg #[.int .i64 N, .int .i64 p, .slice a ln cap], .slice pa N pc] wx fun e W' => ∃ qa qc, e = .returned (.tuple #[.agg #[.int .u32 s, .int .i64 M, .int .i64 0, .slice qa N qc], .int .i64 0]) ∧ Below wr.heap.size wr W' ∧ Below wx.heap.size wx W') := fun wx hbx => by
        have hbb := bbw.trans (hbx.mono bbw.size)
        have h9 := Node_ok N p a cap l HP.out pa pc ps f1 (by omega) wx (by rw [HLN.out]; exact HA.out.next hbb) (by rw [f2]; exact (g1.next bw).next hbx) (HFW.out.next hbb)
        rw [f2, HLN.out, ← f3, ← f4] at h9
        refine h9.mono ?_
        rintro e W' ⟨qa, qc, rfl, _, hb⟩
        exact ⟨qa, qc, rfl, hbx.trans (hb.mono hbx.size), hb⟩
      have ec : (c != M) = false := by rw [f5]; simp
      have eM : (M != M) = false := by simp
      have es : (s != s) = false := by simp
      have eN : ((N : Int) != (N : Int)) = false := by simp
      have eN' : (N != N) = false := by simp
      have HBW : Hid (Below w3.heap.size w3 wr) := bw
      have hm6 : m ≤ 6 := by omega
      clear f1 f2 f3 f4 f5 g1 g2 g3 g4 g5 hy
      go_wp2
      go_cut [11, 12] (fun t11 t12 wx => ∃ (BN : Nat) (qa : Option Addr) (qc : Nat), t11 = .pointer (some ⟨BN, 0, none⟩) ∧ t12 = .int .i64 0 ∧ Box wx BN 34 #[.int .u32 s, .int .i64 M, .int .i64 0, .slice qa N qc] ∧ Below wr.heap.size wr wx)
      case first =>
        go_region_with (go_at_call 10; refine (HND.out _ (by first | exact below_drewN (Below.refl _ _) _ | exact Below.refl _ _ | exact (below_drewN (Below.refl _ _) _).alloc (Nat.le_refl _) _)).mono ?_; rintro e w5 ⟨qa, qc, rfl, b5, b5'⟩; first | (have xz := Box.next (Box.new wr 34 #[.int .u32 0, .int .i64 0, .int .i64 0, .slice none 0 0]) ((Below.refl _ _).drew.trans b5'); have z0 := xz.cell 0 _ rfl; have z1 := xz.cell 1 _ rfl; have z2 := xz.cell 2 _ rfl; have z3 := xz.cell 3 _ rfl; have f0 := xz.free 0; have f1 := xz.free 1; have f2 := xz.free 2; have f3 := xz.free 3) | skip; have m0 := (b5.cell (p := ⟨w.heap.size, 0, none⟩) hlx).trans k0; have m1 := (b5.cell (p := ⟨w.heap.size, 1, none⟩) hlx).trans k1; have m2 := (b5.cell (p := ⟨w.heap.size, 2, none⟩) hlx).trans k2; have m3 := (b5.cell (p := ⟨lb, lof + i * 4 + 3, none⟩) hib).trans h5)
        all_goals (try go_wp2_with fail)
        all_goals go_meet
        all_goals first | exact ⟨_, qa, qc, rfl, rfl, xz.set4 _ _ _ _, below_set4 b5 (Nat.le_refl _) _ _ _ _⟩ | exact ⟨_, qa, qc, rfl, rfl, Box.new w5 34 _, b5.alloc b5.size _⟩
      case rest =>
        obtain ⟨BN, qa, qc, rfl, rfl, xn, b6⟩ := hcut
        have bX := HBW.out.trans (b6.mono hsz)
        have j0 := xn.cell 0 _ rfl
        have j1 := xn.cell 1 _ rfl
        have i2 := (b6.cell (p := ⟨lb, lof + i * 4, none⟩) hib).trans h2
        have i3 := (b6.cell (p := ⟨lb, lof + i * 4 + 1, none⟩) hib).trans h3
        have i4 := (b6.cell (p := ⟨lb, lof + i * 4 + 2, none⟩) hib).trans h4
        have i5 := (b6.cell (p := ⟨lb, lof + i * 4 + 3, none⟩) hib).trans h5
        have ik0 := (b6.cell (p := ⟨w.heap.size, 0, none⟩) hlx).trans k0
        have HBX : Hid (Below w3.heap.size w3 wc) := bX
        have HB6 : Hid (Below wr.heap.size wr wc) := b6
        have HI5 : Hid (w3.cell? ⟨lb, lof + i * 4 + 3, none⟩ = some (.slice pa N pc)) := (bX.cell (p := ⟨lb, lof + i * 4 + 3, none⟩) hlb).symm.trans i5
        clear h2 h3 h4 h5 k0 k1 k2 xn b6 bX HND
        by_cases hi0 : i = 0
        · have d0 : decide (0 < (i : Int)) = false := decide_eq_false (by omega)
          have d0' : decide (0 < i) = false := decide_eq_false (by omega)
          have HI0 : Hid (i = 0) := hi0
          clear hi0
          go_wp2
          go_quiet (fail)
          go_wp2
          go_loopw [13] (fun sk wq => ∃ k : Nat, k ≤ i ∧ sk = .int .i64 k ∧ Below w3.heap.size w3 wq) (fun k _ => i - (intOf k).toNat)
          case atStart => exact ⟨0, by omega, rfl, below_drewN HBX.out _⟩
          case round =>
            obtain ⟨k, hk, rfl, bq⟩ := hrel
            by_cases hki : k < i
            · have dki : decide ((k : Int) < (i : Int)) = true := decide_eq_true (by omega)
              have dki' : decide (k < i) = true := decide_eq_true hki
              obtain ⟨⟨s', M', c', ps'⟩, hy'⟩ : ∃ y, LL[k]? = some y := ⟨LL[k]'(by rw [HM.out]; omega), by simp⟩
              obtain ⟨pv', t1, _, _, _, t5⟩ := HCS.out k _ hy'
              dsimp only at t1 t5
              have hun := HON.out i k _ _ hki hy' HY.out
              dsimp only at hun
              have HII : Hid (∀ q, Calls Tryd.prog 15 #[pv', .slice pa N pc] (wr.drewN q) fun e w' => e = .returned (.bool false) ∧ ∃ n, w' = (wr.drewN q).drewN n) := fun q => by
                have h9 := ints_any pv' (.slice pa N pc) ps' ps w3.heap.size w3.heap.size (wr.drewN q) (by have h8 : ps.length = N := (HAT.out i _ HY.out).2.1; omega) (t1.below (below_drewN bq q)) (HPV.out.below (below_drewN bq q))
                rw [decide_eq_false hun] at h9
                exact h9
              have r3 := (bq.cell (p := ⟨lb, lof + k * 4 + 3, none⟩) hlb).trans t5
              have r4 := (bq.cell (p := ⟨lb, lof + i * 4 + 3, none⟩) hlb).trans HI5.out
              have hkm : k < m := by omega
              clear t1 t5 hun hy'
              go_wp2
              go_quiet ((go_at_call 15; exact Calls.quiet_of (HII.out _)))
              go_wp2
              go_roundw
              case rel => exact ⟨k + 1, hki, by go_num, below_drewN bq _⟩
              case measure => simp [intOf]; omega
            · obtain rfl : k = i := by omega
              have dki : decide ((k : Int) < (k : Int)) = false := decide_eq_false (by omega)
              go_wp2
              go_roundw
              case rel =>
                exact ⟨k + 1, hlt, by go_num, bq⟩
              case measure => simp [intOf]; omega
        · obtain ⟨jj, hjj⟩ : ∃ jj, i = jj + 1 := ⟨i - 1, by omega⟩
          have d0 : decide (0 < (i : Int)) = true := decide_eq_true (by omega)
          have d0' : decide (0 < i) = true := decide_eq_true (by omega)
          have ejj : (i : Int) - 1 = (jj : Int) := by omega
          obtain ⟨⟨s', M', c', ps'⟩, hy'⟩ : ∃ y, LL[jj]? = some y := ⟨LL[jj]'(by rw [HM.out]; omega), by simp⟩
          obtain ⟨pv', _, _, g3, _, _⟩ := HCS.out jj _ hy'
          dsimp only at g3
          have q3 := (HBX.out.cell (p := ⟨lb, lof + jj * 4 + 1, none⟩) hlb).trans g3
          have dM : decide (M < M') = false := decide_eq_false (by have h7 := HRI.out jj (s', M', c', ps') (s, M, c, ps) hy' (by rw [← hjj]; exact HY.out); dsimp only at h7; omega)
          have hjm : jj < m := by omega
          clear hjj hi0 g3 hy'
          go_wp2
          go_quiet (fail)
          go_wp2
          go_loopw [13] (fun sk wq => ∃ k : Nat, k ≤ i ∧ sk = .int .i64 k ∧ Below w3.heap.size w3 wq) (fun k _ => i - (intOf k).toNat)
          case atStart => exact ⟨0, by omega, rfl, below_drewN HBX.out _⟩
          case round =>
            obtain ⟨k, hk, rfl, bq⟩ := hrel
            by_cases hki : k < i
            · have dki : decide ((k : Int) < (i : Int)) = true := decide_eq_true (by omega)
              have dki' : decide (k < i) = true := decide_eq_true hki
              obtain ⟨⟨s', M', c', ps'⟩, hy'⟩ : ∃ y, LL[k]? = some y := ⟨LL[k]'(by rw [HM.out]; omega), by simp⟩
              obtain ⟨pv', t1, _, _, _, t5⟩ := HCS.out k _ hy'
              dsimp only at t1 t5
              have hun := HON.out i k _ _ hki hy' HY.out
              dsimp only at hun
              have HII : Hid (∀ q, Calls Tryd.prog 15 #[pv', .slice pa N pc] (wr.drewN q) fun e w' => e = .returned (.bool false) ∧ ∃ n, w' = (wr.drewN q).drewN n) := fun q => by
                have h9 := ints_any pv' (.slice pa N pc) ps' ps w3.heap.size w3.heap.size (wr.drewN q) (by have h8 : ps.length = N := (HAT.out i _ HY.out).2.1; omega) (t1.below (below_drewN bq q)) (HPV.out.below (below_drewN bq q))
                rw [decide_eq_false hun] at h9
                exact h9
              have r3 := (bq.cell (p := ⟨lb, lof + k * 4 + 3, none⟩) hlb).trans t5
              have r4 := (bq.cell (p := ⟨lb, lof + i * 4 + 3, none⟩) hlb).trans HI5.out
              have hkm : k < m := by omega
              clear t1 t5 hun hy'
              go_wp2
              go_quiet ((go_at_call 15; exact Calls.quiet_of (HII.out _)))
              go_wp2
              go_roundw
              case rel => exact ⟨k + 1, hki, by go_num, below_drewN bq _⟩
              case measure => simp [intOf]; omega
            · obtain rfl : k = i := by omega
              have dki : decide ((k : Int) < (k : Int)) = false := decide_eq_false (by omega)
              go_wp2
              go_roundw
              case rel =>
                exact ⟨k + 1, hlt, by go_num, bq⟩
              case measure => simp [intOf]; omega
    · obtain rfl : i = m := by omega
      have dlt : decide ((i : Int) < (i : Int)) = false := decide_eq_false (by omega)
      have HDE := HDO.out wr bbw
      have hib : lb < wr.heap.size := by omega
      obtain ⟨⟨s0, M0, c0, ps0⟩, hn0⟩ : ∃ y, LL[0]? = some y := ⟨LL[0]'(by rw [HM.out]; exact hw1), by simp⟩
      have HN0 : Hid (LL[0]? = some (s0, M0, c0, ps0)) := hn0
      obtain ⟨p0, t1, _, t3, _, t5⟩ := HCS.out 0 _ hn0
      dsimp only at t1 t3 t5
      rw [Nat.zero_mul, Nat.add_zero] at t3 t5
      have HPL : Hid (ps0.length = N) := (HAT.out 0 _ hn0).2.1
      have HP0 : Hid (Holds .i64 w3.heap.size wr p0 ps0) := t1.below bw
      have k01 := (bw.cell (p := ⟨lb, lof + 1, none⟩) hlb).trans t3
      have k03 := (bw.cell (p := ⟨lb, lof + 3, none⟩) hlb).trans t5
      obtain ⟨oz, hoz⟩ : ∃ oz, decB LL cu = oz := ⟨_, rfl⟩
      have HOZ : Hid (decB LL cu = oz) := hoz
      rw [hoz] at HDE
      have dm0 : (0 : Int) < (i : Int) := by omega
      clear hoz hn0 t1 t3 t5 HRI HON HDO dlt
      by_cases hm1 : 1 < i
      · have dm1 : decide (1 < (i : Int)) = true := decide_eq_true (by omega)
        have dm1' : decide (1 < i) = true := decide_eq_true hm1
        obtain ⟨⟨s1, M1, c1, ps1⟩, hn1⟩ : ∃ y, LL[1]? = some y := ⟨LL[1]'(by rw [HM.out]; exact hm1), by simp⟩
        have HN1 : Hid (LL[1]? = some (s1, M1, c1, ps1)) := hn1
        obtain ⟨_, _, _, t3, _, _⟩ := HCS.out 1 _ hn1
        dsimp only at t3
        rw [Nat.one_mul] at t3
        have k11 := (bw.cell (p := ⟨lb, lof + 4 + 1, none⟩) hlb).trans t3
        clear t3 hn1
        by_cases hmm : M1 = M0
        · have de : (M1 == M0) = true := by simp [hmm]
          have HTI : oz = none := by rw [← HOZ.out]; exact decB_same HN0.out HN1.out hmm
          clear hmm
          obtain rfl := HTI
          go_wp2_with fail
          refine HDE.mono ?_
          rintro e w7 ⟨he, b7⟩
          clear HDE
          have bb7 := bbw.trans (b7.mono bbw.size)
          have HWK : Hid (∀ q, Calls Tryd.prog 11 #[] (w7.drewN q) fun e w' => e = .returned (.bool true) ∧ Below (w7.drewN q).heap.size (w7.drewN q) w') := fun q => beamWakes_any _ (HFW.out.next (below_drewN bb7 q))
          have HBB : Hid (Below w.heap.size w w7) := bb7
          rcases he with ⟨_, rfl⟩ | ⟨ps9, M9, hsm, _⟩
          case inr => cases hsm
          have r1 := (b7.cell (p := ⟨lb, lof + 1, none⟩) hib).trans k01
          have r3 := (b7.cell (p := ⟨lb, lof + 3, none⟩) hib).trans k03
          have r5 := (b7.cell (p := ⟨lb, lof + 4 + 1, none⟩) hib).trans k11
          clear b7 bb7
          go_wp2
          go_quiet (fail)
          go_wp2_with (go_at_call 11; refine (HWK.out _).mono ?_; rintro e w8 ⟨rfl, b8⟩)
          go_ret
          exact ⟨rfl, (below_drewN HBB.out _).trans (b8.mono (by have := HBB.out.size; simpa using this))⟩
        · have de : (M1 == M0) = false := by simp [hmm]
          have HS : Hid (LL[1]? = none ∨ ∃ v, LL[1]? = some v ∧ v.2.1 ≠ M0) := .inr ⟨_, HN1.out, hmm⟩
          clear hmm
          by_cases hc0 : 0 ≤ cu
          · have d0 : decide (0 ≤ cu) = true := decide_eq_true hc0
            by_cases hcm : cu ≤ M0
            · have d1 : decide (cu ≤ M0) = true := decide_eq_true hcm
              have HTI : oz = none := by rw [← HOZ.out]; exact decB_cut (n := (s0, M0, c0, ps0)) HN0.out (h1 := HS.out) hc0 hcm
              clear hc0 hcm
              obtain rfl := HTI
              go_wp2_with fail
              refine HDE.mono ?_
              rintro e w7 ⟨he, b7⟩
              clear HDE
              have bb7 := bbw.trans (b7.mono bbw.size)
              have HWK : Hid (∀ q, Calls Tryd.prog 11 #[] (w7.drewN q) fun e w' => e = .returned (.bool true) ∧ Below (w7.drewN q).heap.size (w7.drewN q) w') := fun q => beamWakes_any _ (HFW.out.next (below_drewN bb7 q))
              have HBB : Hid (Below w.heap.size w w7) := bb7
              rcases he with ⟨_, rfl⟩ | ⟨ps9, M9, hsm, _⟩
              case inr => cases hsm
              have r1 := (b7.cell (p := ⟨lb, lof + 1, none⟩) hib).trans k01
              have r3 := (b7.cell (p := ⟨lb, lof + 3, none⟩) hib).trans k03
              have r5 := (b7.cell (p := ⟨lb, lof + 4 + 1, none⟩) hib).trans k11
              clear b7 bb7
              go_wp2
              go_quiet (fail)
              go_wp2_with (go_at_call 11; refine (HWK.out _).mono ?_; rintro e w8 ⟨rfl, b8⟩)
              go_ret
              exact ⟨rfl, (below_drewN HBB.out _).trans (b8.mono (by have := HBB.out.size; simpa using this))⟩
            · have d1 : decide (cu ≤ M0) = false := decide_eq_false hcm
              have HTI : oz = some (ps0, M0) := by rw [← HOZ.out]; exact decB_told (n := (s0, M0, c0, ps0)) HN0.out (h1 := HS.out) (fun h => hcm h.2)
              clear hc0 hcm
              obtain rfl := HTI
              go_wp2_with fail
              refine HDE.mono ?_
              rintro e w7 ⟨he, b7⟩
              clear HDE
              have bb7 := bbw.trans (b7.mono bbw.size)
              rcases he with ⟨hno, _⟩ | ⟨ps9, M9, hsm, qa, qc, rfl, hqc, hH⟩
              · cases hno
              cases hsm
              have HWK : Hid (∀ q, Calls Tryd.prog 11 #[] (w7.drewN q) fun e w' => e = .returned (.bool true) ∧ Below (w7.drewN q).heap.size (w7.drewN q) w') := fun q => beamWakes_any _ (HFW.out.next (below_drewN bb7 q))
              have HBB : Hid (Below w.heap.size w w7) := bb7
              have HIN : Hid (∀ q, Calls Tryd.prog 15 #[.slice qa ps0.length qc, p0] (w7.drewN q) fun e w' => e = .returned (.bool true) ∧ ∃ n, w' = (w7.drewN q).drewN n) := fun q => by
                have h := ints_any (.slice qa ps0.length qc) p0 ps0 ps0 w7.heap.size w7.heap.size (w7.drewN q) (by have := HPL.out; omega) hH ((HP0.out.below (b7.mono (by omega))).mono (by have := b7.size; omega))
                rw [decide_eq_true rfl] at h
                exact h
              have dMM : (M0 == M0) = true := by simp
              have r1 := (b7.cell (p := ⟨lb, lof + 1, none⟩) hib).trans k01
              have r3 := (b7.cell (p := ⟨lb, lof + 3, none⟩) hib).trans k03
              have r5 := (b7.cell (p := ⟨lb, lof + 4 + 1, none⟩) hib).trans k11
              clear b7 bb7 hH
              go_wp2
              go_quiet (fail)
              go_wp2_with (first | (go_at_call 11; refine (HWK.out _).mono ?_; rintro e w8 ⟨rfl, b8⟩) | (go_at_call 15; refine (HIN.out _).mono ?_; rintro e w9 ⟨rfl, n9, rfl⟩; try simp only [World.drewN_drewN]))
              go_ret
              exact ⟨rfl, (below_drewN HBB.out _).trans (b8.mono (by have := HBB.out.size; simpa using this))⟩
          · have d0 : decide (0 ≤ cu) = false := decide_eq_false hc0
            have HTI : oz = some (ps0, M0) := by rw [← HOZ.out]; exact decB_told (n := (s0, M0, c0, ps0)) HN0.out (h1 := HS.out) (fun h => hc0 h.1)
            clear hc0
            obtain rfl := HTI
            go_wp2_with fail
            refine HDE.mono ?_
            rintro e w7 ⟨he, b7⟩
            clear HDE
            have bb7 := bbw.trans (b7.mono bbw.size)
            rcases he with ⟨hno, _⟩ | ⟨ps9, M9, hsm, qa, qc, rfl, hqc, hH⟩
            · cases hno
            cases hsm
            have HWK : Hid (∀ q, Calls Tryd.prog 11 #[] (w7.drewN q) fun e w' => e = .returned (.bool true) ∧ Below (w7.drewN q).heap.size (w7.drewN q) w') := fun q => beamWakes_any _ (HFW.out.next (below_drewN bb7 q))
            have HBB : Hid (Below w.heap.size w w7) := bb7
            have HIN : Hid (∀ q, Calls Tryd.prog 15 #[.slice qa ps0.length qc, p0] (w7.drewN q) fun e w' => e = .returned (.bool true) ∧ ∃ n, w' = (w7.drewN q).drewN n) := fun q => by
              have h := ints_any (.slice qa ps0.length qc) p0 ps0 ps0 w7.heap.size w7.heap.size (w7.drewN q) (by have := HPL.out; omega) hH ((HP0.out.below (b7.mono (by omega))).mono (by have := b7.size; omega))
              rw [decide_eq_true rfl] at h
              exact h
            have dMM : (M0 == M0) = true := by simp
            have r1 := (b7.cell (p := ⟨lb, lof + 1, none⟩) hib).trans k01
            have r3 := (b7.cell (p := ⟨lb, lof + 3, none⟩) hib).trans k03
            have r5 := (b7.cell (p := ⟨lb, lof + 4 + 1, none⟩) hib).trans k11
            clear b7 bb7 hH
            go_wp2
            go_quiet (fail)
            go_wp2_with (first | (go_at_call 11; refine (HWK.out _).mono ?_; rintro e w8 ⟨rfl, b8⟩) | (go_at_call 15; refine (HIN.out _).mono ?_; rintro e w9 ⟨rfl, n9, rfl⟩; try simp only [World.drewN_drewN]))
            go_ret
            exact ⟨rfl, (below_drewN HBB.out _).trans (b8.mono (by have := HBB.out.size; simpa using this))⟩
      · have dm1 : decide (1 < (i : Int)) = false := decide_eq_false (by omega)
        have dm1' : decide (1 < i) = false := decide_eq_false hm1
        have HS : Hid (LL[1]? = none ∨ ∃ v, LL[1]? = some v ∧ v.2.1 ≠ M0) := .inl (List.getElem?_eq_none (by rw [HM.out]; omega))
        by_cases hc0 : 0 ≤ cu
        · have d0 : decide (0 ≤ cu) = true := decide_eq_true hc0
          by_cases hcm : cu ≤ M0
          · have d1 : decide (cu ≤ M0) = true := decide_eq_true hcm
            have HTI : oz = none := by rw [← HOZ.out]; exact decB_cut (n := (s0, M0, c0, ps0)) HN0.out (h1 := HS.out) hc0 hcm
            clear hc0 hcm
            obtain rfl := HTI
            go_wp2_with fail
            refine HDE.mono ?_
            rintro e w7 ⟨he, b7⟩
            clear HDE
            have bb7 := bbw.trans (b7.mono bbw.size)
            have HWK : Hid (∀ q, Calls Tryd.prog 11 #[] (w7.drewN q) fun e w' => e = .returned (.bool true) ∧ Below (w7.drewN q).heap.size (w7.drewN q) w') := fun q => beamWakes_any _ (HFW.out.next (below_drewN bb7 q))
            have HBB : Hid (Below w.heap.size w w7) := bb7
            rcases he with ⟨_, rfl⟩ | ⟨ps9, M9, hsm, _⟩
            case inr => cases hsm
            have r1 := (b7.cell (p := ⟨lb, lof + 1, none⟩) hib).trans k01
            have r3 := (b7.cell (p := ⟨lb, lof + 3, none⟩) hib).trans k03
            clear b7 bb7
            go_wp2
            go_quiet (fail)
            go_wp2_with (go_at_call 11; refine (HWK.out _).mono ?_; rintro e w8 ⟨rfl, b8⟩)
            go_ret
            exact ⟨rfl, (below_drewN HBB.out _).trans (b8.mono (by have := HBB.out.size; simpa using this))⟩
          · have d1 : decide (cu ≤ M0) = false := decide_eq_false hcm
            have HTI : oz = some (ps0, M0) := by rw [← HOZ.out]; exact decB_told (n := (s0, M0, c0, ps0)) HN0.out (h1 := HS.out) (fun h => hcm h.2)
            clear hc0 hcm
            obtain rfl := HTI
            go_wp2_with fail
            refine HDE.mono ?_
            rintro e w7 ⟨he, b7⟩
            clear HDE
            have bb7 := bbw.trans (b7.mono bbw.size)
            rcases he with ⟨hno, _⟩ | ⟨ps9, M9, hsm, qa, qc, rfl, hqc, hH⟩
            · cases hno
            cases hsm
            have HWK : Hid (∀ q, Calls Tryd.prog 11 #[] (w7.drewN q) fun e w' => e = .returned (.bool true) ∧ Below (w7.drewN q).heap.size (w7.drewN q) w') := fun q => beamWakes_any _ (HFW.out.next (below_drewN bb7 q))
            have HBB : Hid (Below w.heap.size w w7) := bb7
            have HIN : Hid (∀ q, Calls Tryd.prog 15 #[.slice qa ps0.length qc, p0] (w7.drewN q) fun e w' => e = .returned (.bool true) ∧ ∃ n, w' = (w7.drewN q).drewN n) := fun q => by
              have h := ints_any (.slice qa ps0.length qc) p0 ps0 ps0 w7.heap.size w7.heap.size (w7.drewN q) (by have := HPL.out; omega) hH ((HP0.out.below (b7.mono (by omega))).mono (by have := b7.size; omega))
              rw [decide_eq_true rfl] at h
              exact h
            have dMM : (M0 == M0) = true := by simp
            have r1 := (b7.cell (p := ⟨lb, lof + 1, none⟩) hib).trans k01
            have r3 := (b7.cell (p := ⟨lb, lof + 3, none⟩) hib).trans k03
            clear b7 bb7 hH
            go_wp2
            go_quiet (fail)
            go_wp2_with (first | (go_at_call 11; refine (HWK.out _).mono ?_; rintro e w8 ⟨rfl, b8⟩) | (go_at_call 15; refine (HIN.out _).mono ?_; rintro e w9 ⟨rfl, n9, rfl⟩; try simp only [World.drewN_drewN]))
            go_ret
            exact ⟨rfl, (below_drewN HBB.out _).trans (b8.mono (by have := HBB.out.size; simpa using this))⟩
        · have d0 : decide (0 ≤ cu) = false := decide_eq_false hc0
          have HTI : oz = some (ps0, M0) := by rw [← HOZ.out]; exact decB_told (n := (s0, M0, c0, ps0)) HN0.out (h1 := HS.out) (fun h => hc0 h.1)
          clear hc0
          obtain rfl := HTI
          go_wp2_with fail
          refine HDE.mono ?_
          rintro e w7 ⟨he, b7⟩
          clear HDE
          have bb7 := bbw.trans (b7.mono bbw.size)
          rcases he with ⟨hno, _⟩ | ⟨ps9, M9, hsm, qa, qc, rfl, hqc, hH⟩
          · cases hno
          cases hsm
          have HWK : Hid (∀ q, Calls Tryd.prog 11 #[] (w7.drewN q) fun e w' => e = .returned (.bool true) ∧ Below (w7.drewN q).heap.size (w7.drewN q) w') := fun q => beamWakes_any _ (HFW.out.next (below_drewN bb7 q))
          have HBB : Hid (Below w.heap.size w w7) := bb7
          have HIN : Hid (∀ q, Calls Tryd.prog 15 #[.slice qa ps0.length qc, p0] (w7.drewN q) fun e w' => e = .returned (.bool true) ∧ ∃ n, w' = (w7.drewN q).drewN n) := fun q => by
            have h := ints_any (.slice qa ps0.length qc) p0 ps0 ps0 w7.heap.size w7.heap.size (w7.drewN q) (by have := HPL.out; omega) hH ((HP0.out.below (b7.mono (by omega))).mono (by have := b7.size; omega))
            rw [decide_eq_true rfl] at h
            exact h
          have dMM : (M0 == M0) = true := by simp
          have r1 := (b7.cell (p := ⟨lb, lof + 1, none⟩) hib).trans k01
          have r3 := (b7.cell (p := ⟨lb, lof + 3, none⟩) hib).trans k03
          clear b7 bb7 hH
          go_wp2
          go_quiet (fail)
          go_wp2_with (first | (go_at_call 11; refine (HWK.out _).mono ?_; rintro e w8 ⟨rfl, b8⟩) | (go_at_call 15; refine (HIN.out _).mono ?_; rintro e w9 ⟨rfl, n9, rfl⟩; try simp only [World.drewN_drewN]))
          go_ret
          exact ⟨rfl, (below_drewN HBB.out _).trans (b8.mono (by have := HBB.out.size; simpa using this))⟩

/-- The law, of whatever pile, beam and depth. -/
theorem beamFirst_walk (n p : Int) (a : Option Addr) (len cap : Nat) (l : List (Int × Int)) (b d : Int) (w : World) (h0 : IsSyms w a len cap l) (hF : Firsts w) :
    Calls Tryd.prog 4 #[.agg #[.int .i64 n, .int .i64 p, .slice a len cap], .int .i64 b, .int .i64 d] w fun e w' => e = .returned (.bool true) ∧ Below w.heap.size w w' := by
  obtain ⟨rfl, _, _, ha, _⟩ := h0
  exact beamFirst_any n p a cap l b d w ha hF

end Go.Proofs.YtdnhnnidlangiabDoor
