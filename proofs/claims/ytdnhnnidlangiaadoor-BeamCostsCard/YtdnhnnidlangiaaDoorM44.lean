/-
  BeamCosts: the walk: whatever the pile, the path and the depth, the law answers true, and nothing that lay has turned. (Written by tpl_beamcosts.py.)
-/
import Derived.Test.YtdnhnnidlangiaaDoorM13
import Derived.Test.YtdnhnnidlangiaaDoorM19
import Derived.Test.YtdnhnnidlangiaaDoorM26
import Derived.Test.YtdnhnnidlangiaaDoorM43
import Derived.BigQuiet
import Derived.Deep.Cut
import Derived.Deep.CutRange
import Derived.Deep.DeepCutAuto
import Derived.Deep.QuietTactic
namespace Go.Proofs.YtdnhnnidlangiaaDoor
open Go.RowKit

theorem at_place17 (at_ d : Int) (hd : 0 < d) : ∃ p : Nat, (p : Int) < d ∧ (IntKind.u64.wrap at_).tmod d = (p : Int) := by
  have h0 : 0 ≤ IntKind.u64.wrap at_ := by rw [IntKind.wrap_u64]; omega
  have h1 := Int.tmod_nonneg d h0
  have h2 := Int.tmod_lt_of_pos (IntKind.u64.wrap at_) hd
  exact ⟨((IntKind.u64.wrap at_).tmod d).toNat, by omega, by omega⟩
theorem isRow_cap17 {k : IntKind} {w : World} {a : Option Addr} {len cap : Nat} {zs : List Int} (h : IsRow k w a len cap zs) : len ≤ cap := by
  rcases h with ⟨_, rfl, _, _⟩ | ⟨_, _, h, _⟩
  · omega
  · exact h
theorem holds_take17 {kd : IntKind} {n₀ cap : Nat} {w : World} {a : Option Addr} {n : Nat} {zs : List Int} (hn : zs.length = n) (h : Holds kd n₀ w (.slice a n cap) zs) (k : Nat) (hk : k ≤ n) : Holds kd n₀ w (.slice a k cap) (zs.take k) := by
  subst hn
  have hl : (zs.take k).length = k := by rw [List.length_take]; omega
  rcases h with ⟨⟨a', c, e, ha⟩, hz⟩ | ⟨b, off, c, e, hb, hc⟩
  · subst hz
    cases e
    obtain rfl : k = 0 := by simpa using hk
    exact .inl ⟨⟨_, _, rfl, ha⟩, by simp⟩
  · cases e
    refine .inr ⟨b, off, cap, by rw [hl], hb, fun j hj => ?_⟩
    rw [hl] at hj
    rw [hc j (by omega), List.getElem?_take, if_pos (by omega)]

/-- beam.Score, of a right pile, path and depth. -/
theorem Score_in17 (N : Nat) (p : Int) (a : Option Addr) (cap : Nat) (l : List (Int × Int)) (hp : PileOk (N : Int) p l) (pa : Option Addr) (pc : Nat) (ps : List Int) (hps : Path ps) (hlen : ps.length ≤ N) (D D1 : Nat) (hD1 : D + 1 = D1) (hD : D1 ≤ 3) (w : World) (ha : Syms w.heap.size w (.slice a l.length cap) l) (hpp : Holds .i64 w.heap.size w (.slice pa ps.length pc) ps) (hF : Firsts w) :
    Calls Tryd.prog 14 #[.agg #[.int .i64 N, .int .i64 p, .slice a l.length cap], .slice pa ps.length pc, .int .i64 (D1 : Int)] w fun e W' => e = .returned (.tuple #[.int .i64 (scoB N l D ps), .int .i64 0]) ∧ Below w.heap.size w W' := by
  refine (Score_any N p a cap l hp pa pc ps hps hlen (D1 : Int) w ha hpp hF).mono ?_
  rintro e W' ⟨he, hb⟩
  rcases he with ⟨_, rfl⟩ | ⟨hno, _⟩
  · exact ⟨by rw [show ((D1 : Int).toNat - 1) = D by omega], hb⟩
  · exact absurd ⟨by omega, by omega⟩ hno

set_option maxRecDepth 100000 in
set_option maxHeartbeats 8000000 in
theorem beamCosts_any (n p : Int) (a : Option Addr) (cap : Nat) (l : List (Int × Int)) (pa : Option Addr) (pc : Nat) (ps : List Int) (hpc : ps.length ≤ pc) (d : Int) (w : World) (ha : Syms w.heap.size w (.slice a l.length cap) l) (hpp : Holds .i64 w.heap.size w (.slice pa ps.length pc) ps) (hF : Firsts w) :
    Calls Tryd.prog 6 #[.agg #[.int .i64 n, .int .i64 p, .slice a l.length cap], .slice pa ps.length pc, .int .i64 d] w fun e w' => e = .returned (.bool true) ∧ Below w.heap.size w w' := by
  have HFW : Hid (Firsts w) := hF
  have b1 : Below w.heap.size w (w.alloc (.cells #[.int .i64 n, .int .i64 p, .slice a l.length cap] 24)) := (Below.refl w.heap.size w).alloc (Nat.le_refl _) _
  have x1 := Box.new w 24 #[.int .i64 n, .int .i64 p, .slice a l.length cap]
  have ha1 := ha.next b1
  have hpp1 := hpp.next b1
  by_cases hm : 400 < l.length
  · have dm : decide (400 < (l.length : Int)) = true := decide_eq_true (by omega)
    clear ha hpp ha1 hpp1
    go_enter Tryd.func6, Tryd.ntmps6
    go_wp2
    go_ret
    exact ⟨rfl, b1⟩
  have dm : decide (400 < (l.length : Int)) = false := decide_eq_false (by omega)
  have dm' : decide (400 < l.length) = false := decide_eq_false hm
  by_cases hp : PileOk n p l
  case neg =>
    have HRP := refPile_no n p a cap l (by omega) hp _ ha1
    clear ha hpp ha1 hpp1 hp
    go_enter Tryd.func6, Tryd.ntmps6
    go_wp2_with (go_at_call 19; refine HRP.mono ?_; rintro e w2 ⟨rfl, b2⟩)
    go_ret
    exact ⟨rfl, b1.trans (b2.mono b1.size)⟩
  obtain ⟨N, rfl⟩ := Int.eq_ofNat_of_zero_le (a := n) (by have := hp.1.1; omega)
  have hN2 : N < 65 := by have := hp.1.2.1; omega
  have HRP := refPile_yes (N : Int) p a cap l (by omega) hp _ ha1
  have HP : Hid (PileOk (N : Int) p l) := hp
  have HA : Hid (Syms w.heap.size w (.slice a l.length cap) l) := ha
  have HPP : Hid (Holds .i64 w.heap.size w (.slice pa ps.length pc) ps) := hpp
  have HM8 : Hid (∀ P, metB N l P ≤ 8 * (l.length : Int)) := fun P => met_eight hp P
  obtain ⟨ln, hln⟩ : ∃ ln, l.length = ln := ⟨_, rfl⟩
  have HLN : Hid (l.length = ln) := hln
  rw [hln] at HA HRP dm dm' x1 b1 hm HM8 ⊢
  obtain ⟨m, hmn⟩ : ∃ m, ps.length = m := ⟨_, rfl⟩
  have HMN : Hid (ps.length = m) := hmn
  rw [hmn] at HPP hpc ⊢
  by_cases hlong : N < m
  · have dl : decide ((N : Int) < (m : Int)) = true := decide_eq_true (by omega)
    have dl' : decide (N < m) = true := decide_eq_true hlong
    clear ha hpp ha1 hpp1 hp hln hmn
    go_enter Tryd.func6, Tryd.ntmps6
    go_wp2_with fail
    refine HRP.mono ?_
    rintro e w2 ⟨rfl, b2⟩
    have x2 := x1.next b2
    have c0 := x2.cell 0 _ rfl
    go_wp2
    go_ret
    exact ⟨rfl, b1.trans (b2.mono b1.size)⟩
  have dl : decide ((N : Int) < (m : Int)) = false := decide_eq_false (by omega)
  have dl' : decide (N < m) = false := decide_eq_false hlong
  have hmN : m ≤ N := by omega
  by_cases hps : Path ps
  case neg =>
    have HNP : Hid (¬ Path ps) := hps
    clear ha hpp ha1 hpp1 hp hln hmn hps
    go_enter Tryd.func6, Tryd.ntmps6
    go_wp2_with fail
    refine HRP.mono ?_
    rintro e w2 ⟨rfl, b2⟩
    have x2 := x1.next b2
    have c0 := x2.cell 0 _ rfl
    have bb2 := b1.trans (b2.mono b1.size)
    have HRQ := refPath_no pa pc ps (by rw [HMN.out]; omega) HNP.out w2 w2.heap.size (by rw [HMN.out]; exact HPP.out.next bb2)
    rw [HMN.out] at HRQ
    go_wp2_with (go_at_call 20; refine HRQ.mono ?_; rintro e w3 ⟨rfl, rfl⟩)
    go_ret
    exact ⟨rfl, bb2⟩
  have HPS : Hid (Path ps) := hps
  obtain ⟨D, q3, e3⟩ := at_place17 d 2 (by decide)
  have ew3 : IntKind.i64.wrap (D : Int) = (D : Int) := by rw [IntKind.wrap_i64]; omega
  obtain ⟨D1, hD1⟩ : ∃ D1, D + 1 = D1 := ⟨_, rfl⟩
  have eD : 1 + (D : Int) = (D1 : Int) := by omega
  have hD1b : D1 ≤ 2 := by omega
  have hD1c : 1 ≤ D1 := by omega
  have HD1 : Hid (D + 1 = D1) := hD1
  have HNO : Hid (∀ (i : Nat), i ≤ m → ∀ wx : World, Below w.heap.size w wx → Calls Tryd.prog 13 #[.agg #[.int .i64 N, .int .i64 p, .slice a ln cap], .slice pa i pc] wx fun e W' => ∃ qa qc, e = .returned (.tuple #[.agg #[.int .u32 (staB N l (ps.take i)), .int .i64 (metB N l (ps.take i)), .int .i64 0, .slice qa i qc], .int .i64 0]) ∧ W'.ownsRow wx.heap.size 3 1 (.slice qa i qc) i ((ps.take i).map (Value.int .i64)) ∧ Below wx.heap.size wx W') := fun i hi wx hb => by
    have hl9 : (ps.take i).length = i := by rw [List.length_take, HMN.out]; omega
    have h9 := Node_ok N p a cap l HP.out pa pc (ps.take i) (HPS.out.take i) (by rw [hl9]; omega) wx (by rw [HLN.out]; exact HA.out.next hb) (by rw [hl9]; exact holds_take17 HMN.out (HPP.out.next hb) i hi) (HFW.out.next hb)
    rw [hl9, HLN.out] at h9
    exact h9
  have HSO : Hid (∀ (i : Nat), i ≤ m → ∀ wx : World, Below w.heap.size w wx → Calls Tryd.prog 14 #[.agg #[.int .i64 N, .int .i64 p, .slice a ln cap], .slice pa i pc, .int .i64 (D1 : Int)] wx fun e W' => e = .returned (.tuple #[.int .i64 (scoB N l D (ps.take i)), .int .i64 0]) ∧ Below wx.heap.size wx W') := fun i hi wx hb => by
    have hl9 : (ps.take i).length = i := by rw [List.length_take, HMN.out]; omega
    have h9 := Score_in17 N p a cap l HP.out pa pc (ps.take i) (HPS.out.take i) (by rw [hl9]; omega) D D1 HD1.out (by omega) wx (by rw [HLN.out]; exact HA.out.next hb) (by rw [hl9]; exact holds_take17 HMN.out (HPP.out.next hb) i hi) (HFW.out.next hb)
    rw [hl9, HLN.out] at h9
    exact h9
  clear ha hpp ha1 hpp1 hp hln hmn hps hD1 q3 hlong
  go_enter Tryd.func6, Tryd.ntmps6
  go_wp2_with fail
  refine HRP.mono ?_
  rintro e w2 ⟨rfl, b2⟩
  clear HRP
  have x2 := x1.next b2
  have c0 := x2.cell 0 _ rfl
  have bb2 := b1.trans (b2.mono b1.size)
  have HRQ := refPath_yes pa pc ps (by rw [HMN.out]; omega) HPS.out w2 w2.heap.size (by rw [HMN.out]; exact HPP.out.next bb2)
  rw [HMN.out] at HRQ
  clear b2
  go_wp2_with (go_at_call 20; refine HRQ.mono ?_; rintro e w3 ⟨rfl, rfl⟩)
  clear HRQ c0
  go_loopw [7, 8] (fun sl si wr => ∃ i : Nat, i ≤ m + 1 ∧ si = .int .i64 i ∧ sl = .int .i64 (metB N l (ps.take (i - 1))) ∧ Below w2.heap.size w2 wr) (fun _ i _ => m + 1 - (intOf i).toNat)
  case atStart => exact ⟨0, by omega, rfl, rfl, Below.refl _ _⟩
  case round =>
    obtain ⟨i, hi, rfl, rfl, bw⟩ := hrel
    have xr := x2.next bw
    have bbw := bb2.trans (bw.mono bb2.size)
    have hsz := bw.size
    clear x2
    have k0 := xr.cell 0 _ rfl
    have k1 := xr.cell 1 _ rfl
    have k2 := xr.cell 2 _ rfl
    have hlx := xr.lt
    by_cases hlt : i ≤ m
    · have dlt : decide ((i : Int) ≤ (m : Int)) = true := decide_eq_true (by omega)
      have dlt' : decide (i ≤ m) = true := decide_eq_true hlt
      have hic : i ≤ pc := by omega
      have HND : Hid (∀ wx : World, Below wr.heap.size wr wx → Calls Tryd.prog 13 #[.agg #[.int .i64 N, .int .i64 p, .slice a ln cap], .slice pa i pc] wx fun e W' => ∃ qa qc, e = .returned (.tuple #[.agg #[.int .u32 (staB N l (ps.take i)), .int .i64 (metB N l (ps.take i)), .int .i64 0, .slice qa i qc], .int .i64 0]) ∧ W'.ownsRow wx.heap.size 3 1 (.slice qa i qc) i ((ps.take i).map (Value.int .i64)) ∧ Below wr.heap.size wr W' ∧ Below wx.heap.size wx W') := fun wx hbx => by
        refine (HNO.out i hlt wx (bbw.trans (hbx.mono bbw.size))).mono ?_
        rintro e W' ⟨qa, qc, rfl, ho, hb⟩
        exact ⟨qa, qc, rfl, ho, hbx.trans (hb.mono hbx.size), hb⟩
      have g1 : metB N l (ps.take (i - 1)) ≤ metB N l (ps.take i) := met_rise N l ps (by omega)
      have g2 := HM8.out (ps.take i)
      have g3 := sco_ge N l D (ps.take i) (by rw [List.length_take, HMN.out]; omega)
      have g0 := metB_pos N l (ps.take i)
      obtain ⟨K, hK⟩ : ∃ K, i + min D (N - i) = K := ⟨_, rfl⟩
      have HG4 : Hid (K ≤ m → scoB N l D (ps.take i) ≤ metB N l (ps.take K)) := fun h => sco_le N l D ps HPS.out (by rw [HMN.out]; exact hlt) (by rw [HMN.out]; exact hmN) hK.symm (by rw [HMN.out]; exact h)
      have g5 : D = 0 → scoB N l D (ps.take i) = metB N l (ps.take i) := fun h => by rw [h]; rfl
      obtain ⟨S, hS⟩ : ∃ S, staB N l (ps.take i) = S := ⟨_, rfl⟩
      obtain ⟨M, hM⟩ : ∃ M, metB N l (ps.take i) = M := ⟨_, rfl⟩
      have HM : Hid (metB N l (ps.take i) = M) := hM
      obtain ⟨V, hV⟩ : ∃ V, scoB N l D (ps.take i) = V := ⟨_, rfl⟩
      obtain ⟨La, hLa⟩ : ∃ La, metB N l (ps.take (i - 1)) = La := ⟨_, rfl⟩
      have HSC : Hid (∀ wx : World, Below w.heap.size w wx → Calls Tryd.prog 14 #[.agg #[.int .i64 N, .int .i64 p, .slice a ln cap], .slice pa i pc, .int .i64 (D1 : Int)] wx fun e W' => e = .returned (.tuple #[.int .i64 V, .int .i64 0]) ∧ Below wx.heap.size wx W') := fun wx hb => by rw [← hV]; exact HSO.out i hlt wx hb
      rw [hS, hM] at HND
      rw [hM] at g0 g1 g2 g3 g5
      rw [hV] at g3 g5 HG4
      rw [hLa] at g1 ⊢
      have d1 : decide (M < La) = false := decide_eq_false (by omega)
      have d2 : decide (8 * (ln : Int) < M) = false := decide_eq_false (by omega)
      have d3 : decide (V < M) = false := decide_eq_false (by omega)
      have eK : min ((i : Int) + (D1 : Int) - 1) (N : Int) = (K : Int) := by have := HD1.out; omega
      have HBW : Hid (Below w2.heap.size w2 wr) := bw
      have HBB : Hid (Below w.heap.size w wr) := bbw
      have hln4 : ln ≤ 400 := by omega
      clear hK hS hM hV hLa g1 g2 g3
      go_wp2
      go_cut [9, 10] (fun t9 t10 wx => ∃ (BN : Nat) (qa : Option Addr) (qc : Nat), t9 = .pointer (some ⟨BN, 0, none⟩) ∧ t10 = .int .i64 0 ∧ Box wx BN 32 #[.int .u32 S, .int .i64 M, .int .i64 0, .slice qa i qc] ∧ wx.ownsRow wr.heap.size 3 1 (.slice qa i qc) i ((ps.take i).map (Value.int .i64)) ∧ Below wr.heap.size wr wx)
      case first =>
        go_region_with (go_at_call 13; refine (HND.out _ (by first | exact below_drewN (Below.refl _ _) _ | exact Below.refl _ _ | exact (below_drewN (Below.refl _ _) _).alloc (Nat.le_refl _) _ | exact (Below.refl _ _).drew | exact ((Below.refl _ _).alloc (Nat.le_refl _) _).drew)).mono ?_; rintro e w5 ⟨qa, qc, rfl, o5, b5, b5'⟩; first | (have xz := Box.next (Box.new wr 32 #[.int .u32 0, .int .i64 0, .int .i64 0, .slice none 0 0]) ((Below.refl _ _).drew.trans b5'); have z0 := xz.cell 0 _ rfl; have z1 := xz.cell 1 _ rfl; have z2 := xz.cell 2 _ rfl; have z3 := xz.cell 3 _ rfl; have f0 := xz.free 0; have f1 := xz.free 1; have f2 := xz.free 2; have f3 := xz.free 3) | skip)
        all_goals (try go_wp2_with fail)
        all_goals go_meet
        all_goals first | exact ⟨_, qa, qc, rfl, rfl, xz.set4 _ _ _ _, rowN_base (row_set4 o5 (by simp) _ _ _ _) (by simp), below_set4 b5 (Nat.le_refl _) _ _ _ _⟩ | exact ⟨_, qa, qc, rfl, rfl, Box.new w5 32 _, rowN_base (o5.alloc _) (Nat.le_refl _), b5.alloc b5.size _⟩
      case rest =>
        obtain ⟨BN, qa, qc, rfl, rfl, xn, oq, b6⟩ := hcut
        have bb6 := HBB.out.trans (b6.mono HBB.out.size)
        have HBX : Hid (Below w2.heap.size w2 wc) := HBW.out.trans (b6.mono hsz)
        have x6 := xr.next b6
        have HSC6 : Hid (∀ wx : World, Below wc.heap.size wc wx → Calls Tryd.prog 14 #[.agg #[.int .i64 N, .int .i64 p, .slice a ln cap], .slice pa i pc, .int .i64 (D1 : Int)] wx fun e W' => e = .returned (.tuple #[.int .i64 V, .int .i64 0]) ∧ Below wc.heap.size wc W') := fun wx hbx => by
          refine (HSC.out wx (bb6.trans (hbx.mono bb6.size))).mono ?_
          rintro e W' ⟨rfl, hb⟩
          exact ⟨rfl, hbx.trans (hb.mono hbx.size)⟩
        have HHQ : Hid (Holds .i64 wc.heap.size wc (.slice qa i qc) (ps.take i)) := holds_of_row oq
        have HB6 : Hid (Below w.heap.size w wc) := bb6
        clear k0 k1 k2 xr oq b6 bb6 HND HSC
        have k0 := x6.cell 0 _ rfl
        have k1 := x6.cell 1 _ rfl
        have k2 := x6.cell 2 _ rfl
        go_wp2
        go_cut [11, 12] (fun t11 t12 wx => t11 = .int .i64 V ∧ t12 = .int .i64 0 ∧ Below wc.heap.size wc wx)
        case first =>
          go_region_with (go_at_call 14; refine (HSC6.out _ (by first | exact below_drewN (Below.refl _ _) _ | exact Below.refl _ _ | exact (below_drewN (Below.refl _ _) _).alloc (Nat.le_refl _) _ | exact (Below.refl _ _).drew | exact ((Below.refl _ _).alloc (Nat.le_refl _) _).drew)).mono ?_; rintro e w7 ⟨rfl, b7⟩)
          all_goals (try go_wp2_with fail)
          all_goals go_meet
          all_goals exact ⟨rfl, rfl, b7⟩
        case rest =>
          obtain ⟨rfl, rfl, b8⟩ := hcut
          clear k0 k1 k2
          have x8 := x6.next b8
          have xn8 := xn.next b8
          have HX8 : Hid (Below w2.heap.size w2 wc) := HBX.out.trans (b8.mono HBX.out.size)
          have HB8 : Hid (Below w.heap.size w wc) := HB6.out.trans (b8.mono HB6.out.size)
          have HQ8 : Hid (Holds .i64 wc.heap.size wc (.slice qa i qc) (ps.take i)) := HHQ.out.next b8
          have hl8 := x8.lt
          have k0 := x8.cell 0 _ rfl
          have k1 := x8.cell 1 _ rfl
          have k2 := x8.cell 2 _ rfl
          have j1 := xn8.cell 1 _ rfl
          have j2 := xn8.cell 2 _ rfl
          have j3 := xn8.cell 3 _ rfl
          clear x6 xn b8 HSC6 HHQ
          by_cases hKm : K ≤ m
          · have dK : decide ((K : Int) ≤ (m : Int)) = true := decide_eq_true (by omega)
            have dK' : decide (K ≤ m) = true := decide_eq_true hKm
            have hKc : K ≤ pc := by omega
            have g4 := HG4.out hKm
            obtain ⟨SK, hSK⟩ : ∃ SK, staB N l (ps.take K) = SK := ⟨_, rfl⟩
            obtain ⟨MK, hMK⟩ : ∃ MK, metB N l (ps.take K) = MK := ⟨_, rfl⟩
            rw [hMK] at g4
            have d4 : decide (MK < V) = false := decide_eq_false (by omega)
            have HNK : Hid (∀ wx : World, Below wc.heap.size wc wx → Calls Tryd.prog 13 #[.agg #[.int .i64 N, .int .i64 p, .slice a ln cap], .slice pa K pc] wx fun e W' => ∃ qa qc, e = .returned (.tuple #[.agg #[.int .u32 SK, .int .i64 MK, .int .i64 0, .slice qa K qc], .int .i64 0]) ∧ Below wc.heap.size wc W' ∧ Below wx.heap.size wx W') := fun wx hbx => by
              have h9 := HNO.out K hKm wx (HB8.out.trans (hbx.mono HB8.out.size))
              rw [hSK, hMK] at h9
              refine h9.mono ?_
              rintro e W' ⟨qa, qc, rfl, _, hb⟩
              exact ⟨qa, qc, rfl, hbx.trans (hb.mono hbx.size), hb⟩
            clear hSK hMK g4 hKm
            go_wp2
            go_cut [14, 15] (fun t14 t15 wx => ∃ (BK : Nat) (qa : Option Addr) (qc : Nat), t14 = .pointer (some ⟨BK, 0, none⟩) ∧ t15 = .int .i64 0 ∧ Box wx BK 32 #[.int .u32 SK, .int .i64 MK, .int .i64 0, .slice qa K qc] ∧ Below wc.heap.size wc wx)
            case first =>
              go_region_with (go_at_call 13; refine (HNK.out _ (by first | exact below_drewN (Below.refl _ _) _ | exact Below.refl _ _ | exact (below_drewN (Below.refl _ _) _).alloc (Nat.le_refl _) _ | exact (Below.refl _ _).drew | exact ((Below.refl _ _).alloc (Nat.le_refl _) _).drew)).mono ?_; rintro e w5 ⟨qa, qc, rfl, b5, b5'⟩; first | (have xz := Box.next (Box.new wc 32 #[.int .u32 0, .int .i64 0, .int .i64 0, .slice none 0 0]) ((Below.refl _ _).drew.trans b5'); have z0 := xz.cell 0 _ rfl; have z1 := xz.cell 1 _ rfl; have z2 := xz.cell 2 _ rfl; have z3 := xz.cell 3 _ rfl; have f0 := xz.free 0; have f1 := xz.free 1; have f2 := xz.free 2; have f3 := xz.free 3) | skip)
              all_goals (try go_wp2_with fail)
              all_goals go_meet
              all_goals first | exact ⟨_, qa, qc, rfl, rfl, xz.set4 _ _ _ _, below_set4 b5 (Nat.le_refl _) _ _ _ _⟩ | exact ⟨_, qa, qc, rfl, rfl, Box.new w5 32 _, b5.alloc b5.size _⟩
            case rest =>
              obtain ⟨BK, ka, kc, rfl, rfl, xk, b9⟩ := hcut
              clear k0 k1 k2 j1 j2 j3
              have xn9 := xn8.next b9
              have HX9 : Hid (Below w2.heap.size w2 wc) := HX8.out.trans (b9.mono HX8.out.size)
              have HB9 : Hid (Below w.heap.size w wc) := HB8.out.trans (b9.mono HB8.out.size)
              have HQ9 : Hid (Holds .i64 wc.heap.size wc (.slice qa i qc) (ps.take i)) := HQ8.out.next b9
              have m1 := xk.cell 1 _ rfl
              have j1 := xn9.cell 1 _ rfl
              have j2 := xn9.cell 2 _ rfl
              have j3 := xn9.cell 3 _ rfl
              clear b9 HNK
              have HII : Hid (∀ q, Calls Tryd.prog 18 #[.slice qa i qc, .slice pa i pc] (wc.drewN q) fun e w' => e = .returned (.bool true) ∧ ∃ n, w' = (wc.drewN q).drewN n) := fun q => by
                have h9 := ints_any (.slice qa i qc) (.slice pa i pc) (ps.take i) (ps.take i) wc.heap.size wc.heap.size (wc.drewN q) (by rw [List.length_take, HMN.out]; omega) HQ9.out (holds_take17 HMN.out (HPP.out.next HB9.out) i hlt)
                rw [decide_eq_true rfl] at h9
                exact h9
              by_cases hD0 : D = 0
              · have dd : ((D1 : Int) == 1) = true := by have := HD1.out; simp; omega
                have dv : (V != M) = false := by rw [g5 hD0]; simp
                clear hD0 g5
                go_wp2
                go_quiet ((go_at_call 18; exact Calls.quiet_of (HII.out _)))
                go_wp2
                go_roundw
                case rel => exact ⟨i + 1, by omega, by go_num, by rw [Nat.add_sub_cancel, HM.out], below_drewN HX9.out _⟩
                case measure => simp [intOf]; omega
              · have dd : ((D1 : Int) == 1) = false := by have := HD1.out; rw [beq_eq_false_iff_ne]; omega
                clear hD0 g5
                go_wp2
                go_quiet ((go_at_call 18; exact Calls.quiet_of (HII.out _)))
                go_wp2
                go_roundw
                case rel => exact ⟨i + 1, by omega, by go_num, by rw [Nat.add_sub_cancel, HM.out], below_drewN HX9.out _⟩
                case measure => simp [intOf]; omega
          · have dK : decide ((K : Int) ≤ (m : Int)) = false := decide_eq_false (by omega)
            have dK' : decide (K ≤ m) = false := decide_eq_false hKm
            clear hKm
            have HII : Hid (∀ q, Calls Tryd.prog 18 #[.slice qa i qc, .slice pa i pc] (wc.drewN q) fun e w' => e = .returned (.bool true) ∧ ∃ n, w' = (wc.drewN q).drewN n) := fun q => by
              have h9 := ints_any (.slice qa i qc) (.slice pa i pc) (ps.take i) (ps.take i) wc.heap.size wc.heap.size (wc.drewN q) (by rw [List.length_take, HMN.out]; omega) HQ8.out (holds_take17 HMN.out (HPP.out.next HB8.out) i hlt)
              rw [decide_eq_true rfl] at h9
              exact h9
            by_cases hD0 : D = 0
            · have dd : ((D1 : Int) == 1) = true := by have := HD1.out; simp; omega
              have dv : (V != M) = false := by rw [g5 hD0]; simp
              clear hD0 g5
              go_wp2
              go_quiet ((go_at_call 18; exact Calls.quiet_of (HII.out _)))
              go_wp2
              go_roundw
              case rel => exact ⟨i + 1, by omega, by go_num, by rw [Nat.add_sub_cancel, HM.out], below_drewN HX8.out _⟩
              case measure => simp [intOf]; omega
            · have dd : ((D1 : Int) == 1) = false := by have := HD1.out; rw [beq_eq_false_iff_ne]; omega
              clear hD0 g5
              go_wp2
              go_quiet ((go_at_call 18; exact Calls.quiet_of (HII.out _)))
              go_wp2
              go_roundw
              case rel => exact ⟨i + 1, by omega, by go_num, by rw [Nat.add_sub_cancel, HM.out], below_drewN HX8.out _⟩
              case measure => simp [intOf]; omega
    · obtain rfl : i = m + 1 := by omega
      have dlt : decide (((m + 1 : Nat) : Int) ≤ (m : Int)) = false := decide_eq_false (by omega)
      have dlt'' : decide ((m : Int) + 1 ≤ (m : Int)) = false := decide_eq_false (by omega)
      have HST := States_ok pa pc ps (by rw [HMN.out]; omega) HPS.out wr (by rw [HMN.out]; exact HPP.out.next bbw)
      rw [HMN.out] at HST
      have HSL : Hid ((statesOf beginN ps).length = m) := (statesOf_len _ _).trans HMN.out
      have HTK : Hid (ps.take m = ps) := List.take_of_length_le (by rw [HMN.out]; exact Nat.le_refl _)
      have dmm : ((m : Int) != (m : Int)) = false := by simp
      rw [Nat.add_sub_cancel]
      clear HSO
      go_wp2_with fail
      refine HST.mono ?_
      rintro e w5 ⟨r5, rfl, ⟨hr5, ar, cr, e5, hcr⟩, b5⟩
      clear HST
      rw [HSL.out] at e5 hcr
      subst e5
      have x5 := xr.next b5
      have bb5 := bbw.trans (b5.mono bbw.size)
      have HNM := HNO.out m (Nat.le_refl _) w5 bb5
      rw [HTK.out] at HNM
      clear k0 k1 k2
      have k0 := x5.cell 0 _ rfl
      have k1 := x5.cell 1 _ rfl
      have k2 := x5.cell 2 _ rfl
      clear b5
      go_wp2_with fail
      refine HNM.mono ?_
      rintro e w6 ⟨qa, qc, rfl, o6, b6⟩
      clear HNM o6
      have xn := Box.new w6 32 #[.int .u32 (staB N l ps), .int .i64 (metB N l ps), .int .i64 0, .slice qa m qc]
      have b7 : Below w5.heap.size w5 (w6.alloc (.cells #[.int .u32 (staB N l ps), .int .i64 (metB N l ps), .int .i64 0, .slice qa m qc] 32)) := b6.alloc b6.size _
      have bb7 := bb5.trans (b7.mono bb5.size)
      have hr7 := hr5.next b7
      have j0 := xn.cell 0 _ rfl
      have j1 := xn.cell 1 _ rfl
      clear k0 k1 k2 b6 b7 hr5 x5
      obtain ⟨W7, hW7⟩ : ∃ W7, w6.alloc (.cells #[.int .u32 (staB N l ps), .int .i64 (metB N l ps), .int .i64 0, .slice qa m qc] 32) = W7 := ⟨_, rfl⟩
      obtain ⟨BM, hBM⟩ : ∃ BM, w6.heap.size = BM := ⟨_, rfl⟩
      have HWK : Hid (∀ wx : World, wx.heap = W7.heap → Below w.heap.size w wx → Calls Tryd.prog 24 #[] wx fun e w' => e = .returned (.bool true) ∧ Below w.heap.size w w') := fun wx _ hb => (beamWakes_any wx (HFW.out.next hb)).mono fun e w' ⟨h, hb'⟩ => ⟨h, hb.trans (hb'.mono hb.size)⟩
      rw [hW7] at bb7 hr7 j0 j1
      by_cases hm0 : m = 0
      · have dm0 : ((m : Int) == 0) = true := by simp [hm0]
        have hps0 : ps = [] := List.length_eq_zero_iff.1 (by rw [HMN.out]; exact hm0)
        have eS : staB N l ps = (beginN : Int) := by rw [hps0]; rfl
        have eM : metB N l ps = 0 := by rw [hps0]; rfl
        rw [eS] at j0
        rw [eM] at j1
        rw [eS, eM] at hW7
        have dSS : ((beginN : Int) == (beginN : Int)) = true := by simp
        clear hm0 hps0
        go_wp2
        try rw [hW7]
        try rw [hBM]
        try rw [hBM] at j0 j1
        clear hW7 hBM hr7
        go_region_with (first | (go_at_call 32; refine (Begin_any _).mono ?_; rintro e w8 ⟨rfl, rfl⟩) | (go_at_call 24; refine (HWK.out _ (by rfl) (by first | exact bb7 | exact below_drewN bb7 _ | exact bb7.drew)).mono ?_; rintro e w9 ⟨rfl, b9⟩))
        all_goals (
          go_wp2
          go_ret
          exact ⟨rfl, b9⟩)
      · obtain ⟨m', rfl⟩ : ∃ m', m = m' + 1 := ⟨m - 1, by omega⟩
        have dm0 : ((m' : Int) + 1 == 0) = false := by rw [beq_eq_false_iff_ne]; omega
        obtain ⟨rb, ro, rfl, _, hcs⟩ := holds_at hr7 HSL.out (by omega)
        have cL := hcs m' _ (sta_end N l ps HMN.out)
        obtain ⟨S, hS⟩ : ∃ S, staB N l ps = S := ⟨_, rfl⟩
        rw [hS] at j0 cL hW7
        have dSS : (S == S) = true := by simp
        have hm64 : m' < 65 := by omega
        have ewm : IntKind.i64.wrap (m' : Int) = (m' : Int) := by rw [IntKind.wrap_i64]; omega
        have hq2 : (m' : Int) < (m' : Int) + 1 := by omega
        clear hm0 hcs hr7
        go_wp2
        try rw [hW7]
        try rw [hBM]
        try rw [hBM] at j0 j1
        clear hW7 hBM
        go_region_with (go_at_call 24; refine (HWK.out _ (by rfl) (by first | exact bb7 | exact below_drewN bb7 _ | exact bb7.drew)).mono ?_; rintro e w9 ⟨rfl, b9⟩)
        all_goals (
          go_wp2
          go_ret
          exact ⟨rfl, b9⟩)

/-- The law, of whatever pile, path and depth. -/
theorem beamCosts_walk (n p : Int) (a : Option Addr) (len cap : Nat) (l : List (Int × Int)) (a1 : Option Addr) (len1 cap1 : Nat) (z1 : List Int) (d : Int) (w : World) (h0 : IsSyms w a len cap l) (h1 : IsRow .i64 w a1 len1 cap1 z1) (hF : Firsts w) :
    Calls Tryd.prog 6 #[.agg #[.int .i64 n, .int .i64 p, .slice a len cap], .slice a1 len1 cap1, .int .i64 d] w fun e w' => e = .returned (.bool true) ∧ Below w.heap.size w w' := by
  obtain ⟨rfl, _, _, ha, _⟩ := h0
  have hc := isRow_cap17 h1
  obtain ⟨xs, rfl, hx, _⟩ := holds_of_isRow h1
  exact beamCosts_any n p a cap l a1 cap1 xs hc d w ha hx hF

end Go.Proofs.YtdnhnnidlangiaaDoor
