/-
  BeamScores: the walk: whatever the pile, the path and the depth, the law answers true, and nothing that lay has turned.
-/
import Derived.Test.YtdnhnnidlangiabDoorBeamWakes
import Derived.Test.YtdnhnnidlangiabDoorRefPath
import Derived.Test.YtdnhnnidlangiabDoorRefChild
namespace Go.Proofs.YtdnhnnidlangiabDoor
open Go.RowKit

theorem at_place14 (at_ d : Int) (hd : 0 < d) : ∃ p : Nat, (p : Int) < d ∧ (IntKind.u64.wrap at_).tmod d = (p : Int) := by
  have h0 : 0 ≤ IntKind.u64.wrap at_ := by rw [IntKind.wrap_u64]; omega
  have h1 := Int.tmod_nonneg d h0
  have h2 := Int.tmod_lt_of_pos (IntKind.u64.wrap at_) hd
  exact ⟨((IntKind.u64.wrap at_).tmod d).toNat, by omega, by omega⟩

/-- beam.Score, of a right pile, path and depth. -/
theorem Score_in (N : Nat) (p : Int) (a : Option Addr) (cap : Nat) (l : List (Int × Int)) (hp : PileOk (N : Int) p l) (pa : Option Addr) (pc : Nat) (ps : List Int) (hps : Path ps) (hlen : ps.length ≤ N) (D D1 : Nat) (hD1 : D + 1 = D1) (hD : D1 ≤ 3) (w : World) (ha : Syms w.heap.size w (.slice a l.length cap) l) (hpp : Holds .i64 w.heap.size w (.slice pa ps.length pc) ps) (hF : Firsts w) :
    Calls Tryd.prog 9 #[.agg #[.int .i64 N, .int .i64 p, .slice a l.length cap], .slice pa ps.length pc, .int .i64 (D1 : Int)] w fun e W' => e = .returned (.tuple #[.int .i64 (scoB N l D ps), .int .i64 0]) ∧ Below w.heap.size w W' := by
  refine (Score_any N p a cap l hp pa pc ps hps hlen (D1 : Int) w ha hpp hF).mono ?_
  rintro e W' ⟨he, hb⟩
  rcases he with ⟨_, rfl⟩ | ⟨hno, _⟩
  · exact ⟨by rw [show ((D1 : Int).toNat - 1) = D by omega], hb⟩
  · exact absurd ⟨by omega, by omega⟩ hno

/-- The least of the first children's Scores. -/
def scTo (N : Nat) (l : List (Int × Int)) (D : Nat) (ps : List Int) (k : Nat) : Int := minF ((nib16.take k).map fun k => scoB N l D (ps ++ [k]))
theorem scTo_next (N : Nat) (l : List (Int × Int)) (D : Nat) (ps : List Int) {k : Nat} (h : k < 16) : scTo N l D ps (k + 1) = minStep (scTo N l D ps k) (scoB N l D (ps ++ [(k : Int)])) := by
  unfold scTo
  rw [take_snoc (nib16_get h), List.map_append, List.map_singleton, minF_snoc]
theorem scTo_end (N : Nat) (l : List (Int × Int)) (D : Nat) (ps : List Int) (hi : ps.length ≠ N) : scTo N l D ps 16 = scoB N l (D + 1) ps := by
  unfold scTo scoB
  rw [scA_succ stB (coB N l) N (beginN : Int) D ps hi, List.take_of_length_le (by decide)]

set_option maxRecDepth 100000 in
set_option maxHeartbeats 4000000 in
theorem beamScores_any (n p : Int) (a : Option Addr) (cap : Nat) (l : List (Int × Int)) (pa : Option Addr) (pc : Nat) (ps : List Int) (d : Int) (w : World) (ha : Syms w.heap.size w (.slice a l.length cap) l) (hpp : Holds .i64 w.heap.size w (.slice pa ps.length pc) ps) (hF : Firsts w) :
    Calls Tryd.prog 3 #[.agg #[.int .i64 n, .int .i64 p, .slice a l.length cap], .slice pa ps.length pc, .int .i64 d] w fun e w' => e = .returned (.bool true) ∧ Below w.heap.size w w' := by
  have HFW : Hid (Firsts w) := hF
  have b1 : Below w.heap.size w (w.alloc (.cells #[.int .i64 n, .int .i64 p, .slice a l.length cap] 24)) := (Below.refl w.heap.size w).alloc (Nat.le_refl _) _
  have x1 := Box.new w 24 #[.int .i64 n, .int .i64 p, .slice a l.length cap]
  have ha1 := ha.next b1
  have hpp1 := hpp.next b1
  by_cases hm : 400 < l.length
  · have dm : decide (400 < (l.length : Int)) = true := decide_eq_true (by omega)
    clear ha hpp ha1 hpp1
    go_enter Tryd.func3, Tryd.ntmps3
    go_wp2
    go_ret
    exact ⟨rfl, b1⟩
  have dm : decide (400 < (l.length : Int)) = false := decide_eq_false (by omega)
  have dm' : decide (400 < l.length) = false := decide_eq_false hm
  by_cases hp : PileOk n p l
  case neg =>
    have HRP := refPile_no n p a cap l (by omega) hp _ ha1
    clear ha hpp ha1 hpp1 hp
    go_enter Tryd.func3, Tryd.ntmps3
    go_wp2_with (go_at_call 7; refine HRP.mono ?_; rintro e w2 ⟨rfl, b2⟩)
    go_ret
    exact ⟨rfl, b1.trans (b2.mono b1.size)⟩
  obtain ⟨N, rfl⟩ := Int.eq_ofNat_of_zero_le (a := n) (by have := hp.1.1; omega)
  have hN2 : N < 65 := by have := hp.1.2.1; omega
  have HRP := refPile_yes (N : Int) p a cap l (by omega) hp _ ha1
  have HP : Hid (PileOk (N : Int) p l) := hp
  have HA : Hid (Syms w.heap.size w (.slice a l.length cap) l) := ha
  have HPP : Hid (Holds .i64 w.heap.size w (.slice pa ps.length pc) ps) := hpp
  obtain ⟨ln, hln⟩ : ∃ ln, l.length = ln := ⟨_, rfl⟩
  have HLN : Hid (l.length = ln) := hln
  rw [hln] at HA HRP dm dm' x1 b1 hm ⊢
  obtain ⟨m, hmn⟩ : ∃ m, ps.length = m := ⟨_, rfl⟩
  have HMN : Hid (ps.length = m) := hmn
  rw [hmn] at HPP ⊢
  by_cases hlong : N < m
  · have dl : decide ((N : Int) < (m : Int)) = true := decide_eq_true (by omega)
    have dl' : decide (N < m) = true := decide_eq_true hlong
    clear ha hpp ha1 hpp1 hp hln hmn
    go_enter Tryd.func3, Tryd.ntmps3
    go_wp2_with fail
    refine HRP.mono ?_
    rintro e w2 ⟨rfl, b2⟩
    have x2 := x1.next b2
    have c0 := x2.cell 0 _ rfl
    go_wp2
    go_ret
    exact ⟨rfl, b1.trans (b2.mono b1.size)⟩
  have dl : decide ((N : Int) < (m : Int)) = false := decide_eq_false (by omega)
  have dl' : decide (N < m) = false := decide_eq_false hlong
  by_cases hps : Path ps
  case neg =>
    have HNP : Hid (¬ Path ps) := hps
    clear ha hpp ha1 hpp1 hp hln hmn hps
    go_enter Tryd.func3, Tryd.ntmps3
    go_wp2_with fail
    refine HRP.mono ?_
    rintro e w2 ⟨rfl, b2⟩
    have x2 := x1.next b2
    have c0 := x2.cell 0 _ rfl
    have bb2 := b1.trans (b2.mono b1.size)
    have HRQ := refPath_no pa pc ps (by rw [HMN.out]; omega) HNP.out w2 w2.heap.size (by rw [HMN.out]; exact HPP.out.next bb2)
    rw [HMN.out] at HRQ
    go_wp2_with (go_at_call 8; refine HRQ.mono ?_; rintro e w3 ⟨rfl, rfl⟩)
    go_ret
    exact ⟨rfl, bb2⟩
  have HPS : Hid (Path ps) := hps
  obtain ⟨D, q3, e3⟩ := at_place14 d 2 (by decide)
  have ew3 : IntKind.i64.wrap (D : Int) = (D : Int) := by rw [IntKind.wrap_i64]; omega
  obtain ⟨D1, hD1⟩ : ∃ D1, D + 1 = D1 := ⟨_, rfl⟩
  obtain ⟨D2, hD2⟩ : ∃ D2, D1 + 1 = D2 := ⟨_, rfl⟩
  have eD : 1 + (D : Int) = (D1 : Int) := by omega
  have eD2 : (D1 : Int) + 1 = (D2 : Int) := by omega
  have hD1b : D1 ≤ 2 := by omega
  have hD2b : D2 ≤ 3 := by omega
  have HD1 : Hid (D + 1 = D1) := hD1
  have HD2 : Hid (D1 + 1 = D2) := hD2
  clear ha hpp ha1 hpp1 hp hln hmn hps hD1 hD2 q3 hm
  go_enter Tryd.func3, Tryd.ntmps3
  go_wp2_with fail
  refine HRP.mono ?_
  rintro e w2 ⟨rfl, b2⟩
  clear HRP
  have x2 := x1.next b2
  have c0 := x2.cell 0 _ rfl
  have c1 := x2.cell 1 _ rfl
  have c2 := x2.cell 2 _ rfl
  have bb2 := b1.trans (b2.mono b1.size)
  have HRQ := refPath_yes pa pc ps (by rw [HMN.out]; omega) HPS.out w2 w2.heap.size (by rw [HMN.out]; exact HPP.out.next bb2)
  have HSC := Score_in N p a cap l HP.out pa pc ps HPS.out (by rw [HMN.out]; omega) D1 D2 HD2.out hD2b w2 (by rw [HLN.out]; exact HA.out.next bb2) (by rw [HMN.out]; exact HPP.out.next bb2) (HFW.out.next bb2)
  rw [HMN.out] at HRQ HSC
  rw [HLN.out] at HSC
  obtain ⟨V, hV⟩ : ∃ V, scoB N l D1 ps = V := ⟨_, rfl⟩
  rw [hV] at HSC
  have HV : Hid (scoB N l D1 ps = V) := hV
  clear hV
  go_wp2_with (first | (go_at_call 8; refine HRQ.mono ?_; rintro e w3 ⟨rfl, rfl⟩) | fail)
  refine HSC.mono ?_
  rintro e w4 ⟨rfl, b4⟩
  clear HSC HRQ c0 c1 c2
  have x4 := x2.next b4
  have k0 := x4.cell 0 _ rfl
  have k1 := x4.cell 1 _ rfl
  have k2 := x4.cell 2 _ rfl
  have bb4 := bb2.trans (b4.mono bb2.size)
  clear x2 b4 b2 bb2
  by_cases hmN : m = N
  · have de : ((m : Int) == (N : Int)) = true := by rw [hmN]; simp
    have HND := Node_ok N p a cap l HP.out pa pc ps HPS.out (by rw [HMN.out]; omega) w4 (by rw [HLN.out]; exact HA.out.next bb4) (by rw [HMN.out]; exact HPP.out.next bb4) (HFW.out.next bb4)
    rw [HMN.out, HLN.out] at HND
    have eV : metB N l ps = V := by
      rw [← HV.out]
      exact (scA_end stB (coB N l) N (beginN : Int) D1 ps (by rw [HMN.out]; exact hmN)).symm
    rw [eV] at HND
    have dVV : (V == V) = true := by simp
    clear eV hmN
    go_wp2_with fail
    refine HND.mono ?_
    rintro e w5 ⟨qa, qc, rfl, o5, b5⟩
    clear HND o5
    have xn := Box.new w5 34 #[.int .u32 (staB N l ps), .int .i64 V, .int .i64 0, .slice qa m qc]
    have b6 : Below w.heap.size w (w5.alloc (.cells #[.int .u32 (staB N l ps), .int .i64 V, .int .i64 0, .slice qa m qc] 34)) := (bb4.trans (b5.mono bb4.size)).alloc (Nat.le_trans bb4.size b5.size) _
    have HWK := beamWakes_any _ (HFW.out.next b6)
    have j1 := xn.cell 1 _ rfl
    go_wp2_with (go_at_call 11; refine HWK.mono ?_; rintro e w8 ⟨rfl, b8⟩)
    go_ret
    exact ⟨rfl, b6.trans (b8.mono b6.size)⟩
  have de : ((m : Int) == (N : Int)) = false := by rw [beq_eq_false_iff_ne]; omega
  have HE : Hid (scTo N l D ps 16 = V) := by
    have := scTo_end N l D ps (by rw [HMN.out]; exact hmN)
    rw [HD1.out, HV.out] at this
    exact this
  have hmN' : m < N := by omega
  obtain ⟨i0, hi, hz0, hz1, hz2⟩ := info_parts infoI64
  clear hlong hmN k0 k1 k2
  have q0 := x4.cell 0 _ rfl
  go_wp2
  clear q0
  go_loopw [11, 12] (fun sa sb wr => ∃ k : Nat, k ≤ 16 ∧ sb = .int .i64 k ∧ sa = .int .i64 (scTo N l D ps k) ∧ Below w4.heap.size w4 wr) (fun _ i _ => 16 - (intOf i).toNat)
  case atStart => exact ⟨0, by omega, rfl, rfl, Below.refl _ _⟩
  case round =>
    obtain ⟨k, hk, rfl, rfl, bw⟩ := hrel
    have xr := x4.next bw
    have bbw := bb4.trans (bw.mono bb4.size)
    clear x4
    by_cases hlt : k < 16
    · have HTW : Hid (∀ (wx : World), Holds .i64 w.heap.size wx (.slice pa m pc) ps → Calls Tryd.prog 12 #[.slice pa m pc] wx fun e W' => ∃ r, e = .returned r ∧ W'.ownsRow wx.heap.size 3 1 r m (ps.map (Value.int .i64)) ∧ Below wx.heap.size wx W') := fun wx hx => by
        have := twinInts_any (.slice pa m pc) ps w.heap.size (by rw [HMN.out]; omega) wx hx
        rw [HMN.out] at this
        exact this
      have k0 := xr.cell 0 _ rfl
      have k1 := xr.cell 1 _ rfl
      have k2 := xr.cell 2 _ rfl
      have hlt1 := xr.lt
      obtain ⟨c, hc⟩ : ∃ c, scoB N l D (ps ++ [(k : Int)]) = c := ⟨_, rfl⟩
      have HNX : Hid (scTo N l D ps (k + 1) = minStep (scTo N l D ps k) c) := by rw [← hc]; exact scTo_next N l D ps hlt
      have HSO : Hid (∀ (wx : World) (qa : Option Addr) (qc : Nat), Below wr.heap.size wr wx → wx.ownsRow wr.heap.size 3 1 (.slice qa (m + 1) qc) (m + 1) (ps.map (Value.int .i64) ++ [.int .i64 (k : Int)]) → Calls Tryd.prog 9 #[.agg #[.int .i64 N, .int .i64 p, .slice a ln cap], .slice qa (m + 1) qc, .int .i64 (D1 : Int)] wx fun e W' => e = .returned (.tuple #[.int .i64 c, .int .i64 0]) ∧ Below wr.heap.size wr W') := fun wx qa qc hbx hox => by
        have hl9 : (ps ++ [(k : Int)]).length = m + 1 := by rw [List.length_append, HMN.out]; rfl
        have hbb := bbw.trans (hbx.mono bbw.size)
        have h9 : Holds .i64 wx.heap.size wx (.slice qa (m + 1) qc) (ps ++ [(k : Int)]) := holds_of_row (by rw [List.map_append]; exact hox)
        have := Score_in N p a cap l HP.out qa qc (ps ++ [(k : Int)]) (fun z hz => by
          rcases List.mem_append.1 hz with h | h
          · exact HPS.out z h
          · simp at h; subst h; omega) (by rw [hl9]; omega) D D1 HD1.out (by omega) wx (by rw [HLN.out]; exact HA.out.next hbb) (by rw [hl9]; exact h9) (HFW.out.next hbb)
        rw [hl9, HLN.out, hc] at this
        refine this.mono ?_
        rintro e W' ⟨rfl, hb⟩
        exact ⟨rfl, hbx.trans (hb.mono hbx.size)⟩
      have HPH : Hid (Holds .i64 w.heap.size wr (.slice pa m pc) ps) := HPP.out.below bbw
      have HBA : Hid (∀ q, Below wr.heap.size wr ((wr.drewN q).alloc (.cells #[.int .i64 (k : Int)] 3))) := fun q => (below_drewN (Below.refl _ _) q).alloc (Nat.le_refl _) _
      have HPHA : Hid (∀ q, Holds .i64 w.heap.size ((wr.drewN q).alloc (.cells #[.int .i64 (k : Int)] 3)) (.slice pa m pc) ps) := fun q => HPH.out.below ((HBA.out q).mono bbw.size)
      have HBB : Hid (Below wr.heap.size wr (wr.alloc (.cells #[.int .i64 (k : Int)] 3))) := (Below.refl _ _).alloc (Nat.le_refl _) _
      have HPHB : Hid (Holds .i64 w.heap.size (wr.alloc (.cells #[.int .i64 (k : Int)] 3)) (.slice pa m pc) ps) := HPH.out.below (HBB.out.mono bbw.size)
      have HNC : Hid ((wr.alloc (.cells #[.int .i64 (k : Int)] 3)).cell? ⟨wr.heap.size, 0, none⟩ = some (.int .i64 (k : Int))) := (Box.new wr 3 #[.int .i64 (k : Int)]).cell 0 _ rfl
      have HBW : Hid (Below w4.heap.size w4 wr) := bw
      have HSZ : Hid (w4.heap.size ≤ wr.heap.size) := bw.size
      obtain ⟨le, hle⟩ : ∃ le, scTo N l D ps k = le := ⟨_, rfl⟩
      rw [hle] at HNX ⊢
      have ELN : (ps.map (Value.int .i64)).length = m := by rw [List.length_map, HMN.out]
      clear hc hle bw
      go_wp2
      go_region_held_law (fun w' => w'.cell? ⟨w.heap.size, 0, none⟩ = some (.int .i64 (N : Int)) ∧ w'.cell? ⟨w.heap.size, 1, none⟩ = some (.int .i64 p) ∧ w'.cell? ⟨w.heap.size, 2, none⟩ = some (.slice a ln cap)) (go_keep) (first | (go_at_call 12; refine (HTW.out _ (by first | exact HPH.out | exact HPHA.out _ | exact HPHB.out)).mono ?_; rintro e w5 ⟨q, rfl, oq, b5⟩; obtain ⟨qa0, qc0, e9⟩ := rowN_shape oq; subst e9; have oq' : w5.ownsRow wr.heap.size 3 1 (.slice qa0 m qc0) m (ps.map (Value.int .i64)) := (by first | exact oq | exact rowN_base oq (by simp)); have BX2 : Below wr.heap.size wr w5 := (by first | exact (below_drewN (Below.refl _ _) _).trans b5 | exact (HBA.out _).trans (b5.mono (by simp)) | exact (below_drewN HBB.out _).trans (b5.mono (by simp))); have m0 := (BX2.cell (p := ⟨w.heap.size, 0, none⟩) hlt1).trans k0; have m1 := (BX2.cell (p := ⟨w.heap.size, 1, none⟩) hlt1).trans k1; have m2 := (BX2.cell (p := ⟨w.heap.size, 2, none⟩) hlt1).trans k2) | (refine step_append_lies _ rfl _ _ 25 rfl wr.heap.size 3 i0 (.int .i64 0) 1 8 Tryd.underlying25 hi hz0 hz1 hz2 rfl (by decide) (.slice qa0 m qc0) m (ps.map (Value.int .i64)) (by simp [Act.eval]) (by exact (oq'.alloc (.cells #[.int .i64 (k : Int)] 3))) ⟨w5.heap.size, 0, none⟩ 1 1 [.int .i64 (k : Int)] (by simp [Act.eval]) rfl (by exact World.news_of_block (World.alloc_heap_new _ _)) (by simp [Value.oneCell']) (by decide) (by unfold maxLen; omega) (by omega) (by have := BX2.size; simp; omega) _ rfl ?_; intro g9 cap9 w9 hown9 hgrow9 hat9 hlt9; have BX9 : Below wr.heap.size wr w9 := (BX2.alloc BX2.size (.cells #[.int .i64 (k : Int)] 3)).grown hgrow9 (by have := BX2.size; simp; omega) (fun z e => (oq'.lt z e).1); have m0' := (BX9.cell (p := ⟨w.heap.size, 0, none⟩) hlt1).trans k0; have m1' := (BX9.cell (p := ⟨w.heap.size, 1, none⟩) hlt1).trans k1; have m2' := (BX9.cell (p := ⟨w.heap.size, 2, none⟩) hlt1).trans k2) | (refine step_append_lies _ rfl _ _ 25 rfl wr.heap.size 3 i0 (.int .i64 0) 1 8 Tryd.underlying25 hi hz0 hz1 hz2 rfl (by decide) (.slice qa0 m qc0) m (ps.map (Value.int .i64)) (by simp [Act.eval]) (by exact oq') ⟨wr.heap.size, 0, none⟩ 1 1 [.int .i64 (k : Int)] (by simp [Act.eval]) rfl (by exact news_at ((b5.cell (p := ⟨wr.heap.size, 0, none⟩) (by simp)).trans HNC.out)) (by simp [Value.oneCell']) (by decide) (by unfold maxLen; omega) (by omega) (by have := BX2.size; simp; omega) _ rfl ?_; intro g9 cap9 w9 hown9 hgrow9 hat9 hlt9; have BX9 : Below wr.heap.size wr w9 := BX2.grown hgrow9 (by have := BX2.size; simp; omega) (fun z e => (oq'.lt z e).1); have m0' := (BX9.cell (p := ⟨w.heap.size, 0, none⟩) hlt1).trans k0; have m1' := (BX9.cell (p := ⟨w.heap.size, 1, none⟩) hlt1).trans k1; have m2' := (BX9.cell (p := ⟨w.heap.size, 2, none⟩) hlt1).trans k2) | (go_at_call 9; refine (HSO.out _ _ _ (by first | exact BX9 | exact below_drewN BX9 _) (by exact hown9)).mono ?_; rintro e w10 ⟨rfl, b10⟩; have m0'' := (b10.cell (p := ⟨w.heap.size, 0, none⟩) hlt1).trans k0; have m1'' := (b10.cell (p := ⟨w.heap.size, 1, none⟩) hlt1).trans k1; have m2'' := (b10.cell (p := ⟨w.heap.size, 2, none⟩) hlt1).trans k2))
      all_goals (
        have bX := HBW.out.trans (b10.mono HSZ.out)
        by_cases hl0 : le < 0
        · have dl0 : decide (le < 0) = true := decide_eq_true hl0
          have e1 : scTo N l D ps (k + 1) = c := by rw [HNX.out]; unfold minStep; rw [if_pos (.inl hl0)]
          clear hl0
          go_wp2
          go_roundw
          case rel => exact ⟨k + 1, hlt, by go_num, by rw [e1], bX⟩
          case measure => simp [intOf]; omega
        · have dl0 : decide (le < 0) = false := decide_eq_false hl0
          by_cases hl1 : c < le
          · have dl1 : decide (c < le) = true := decide_eq_true hl1
            have e1 : scTo N l D ps (k + 1) = c := by rw [HNX.out]; unfold minStep; rw [if_pos (.inr hl1)]
            clear hl0 hl1
            go_wp2
            go_roundw
            case rel => exact ⟨k + 1, hlt, by go_num, by rw [e1], bX⟩
            case measure => simp [intOf]; omega
          · have dl1 : decide (c < le) = false := decide_eq_false hl1
            have e1 : scTo N l D ps (k + 1) = le := by rw [HNX.out]; unfold minStep; rw [if_neg (by omega)]
            clear hl0 hl1
            go_wp2
            go_roundw
            case rel => exact ⟨k + 1, hlt, by go_num, by rw [e1], bX⟩
            case measure => simp [intOf]; omega)
    · obtain rfl : k = 16 := by omega
      rw [HE.out]
      have dVV : (V == V) = true := by simp
      have HWK := beamWakes_any wr (HFW.out.next bbw)
      go_wp2_with (go_at_call 11; refine HWK.mono ?_; rintro e w8 ⟨rfl, b8⟩)
      go_ret
      exact ⟨rfl, bbw.trans (b8.mono bbw.size)⟩

/-- The law, of whatever pile, path and depth. -/
theorem beamScores_walk (n p : Int) (a : Option Addr) (len cap : Nat) (l : List (Int × Int)) (a1 : Option Addr) (len1 cap1 : Nat) (z1 : List Int) (d : Int) (w : World) (h0 : IsSyms w a len cap l) (h1 : IsRow .i64 w a1 len1 cap1 z1) (hF : Firsts w) :
    Calls Tryd.prog 3 #[.agg #[.int .i64 n, .int .i64 p, .slice a len cap], .slice a1 len1 cap1, .int .i64 d] w fun e w' => e = .returned (.bool true) ∧ Below w.heap.size w w' := by
  obtain ⟨rfl, _, _, ha, _⟩ := h0
  obtain ⟨xs, rfl, hx, _⟩ := holds_of_isRow h1
  exact beamScores_any n p a cap l a1 cap1 xs d w ha hx hF

end Go.Proofs.YtdnhnnidlangiabDoor
