/-
  BeamExact: the walk: whatever the pile, the path, the beam and the depth, the law answers true, and nothing that lay has turned. (Written by tpl_beamexact.py, a case a theorem.)
-/
import Derived.Test.YtddcloanbpkecaaDoorM07
import Derived.Test.YtddcloanbpkecaaDoorM14
import Derived.Test.YtddcloanbpkecaaDoorM17
import Derived.Test.YtddcloanbpkecaaDoorM29
import Derived.Test.YtddcloanbpkecaaDoorM30
import Derived.Test.YtddcloanbpkecaaDoorM34
import Derived.Test.YtddcloanbpkecaaDoorM40
import Derived.BigQuiet
import Derived.Deep.Cut
import Derived.Deep.CutRange
import Derived.Deep.DeepCutAuto
import Derived.Deep.QuietTactic
namespace Go.Proofs.YtddcloanbpkecaaDoor
open Go.RowKit

set_option maxRecDepth 100000 in
set_option maxHeartbeats 4000000 in
theorem beamExact_lo (N : Nat) (p : Int) (a : Option Addr) (cap : Nat) (l : List (Int × Int)) (hl : l.length ≤ 400) (pa : Option Addr) (pc : Nat) (ps : List Int) (hpl : ps.length ≤ 100) (b d : Int) (hp : PileOk (N : Int) p l) (hm : ps.length ≤ N) (hps : Path ps) (hd : d < 1) (hbm : beamB b d = false) (w : World) (ha : Syms w.heap.size w (.slice a l.length cap) l) (hpp : Holds .i64 w.heap.size w (.slice pa ps.length pc) ps) (hF : Firsts w) :
    Calls Tryd.prog 3 #[.agg #[.int .i64 (N : Int), .int .i64 p, .slice a l.length cap], .slice pa ps.length pc, .int .i64 b, .int .i64 d] w fun e w' => e = .returned (.bool true) ∧ Below w.heap.size w w' := by
  have HFW : Hid (Firsts w) := hF
  have HP : Hid (PileOk (N : Int) p l) := hp
  have hN1 : 1 ≤ N := by have := hp.1.1; omega
  have hN2 : N < 65 := by have := hp.1.2.1; omega
  have HPS : Hid (Path ps) := hps
  have HBM := refBeam_any b d
  rw [hbm] at HBM
  have dl : decide (400 < (l.length : Int)) = false := decide_eq_false (by omega)
  have dl' : decide (400 < l.length) = false := decide_eq_false (by omega)
  have dq : decide (100 < (ps.length : Int)) = false := decide_eq_false (by omega)
  have dq' : decide (100 < ps.length) = false := decide_eq_false (by omega)
  have bb : Below w.heap.size w (w.alloc (.cells #[.int .i64 (N : Int), .int .i64 p, .slice a l.length cap] 24)) := (Below.refl w.heap.size w).alloc (Nat.le_refl _) _
  have xa := Box.new w 24 #[.int .i64 (N : Int), .int .i64 p, .slice a l.length cap]
  replace ha := ha.next bb
  replace hpp := hpp.next bb
  have HNB : Hid (¬ ((1 ≤ b ∧ b ≤ 16) ∧ 1 ≤ d ∧ d ≤ 3)) := by
    show ¬ _
    intro h
    unfold beamB at hbm
    simp at hbm
    omega
  clear hp hF hbm hps
  go_enter Tryd.func3, Tryd.ntmps3
  go_wp2_with fail
  refine (HBM _).mono ?_
  rintro e wz ⟨rfl, rfl⟩
  have cxa0 := xa.cell 0 _ rfl
  have cxa1 := xa.cell 1 _ rfl
  have cxa2 := xa.cell 2 _ rfl
  go_wp2_with fail
  refine (twinPile_any (N : Int) p (.slice a l.length cap) l (by omega) _ ha).mono ?_
  rintro e w2 ⟨r2, rfl, o2, b9⟩
  clear cxa0 cxa1 cxa2
  replace xa := xa.next b9
  replace ha := ha.next b9
  replace hpp := hpp.next b9
  replace bb := bb.trans (b9.mono bb.size)
  clear b9
  have hi := syms_of_row o2
  obtain ⟨ra, rc, e2⟩ := hi.shape
  subst e2
  clear o2
  go_wp2_with fail
  refine (twinInts_any (.slice pa ps.length pc) ps _ (by omega) _ hpp).mono ?_
  rintro e w3 ⟨r3, rfl, o3, b9⟩
  replace xa := xa.next b9
  replace ha := ha.next b9
  replace hpp := hpp.next b9
  replace hi := hi.next b9
  replace bb := bb.trans (b9.mono bb.size)
  clear b9
  have hr := holds_of_row o3
  obtain ⟨qa, qc, e3⟩ := rowN_shape o3
  subst e3
  clear o3
  have b9 : Below w3.heap.size w3 (w3.alloc (.cells #[.int .i64 (N : Int), .int .i64 p, .slice ra l.length rc] 24)) := (Below.refl _ _).alloc (Nat.le_refl _) _
  have xi := Box.new w3 24 #[.int .i64 (N : Int), .int .i64 p, .slice ra l.length rc]
  replace xa := xa.next b9
  replace ha := ha.next b9
  replace hpp := hpp.next b9
  replace hi := hi.next b9
  replace hr := hr.next b9
  replace bb := bb.trans (b9.mono bb.size)
  clear b9
  have HC := Node_ok N p ra rc l HP.out qa qc ps HPS.out hm _ hi hr (HFW.out.next bb)
  obtain ⟨S, hS⟩ : ∃ S, staB N l ps = S := ⟨_, rfl⟩
  obtain ⟨M, hM⟩ : ∃ M, metB N l ps = M := ⟨_, rfl⟩
  rw [hS, hM] at HC
  have HS : Hid (staB N l ps = S) := hS
  have HMM : Hid (metB N l ps = M) := hM
  clear hS hM
  have cxi0 := xi.cell 0 _ rfl
  have cxi1 := xi.cell 1 _ rfl
  have cxi2 := xi.cell 2 _ rfl
  go_wp2_with fail
  refine (HC).mono ?_
  rintro e w4 ⟨na, nc, rfl, o5, b9⟩
  clear cxi0 cxi1 cxi2
  replace xa := xa.next b9
  replace ha := ha.next b9
  replace hpp := hpp.next b9
  replace hi := hi.next b9
  replace hr := hr.next b9
  replace xi := xi.next b9
  replace bb := bb.trans (b9.mono bb.size)
  clear b9
  clear HC
  have hn := holds_of_row o5
  clear o5
  have b9 : Below w4.heap.size w4 (w4.alloc (.cells #[.int .u32 S, .int .i64 M, .int .i64 0, .slice na ps.length nc] 32)) := (Below.refl _ _).alloc (Nat.le_refl _) _
  have xn := Box.new w4 32 #[.int .u32 S, .int .i64 M, .int .i64 0, .slice na ps.length nc]
  replace xa := xa.next b9
  replace ha := ha.next b9
  replace hpp := hpp.next b9
  replace hi := hi.next b9
  replace hr := hr.next b9
  replace xi := xi.next b9
  replace hn := hn.next b9
  replace bb := bb.trans (b9.mono bb.size)
  clear b9
  have HC := Score_any N p ra rc l HP.out qa qc ps HPS.out hm d _ hi hr (HFW.out.next bb)
  have cxi0 := xi.cell 0 _ rfl
  have cxi1 := xi.cell 1 _ rfl
  have cxi2 := xi.cell 2 _ rfl
  go_wp2_with fail
  refine (HC).mono ?_
  rintro e w5 ⟨he, b9⟩
  clear cxi0 cxi1 cxi2
  replace xa := xa.next b9
  replace ha := ha.next b9
  replace hpp := hpp.next b9
  replace hi := hi.next b9
  replace hr := hr.next b9
  replace xi := xi.next b9
  replace hn := hn.next b9
  replace xn := xn.next b9
  replace bb := bb.trans (b9.mono bb.size)
  clear b9
  rcases he with ⟨hno, _⟩ | ⟨_, rfl⟩
  case inl => omega
  clear HC
  have HC := Walk_arg N p ra rc l HP.out b d HNB.out _ hi (HFW.out.next bb)
  have cxi0 := xi.cell 0 _ rfl
  have cxi1 := xi.cell 1 _ rfl
  have cxi2 := xi.cell 2 _ rfl
  go_wp2_with fail
  refine (HC).mono ?_
  rintro e w6 ⟨rfl, b9⟩
  clear cxi0 cxi1 cxi2
  replace xa := xa.next b9
  replace ha := ha.next b9
  replace hpp := hpp.next b9
  replace hi := hi.next b9
  replace hr := hr.next b9
  replace xi := xi.next b9
  replace hn := hn.next b9
  replace xn := xn.next b9
  replace bb := bb.trans (b9.mono bb.size)
  clear b9
  clear HC
  have HC := Decode_arg N p ra rc l HP.out b d HNB.out _ hi (HFW.out.next bb)
  have cxi0 := xi.cell 0 _ rfl
  have cxi1 := xi.cell 1 _ rfl
  have cxi2 := xi.cell 2 _ rfl
  go_wp2_with fail
  refine (HC).mono ?_
  rintro e w7 ⟨rfl, b9⟩
  clear cxi0 cxi1 cxi2
  replace xa := xa.next b9
  replace ha := ha.next b9
  replace hpp := hpp.next b9
  replace hi := hi.next b9
  replace hr := hr.next b9
  replace xi := xi.next b9
  replace hn := hn.next b9
  replace xn := xn.next b9
  replace bb := bb.trans (b9.mono bb.size)
  clear b9
  clear HC
  have HC := keepPile_any (N : Int) p (N : Int) p (.slice ra l.length rc) (.slice a l.length cap) l l _ (by omega) hi ha
  rw [decide_eq_true ⟨rfl, rfl, rfl⟩] at HC
  have cxi0 := xi.cell 0 _ rfl
  have cxi1 := xi.cell 1 _ rfl
  have cxi2 := xi.cell 2 _ rfl
  have cxa0 := xa.cell 0 _ rfl
  have cxa1 := xa.cell 1 _ rfl
  have cxa2 := xa.cell 2 _ rfl
  go_wp2_with fail
  refine (HC).mono ?_
  rintro e w8 ⟨rfl, b9⟩
  clear cxi0 cxi1 cxi2
  clear cxa0 cxa1 cxa2
  replace xa := xa.next b9
  replace ha := ha.next b9
  replace hpp := hpp.next b9
  replace hi := hi.next b9
  replace hr := hr.next b9
  replace xi := xi.next b9
  replace hn := hn.next b9
  replace xn := xn.next b9
  replace bb := bb.trans (b9.mono bb.size)
  clear b9
  clear HC
  have HC := ints_any (.slice qa ps.length qc) (.slice pa ps.length pc) ps ps _ _ _ (by omega) hr hpp
  rw [decide_eq_true rfl] at HC
  go_wp2_with fail
  refine HC.mono ?_
  rintro e w9 ⟨rfl, q, rfl⟩
  clear HC
  have b9 : Below w8.heap.size w8 (w8.drewN q) := below_drewN (Below.refl _ _) q
  replace xa := xa.next b9
  replace ha := ha.next b9
  replace hpp := hpp.next b9
  replace hi := hi.next b9
  replace hr := hr.next b9
  replace xi := xi.next b9
  replace hn := hn.next b9
  replace xn := xn.next b9
  replace bb := bb.trans (b9.mono bb.size)
  clear b9
  generalize w8.drewN q = wD at *
  have cxa0 := xa.cell 0 _ rfl
  have cxa1 := xa.cell 1 _ rfl
  have cxa2 := xa.cell 2 _ rfl
  go_wp2_with fail
  refine (refPile_yes (N : Int) p a cap l (by omega) HP.out _ ha).mono ?_
  rintro e w9 ⟨rfl, b9⟩
  clear cxa0 cxa1 cxa2
  replace xa := xa.next b9
  replace ha := ha.next b9
  replace hpp := hpp.next b9
  replace hi := hi.next b9
  replace hr := hr.next b9
  replace xi := xi.next b9
  replace hn := hn.next b9
  replace xn := xn.next b9
  replace bb := bb.trans (b9.mono bb.size)
  clear b9
  have cxa0 := xa.cell 0 _ rfl
  have cxa1 := xa.cell 1 _ rfl
  have cxa2 := xa.cell 2 _ rfl
  have dle : decide ((ps.length : Int) ≤ (N : Int)) = true := decide_eq_true (by omega)
  have dle' : decide (ps.length ≤ N) = true := decide_eq_true (by omega)
  have HC := refPath_yes pa pc ps (by omega) HPS.out _ _ hpp
  go_wp2_with fail
  refine HC.mono ?_
  rintro e w10 ⟨rfl, rfl⟩
  clear HC
  have cxn0 := xn.cell 0 _ rfl
  have cxn1 := xn.cell 1 _ rfl
  have cxn2 := xn.cell 2 _ rfl
  have cxn3 := xn.cell 3 _ rfl
  have HBB : Hid (Below w.heap.size w w9) := bb
  have HRN : Hid (∀ wx : World, Below w9.heap.size w9 wx → Calls Tryd.prog 17 #[.agg #[.int .i64 (N : Int), .int .i64 p, .slice a l.length cap], .slice pa ps.length pc] wx fun e W' => ∃ ka kc, e = .returned (.agg #[.int .u32 S, .int .i64 M, .int .i64 0, .slice ka ps.length kc]) ∧ Holds .i64 W'.heap.size W' (.slice ka ps.length kc) ps ∧ Below w9.heap.size w9 W') := fun wx hb => by
    have h9 := refNode_any N p a cap l HP.out pa pc ps HPS.out hm wx (ha.next hb) (hpp.next hb)
    rw [HS.out, HMM.out] at h9
    refine h9.mono ?_
    rintro e W' ⟨ka, kc, rfl, ho, hb'⟩
    exact ⟨ka, kc, rfl, holds_of_row ho, hb.trans (hb'.mono hb.size)⟩
  have HKN : Hid (∀ (wx : World) (ka : Option Addr) (kc : Nat), Below w9.heap.size w9 wx → Holds .i64 wx.heap.size wx (.slice ka ps.length kc) ps → Calls Tryd.prog 16 #[.agg #[.int .u32 S, .int .i64 M, .int .i64 0, .slice na ps.length nc], .agg #[.int .u32 S, .int .i64 M, .int .i64 0, .slice ka ps.length kc]] wx fun e W' => e = .returned (.bool true) ∧ Below w9.heap.size w9 W') := fun wx ka kc hb hk => by
    have h9 := node_any S S M M 0 0 (.slice na ps.length nc) (.slice ka ps.length kc) ps ps wx.heap.size wx.heap.size wx (Nat.le_refl _) (Nat.le_refl _) (by omega) (hn.next hb) hk
    rw [decide_eq_true rfl] at h9
    exact h9.mono fun e W' ⟨h, hb'⟩ => ⟨h, hb.trans (hb'.mono hb.size)⟩
  go_wp2
  go_cut [134] (fun t134 wx => t134 = .bool false ∧ Below w9.heap.size w9 wx)
  case first =>
    refine wp_region_any (by kernel_rfl) ?_
    try (change wpAny _ _ _ _ _ _ _ (World.drew _))
    refine wpAny_take (i := 0) (v := (.bool true)) rfl (by kernel_rfl) (by kernel_rfl) (by kernel_rfl) (fun _ _ _ h => h) (Or.inl ⟨by kernel_rfl, ?_⟩) ?_
    · intro wx
      go_simp
      try with_reducible rfl
    refine wpAny_take (i := 1) (v := (.bool true)) rfl (by kernel_rfl) (by kernel_rfl) (by kernel_rfl) (fun _ _ _ h => h) (Or.inl ⟨by kernel_rfl, ?_⟩) ?_
    · intro wx
      go_simp
      try with_reducible rfl
    refine wpAny_take (i := 2) (v := (.int .i64 0)) rfl (by kernel_rfl) (by kernel_rfl) (by kernel_rfl) (fun _ _ _ h => h) (Or.inl ⟨by kernel_rfl, ?_⟩) ?_
    · intro wx
      go_simp
      try with_reducible rfl
    refine wpAny_take (i := 3) (v := (.bool false)) rfl (by kernel_rfl) (by kernel_rfl) (by kernel_rfl) (fun _ _ _ h => h) (Or.inl ⟨by kernel_rfl, ?_⟩) ?_
    · intro wx
      go_simp
      try with_reducible rfl
    refine wpAny_take (i := 4) (v := (.bool false)) rfl (by kernel_rfl) (by kernel_rfl) (by kernel_rfl) (fun _ _ _ h => h) (Or.inl ⟨by kernel_rfl, ?_⟩) ?_
    · intro wx
      go_simp
      try with_reducible rfl
    refine wpAny_take (i := 7) (v := (.slice pa ps.length pc)) rfl (by kernel_rfl) (by kernel_rfl) (by kernel_rfl) (fun _ _ _ h => h) (Or.inl ⟨by kernel_rfl, ?_⟩) ?_
    · intro wx
      go_simp
      try with_reducible rfl
    refine wpAny_ready (rs := [5, 6]) (by kernel_rfl) (by simp) ?_
    refine AllReady.cons rfl (fun K hK => ?_) (AllReady.cons rfl (fun K hK => ?_) AllReady.nil)
    · go_simp
      refine hK _ _ ?_
      clear hK K
      refine wpAny_ready (rs := [6]) (by kernel_rfl) (by simp) ?_
      refine AllReady.cons rfl (fun K hK => ?_) AllReady.nil
      go_simp
      refine hK _ _ ?_
      clear hK K
      refine wpAny_ready (rs := [8]) (by kernel_rfl) (by simp) ?_
      refine AllReady.cons rfl (fun K hK => ?_) AllReady.nil
      go_simp
      go_wp2_with (go_at_call 17; refine (HRN.out _ (by first | exact below_drewN (Below.refl _ _) _ | exact Below.refl _ _ | exact (Below.refl _ _).drew)).mono ?_; rintro e w7 ⟨ka, kc, rfl, h7, b7⟩)
      refine wpAny_ready (rs := [9]) (by kernel_rfl) (by simp) ?_
      refine AllReady.cons rfl (fun K hK => ?_) AllReady.nil
      go_simp
      go_wp2_with (go_at_call 16; refine (HKN.out _ ka kc (by first | exact b7 | exact b7.drew | exact below_drewN b7 _) (by exact h7)).mono ?_; rintro e w8 ⟨rfl, b8⟩)
      refine wpAny_take (i := 10) (v := (.bool false)) rfl (by kernel_rfl) (by kernel_rfl) (by kernel_rfl) (fun _ _ _ h => h) (Or.inl ⟨by kernel_rfl, ?_⟩) ?_
      · intro wx
        go_simp
        try with_reducible rfl
      refine wpAny_take (i := 11) (v := (.bool false)) rfl (by kernel_rfl) (by kernel_rfl) (by kernel_rfl) (fun _ _ _ h => h) (Or.inl ⟨by kernel_rfl, ?_⟩) ?_
      · intro wx
        go_simp
        try with_reducible rfl
      refine wpAny_take (i := 12) (v := (.bool false)) rfl (by kernel_rfl) (by kernel_rfl) (by kernel_rfl) (fun _ _ _ h => h) (Or.inl ⟨by kernel_rfl, ?_⟩) ?_
      · intro wx
        go_simp
        try with_reducible rfl
      refine wpAny_take (i := 13) (v := (.bool false)) rfl (by kernel_rfl) (by kernel_rfl) (by kernel_rfl) (fun _ _ _ h => h) (Or.inl ⟨by kernel_rfl, ?_⟩) ?_
      · intro wx
        go_simp
        try with_reducible rfl
      refine wpAny_take (i := 14) (v := (.bool true)) rfl (by kernel_rfl) (by kernel_rfl) (by kernel_rfl) (fun _ _ _ h => h) (Or.inl ⟨by kernel_rfl, ?_⟩) ?_
      · intro wx
        go_simp
        try with_reducible rfl
      refine wpAny_take (i := 15) (v := (.bool false)) rfl (by kernel_rfl) (by kernel_rfl) (by kernel_rfl) (fun _ _ _ h => h) (Or.inl ⟨by kernel_rfl, ?_⟩) ?_
      · intro wx
        go_simp
        try with_reducible rfl
      refine wpAny_take (i := 16) (v := (.bool false)) rfl (by kernel_rfl) (by kernel_rfl) (by kernel_rfl) (fun _ _ _ h => h) (Or.inl ⟨by kernel_rfl, ?_⟩) ?_
      · intro wx
        go_simp
        try with_reducible rfl
      refine wpAny_take (i := 17) (v := undef) rfl (by kernel_rfl) (by kernel_rfl) (by kernel_rfl) (fun _ _ _ h => h) (Or.inr ⟨by kernel_rfl, rfl⟩) ?_
      refine wpAny_take (i := 18) (v := undef) rfl (by kernel_rfl) (by kernel_rfl) (by kernel_rfl) (fun _ _ _ h => h) (Or.inr ⟨by kernel_rfl, rfl⟩) ?_
      refine wpAny_take (i := 19) (v := undef) rfl (by kernel_rfl) (by kernel_rfl) (by kernel_rfl) (fun _ _ _ h => h) (Or.inr ⟨by kernel_rfl, rfl⟩) ?_
      refine wpAny_take (i := 20) (v := undef) rfl (by kernel_rfl) (by kernel_rfl) (by kernel_rfl) (fun _ _ _ h => h) (Or.inr ⟨by kernel_rfl, rfl⟩) ?_
      refine wpAny_take (i := 21) (v := undef) rfl (by kernel_rfl) (by kernel_rfl) (by kernel_rfl) (fun _ _ _ h => h) (Or.inr ⟨by kernel_rfl, rfl⟩) ?_
      refine wpAny_take (i := 22) (v := undef) rfl (by kernel_rfl) (by kernel_rfl) (by kernel_rfl) (fun _ _ _ h => h) (Or.inr ⟨by kernel_rfl, rfl⟩) ?_
      refine wpAny_take (i := 23) (v := undef) rfl (by kernel_rfl) (by kernel_rfl) (by kernel_rfl) (fun _ _ _ h => h) (Or.inr ⟨by kernel_rfl, rfl⟩) ?_
      refine wpAny_take (i := 24) (v := undef) rfl (by kernel_rfl) (by kernel_rfl) (by kernel_rfl) (fun _ _ _ h => h) (Or.inr ⟨by kernel_rfl, rfl⟩) ?_
      refine wpAny_take (i := 25) (v := (.bool false)) rfl (by kernel_rfl) (by kernel_rfl) (by kernel_rfl) (fun _ _ _ h => h) (Or.inl ⟨by kernel_rfl, ?_⟩) ?_
      · intro wx
        go_simp
        try with_reducible rfl
      refine wpAny_ready (rs := [26]) (by kernel_rfl) (by simp) ?_
      refine AllReady.cons rfl (fun K hK => ?_) AllReady.nil
      go_simp
      refine hK _ _ ?_
      clear hK K
      refine wpAny_done (by kernel_rfl) ?_ _
      go_wp2_with fail
      go_meet
      exact ⟨rfl, b8⟩
    · go_simp
      refine hK _ _ ?_
      clear hK K
      refine wpAny_ready (rs := [5, 8]) (by kernel_rfl) (by simp) ?_
      refine AllReady.cons rfl (fun K hK => ?_) (AllReady.cons rfl (fun K hK => ?_) AllReady.nil)
      · go_simp
        refine hK _ _ ?_
        clear hK K
        refine wpAny_ready (rs := [8]) (by kernel_rfl) (by simp) ?_
        refine AllReady.cons rfl (fun K hK => ?_) AllReady.nil
        go_simp
        go_wp2_with (go_at_call 17; refine (HRN.out _ (by first | exact below_drewN (Below.refl _ _) _ | exact Below.refl _ _ | exact (Below.refl _ _).drew)).mono ?_; rintro e w7 ⟨ka, kc, rfl, h7, b7⟩)
        refine wpAny_ready (rs := [9]) (by kernel_rfl) (by simp) ?_
        refine AllReady.cons rfl (fun K hK => ?_) AllReady.nil
        go_simp
        go_wp2_with (go_at_call 16; refine (HKN.out _ ka kc (by first | exact b7 | exact b7.drew | exact below_drewN b7 _) (by exact h7)).mono ?_; rintro e w8 ⟨rfl, b8⟩)
        refine wpAny_take (i := 10) (v := (.bool false)) rfl (by kernel_rfl) (by kernel_rfl) (by kernel_rfl) (fun _ _ _ h => h) (Or.inl ⟨by kernel_rfl, ?_⟩) ?_
        · intro wx
          go_simp
          try with_reducible rfl
        refine wpAny_take (i := 11) (v := (.bool false)) rfl (by kernel_rfl) (by kernel_rfl) (by kernel_rfl) (fun _ _ _ h => h) (Or.inl ⟨by kernel_rfl, ?_⟩) ?_
        · intro wx
          go_simp
          try with_reducible rfl
        refine wpAny_take (i := 12) (v := (.bool false)) rfl (by kernel_rfl) (by kernel_rfl) (by kernel_rfl) (fun _ _ _ h => h) (Or.inl ⟨by kernel_rfl, ?_⟩) ?_
        · intro wx
          go_simp
          try with_reducible rfl
        refine wpAny_take (i := 13) (v := (.bool false)) rfl (by kernel_rfl) (by kernel_rfl) (by kernel_rfl) (fun _ _ _ h => h) (Or.inl ⟨by kernel_rfl, ?_⟩) ?_
        · intro wx
          go_simp
          try with_reducible rfl
        refine wpAny_take (i := 14) (v := (.bool true)) rfl (by kernel_rfl) (by kernel_rfl) (by kernel_rfl) (fun _ _ _ h => h) (Or.inl ⟨by kernel_rfl, ?_⟩) ?_
        · intro wx
          go_simp
          try with_reducible rfl
        refine wpAny_take (i := 15) (v := (.bool false)) rfl (by kernel_rfl) (by kernel_rfl) (by kernel_rfl) (fun _ _ _ h => h) (Or.inl ⟨by kernel_rfl, ?_⟩) ?_
        · intro wx
          go_simp
          try with_reducible rfl
        refine wpAny_take (i := 16) (v := (.bool false)) rfl (by kernel_rfl) (by kernel_rfl) (by kernel_rfl) (fun _ _ _ h => h) (Or.inl ⟨by kernel_rfl, ?_⟩) ?_
        · intro wx
          go_simp
          try with_reducible rfl
        refine wpAny_take (i := 17) (v := undef) rfl (by kernel_rfl) (by kernel_rfl) (by kernel_rfl) (fun _ _ _ h => h) (Or.inr ⟨by kernel_rfl, rfl⟩) ?_
        refine wpAny_take (i := 18) (v := undef) rfl (by kernel_rfl) (by kernel_rfl) (by kernel_rfl) (fun _ _ _ h => h) (Or.inr ⟨by kernel_rfl, rfl⟩) ?_
        refine wpAny_take (i := 19) (v := undef) rfl (by kernel_rfl) (by kernel_rfl) (by kernel_rfl) (fun _ _ _ h => h) (Or.inr ⟨by kernel_rfl, rfl⟩) ?_
        refine wpAny_take (i := 20) (v := undef) rfl (by kernel_rfl) (by kernel_rfl) (by kernel_rfl) (fun _ _ _ h => h) (Or.inr ⟨by kernel_rfl, rfl⟩) ?_
        refine wpAny_take (i := 21) (v := undef) rfl (by kernel_rfl) (by kernel_rfl) (by kernel_rfl) (fun _ _ _ h => h) (Or.inr ⟨by kernel_rfl, rfl⟩) ?_
        refine wpAny_take (i := 22) (v := undef) rfl (by kernel_rfl) (by kernel_rfl) (by kernel_rfl) (fun _ _ _ h => h) (Or.inr ⟨by kernel_rfl, rfl⟩) ?_
        refine wpAny_take (i := 23) (v := undef) rfl (by kernel_rfl) (by kernel_rfl) (by kernel_rfl) (fun _ _ _ h => h) (Or.inr ⟨by kernel_rfl, rfl⟩) ?_
        refine wpAny_take (i := 24) (v := undef) rfl (by kernel_rfl) (by kernel_rfl) (by kernel_rfl) (fun _ _ _ h => h) (Or.inr ⟨by kernel_rfl, rfl⟩) ?_
        refine wpAny_take (i := 25) (v := (.bool false)) rfl (by kernel_rfl) (by kernel_rfl) (by kernel_rfl) (fun _ _ _ h => h) (Or.inl ⟨by kernel_rfl, ?_⟩) ?_
        · intro wx
          go_simp
          try with_reducible rfl
        refine wpAny_ready (rs := [26]) (by kernel_rfl) (by simp) ?_
        refine AllReady.cons rfl (fun K hK => ?_) AllReady.nil
        go_simp
        refine hK _ _ ?_
        clear hK K
        refine wpAny_done (by kernel_rfl) ?_ _
        go_wp2_with fail
        go_meet
        exact ⟨rfl, b8⟩
      · go_simp
        go_wp2_with (go_at_call 17; refine (HRN.out _ (by first | exact below_drewN (Below.refl _ _) _ | exact Below.refl _ _ | exact (Below.refl _ _).drew)).mono ?_; rintro e w7 ⟨ka, kc, rfl, h7, b7⟩)
        have c70 := (xn.next b7).cell 0 _ rfl
        have c71 := (xn.next b7).cell 1 _ rfl
        have c72 := (xn.next b7).cell 2 _ rfl
        have c73 := (xn.next b7).cell 3 _ rfl
        refine wpAny_ready (rs := [5]) (by kernel_rfl) (by simp) ?_
        refine AllReady.cons rfl (fun K hK => ?_) AllReady.nil
        go_simp
        refine hK _ _ ?_
        clear hK K
        refine wpAny_ready (rs := [9]) (by kernel_rfl) (by simp) ?_
        refine AllReady.cons rfl (fun K hK => ?_) AllReady.nil
        go_simp
        go_wp2_with (go_at_call 16; refine (HKN.out _ ka kc (by first | exact b7 | exact b7.drew | exact below_drewN b7 _) (by exact h7)).mono ?_; rintro e w8 ⟨rfl, b8⟩)
        refine wpAny_take (i := 10) (v := (.bool false)) rfl (by kernel_rfl) (by kernel_rfl) (by kernel_rfl) (fun _ _ _ h => h) (Or.inl ⟨by kernel_rfl, ?_⟩) ?_
        · intro wx
          go_simp
          try with_reducible rfl
        refine wpAny_take (i := 11) (v := (.bool false)) rfl (by kernel_rfl) (by kernel_rfl) (by kernel_rfl) (fun _ _ _ h => h) (Or.inl ⟨by kernel_rfl, ?_⟩) ?_
        · intro wx
          go_simp
          try with_reducible rfl
        refine wpAny_take (i := 12) (v := (.bool false)) rfl (by kernel_rfl) (by kernel_rfl) (by kernel_rfl) (fun _ _ _ h => h) (Or.inl ⟨by kernel_rfl, ?_⟩) ?_
        · intro wx
          go_simp
          try with_reducible rfl
        refine wpAny_take (i := 13) (v := (.bool false)) rfl (by kernel_rfl) (by kernel_rfl) (by kernel_rfl) (fun _ _ _ h => h) (Or.inl ⟨by kernel_rfl, ?_⟩) ?_
        · intro wx
          go_simp
          try with_reducible rfl
        refine wpAny_take (i := 14) (v := (.bool true)) rfl (by kernel_rfl) (by kernel_rfl) (by kernel_rfl) (fun _ _ _ h => h) (Or.inl ⟨by kernel_rfl, ?_⟩) ?_
        · intro wx
          go_simp
          try with_reducible rfl
        refine wpAny_take (i := 15) (v := (.bool false)) rfl (by kernel_rfl) (by kernel_rfl) (by kernel_rfl) (fun _ _ _ h => h) (Or.inl ⟨by kernel_rfl, ?_⟩) ?_
        · intro wx
          go_simp
          try with_reducible rfl
        refine wpAny_take (i := 16) (v := (.bool false)) rfl (by kernel_rfl) (by kernel_rfl) (by kernel_rfl) (fun _ _ _ h => h) (Or.inl ⟨by kernel_rfl, ?_⟩) ?_
        · intro wx
          go_simp
          try with_reducible rfl
        refine wpAny_take (i := 17) (v := undef) rfl (by kernel_rfl) (by kernel_rfl) (by kernel_rfl) (fun _ _ _ h => h) (Or.inr ⟨by kernel_rfl, rfl⟩) ?_
        refine wpAny_take (i := 18) (v := undef) rfl (by kernel_rfl) (by kernel_rfl) (by kernel_rfl) (fun _ _ _ h => h) (Or.inr ⟨by kernel_rfl, rfl⟩) ?_
        refine wpAny_take (i := 19) (v := undef) rfl (by kernel_rfl) (by kernel_rfl) (by kernel_rfl) (fun _ _ _ h => h) (Or.inr ⟨by kernel_rfl, rfl⟩) ?_
        refine wpAny_take (i := 20) (v := undef) rfl (by kernel_rfl) (by kernel_rfl) (by kernel_rfl) (fun _ _ _ h => h) (Or.inr ⟨by kernel_rfl, rfl⟩) ?_
        refine wpAny_take (i := 21) (v := undef) rfl (by kernel_rfl) (by kernel_rfl) (by kernel_rfl) (fun _ _ _ h => h) (Or.inr ⟨by kernel_rfl, rfl⟩) ?_
        refine wpAny_take (i := 22) (v := undef) rfl (by kernel_rfl) (by kernel_rfl) (by kernel_rfl) (fun _ _ _ h => h) (Or.inr ⟨by kernel_rfl, rfl⟩) ?_
        refine wpAny_take (i := 23) (v := undef) rfl (by kernel_rfl) (by kernel_rfl) (by kernel_rfl) (fun _ _ _ h => h) (Or.inr ⟨by kernel_rfl, rfl⟩) ?_
        refine wpAny_take (i := 24) (v := undef) rfl (by kernel_rfl) (by kernel_rfl) (by kernel_rfl) (fun _ _ _ h => h) (Or.inr ⟨by kernel_rfl, rfl⟩) ?_
        refine wpAny_take (i := 25) (v := (.bool false)) rfl (by kernel_rfl) (by kernel_rfl) (by kernel_rfl) (fun _ _ _ h => h) (Or.inl ⟨by kernel_rfl, ?_⟩) ?_
        · intro wx
          go_simp
          try with_reducible rfl
        refine wpAny_ready (rs := [26]) (by kernel_rfl) (by simp) ?_
        refine AllReady.cons rfl (fun K hK => ?_) AllReady.nil
        go_simp
        refine hK _ _ ?_
        clear hK K
        refine wpAny_done (by kernel_rfl) ?_ _
        go_wp2_with fail
        go_meet
        exact ⟨rfl, b8⟩
  case rest =>
    obtain ⟨rfl, b9⟩ := hcut
    clear cxa0 cxa1 cxa2
    clear cxn0 cxn1 cxn2 cxn3
    replace xa := xa.next b9
    replace ha := ha.next b9
    replace hpp := hpp.next b9
    replace hi := hi.next b9
    replace hr := hr.next b9
    replace xi := xi.next b9
    replace hn := hn.next b9
    replace xn := xn.next b9
    replace bb := bb.trans (b9.mono bb.size)
    clear b9 HBB HKN HRN
    have dd1 : decide (1 ≤ d) = false := decide_eq_false (by omega)
    go_wp2_with fail
    refine (HBM _).mono ?_
    rintro e wz ⟨rfl, rfl⟩
    have HWK := beamWakes_any _ (HFW.out.next bb)
    go_wp2_with (go_at_call 19; refine HWK.mono ?_; rintro e w99 ⟨rfl, b99⟩)
    go_ret
    exact ⟨rfl, bb.trans (b99.mono bb.size)⟩

set_option maxRecDepth 100000 in
set_option maxHeartbeats 4000000 in
theorem beamExact_hi (N : Nat) (p : Int) (a : Option Addr) (cap : Nat) (l : List (Int × Int)) (hl : l.length ≤ 400) (pa : Option Addr) (pc : Nat) (ps : List Int) (hpl : ps.length ≤ 100) (b d : Int) (hp : PileOk (N : Int) p l) (hm : ps.length ≤ N) (hps : Path ps) (hd : 3 < d) (hbm : beamB b d = false) (w : World) (ha : Syms w.heap.size w (.slice a l.length cap) l) (hpp : Holds .i64 w.heap.size w (.slice pa ps.length pc) ps) (hF : Firsts w) :
    Calls Tryd.prog 3 #[.agg #[.int .i64 (N : Int), .int .i64 p, .slice a l.length cap], .slice pa ps.length pc, .int .i64 b, .int .i64 d] w fun e w' => e = .returned (.bool true) ∧ Below w.heap.size w w' := by
  have HFW : Hid (Firsts w) := hF
  have HP : Hid (PileOk (N : Int) p l) := hp
  have hN1 : 1 ≤ N := by have := hp.1.1; omega
  have hN2 : N < 65 := by have := hp.1.2.1; omega
  have HPS : Hid (Path ps) := hps
  have HBM := refBeam_any b d
  rw [hbm] at HBM
  have dl : decide (400 < (l.length : Int)) = false := decide_eq_false (by omega)
  have dl' : decide (400 < l.length) = false := decide_eq_false (by omega)
  have dq : decide (100 < (ps.length : Int)) = false := decide_eq_false (by omega)
  have dq' : decide (100 < ps.length) = false := decide_eq_false (by omega)
  have bb : Below w.heap.size w (w.alloc (.cells #[.int .i64 (N : Int), .int .i64 p, .slice a l.length cap] 24)) := (Below.refl w.heap.size w).alloc (Nat.le_refl _) _
  have xa := Box.new w 24 #[.int .i64 (N : Int), .int .i64 p, .slice a l.length cap]
  replace ha := ha.next bb
  replace hpp := hpp.next bb
  have HNB : Hid (¬ ((1 ≤ b ∧ b ≤ 16) ∧ 1 ≤ d ∧ d ≤ 3)) := by
    show ¬ _
    intro h
    unfold beamB at hbm
    simp at hbm
    omega
  clear hp hF hbm hps
  go_enter Tryd.func3, Tryd.ntmps3
  go_wp2_with fail
  refine (HBM _).mono ?_
  rintro e wz ⟨rfl, rfl⟩
  have cxa0 := xa.cell 0 _ rfl
  have cxa1 := xa.cell 1 _ rfl
  have cxa2 := xa.cell 2 _ rfl
  go_wp2_with fail
  refine (twinPile_any (N : Int) p (.slice a l.length cap) l (by omega) _ ha).mono ?_
  rintro e w2 ⟨r2, rfl, o2, b9⟩
  clear cxa0 cxa1 cxa2
  replace xa := xa.next b9
  replace ha := ha.next b9
  replace hpp := hpp.next b9
  replace bb := bb.trans (b9.mono bb.size)
  clear b9
  have hi := syms_of_row o2
  obtain ⟨ra, rc, e2⟩ := hi.shape
  subst e2
  clear o2
  go_wp2_with fail
  refine (twinInts_any (.slice pa ps.length pc) ps _ (by omega) _ hpp).mono ?_
  rintro e w3 ⟨r3, rfl, o3, b9⟩
  replace xa := xa.next b9
  replace ha := ha.next b9
  replace hpp := hpp.next b9
  replace hi := hi.next b9
  replace bb := bb.trans (b9.mono bb.size)
  clear b9
  have hr := holds_of_row o3
  obtain ⟨qa, qc, e3⟩ := rowN_shape o3
  subst e3
  clear o3
  have b9 : Below w3.heap.size w3 (w3.alloc (.cells #[.int .i64 (N : Int), .int .i64 p, .slice ra l.length rc] 24)) := (Below.refl _ _).alloc (Nat.le_refl _) _
  have xi := Box.new w3 24 #[.int .i64 (N : Int), .int .i64 p, .slice ra l.length rc]
  replace xa := xa.next b9
  replace ha := ha.next b9
  replace hpp := hpp.next b9
  replace hi := hi.next b9
  replace hr := hr.next b9
  replace bb := bb.trans (b9.mono bb.size)
  clear b9
  have HC := Node_ok N p ra rc l HP.out qa qc ps HPS.out hm _ hi hr (HFW.out.next bb)
  obtain ⟨S, hS⟩ : ∃ S, staB N l ps = S := ⟨_, rfl⟩
  obtain ⟨M, hM⟩ : ∃ M, metB N l ps = M := ⟨_, rfl⟩
  rw [hS, hM] at HC
  have HS : Hid (staB N l ps = S) := hS
  have HMM : Hid (metB N l ps = M) := hM
  clear hS hM
  have cxi0 := xi.cell 0 _ rfl
  have cxi1 := xi.cell 1 _ rfl
  have cxi2 := xi.cell 2 _ rfl
  go_wp2_with fail
  refine (HC).mono ?_
  rintro e w4 ⟨na, nc, rfl, o5, b9⟩
  clear cxi0 cxi1 cxi2
  replace xa := xa.next b9
  replace ha := ha.next b9
  replace hpp := hpp.next b9
  replace hi := hi.next b9
  replace hr := hr.next b9
  replace xi := xi.next b9
  replace bb := bb.trans (b9.mono bb.size)
  clear b9
  clear HC
  have hn := holds_of_row o5
  clear o5
  have b9 : Below w4.heap.size w4 (w4.alloc (.cells #[.int .u32 S, .int .i64 M, .int .i64 0, .slice na ps.length nc] 32)) := (Below.refl _ _).alloc (Nat.le_refl _) _
  have xn := Box.new w4 32 #[.int .u32 S, .int .i64 M, .int .i64 0, .slice na ps.length nc]
  replace xa := xa.next b9
  replace ha := ha.next b9
  replace hpp := hpp.next b9
  replace hi := hi.next b9
  replace hr := hr.next b9
  replace xi := xi.next b9
  replace hn := hn.next b9
  replace bb := bb.trans (b9.mono bb.size)
  clear b9
  have HC := Score_any N p ra rc l HP.out qa qc ps HPS.out hm d _ hi hr (HFW.out.next bb)
  have cxi0 := xi.cell 0 _ rfl
  have cxi1 := xi.cell 1 _ rfl
  have cxi2 := xi.cell 2 _ rfl
  go_wp2_with fail
  refine (HC).mono ?_
  rintro e w5 ⟨he, b9⟩
  clear cxi0 cxi1 cxi2
  replace xa := xa.next b9
  replace ha := ha.next b9
  replace hpp := hpp.next b9
  replace hi := hi.next b9
  replace hr := hr.next b9
  replace xi := xi.next b9
  replace hn := hn.next b9
  replace xn := xn.next b9
  replace bb := bb.trans (b9.mono bb.size)
  clear b9
  rcases he with ⟨hno, _⟩ | ⟨_, rfl⟩
  case inl => omega
  clear HC
  have HC := Walk_arg N p ra rc l HP.out b d HNB.out _ hi (HFW.out.next bb)
  have cxi0 := xi.cell 0 _ rfl
  have cxi1 := xi.cell 1 _ rfl
  have cxi2 := xi.cell 2 _ rfl
  go_wp2_with fail
  refine (HC).mono ?_
  rintro e w6 ⟨rfl, b9⟩
  clear cxi0 cxi1 cxi2
  replace xa := xa.next b9
  replace ha := ha.next b9
  replace hpp := hpp.next b9
  replace hi := hi.next b9
  replace hr := hr.next b9
  replace xi := xi.next b9
  replace hn := hn.next b9
  replace xn := xn.next b9
  replace bb := bb.trans (b9.mono bb.size)
  clear b9
  clear HC
  have HC := Decode_arg N p ra rc l HP.out b d HNB.out _ hi (HFW.out.next bb)
  have cxi0 := xi.cell 0 _ rfl
  have cxi1 := xi.cell 1 _ rfl
  have cxi2 := xi.cell 2 _ rfl
  go_wp2_with fail
  refine (HC).mono ?_
  rintro e w7 ⟨rfl, b9⟩
  clear cxi0 cxi1 cxi2
  replace xa := xa.next b9
  replace ha := ha.next b9
  replace hpp := hpp.next b9
  replace hi := hi.next b9
  replace hr := hr.next b9
  replace xi := xi.next b9
  replace hn := hn.next b9
  replace xn := xn.next b9
  replace bb := bb.trans (b9.mono bb.size)
  clear b9
  clear HC
  have HC := keepPile_any (N : Int) p (N : Int) p (.slice ra l.length rc) (.slice a l.length cap) l l _ (by omega) hi ha
  rw [decide_eq_true ⟨rfl, rfl, rfl⟩] at HC
  have cxi0 := xi.cell 0 _ rfl
  have cxi1 := xi.cell 1 _ rfl
  have cxi2 := xi.cell 2 _ rfl
  have cxa0 := xa.cell 0 _ rfl
  have cxa1 := xa.cell 1 _ rfl
  have cxa2 := xa.cell 2 _ rfl
  go_wp2_with fail
  refine (HC).mono ?_
  rintro e w8 ⟨rfl, b9⟩
  clear cxi0 cxi1 cxi2
  clear cxa0 cxa1 cxa2
  replace xa := xa.next b9
  replace ha := ha.next b9
  replace hpp := hpp.next b9
  replace hi := hi.next b9
  replace hr := hr.next b9
  replace xi := xi.next b9
  replace hn := hn.next b9
  replace xn := xn.next b9
  replace bb := bb.trans (b9.mono bb.size)
  clear b9
  clear HC
  have HC := ints_any (.slice qa ps.length qc) (.slice pa ps.length pc) ps ps _ _ _ (by omega) hr hpp
  rw [decide_eq_true rfl] at HC
  go_wp2_with fail
  refine HC.mono ?_
  rintro e w9 ⟨rfl, q, rfl⟩
  clear HC
  have b9 : Below w8.heap.size w8 (w8.drewN q) := below_drewN (Below.refl _ _) q
  replace xa := xa.next b9
  replace ha := ha.next b9
  replace hpp := hpp.next b9
  replace hi := hi.next b9
  replace hr := hr.next b9
  replace xi := xi.next b9
  replace hn := hn.next b9
  replace xn := xn.next b9
  replace bb := bb.trans (b9.mono bb.size)
  clear b9
  generalize w8.drewN q = wD at *
  have cxa0 := xa.cell 0 _ rfl
  have cxa1 := xa.cell 1 _ rfl
  have cxa2 := xa.cell 2 _ rfl
  go_wp2_with fail
  refine (refPile_yes (N : Int) p a cap l (by omega) HP.out _ ha).mono ?_
  rintro e w9 ⟨rfl, b9⟩
  clear cxa0 cxa1 cxa2
  replace xa := xa.next b9
  replace ha := ha.next b9
  replace hpp := hpp.next b9
  replace hi := hi.next b9
  replace hr := hr.next b9
  replace xi := xi.next b9
  replace hn := hn.next b9
  replace xn := xn.next b9
  replace bb := bb.trans (b9.mono bb.size)
  clear b9
  have cxa0 := xa.cell 0 _ rfl
  have cxa1 := xa.cell 1 _ rfl
  have cxa2 := xa.cell 2 _ rfl
  have dle : decide ((ps.length : Int) ≤ (N : Int)) = true := decide_eq_true (by omega)
  have dle' : decide (ps.length ≤ N) = true := decide_eq_true (by omega)
  have HC := refPath_yes pa pc ps (by omega) HPS.out _ _ hpp
  go_wp2_with fail
  refine HC.mono ?_
  rintro e w10 ⟨rfl, rfl⟩
  clear HC
  have cxn0 := xn.cell 0 _ rfl
  have cxn1 := xn.cell 1 _ rfl
  have cxn2 := xn.cell 2 _ rfl
  have cxn3 := xn.cell 3 _ rfl
  have HBB : Hid (Below w.heap.size w w9) := bb
  have HRN : Hid (∀ wx : World, Below w9.heap.size w9 wx → Calls Tryd.prog 17 #[.agg #[.int .i64 (N : Int), .int .i64 p, .slice a l.length cap], .slice pa ps.length pc] wx fun e W' => ∃ ka kc, e = .returned (.agg #[.int .u32 S, .int .i64 M, .int .i64 0, .slice ka ps.length kc]) ∧ Holds .i64 W'.heap.size W' (.slice ka ps.length kc) ps ∧ Below w9.heap.size w9 W') := fun wx hb => by
    have h9 := refNode_any N p a cap l HP.out pa pc ps HPS.out hm wx (ha.next hb) (hpp.next hb)
    rw [HS.out, HMM.out] at h9
    refine h9.mono ?_
    rintro e W' ⟨ka, kc, rfl, ho, hb'⟩
    exact ⟨ka, kc, rfl, holds_of_row ho, hb.trans (hb'.mono hb.size)⟩
  have HKN : Hid (∀ (wx : World) (ka : Option Addr) (kc : Nat), Below w9.heap.size w9 wx → Holds .i64 wx.heap.size wx (.slice ka ps.length kc) ps → Calls Tryd.prog 16 #[.agg #[.int .u32 S, .int .i64 M, .int .i64 0, .slice na ps.length nc], .agg #[.int .u32 S, .int .i64 M, .int .i64 0, .slice ka ps.length kc]] wx fun e W' => e = .returned (.bool true) ∧ Below w9.heap.size w9 W') := fun wx ka kc hb hk => by
    have h9 := node_any S S M M 0 0 (.slice na ps.length nc) (.slice ka ps.length kc) ps ps wx.heap.size wx.heap.size wx (Nat.le_refl _) (Nat.le_refl _) (by omega) (hn.next hb) hk
    rw [decide_eq_true rfl] at h9
    exact h9.mono fun e W' ⟨h, hb'⟩ => ⟨h, hb.trans (hb'.mono hb.size)⟩
  go_wp2
  go_cut [134] (fun t134 wx => t134 = .bool false ∧ Below w9.heap.size w9 wx)
  case first =>
    refine wp_region_any (by kernel_rfl) ?_
    try (change wpAny _ _ _ _ _ _ _ (World.drew _))
    refine wpAny_take (i := 0) (v := (.bool true)) rfl (by kernel_rfl) (by kernel_rfl) (by kernel_rfl) (fun _ _ _ h => h) (Or.inl ⟨by kernel_rfl, ?_⟩) ?_
    · intro wx
      go_simp
      try with_reducible rfl
    refine wpAny_take (i := 1) (v := (.bool true)) rfl (by kernel_rfl) (by kernel_rfl) (by kernel_rfl) (fun _ _ _ h => h) (Or.inl ⟨by kernel_rfl, ?_⟩) ?_
    · intro wx
      go_simp
      try with_reducible rfl
    refine wpAny_take (i := 2) (v := (.int .i64 0)) rfl (by kernel_rfl) (by kernel_rfl) (by kernel_rfl) (fun _ _ _ h => h) (Or.inl ⟨by kernel_rfl, ?_⟩) ?_
    · intro wx
      go_simp
      try with_reducible rfl
    refine wpAny_take (i := 3) (v := (.bool false)) rfl (by kernel_rfl) (by kernel_rfl) (by kernel_rfl) (fun _ _ _ h => h) (Or.inl ⟨by kernel_rfl, ?_⟩) ?_
    · intro wx
      go_simp
      try with_reducible rfl
    refine wpAny_take (i := 4) (v := (.bool false)) rfl (by kernel_rfl) (by kernel_rfl) (by kernel_rfl) (fun _ _ _ h => h) (Or.inl ⟨by kernel_rfl, ?_⟩) ?_
    · intro wx
      go_simp
      try with_reducible rfl
    refine wpAny_take (i := 7) (v := (.slice pa ps.length pc)) rfl (by kernel_rfl) (by kernel_rfl) (by kernel_rfl) (fun _ _ _ h => h) (Or.inl ⟨by kernel_rfl, ?_⟩) ?_
    · intro wx
      go_simp
      try with_reducible rfl
    refine wpAny_ready (rs := [5, 6]) (by kernel_rfl) (by simp) ?_
    refine AllReady.cons rfl (fun K hK => ?_) (AllReady.cons rfl (fun K hK => ?_) AllReady.nil)
    · go_simp
      refine hK _ _ ?_
      clear hK K
      refine wpAny_ready (rs := [6]) (by kernel_rfl) (by simp) ?_
      refine AllReady.cons rfl (fun K hK => ?_) AllReady.nil
      go_simp
      refine hK _ _ ?_
      clear hK K
      refine wpAny_ready (rs := [8]) (by kernel_rfl) (by simp) ?_
      refine AllReady.cons rfl (fun K hK => ?_) AllReady.nil
      go_simp
      go_wp2_with (go_at_call 17; refine (HRN.out _ (by first | exact below_drewN (Below.refl _ _) _ | exact Below.refl _ _ | exact (Below.refl _ _).drew)).mono ?_; rintro e w7 ⟨ka, kc, rfl, h7, b7⟩)
      refine wpAny_ready (rs := [9]) (by kernel_rfl) (by simp) ?_
      refine AllReady.cons rfl (fun K hK => ?_) AllReady.nil
      go_simp
      go_wp2_with (go_at_call 16; refine (HKN.out _ ka kc (by first | exact b7 | exact b7.drew | exact below_drewN b7 _) (by exact h7)).mono ?_; rintro e w8 ⟨rfl, b8⟩)
      refine wpAny_take (i := 10) (v := (.bool false)) rfl (by kernel_rfl) (by kernel_rfl) (by kernel_rfl) (fun _ _ _ h => h) (Or.inl ⟨by kernel_rfl, ?_⟩) ?_
      · intro wx
        go_simp
        try with_reducible rfl
      refine wpAny_take (i := 11) (v := (.bool false)) rfl (by kernel_rfl) (by kernel_rfl) (by kernel_rfl) (fun _ _ _ h => h) (Or.inl ⟨by kernel_rfl, ?_⟩) ?_
      · intro wx
        go_simp
        try with_reducible rfl
      refine wpAny_take (i := 12) (v := (.bool false)) rfl (by kernel_rfl) (by kernel_rfl) (by kernel_rfl) (fun _ _ _ h => h) (Or.inl ⟨by kernel_rfl, ?_⟩) ?_
      · intro wx
        go_simp
        try with_reducible rfl
      refine wpAny_take (i := 13) (v := (.bool false)) rfl (by kernel_rfl) (by kernel_rfl) (by kernel_rfl) (fun _ _ _ h => h) (Or.inl ⟨by kernel_rfl, ?_⟩) ?_
      · intro wx
        go_simp
        try with_reducible rfl
      refine wpAny_take (i := 14) (v := (.bool true)) rfl (by kernel_rfl) (by kernel_rfl) (by kernel_rfl) (fun _ _ _ h => h) (Or.inl ⟨by kernel_rfl, ?_⟩) ?_
      · intro wx
        go_simp
        try with_reducible rfl
      refine wpAny_take (i := 15) (v := (.bool false)) rfl (by kernel_rfl) (by kernel_rfl) (by kernel_rfl) (fun _ _ _ h => h) (Or.inl ⟨by kernel_rfl, ?_⟩) ?_
      · intro wx
        go_simp
        try with_reducible rfl
      refine wpAny_take (i := 16) (v := (.bool false)) rfl (by kernel_rfl) (by kernel_rfl) (by kernel_rfl) (fun _ _ _ h => h) (Or.inl ⟨by kernel_rfl, ?_⟩) ?_
      · intro wx
        go_simp
        try with_reducible rfl
      refine wpAny_take (i := 17) (v := undef) rfl (by kernel_rfl) (by kernel_rfl) (by kernel_rfl) (fun _ _ _ h => h) (Or.inr ⟨by kernel_rfl, rfl⟩) ?_
      refine wpAny_take (i := 18) (v := undef) rfl (by kernel_rfl) (by kernel_rfl) (by kernel_rfl) (fun _ _ _ h => h) (Or.inr ⟨by kernel_rfl, rfl⟩) ?_
      refine wpAny_take (i := 19) (v := undef) rfl (by kernel_rfl) (by kernel_rfl) (by kernel_rfl) (fun _ _ _ h => h) (Or.inr ⟨by kernel_rfl, rfl⟩) ?_
      refine wpAny_take (i := 20) (v := undef) rfl (by kernel_rfl) (by kernel_rfl) (by kernel_rfl) (fun _ _ _ h => h) (Or.inr ⟨by kernel_rfl, rfl⟩) ?_
      refine wpAny_take (i := 21) (v := undef) rfl (by kernel_rfl) (by kernel_rfl) (by kernel_rfl) (fun _ _ _ h => h) (Or.inr ⟨by kernel_rfl, rfl⟩) ?_
      refine wpAny_take (i := 22) (v := undef) rfl (by kernel_rfl) (by kernel_rfl) (by kernel_rfl) (fun _ _ _ h => h) (Or.inr ⟨by kernel_rfl, rfl⟩) ?_
      refine wpAny_take (i := 23) (v := undef) rfl (by kernel_rfl) (by kernel_rfl) (by kernel_rfl) (fun _ _ _ h => h) (Or.inr ⟨by kernel_rfl, rfl⟩) ?_
      refine wpAny_take (i := 24) (v := undef) rfl (by kernel_rfl) (by kernel_rfl) (by kernel_rfl) (fun _ _ _ h => h) (Or.inr ⟨by kernel_rfl, rfl⟩) ?_
      refine wpAny_take (i := 25) (v := (.bool false)) rfl (by kernel_rfl) (by kernel_rfl) (by kernel_rfl) (fun _ _ _ h => h) (Or.inl ⟨by kernel_rfl, ?_⟩) ?_
      · intro wx
        go_simp
        try with_reducible rfl
      refine wpAny_ready (rs := [26]) (by kernel_rfl) (by simp) ?_
      refine AllReady.cons rfl (fun K hK => ?_) AllReady.nil
      go_simp
      refine hK _ _ ?_
      clear hK K
      refine wpAny_done (by kernel_rfl) ?_ _
      go_wp2_with fail
      go_meet
      exact ⟨rfl, b8⟩
    · go_simp
      refine hK _ _ ?_
      clear hK K
      refine wpAny_ready (rs := [5, 8]) (by kernel_rfl) (by simp) ?_
      refine AllReady.cons rfl (fun K hK => ?_) (AllReady.cons rfl (fun K hK => ?_) AllReady.nil)
      · go_simp
        refine hK _ _ ?_
        clear hK K
        refine wpAny_ready (rs := [8]) (by kernel_rfl) (by simp) ?_
        refine AllReady.cons rfl (fun K hK => ?_) AllReady.nil
        go_simp
        go_wp2_with (go_at_call 17; refine (HRN.out _ (by first | exact below_drewN (Below.refl _ _) _ | exact Below.refl _ _ | exact (Below.refl _ _).drew)).mono ?_; rintro e w7 ⟨ka, kc, rfl, h7, b7⟩)
        refine wpAny_ready (rs := [9]) (by kernel_rfl) (by simp) ?_
        refine AllReady.cons rfl (fun K hK => ?_) AllReady.nil
        go_simp
        go_wp2_with (go_at_call 16; refine (HKN.out _ ka kc (by first | exact b7 | exact b7.drew | exact below_drewN b7 _) (by exact h7)).mono ?_; rintro e w8 ⟨rfl, b8⟩)
        refine wpAny_take (i := 10) (v := (.bool false)) rfl (by kernel_rfl) (by kernel_rfl) (by kernel_rfl) (fun _ _ _ h => h) (Or.inl ⟨by kernel_rfl, ?_⟩) ?_
        · intro wx
          go_simp
          try with_reducible rfl
        refine wpAny_take (i := 11) (v := (.bool false)) rfl (by kernel_rfl) (by kernel_rfl) (by kernel_rfl) (fun _ _ _ h => h) (Or.inl ⟨by kernel_rfl, ?_⟩) ?_
        · intro wx
          go_simp
          try with_reducible rfl
        refine wpAny_take (i := 12) (v := (.bool false)) rfl (by kernel_rfl) (by kernel_rfl) (by kernel_rfl) (fun _ _ _ h => h) (Or.inl ⟨by kernel_rfl, ?_⟩) ?_
        · intro wx
          go_simp
          try with_reducible rfl
        refine wpAny_take (i := 13) (v := (.bool false)) rfl (by kernel_rfl) (by kernel_rfl) (by kernel_rfl) (fun _ _ _ h => h) (Or.inl ⟨by kernel_rfl, ?_⟩) ?_
        · intro wx
          go_simp
          try with_reducible rfl
        refine wpAny_take (i := 14) (v := (.bool true)) rfl (by kernel_rfl) (by kernel_rfl) (by kernel_rfl) (fun _ _ _ h => h) (Or.inl ⟨by kernel_rfl, ?_⟩) ?_
        · intro wx
          go_simp
          try with_reducible rfl
        refine wpAny_take (i := 15) (v := (.bool false)) rfl (by kernel_rfl) (by kernel_rfl) (by kernel_rfl) (fun _ _ _ h => h) (Or.inl ⟨by kernel_rfl, ?_⟩) ?_
        · intro wx
          go_simp
          try with_reducible rfl
        refine wpAny_take (i := 16) (v := (.bool false)) rfl (by kernel_rfl) (by kernel_rfl) (by kernel_rfl) (fun _ _ _ h => h) (Or.inl ⟨by kernel_rfl, ?_⟩) ?_
        · intro wx
          go_simp
          try with_reducible rfl
        refine wpAny_take (i := 17) (v := undef) rfl (by kernel_rfl) (by kernel_rfl) (by kernel_rfl) (fun _ _ _ h => h) (Or.inr ⟨by kernel_rfl, rfl⟩) ?_
        refine wpAny_take (i := 18) (v := undef) rfl (by kernel_rfl) (by kernel_rfl) (by kernel_rfl) (fun _ _ _ h => h) (Or.inr ⟨by kernel_rfl, rfl⟩) ?_
        refine wpAny_take (i := 19) (v := undef) rfl (by kernel_rfl) (by kernel_rfl) (by kernel_rfl) (fun _ _ _ h => h) (Or.inr ⟨by kernel_rfl, rfl⟩) ?_
        refine wpAny_take (i := 20) (v := undef) rfl (by kernel_rfl) (by kernel_rfl) (by kernel_rfl) (fun _ _ _ h => h) (Or.inr ⟨by kernel_rfl, rfl⟩) ?_
        refine wpAny_take (i := 21) (v := undef) rfl (by kernel_rfl) (by kernel_rfl) (by kernel_rfl) (fun _ _ _ h => h) (Or.inr ⟨by kernel_rfl, rfl⟩) ?_
        refine wpAny_take (i := 22) (v := undef) rfl (by kernel_rfl) (by kernel_rfl) (by kernel_rfl) (fun _ _ _ h => h) (Or.inr ⟨by kernel_rfl, rfl⟩) ?_
        refine wpAny_take (i := 23) (v := undef) rfl (by kernel_rfl) (by kernel_rfl) (by kernel_rfl) (fun _ _ _ h => h) (Or.inr ⟨by kernel_rfl, rfl⟩) ?_
        refine wpAny_take (i := 24) (v := undef) rfl (by kernel_rfl) (by kernel_rfl) (by kernel_rfl) (fun _ _ _ h => h) (Or.inr ⟨by kernel_rfl, rfl⟩) ?_
        refine wpAny_take (i := 25) (v := (.bool false)) rfl (by kernel_rfl) (by kernel_rfl) (by kernel_rfl) (fun _ _ _ h => h) (Or.inl ⟨by kernel_rfl, ?_⟩) ?_
        · intro wx
          go_simp
          try with_reducible rfl
        refine wpAny_ready (rs := [26]) (by kernel_rfl) (by simp) ?_
        refine AllReady.cons rfl (fun K hK => ?_) AllReady.nil
        go_simp
        refine hK _ _ ?_
        clear hK K
        refine wpAny_done (by kernel_rfl) ?_ _
        go_wp2_with fail
        go_meet
        exact ⟨rfl, b8⟩
      · go_simp
        go_wp2_with (go_at_call 17; refine (HRN.out _ (by first | exact below_drewN (Below.refl _ _) _ | exact Below.refl _ _ | exact (Below.refl _ _).drew)).mono ?_; rintro e w7 ⟨ka, kc, rfl, h7, b7⟩)
        have c70 := (xn.next b7).cell 0 _ rfl
        have c71 := (xn.next b7).cell 1 _ rfl
        have c72 := (xn.next b7).cell 2 _ rfl
        have c73 := (xn.next b7).cell 3 _ rfl
        refine wpAny_ready (rs := [5]) (by kernel_rfl) (by simp) ?_
        refine AllReady.cons rfl (fun K hK => ?_) AllReady.nil
        go_simp
        refine hK _ _ ?_
        clear hK K
        refine wpAny_ready (rs := [9]) (by kernel_rfl) (by simp) ?_
        refine AllReady.cons rfl (fun K hK => ?_) AllReady.nil
        go_simp
        go_wp2_with (go_at_call 16; refine (HKN.out _ ka kc (by first | exact b7 | exact b7.drew | exact below_drewN b7 _) (by exact h7)).mono ?_; rintro e w8 ⟨rfl, b8⟩)
        refine wpAny_take (i := 10) (v := (.bool false)) rfl (by kernel_rfl) (by kernel_rfl) (by kernel_rfl) (fun _ _ _ h => h) (Or.inl ⟨by kernel_rfl, ?_⟩) ?_
        · intro wx
          go_simp
          try with_reducible rfl
        refine wpAny_take (i := 11) (v := (.bool false)) rfl (by kernel_rfl) (by kernel_rfl) (by kernel_rfl) (fun _ _ _ h => h) (Or.inl ⟨by kernel_rfl, ?_⟩) ?_
        · intro wx
          go_simp
          try with_reducible rfl
        refine wpAny_take (i := 12) (v := (.bool false)) rfl (by kernel_rfl) (by kernel_rfl) (by kernel_rfl) (fun _ _ _ h => h) (Or.inl ⟨by kernel_rfl, ?_⟩) ?_
        · intro wx
          go_simp
          try with_reducible rfl
        refine wpAny_take (i := 13) (v := (.bool false)) rfl (by kernel_rfl) (by kernel_rfl) (by kernel_rfl) (fun _ _ _ h => h) (Or.inl ⟨by kernel_rfl, ?_⟩) ?_
        · intro wx
          go_simp
          try with_reducible rfl
        refine wpAny_take (i := 14) (v := (.bool true)) rfl (by kernel_rfl) (by kernel_rfl) (by kernel_rfl) (fun _ _ _ h => h) (Or.inl ⟨by kernel_rfl, ?_⟩) ?_
        · intro wx
          go_simp
          try with_reducible rfl
        refine wpAny_take (i := 15) (v := (.bool false)) rfl (by kernel_rfl) (by kernel_rfl) (by kernel_rfl) (fun _ _ _ h => h) (Or.inl ⟨by kernel_rfl, ?_⟩) ?_
        · intro wx
          go_simp
          try with_reducible rfl
        refine wpAny_take (i := 16) (v := (.bool false)) rfl (by kernel_rfl) (by kernel_rfl) (by kernel_rfl) (fun _ _ _ h => h) (Or.inl ⟨by kernel_rfl, ?_⟩) ?_
        · intro wx
          go_simp
          try with_reducible rfl
        refine wpAny_take (i := 17) (v := undef) rfl (by kernel_rfl) (by kernel_rfl) (by kernel_rfl) (fun _ _ _ h => h) (Or.inr ⟨by kernel_rfl, rfl⟩) ?_
        refine wpAny_take (i := 18) (v := undef) rfl (by kernel_rfl) (by kernel_rfl) (by kernel_rfl) (fun _ _ _ h => h) (Or.inr ⟨by kernel_rfl, rfl⟩) ?_
        refine wpAny_take (i := 19) (v := undef) rfl (by kernel_rfl) (by kernel_rfl) (by kernel_rfl) (fun _ _ _ h => h) (Or.inr ⟨by kernel_rfl, rfl⟩) ?_
        refine wpAny_take (i := 20) (v := undef) rfl (by kernel_rfl) (by kernel_rfl) (by kernel_rfl) (fun _ _ _ h => h) (Or.inr ⟨by kernel_rfl, rfl⟩) ?_
        refine wpAny_take (i := 21) (v := undef) rfl (by kernel_rfl) (by kernel_rfl) (by kernel_rfl) (fun _ _ _ h => h) (Or.inr ⟨by kernel_rfl, rfl⟩) ?_
        refine wpAny_take (i := 22) (v := undef) rfl (by kernel_rfl) (by kernel_rfl) (by kernel_rfl) (fun _ _ _ h => h) (Or.inr ⟨by kernel_rfl, rfl⟩) ?_
        refine wpAny_take (i := 23) (v := undef) rfl (by kernel_rfl) (by kernel_rfl) (by kernel_rfl) (fun _ _ _ h => h) (Or.inr ⟨by kernel_rfl, rfl⟩) ?_
        refine wpAny_take (i := 24) (v := undef) rfl (by kernel_rfl) (by kernel_rfl) (by kernel_rfl) (fun _ _ _ h => h) (Or.inr ⟨by kernel_rfl, rfl⟩) ?_
        refine wpAny_take (i := 25) (v := (.bool false)) rfl (by kernel_rfl) (by kernel_rfl) (by kernel_rfl) (fun _ _ _ h => h) (Or.inl ⟨by kernel_rfl, ?_⟩) ?_
        · intro wx
          go_simp
          try with_reducible rfl
        refine wpAny_ready (rs := [26]) (by kernel_rfl) (by simp) ?_
        refine AllReady.cons rfl (fun K hK => ?_) AllReady.nil
        go_simp
        refine hK _ _ ?_
        clear hK K
        refine wpAny_done (by kernel_rfl) ?_ _
        go_wp2_with fail
        go_meet
        exact ⟨rfl, b8⟩
  case rest =>
    obtain ⟨rfl, b9⟩ := hcut
    clear cxa0 cxa1 cxa2
    clear cxn0 cxn1 cxn2 cxn3
    replace xa := xa.next b9
    replace ha := ha.next b9
    replace hpp := hpp.next b9
    replace hi := hi.next b9
    replace hr := hr.next b9
    replace xi := xi.next b9
    replace hn := hn.next b9
    replace xn := xn.next b9
    replace bb := bb.trans (b9.mono bb.size)
    clear b9 HBB HKN HRN
    have dd1 : decide (1 ≤ d) = true := decide_eq_true (by omega)
    have dd2 : decide (d ≤ 3) = false := decide_eq_false (by omega)
    go_wp2_with fail
    refine (HBM _).mono ?_
    rintro e wz ⟨rfl, rfl⟩
    have HWK := beamWakes_any _ (HFW.out.next bb)
    go_wp2_with (go_at_call 19; refine HWK.mono ?_; rintro e w99 ⟨rfl, b99⟩)
    go_ret
    exact ⟨rfl, bb.trans (b99.mono bb.size)⟩

set_option maxRecDepth 100000 in
set_option maxHeartbeats 4000000 in
theorem beamExact_inD (N : Nat) (p : Int) (a : Option Addr) (cap : Nat) (l : List (Int × Int)) (hl : l.length ≤ 400) (pa : Option Addr) (pc : Nat) (ps : List Int) (hpl : ps.length ≤ 100) (b d : Int) (hp : PileOk (N : Int) p l) (hm : ps.length ≤ N) (hps : Path ps) (hd : 1 ≤ d ∧ d ≤ 3) (hbm : beamB b d = false) (w : World) (ha : Syms w.heap.size w (.slice a l.length cap) l) (hpp : Holds .i64 w.heap.size w (.slice pa ps.length pc) ps) (hF : Firsts w) :
    Calls Tryd.prog 3 #[.agg #[.int .i64 (N : Int), .int .i64 p, .slice a l.length cap], .slice pa ps.length pc, .int .i64 b, .int .i64 d] w fun e w' => e = .returned (.bool true) ∧ Below w.heap.size w w' := by
  have HFW : Hid (Firsts w) := hF
  have HP : Hid (PileOk (N : Int) p l) := hp
  have hN1 : 1 ≤ N := by have := hp.1.1; omega
  have hN2 : N < 65 := by have := hp.1.2.1; omega
  have HPS : Hid (Path ps) := hps
  have HBM := refBeam_any b d
  rw [hbm] at HBM
  have dl : decide (400 < (l.length : Int)) = false := decide_eq_false (by omega)
  have dl' : decide (400 < l.length) = false := decide_eq_false (by omega)
  have dq : decide (100 < (ps.length : Int)) = false := decide_eq_false (by omega)
  have dq' : decide (100 < ps.length) = false := decide_eq_false (by omega)
  have bb : Below w.heap.size w (w.alloc (.cells #[.int .i64 (N : Int), .int .i64 p, .slice a l.length cap] 24)) := (Below.refl w.heap.size w).alloc (Nat.le_refl _) _
  have xa := Box.new w 24 #[.int .i64 (N : Int), .int .i64 p, .slice a l.length cap]
  replace ha := ha.next bb
  replace hpp := hpp.next bb
  have HNB : Hid (¬ ((1 ≤ b ∧ b ≤ 16) ∧ 1 ≤ d ∧ d ≤ 3)) := by
    show ¬ _
    intro h
    unfold beamB at hbm
    simp at hbm
    omega
  clear hp hF hbm hps
  go_enter Tryd.func3, Tryd.ntmps3
  go_wp2_with fail
  refine (HBM _).mono ?_
  rintro e wz ⟨rfl, rfl⟩
  have cxa0 := xa.cell 0 _ rfl
  have cxa1 := xa.cell 1 _ rfl
  have cxa2 := xa.cell 2 _ rfl
  go_wp2_with fail
  refine (twinPile_any (N : Int) p (.slice a l.length cap) l (by omega) _ ha).mono ?_
  rintro e w2 ⟨r2, rfl, o2, b9⟩
  clear cxa0 cxa1 cxa2
  replace xa := xa.next b9
  replace ha := ha.next b9
  replace hpp := hpp.next b9
  replace bb := bb.trans (b9.mono bb.size)
  clear b9
  have hi := syms_of_row o2
  obtain ⟨ra, rc, e2⟩ := hi.shape
  subst e2
  clear o2
  go_wp2_with fail
  refine (twinInts_any (.slice pa ps.length pc) ps _ (by omega) _ hpp).mono ?_
  rintro e w3 ⟨r3, rfl, o3, b9⟩
  replace xa := xa.next b9
  replace ha := ha.next b9
  replace hpp := hpp.next b9
  replace hi := hi.next b9
  replace bb := bb.trans (b9.mono bb.size)
  clear b9
  have hr := holds_of_row o3
  obtain ⟨qa, qc, e3⟩ := rowN_shape o3
  subst e3
  clear o3
  have b9 : Below w3.heap.size w3 (w3.alloc (.cells #[.int .i64 (N : Int), .int .i64 p, .slice ra l.length rc] 24)) := (Below.refl _ _).alloc (Nat.le_refl _) _
  have xi := Box.new w3 24 #[.int .i64 (N : Int), .int .i64 p, .slice ra l.length rc]
  replace xa := xa.next b9
  replace ha := ha.next b9
  replace hpp := hpp.next b9
  replace hi := hi.next b9
  replace hr := hr.next b9
  replace bb := bb.trans (b9.mono bb.size)
  clear b9
  have HC := Node_ok N p ra rc l HP.out qa qc ps HPS.out hm _ hi hr (HFW.out.next bb)
  obtain ⟨S, hS⟩ : ∃ S, staB N l ps = S := ⟨_, rfl⟩
  obtain ⟨M, hM⟩ : ∃ M, metB N l ps = M := ⟨_, rfl⟩
  rw [hS, hM] at HC
  have HS : Hid (staB N l ps = S) := hS
  have HMM : Hid (metB N l ps = M) := hM
  clear hS hM
  have cxi0 := xi.cell 0 _ rfl
  have cxi1 := xi.cell 1 _ rfl
  have cxi2 := xi.cell 2 _ rfl
  go_wp2_with fail
  refine (HC).mono ?_
  rintro e w4 ⟨na, nc, rfl, o5, b9⟩
  clear cxi0 cxi1 cxi2
  replace xa := xa.next b9
  replace ha := ha.next b9
  replace hpp := hpp.next b9
  replace hi := hi.next b9
  replace hr := hr.next b9
  replace xi := xi.next b9
  replace bb := bb.trans (b9.mono bb.size)
  clear b9
  clear HC
  have hn := holds_of_row o5
  clear o5
  have b9 : Below w4.heap.size w4 (w4.alloc (.cells #[.int .u32 S, .int .i64 M, .int .i64 0, .slice na ps.length nc] 32)) := (Below.refl _ _).alloc (Nat.le_refl _) _
  have xn := Box.new w4 32 #[.int .u32 S, .int .i64 M, .int .i64 0, .slice na ps.length nc]
  replace xa := xa.next b9
  replace ha := ha.next b9
  replace hpp := hpp.next b9
  replace hi := hi.next b9
  replace hr := hr.next b9
  replace xi := xi.next b9
  replace hn := hn.next b9
  replace bb := bb.trans (b9.mono bb.size)
  clear b9
  have HC := Score_any N p ra rc l HP.out qa qc ps HPS.out hm d _ hi hr (HFW.out.next bb)
  obtain ⟨V, hV⟩ : ∃ V, scoB N l (d.toNat - 1) ps = V := ⟨_, rfl⟩
  rw [hV] at HC
  have HV : Hid (scoB N l (d.toNat - 1) ps = V) := hV
  clear hV
  have cxi0 := xi.cell 0 _ rfl
  have cxi1 := xi.cell 1 _ rfl
  have cxi2 := xi.cell 2 _ rfl
  go_wp2_with fail
  refine (HC).mono ?_
  rintro e w5 ⟨he, b9⟩
  clear cxi0 cxi1 cxi2
  replace xa := xa.next b9
  replace ha := ha.next b9
  replace hpp := hpp.next b9
  replace hi := hi.next b9
  replace hr := hr.next b9
  replace xi := xi.next b9
  replace hn := hn.next b9
  replace xn := xn.next b9
  replace bb := bb.trans (b9.mono bb.size)
  clear b9
  rcases he with ⟨_, rfl⟩ | ⟨hno, _⟩
  case inr => exact absurd hd hno
  clear HC
  have HC := Walk_arg N p ra rc l HP.out b d HNB.out _ hi (HFW.out.next bb)
  have cxi0 := xi.cell 0 _ rfl
  have cxi1 := xi.cell 1 _ rfl
  have cxi2 := xi.cell 2 _ rfl
  go_wp2_with fail
  refine (HC).mono ?_
  rintro e w6 ⟨rfl, b9⟩
  clear cxi0 cxi1 cxi2
  replace xa := xa.next b9
  replace ha := ha.next b9
  replace hpp := hpp.next b9
  replace hi := hi.next b9
  replace hr := hr.next b9
  replace xi := xi.next b9
  replace hn := hn.next b9
  replace xn := xn.next b9
  replace bb := bb.trans (b9.mono bb.size)
  clear b9
  clear HC
  have HC := Decode_arg N p ra rc l HP.out b d HNB.out _ hi (HFW.out.next bb)
  have cxi0 := xi.cell 0 _ rfl
  have cxi1 := xi.cell 1 _ rfl
  have cxi2 := xi.cell 2 _ rfl
  go_wp2_with fail
  refine (HC).mono ?_
  rintro e w7 ⟨rfl, b9⟩
  clear cxi0 cxi1 cxi2
  replace xa := xa.next b9
  replace ha := ha.next b9
  replace hpp := hpp.next b9
  replace hi := hi.next b9
  replace hr := hr.next b9
  replace xi := xi.next b9
  replace hn := hn.next b9
  replace xn := xn.next b9
  replace bb := bb.trans (b9.mono bb.size)
  clear b9
  clear HC
  have HC := keepPile_any (N : Int) p (N : Int) p (.slice ra l.length rc) (.slice a l.length cap) l l _ (by omega) hi ha
  rw [decide_eq_true ⟨rfl, rfl, rfl⟩] at HC
  have cxi0 := xi.cell 0 _ rfl
  have cxi1 := xi.cell 1 _ rfl
  have cxi2 := xi.cell 2 _ rfl
  have cxa0 := xa.cell 0 _ rfl
  have cxa1 := xa.cell 1 _ rfl
  have cxa2 := xa.cell 2 _ rfl
  go_wp2_with fail
  refine (HC).mono ?_
  rintro e w8 ⟨rfl, b9⟩
  clear cxi0 cxi1 cxi2
  clear cxa0 cxa1 cxa2
  replace xa := xa.next b9
  replace ha := ha.next b9
  replace hpp := hpp.next b9
  replace hi := hi.next b9
  replace hr := hr.next b9
  replace xi := xi.next b9
  replace hn := hn.next b9
  replace xn := xn.next b9
  replace bb := bb.trans (b9.mono bb.size)
  clear b9
  clear HC
  have HC := ints_any (.slice qa ps.length qc) (.slice pa ps.length pc) ps ps _ _ _ (by omega) hr hpp
  rw [decide_eq_true rfl] at HC
  go_wp2_with fail
  refine HC.mono ?_
  rintro e w9 ⟨rfl, q, rfl⟩
  clear HC
  have b9 : Below w8.heap.size w8 (w8.drewN q) := below_drewN (Below.refl _ _) q
  replace xa := xa.next b9
  replace ha := ha.next b9
  replace hpp := hpp.next b9
  replace hi := hi.next b9
  replace hr := hr.next b9
  replace xi := xi.next b9
  replace hn := hn.next b9
  replace xn := xn.next b9
  replace bb := bb.trans (b9.mono bb.size)
  clear b9
  generalize w8.drewN q = wD at *
  have cxa0 := xa.cell 0 _ rfl
  have cxa1 := xa.cell 1 _ rfl
  have cxa2 := xa.cell 2 _ rfl
  go_wp2_with fail
  refine (refPile_yes (N : Int) p a cap l (by omega) HP.out _ ha).mono ?_
  rintro e w9 ⟨rfl, b9⟩
  clear cxa0 cxa1 cxa2
  replace xa := xa.next b9
  replace ha := ha.next b9
  replace hpp := hpp.next b9
  replace hi := hi.next b9
  replace hr := hr.next b9
  replace xi := xi.next b9
  replace hn := hn.next b9
  replace xn := xn.next b9
  replace bb := bb.trans (b9.mono bb.size)
  clear b9
  have cxa0 := xa.cell 0 _ rfl
  have cxa1 := xa.cell 1 _ rfl
  have cxa2 := xa.cell 2 _ rfl
  have dle : decide ((ps.length : Int) ≤ (N : Int)) = true := decide_eq_true (by omega)
  have dle' : decide (ps.length ≤ N) = true := decide_eq_true (by omega)
  have HC := refPath_yes pa pc ps (by omega) HPS.out _ _ hpp
  go_wp2_with fail
  refine HC.mono ?_
  rintro e w10 ⟨rfl, rfl⟩
  clear HC
  have cxn0 := xn.cell 0 _ rfl
  have cxn1 := xn.cell 1 _ rfl
  have cxn2 := xn.cell 2 _ rfl
  have cxn3 := xn.cell 3 _ rfl
  have HBB : Hid (Below w.heap.size w w9) := bb
  have HRN : Hid (∀ wx : World, Below w9.heap.size w9 wx → Calls Tryd.prog 17 #[.agg #[.int .i64 (N : Int), .int .i64 p, .slice a l.length cap], .slice pa ps.length pc] wx fun e W' => ∃ ka kc, e = .returned (.agg #[.int .u32 S, .int .i64 M, .int .i64 0, .slice ka ps.length kc]) ∧ Holds .i64 W'.heap.size W' (.slice ka ps.length kc) ps ∧ Below w9.heap.size w9 W') := fun wx hb => by
    have h9 := refNode_any N p a cap l HP.out pa pc ps HPS.out hm wx (ha.next hb) (hpp.next hb)
    rw [HS.out, HMM.out] at h9
    refine h9.mono ?_
    rintro e W' ⟨ka, kc, rfl, ho, hb'⟩
    exact ⟨ka, kc, rfl, holds_of_row ho, hb.trans (hb'.mono hb.size)⟩
  have HKN : Hid (∀ (wx : World) (ka : Option Addr) (kc : Nat), Below w9.heap.size w9 wx → Holds .i64 wx.heap.size wx (.slice ka ps.length kc) ps → Calls Tryd.prog 16 #[.agg #[.int .u32 S, .int .i64 M, .int .i64 0, .slice na ps.length nc], .agg #[.int .u32 S, .int .i64 M, .int .i64 0, .slice ka ps.length kc]] wx fun e W' => e = .returned (.bool true) ∧ Below w9.heap.size w9 W') := fun wx ka kc hb hk => by
    have h9 := node_any S S M M 0 0 (.slice na ps.length nc) (.slice ka ps.length kc) ps ps wx.heap.size wx.heap.size wx (Nat.le_refl _) (Nat.le_refl _) (by omega) (hn.next hb) hk
    rw [decide_eq_true rfl] at h9
    exact h9.mono fun e W' ⟨h, hb'⟩ => ⟨h, hb.trans (hb'.mono hb.size)⟩
  go_wp2
  go_cut [134] (fun t134 wx => t134 = .bool false ∧ Below w9.heap.size w9 wx)
  case first =>
    refine wp_region_any (by kernel_rfl) ?_
    try (change wpAny _ _ _ _ _ _ _ (World.drew _))
    refine wpAny_take (i := 0) (v := (.bool true)) rfl (by kernel_rfl) (by kernel_rfl) (by kernel_rfl) (fun _ _ _ h => h) (Or.inl ⟨by kernel_rfl, ?_⟩) ?_
    · intro wx
      go_simp
      try with_reducible rfl
    refine wpAny_take (i := 1) (v := (.bool true)) rfl (by kernel_rfl) (by kernel_rfl) (by kernel_rfl) (fun _ _ _ h => h) (Or.inl ⟨by kernel_rfl, ?_⟩) ?_
    · intro wx
      go_simp
      try with_reducible rfl
    refine wpAny_take (i := 2) (v := (.int .i64 0)) rfl (by kernel_rfl) (by kernel_rfl) (by kernel_rfl) (fun _ _ _ h => h) (Or.inl ⟨by kernel_rfl, ?_⟩) ?_
    · intro wx
      go_simp
      try with_reducible rfl
    refine wpAny_take (i := 3) (v := (.bool false)) rfl (by kernel_rfl) (by kernel_rfl) (by kernel_rfl) (fun _ _ _ h => h) (Or.inl ⟨by kernel_rfl, ?_⟩) ?_
    · intro wx
      go_simp
      try with_reducible rfl
    refine wpAny_take (i := 4) (v := (.bool false)) rfl (by kernel_rfl) (by kernel_rfl) (by kernel_rfl) (fun _ _ _ h => h) (Or.inl ⟨by kernel_rfl, ?_⟩) ?_
    · intro wx
      go_simp
      try with_reducible rfl
    refine wpAny_take (i := 7) (v := (.slice pa ps.length pc)) rfl (by kernel_rfl) (by kernel_rfl) (by kernel_rfl) (fun _ _ _ h => h) (Or.inl ⟨by kernel_rfl, ?_⟩) ?_
    · intro wx
      go_simp
      try with_reducible rfl
    refine wpAny_ready (rs := [5, 6]) (by kernel_rfl) (by simp) ?_
    refine AllReady.cons rfl (fun K hK => ?_) (AllReady.cons rfl (fun K hK => ?_) AllReady.nil)
    · go_simp
      refine hK _ _ ?_
      clear hK K
      refine wpAny_ready (rs := [6]) (by kernel_rfl) (by simp) ?_
      refine AllReady.cons rfl (fun K hK => ?_) AllReady.nil
      go_simp
      refine hK _ _ ?_
      clear hK K
      refine wpAny_ready (rs := [8]) (by kernel_rfl) (by simp) ?_
      refine AllReady.cons rfl (fun K hK => ?_) AllReady.nil
      go_simp
      go_wp2_with (go_at_call 17; refine (HRN.out _ (by first | exact below_drewN (Below.refl _ _) _ | exact Below.refl _ _ | exact (Below.refl _ _).drew)).mono ?_; rintro e w7 ⟨ka, kc, rfl, h7, b7⟩)
      refine wpAny_ready (rs := [9]) (by kernel_rfl) (by simp) ?_
      refine AllReady.cons rfl (fun K hK => ?_) AllReady.nil
      go_simp
      go_wp2_with (go_at_call 16; refine (HKN.out _ ka kc (by first | exact b7 | exact b7.drew | exact below_drewN b7 _) (by exact h7)).mono ?_; rintro e w8 ⟨rfl, b8⟩)
      refine wpAny_take (i := 10) (v := (.bool false)) rfl (by kernel_rfl) (by kernel_rfl) (by kernel_rfl) (fun _ _ _ h => h) (Or.inl ⟨by kernel_rfl, ?_⟩) ?_
      · intro wx
        go_simp
        try with_reducible rfl
      refine wpAny_take (i := 11) (v := (.bool false)) rfl (by kernel_rfl) (by kernel_rfl) (by kernel_rfl) (fun _ _ _ h => h) (Or.inl ⟨by kernel_rfl, ?_⟩) ?_
      · intro wx
        go_simp
        try with_reducible rfl
      refine wpAny_take (i := 12) (v := (.bool false)) rfl (by kernel_rfl) (by kernel_rfl) (by kernel_rfl) (fun _ _ _ h => h) (Or.inl ⟨by kernel_rfl, ?_⟩) ?_
      · intro wx
        go_simp
        try with_reducible rfl
      refine wpAny_take (i := 13) (v := (.bool false)) rfl (by kernel_rfl) (by kernel_rfl) (by kernel_rfl) (fun _ _ _ h => h) (Or.inl ⟨by kernel_rfl, ?_⟩) ?_
      · intro wx
        go_simp
        try with_reducible rfl
      refine wpAny_take (i := 14) (v := (.bool true)) rfl (by kernel_rfl) (by kernel_rfl) (by kernel_rfl) (fun _ _ _ h => h) (Or.inl ⟨by kernel_rfl, ?_⟩) ?_
      · intro wx
        go_simp
        try with_reducible rfl
      refine wpAny_take (i := 15) (v := (.bool false)) rfl (by kernel_rfl) (by kernel_rfl) (by kernel_rfl) (fun _ _ _ h => h) (Or.inl ⟨by kernel_rfl, ?_⟩) ?_
      · intro wx
        go_simp
        try with_reducible rfl
      refine wpAny_take (i := 16) (v := (.bool false)) rfl (by kernel_rfl) (by kernel_rfl) (by kernel_rfl) (fun _ _ _ h => h) (Or.inl ⟨by kernel_rfl, ?_⟩) ?_
      · intro wx
        go_simp
        try with_reducible rfl
      refine wpAny_take (i := 17) (v := undef) rfl (by kernel_rfl) (by kernel_rfl) (by kernel_rfl) (fun _ _ _ h => h) (Or.inr ⟨by kernel_rfl, rfl⟩) ?_
      refine wpAny_take (i := 18) (v := undef) rfl (by kernel_rfl) (by kernel_rfl) (by kernel_rfl) (fun _ _ _ h => h) (Or.inr ⟨by kernel_rfl, rfl⟩) ?_
      refine wpAny_take (i := 19) (v := undef) rfl (by kernel_rfl) (by kernel_rfl) (by kernel_rfl) (fun _ _ _ h => h) (Or.inr ⟨by kernel_rfl, rfl⟩) ?_
      refine wpAny_take (i := 20) (v := undef) rfl (by kernel_rfl) (by kernel_rfl) (by kernel_rfl) (fun _ _ _ h => h) (Or.inr ⟨by kernel_rfl, rfl⟩) ?_
      refine wpAny_take (i := 21) (v := undef) rfl (by kernel_rfl) (by kernel_rfl) (by kernel_rfl) (fun _ _ _ h => h) (Or.inr ⟨by kernel_rfl, rfl⟩) ?_
      refine wpAny_take (i := 22) (v := undef) rfl (by kernel_rfl) (by kernel_rfl) (by kernel_rfl) (fun _ _ _ h => h) (Or.inr ⟨by kernel_rfl, rfl⟩) ?_
      refine wpAny_take (i := 23) (v := undef) rfl (by kernel_rfl) (by kernel_rfl) (by kernel_rfl) (fun _ _ _ h => h) (Or.inr ⟨by kernel_rfl, rfl⟩) ?_
      refine wpAny_take (i := 24) (v := undef) rfl (by kernel_rfl) (by kernel_rfl) (by kernel_rfl) (fun _ _ _ h => h) (Or.inr ⟨by kernel_rfl, rfl⟩) ?_
      refine wpAny_take (i := 25) (v := (.bool false)) rfl (by kernel_rfl) (by kernel_rfl) (by kernel_rfl) (fun _ _ _ h => h) (Or.inl ⟨by kernel_rfl, ?_⟩) ?_
      · intro wx
        go_simp
        try with_reducible rfl
      refine wpAny_ready (rs := [26]) (by kernel_rfl) (by simp) ?_
      refine AllReady.cons rfl (fun K hK => ?_) AllReady.nil
      go_simp
      refine hK _ _ ?_
      clear hK K
      refine wpAny_done (by kernel_rfl) ?_ _
      go_wp2_with fail
      go_meet
      exact ⟨rfl, b8⟩
    · go_simp
      refine hK _ _ ?_
      clear hK K
      refine wpAny_ready (rs := [5, 8]) (by kernel_rfl) (by simp) ?_
      refine AllReady.cons rfl (fun K hK => ?_) (AllReady.cons rfl (fun K hK => ?_) AllReady.nil)
      · go_simp
        refine hK _ _ ?_
        clear hK K
        refine wpAny_ready (rs := [8]) (by kernel_rfl) (by simp) ?_
        refine AllReady.cons rfl (fun K hK => ?_) AllReady.nil
        go_simp
        go_wp2_with (go_at_call 17; refine (HRN.out _ (by first | exact below_drewN (Below.refl _ _) _ | exact Below.refl _ _ | exact (Below.refl _ _).drew)).mono ?_; rintro e w7 ⟨ka, kc, rfl, h7, b7⟩)
        refine wpAny_ready (rs := [9]) (by kernel_rfl) (by simp) ?_
        refine AllReady.cons rfl (fun K hK => ?_) AllReady.nil
        go_simp
        go_wp2_with (go_at_call 16; refine (HKN.out _ ka kc (by first | exact b7 | exact b7.drew | exact below_drewN b7 _) (by exact h7)).mono ?_; rintro e w8 ⟨rfl, b8⟩)
        refine wpAny_take (i := 10) (v := (.bool false)) rfl (by kernel_rfl) (by kernel_rfl) (by kernel_rfl) (fun _ _ _ h => h) (Or.inl ⟨by kernel_rfl, ?_⟩) ?_
        · intro wx
          go_simp
          try with_reducible rfl
        refine wpAny_take (i := 11) (v := (.bool false)) rfl (by kernel_rfl) (by kernel_rfl) (by kernel_rfl) (fun _ _ _ h => h) (Or.inl ⟨by kernel_rfl, ?_⟩) ?_
        · intro wx
          go_simp
          try with_reducible rfl
        refine wpAny_take (i := 12) (v := (.bool false)) rfl (by kernel_rfl) (by kernel_rfl) (by kernel_rfl) (fun _ _ _ h => h) (Or.inl ⟨by kernel_rfl, ?_⟩) ?_
        · intro wx
          go_simp
          try with_reducible rfl
        refine wpAny_take (i := 13) (v := (.bool false)) rfl (by kernel_rfl) (by kernel_rfl) (by kernel_rfl) (fun _ _ _ h => h) (Or.inl ⟨by kernel_rfl, ?_⟩) ?_
        · intro wx
          go_simp
          try with_reducible rfl
        refine wpAny_take (i := 14) (v := (.bool true)) rfl (by kernel_rfl) (by kernel_rfl) (by kernel_rfl) (fun _ _ _ h => h) (Or.inl ⟨by kernel_rfl, ?_⟩) ?_
        · intro wx
          go_simp
          try with_reducible rfl
        refine wpAny_take (i := 15) (v := (.bool false)) rfl (by kernel_rfl) (by kernel_rfl) (by kernel_rfl) (fun _ _ _ h => h) (Or.inl ⟨by kernel_rfl, ?_⟩) ?_
        · intro wx
          go_simp
          try with_reducible rfl
        refine wpAny_take (i := 16) (v := (.bool false)) rfl (by kernel_rfl) (by kernel_rfl) (by kernel_rfl) (fun _ _ _ h => h) (Or.inl ⟨by kernel_rfl, ?_⟩) ?_
        · intro wx
          go_simp
          try with_reducible rfl
        refine wpAny_take (i := 17) (v := undef) rfl (by kernel_rfl) (by kernel_rfl) (by kernel_rfl) (fun _ _ _ h => h) (Or.inr ⟨by kernel_rfl, rfl⟩) ?_
        refine wpAny_take (i := 18) (v := undef) rfl (by kernel_rfl) (by kernel_rfl) (by kernel_rfl) (fun _ _ _ h => h) (Or.inr ⟨by kernel_rfl, rfl⟩) ?_
        refine wpAny_take (i := 19) (v := undef) rfl (by kernel_rfl) (by kernel_rfl) (by kernel_rfl) (fun _ _ _ h => h) (Or.inr ⟨by kernel_rfl, rfl⟩) ?_
        refine wpAny_take (i := 20) (v := undef) rfl (by kernel_rfl) (by kernel_rfl) (by kernel_rfl) (fun _ _ _ h => h) (Or.inr ⟨by kernel_rfl, rfl⟩) ?_
        refine wpAny_take (i := 21) (v := undef) rfl (by kernel_rfl) (by kernel_rfl) (by kernel_rfl) (fun _ _ _ h => h) (Or.inr ⟨by kernel_rfl, rfl⟩) ?_
        refine wpAny_take (i := 22) (v := undef) rfl (by kernel_rfl) (by kernel_rfl) (by kernel_rfl) (fun _ _ _ h => h) (Or.inr ⟨by kernel_rfl, rfl⟩) ?_
        refine wpAny_take (i := 23) (v := undef) rfl (by kernel_rfl) (by kernel_rfl) (by kernel_rfl) (fun _ _ _ h => h) (Or.inr ⟨by kernel_rfl, rfl⟩) ?_
        refine wpAny_take (i := 24) (v := undef) rfl (by kernel_rfl) (by kernel_rfl) (by kernel_rfl) (fun _ _ _ h => h) (Or.inr ⟨by kernel_rfl, rfl⟩) ?_
        refine wpAny_take (i := 25) (v := (.bool false)) rfl (by kernel_rfl) (by kernel_rfl) (by kernel_rfl) (fun _ _ _ h => h) (Or.inl ⟨by kernel_rfl, ?_⟩) ?_
        · intro wx
          go_simp
          try with_reducible rfl
        refine wpAny_ready (rs := [26]) (by kernel_rfl) (by simp) ?_
        refine AllReady.cons rfl (fun K hK => ?_) AllReady.nil
        go_simp
        refine hK _ _ ?_
        clear hK K
        refine wpAny_done (by kernel_rfl) ?_ _
        go_wp2_with fail
        go_meet
        exact ⟨rfl, b8⟩
      · go_simp
        go_wp2_with (go_at_call 17; refine (HRN.out _ (by first | exact below_drewN (Below.refl _ _) _ | exact Below.refl _ _ | exact (Below.refl _ _).drew)).mono ?_; rintro e w7 ⟨ka, kc, rfl, h7, b7⟩)
        have c70 := (xn.next b7).cell 0 _ rfl
        have c71 := (xn.next b7).cell 1 _ rfl
        have c72 := (xn.next b7).cell 2 _ rfl
        have c73 := (xn.next b7).cell 3 _ rfl
        refine wpAny_ready (rs := [5]) (by kernel_rfl) (by simp) ?_
        refine AllReady.cons rfl (fun K hK => ?_) AllReady.nil
        go_simp
        refine hK _ _ ?_
        clear hK K
        refine wpAny_ready (rs := [9]) (by kernel_rfl) (by simp) ?_
        refine AllReady.cons rfl (fun K hK => ?_) AllReady.nil
        go_simp
        go_wp2_with (go_at_call 16; refine (HKN.out _ ka kc (by first | exact b7 | exact b7.drew | exact below_drewN b7 _) (by exact h7)).mono ?_; rintro e w8 ⟨rfl, b8⟩)
        refine wpAny_take (i := 10) (v := (.bool false)) rfl (by kernel_rfl) (by kernel_rfl) (by kernel_rfl) (fun _ _ _ h => h) (Or.inl ⟨by kernel_rfl, ?_⟩) ?_
        · intro wx
          go_simp
          try with_reducible rfl
        refine wpAny_take (i := 11) (v := (.bool false)) rfl (by kernel_rfl) (by kernel_rfl) (by kernel_rfl) (fun _ _ _ h => h) (Or.inl ⟨by kernel_rfl, ?_⟩) ?_
        · intro wx
          go_simp
          try with_reducible rfl
        refine wpAny_take (i := 12) (v := (.bool false)) rfl (by kernel_rfl) (by kernel_rfl) (by kernel_rfl) (fun _ _ _ h => h) (Or.inl ⟨by kernel_rfl, ?_⟩) ?_
        · intro wx
          go_simp
          try with_reducible rfl
        refine wpAny_take (i := 13) (v := (.bool false)) rfl (by kernel_rfl) (by kernel_rfl) (by kernel_rfl) (fun _ _ _ h => h) (Or.inl ⟨by kernel_rfl, ?_⟩) ?_
        · intro wx
          go_simp
          try with_reducible rfl
        refine wpAny_take (i := 14) (v := (.bool true)) rfl (by kernel_rfl) (by kernel_rfl) (by kernel_rfl) (fun _ _ _ h => h) (Or.inl ⟨by kernel_rfl, ?_⟩) ?_
        · intro wx
          go_simp
          try with_reducible rfl
        refine wpAny_take (i := 15) (v := (.bool false)) rfl (by kernel_rfl) (by kernel_rfl) (by kernel_rfl) (fun _ _ _ h => h) (Or.inl ⟨by kernel_rfl, ?_⟩) ?_
        · intro wx
          go_simp
          try with_reducible rfl
        refine wpAny_take (i := 16) (v := (.bool false)) rfl (by kernel_rfl) (by kernel_rfl) (by kernel_rfl) (fun _ _ _ h => h) (Or.inl ⟨by kernel_rfl, ?_⟩) ?_
        · intro wx
          go_simp
          try with_reducible rfl
        refine wpAny_take (i := 17) (v := undef) rfl (by kernel_rfl) (by kernel_rfl) (by kernel_rfl) (fun _ _ _ h => h) (Or.inr ⟨by kernel_rfl, rfl⟩) ?_
        refine wpAny_take (i := 18) (v := undef) rfl (by kernel_rfl) (by kernel_rfl) (by kernel_rfl) (fun _ _ _ h => h) (Or.inr ⟨by kernel_rfl, rfl⟩) ?_
        refine wpAny_take (i := 19) (v := undef) rfl (by kernel_rfl) (by kernel_rfl) (by kernel_rfl) (fun _ _ _ h => h) (Or.inr ⟨by kernel_rfl, rfl⟩) ?_
        refine wpAny_take (i := 20) (v := undef) rfl (by kernel_rfl) (by kernel_rfl) (by kernel_rfl) (fun _ _ _ h => h) (Or.inr ⟨by kernel_rfl, rfl⟩) ?_
        refine wpAny_take (i := 21) (v := undef) rfl (by kernel_rfl) (by kernel_rfl) (by kernel_rfl) (fun _ _ _ h => h) (Or.inr ⟨by kernel_rfl, rfl⟩) ?_
        refine wpAny_take (i := 22) (v := undef) rfl (by kernel_rfl) (by kernel_rfl) (by kernel_rfl) (fun _ _ _ h => h) (Or.inr ⟨by kernel_rfl, rfl⟩) ?_
        refine wpAny_take (i := 23) (v := undef) rfl (by kernel_rfl) (by kernel_rfl) (by kernel_rfl) (fun _ _ _ h => h) (Or.inr ⟨by kernel_rfl, rfl⟩) ?_
        refine wpAny_take (i := 24) (v := undef) rfl (by kernel_rfl) (by kernel_rfl) (by kernel_rfl) (fun _ _ _ h => h) (Or.inr ⟨by kernel_rfl, rfl⟩) ?_
        refine wpAny_take (i := 25) (v := (.bool false)) rfl (by kernel_rfl) (by kernel_rfl) (by kernel_rfl) (fun _ _ _ h => h) (Or.inl ⟨by kernel_rfl, ?_⟩) ?_
        · intro wx
          go_simp
          try with_reducible rfl
        refine wpAny_ready (rs := [26]) (by kernel_rfl) (by simp) ?_
        refine AllReady.cons rfl (fun K hK => ?_) AllReady.nil
        go_simp
        refine hK _ _ ?_
        clear hK K
        refine wpAny_done (by kernel_rfl) ?_ _
        go_wp2_with fail
        go_meet
        exact ⟨rfl, b8⟩
  case rest =>
    obtain ⟨rfl, b9⟩ := hcut
    clear cxa0 cxa1 cxa2
    clear cxn0 cxn1 cxn2 cxn3
    replace xa := xa.next b9
    replace ha := ha.next b9
    replace hpp := hpp.next b9
    replace hi := hi.next b9
    replace hr := hr.next b9
    replace xi := xi.next b9
    replace hn := hn.next b9
    replace xn := xn.next b9
    replace bb := bb.trans (b9.mono bb.size)
    clear b9 HBB HKN HRN
    have dd1 : decide (1 ≤ d) = true := decide_eq_true (by omega)
    have dd2 : decide (d ≤ 3) = true := decide_eq_true (by omega)
    obtain ⟨D0, hD0⟩ : ∃ D0 : Nat, d = ((D0 + 1 : Nat) : Int) := ⟨d.toNat - 1, by omega⟩
    have HC := refScore_any N p a cap l HP.out pa pc ps HPS.out hm D0 (by omega) _ ha hpp
    rw [← hD0, show scoB N l D0 ps = V by rw [← HV.out, show d.toNat - 1 = D0 by omega]] at HC
    clear hD0
    have dVV : (V != V) = false := by simp
    have cxa0 := xa.cell 0 _ rfl
    have cxa1 := xa.cell 1 _ rfl
    have cxa2 := xa.cell 2 _ rfl
    go_wp2_with fail
    refine (HC).mono ?_
    rintro e w21 ⟨rfl, b9⟩
    clear cxa0 cxa1 cxa2
    replace xa := xa.next b9
    replace ha := ha.next b9
    replace hpp := hpp.next b9
    replace hi := hi.next b9
    replace hr := hr.next b9
    replace xi := xi.next b9
    replace hn := hn.next b9
    replace xn := xn.next b9
    replace bb := bb.trans (b9.mono bb.size)
    clear b9
    clear HC
    go_wp2_with fail
    refine (HBM _).mono ?_
    rintro e wz ⟨rfl, rfl⟩
    have HWK := beamWakes_any _ (HFW.out.next bb)
    go_wp2_with (go_at_call 19; refine HWK.mono ?_; rintro e w99 ⟨rfl, b99⟩)
    go_ret
    exact ⟨rfl, bb.trans (b99.mono bb.size)⟩

end Go.Proofs.YtddcloanbpkecaaDoor

/-
  BeamExact: the walk: whatever the pile, the path, the beam and the depth, the law answers true, and nothing that lay has turned. (Written by tpl_beamexact.py, a case a theorem.)
-/
namespace Go.Proofs.YtddcloanbpkecaaDoor
open Go.RowKit

set_option maxRecDepth 100000 in
set_option maxHeartbeats 4000000 in
theorem beamExact_all (N : Nat) (p : Int) (a : Option Addr) (cap : Nat) (l : List (Int × Int)) (hl : l.length ≤ 400) (pa : Option Addr) (pc : Nat) (ps : List Int) (hpl : ps.length ≤ 100) (b d : Int) (hp : PileOk (N : Int) p l) (hm : ps.length ≤ N) (hps : Path ps) (hd : 1 ≤ d ∧ d ≤ 3) (hbm : beamB b d = true) (hdec : decB (walkB N l b.toNat (d.toNat - 1) N).1 (walkB N l b.toNat (d.toNat - 1) N).2 = none) (w : World) (ha : Syms w.heap.size w (.slice a l.length cap) l) (hpp : Holds .i64 w.heap.size w (.slice pa ps.length pc) ps) (hF : Firsts w) :
    Calls Tryd.prog 3 #[.agg #[.int .i64 (N : Int), .int .i64 p, .slice a l.length cap], .slice pa ps.length pc, .int .i64 b, .int .i64 d] w fun e w' => e = .returned (.bool true) ∧ Below w.heap.size w w' := by
  have HFW : Hid (Firsts w) := hF
  have HP : Hid (PileOk (N : Int) p l) := hp
  have hN1 : 1 ≤ N := by have := hp.1.1; omega
  have hN2 : N < 65 := by have := hp.1.2.1; omega
  have HPS : Hid (Path ps) := hps
  have HBM := refBeam_any b d
  rw [hbm] at HBM
  have dl : decide (400 < (l.length : Int)) = false := decide_eq_false (by omega)
  have dl' : decide (400 < l.length) = false := decide_eq_false (by omega)
  have dq : decide (100 < (ps.length : Int)) = false := decide_eq_false (by omega)
  have dq' : decide (100 < ps.length) = false := decide_eq_false (by omega)
  have bb : Below w.heap.size w (w.alloc (.cells #[.int .i64 (N : Int), .int .i64 p, .slice a l.length cap] 24)) := (Below.refl w.heap.size w).alloc (Nat.le_refl _) _
  have xa := Box.new w 24 #[.int .i64 (N : Int), .int .i64 p, .slice a l.length cap]
  replace ha := ha.next bb
  replace hpp := hpp.next bb
  obtain ⟨B, rfl, hB1, hB2, D1, rfl, hD1, hD2⟩ : ∃ B : Nat, b = (B : Int) ∧ 1 ≤ B ∧ B ≤ 16 ∧ ∃ D1 : Nat, d = (D1 : Int) ∧ 1 ≤ D1 ∧ D1 ≤ 3 := by
    unfold beamB at hbm
    simp at hbm
    exact ⟨b.toNat, by omega, by omega, by omega, d.toNat, by omega, by omega, by omega⟩
  obtain ⟨D, hD⟩ : ∃ D, D + 1 = D1 := ⟨D1 - 1, by omega⟩
  have HD : Hid (D + 1 = D1) := hD
  have hDb : D ≤ 2 := by omega
  rw [show (B : Int).toNat = B from rfl, show (D1 : Int).toNat - 1 = D by rw [← hD]; rfl] at hdec
  have HDE : Hid (decB (walkB N l B D N).1 (walkB N l B D N).2 = none) := hdec
  clear hdec
  clear hD
  clear hp hF hbm hps
  go_enter Tryd.func3, Tryd.ntmps3
  go_wp2_with fail
  refine (HBM _).mono ?_
  rintro e wz ⟨rfl, rfl⟩
  have cxa0 := xa.cell 0 _ rfl
  have cxa1 := xa.cell 1 _ rfl
  have cxa2 := xa.cell 2 _ rfl
  go_wp2_with fail
  refine (light_any _ _ _ _).mono ?_
  rintro e wz ⟨he | he, rfl⟩
  case inr =>
    subst he
    go_wp2
    go_ret
    exact ⟨rfl, bb⟩
  subst he
  clear cxa0 cxa1 cxa2
  have cxa0 := xa.cell 0 _ rfl
  have cxa1 := xa.cell 1 _ rfl
  have cxa2 := xa.cell 2 _ rfl
  go_wp2_with fail
  refine (twinPile_any (N : Int) p (.slice a l.length cap) l (by omega) _ ha).mono ?_
  rintro e w2 ⟨r2, rfl, o2, b9⟩
  clear cxa0 cxa1 cxa2
  replace xa := xa.next b9
  replace ha := ha.next b9
  replace hpp := hpp.next b9
  replace bb := bb.trans (b9.mono bb.size)
  clear b9
  have hi := syms_of_row o2
  obtain ⟨ra, rc, e2⟩ := hi.shape
  subst e2
  clear o2
  go_wp2_with fail
  refine (twinInts_any (.slice pa ps.length pc) ps _ (by omega) _ hpp).mono ?_
  rintro e w3 ⟨r3, rfl, o3, b9⟩
  replace xa := xa.next b9
  replace ha := ha.next b9
  replace hpp := hpp.next b9
  replace hi := hi.next b9
  replace bb := bb.trans (b9.mono bb.size)
  clear b9
  have hr := holds_of_row o3
  obtain ⟨qa, qc, e3⟩ := rowN_shape o3
  subst e3
  clear o3
  have b9 : Below w3.heap.size w3 (w3.alloc (.cells #[.int .i64 (N : Int), .int .i64 p, .slice ra l.length rc] 24)) := (Below.refl _ _).alloc (Nat.le_refl _) _
  have xi := Box.new w3 24 #[.int .i64 (N : Int), .int .i64 p, .slice ra l.length rc]
  replace xa := xa.next b9
  replace ha := ha.next b9
  replace hpp := hpp.next b9
  replace hi := hi.next b9
  replace hr := hr.next b9
  replace bb := bb.trans (b9.mono bb.size)
  clear b9
  have HC := Node_ok N p ra rc l HP.out qa qc ps HPS.out hm _ hi hr (HFW.out.next bb)
  obtain ⟨S, hS⟩ : ∃ S, staB N l ps = S := ⟨_, rfl⟩
  obtain ⟨M, hM⟩ : ∃ M, metB N l ps = M := ⟨_, rfl⟩
  rw [hS, hM] at HC
  have HS : Hid (staB N l ps = S) := hS
  have HMM : Hid (metB N l ps = M) := hM
  clear hS hM
  have cxi0 := xi.cell 0 _ rfl
  have cxi1 := xi.cell 1 _ rfl
  have cxi2 := xi.cell 2 _ rfl
  go_wp2_with fail
  refine (HC).mono ?_
  rintro e w4 ⟨na, nc, rfl, o5, b9⟩
  clear cxi0 cxi1 cxi2
  replace xa := xa.next b9
  replace ha := ha.next b9
  replace hpp := hpp.next b9
  replace hi := hi.next b9
  replace hr := hr.next b9
  replace xi := xi.next b9
  replace bb := bb.trans (b9.mono bb.size)
  clear b9
  clear HC
  have hn := holds_of_row o5
  clear o5
  have b9 : Below w4.heap.size w4 (w4.alloc (.cells #[.int .u32 S, .int .i64 M, .int .i64 0, .slice na ps.length nc] 32)) := (Below.refl _ _).alloc (Nat.le_refl _) _
  have xn := Box.new w4 32 #[.int .u32 S, .int .i64 M, .int .i64 0, .slice na ps.length nc]
  replace xa := xa.next b9
  replace ha := ha.next b9
  replace hpp := hpp.next b9
  replace hi := hi.next b9
  replace hr := hr.next b9
  replace xi := xi.next b9
  replace hn := hn.next b9
  replace bb := bb.trans (b9.mono bb.size)
  clear b9
  have HC := Score_any N p ra rc l HP.out qa qc ps HPS.out hm (D1 : Int) _ hi hr (HFW.out.next bb)
  obtain ⟨V, hV⟩ : ∃ V, scoB N l ((D1 : Int).toNat - 1) ps = V := ⟨_, rfl⟩
  rw [hV] at HC
  have HV : Hid (scoB N l ((D1 : Int).toNat - 1) ps = V) := hV
  clear hV
  have cxi0 := xi.cell 0 _ rfl
  have cxi1 := xi.cell 1 _ rfl
  have cxi2 := xi.cell 2 _ rfl
  go_wp2_with fail
  refine (HC).mono ?_
  rintro e w5 ⟨he, b9⟩
  clear cxi0 cxi1 cxi2
  replace xa := xa.next b9
  replace ha := ha.next b9
  replace hpp := hpp.next b9
  replace hi := hi.next b9
  replace hr := hr.next b9
  replace xi := xi.next b9
  replace hn := hn.next b9
  replace xn := xn.next b9
  replace bb := bb.trans (b9.mono bb.size)
  clear b9
  rcases he with ⟨_, rfl⟩ | ⟨hno, _⟩
  case inr => exact absurd hd hno
  clear HC
  have HC := Walk_ok N p ra rc l HP.out B hB1 hB2 D hDb _ hi (HFW.out.next bb)
  rw [HD.out] at HC
  obtain ⟨LL, hLL⟩ : ∃ LL, (walkB N l B D N).1 = LL := ⟨_, rfl⟩
  obtain ⟨cu, hcu⟩ : ∃ cu, (walkB N l B D N).2 = cu := ⟨_, rfl⟩
  rw [hLL, hcu] at HC
  have HLL : Hid ((walkB N l B D N).1 = LL) := hLL
  have HCU : Hid ((walkB N l B D N).2 = cu) := hcu
  clear hLL hcu
  have cxi0 := xi.cell 0 _ rfl
  have cxi1 := xi.cell 1 _ rfl
  have cxi2 := xi.cell 2 _ rfl
  go_wp2_with fail
  refine (HC).mono ?_
  rintro e w6 ⟨rl, rfl, hL, b9⟩
  clear cxi0 cxi1 cxi2
  replace xa := xa.next b9
  replace ha := ha.next b9
  replace hpp := hpp.next b9
  replace hi := hi.next b9
  replace hr := hr.next b9
  replace xi := xi.next b9
  replace hn := hn.next b9
  replace xn := xn.next b9
  replace bb := bb.trans (b9.mono bb.size)
  clear b9
  clear HC
  have HC := Decode_ok N p ra rc l HP.out B hB1 hB2 D hDb _ hi (HFW.out.next bb)
  rw [HD.out, HLL.out, HCU.out] at HC
  have cxi0 := xi.cell 0 _ rfl
  have cxi1 := xi.cell 1 _ rfl
  have cxi2 := xi.cell 2 _ rfl
  go_wp2_with fail
  refine (HC).mono ?_
  rintro e w7 ⟨he, b9⟩
  clear cxi0 cxi1 cxi2
  replace xa := xa.next b9
  replace ha := ha.next b9
  replace hpp := hpp.next b9
  replace hi := hi.next b9
  replace hr := hr.next b9
  replace xi := xi.next b9
  replace hn := hn.next b9
  replace xn := xn.next b9
  replace hL := hL.next b9
  replace bb := bb.trans (b9.mono bb.size)
  clear b9
  clear HC
  have HC := keepPile_any (N : Int) p (N : Int) p (.slice ra l.length rc) (.slice a l.length cap) l l _ (by omega) hi ha
  rw [decide_eq_true ⟨rfl, rfl, rfl⟩] at HC
  have HDD := HDE.out
  rw [HLL.out, HCU.out] at HDD
  rcases he with ⟨_, rfl⟩ | ⟨zs1, Z1, hsm, _⟩
  case inr => rw [HDD] at hsm; cases hsm
  have HDF : Hid (decB LL cu = none) := HDD
  clear HDD HDE
  have cxi0 := xi.cell 0 _ rfl
  have cxi1 := xi.cell 1 _ rfl
  have cxi2 := xi.cell 2 _ rfl
  have cxa0 := xa.cell 0 _ rfl
  have cxa1 := xa.cell 1 _ rfl
  have cxa2 := xa.cell 2 _ rfl
  go_wp2_with fail
  refine (HC).mono ?_
  rintro e w8 ⟨rfl, b9⟩
  clear cxi0 cxi1 cxi2
  clear cxa0 cxa1 cxa2
  replace xa := xa.next b9
  replace ha := ha.next b9
  replace hpp := hpp.next b9
  replace hi := hi.next b9
  replace hr := hr.next b9
  replace xi := xi.next b9
  replace hn := hn.next b9
  replace xn := xn.next b9
  replace hL := hL.next b9
  replace bb := bb.trans (b9.mono bb.size)
  clear b9
  clear HC
  have HC := ints_any (.slice qa ps.length qc) (.slice pa ps.length pc) ps ps _ _ _ (by omega) hr hpp
  rw [decide_eq_true rfl] at HC
  go_wp2_with fail
  refine HC.mono ?_
  rintro e w9 ⟨rfl, q, rfl⟩
  clear HC
  have b9 : Below w8.heap.size w8 (w8.drewN q) := below_drewN (Below.refl _ _) q
  replace xa := xa.next b9
  replace ha := ha.next b9
  replace hpp := hpp.next b9
  replace hi := hi.next b9
  replace hr := hr.next b9
  replace xi := xi.next b9
  replace hn := hn.next b9
  replace xn := xn.next b9
  replace hL := hL.next b9
  replace bb := bb.trans (b9.mono bb.size)
  clear b9
  generalize w8.drewN q = wD at *
  have cxa0 := xa.cell 0 _ rfl
  have cxa1 := xa.cell 1 _ rfl
  have cxa2 := xa.cell 2 _ rfl
  go_wp2_with fail
  refine (refPile_yes (N : Int) p a cap l (by omega) HP.out _ ha).mono ?_
  rintro e w9 ⟨rfl, b9⟩
  clear cxa0 cxa1 cxa2
  replace xa := xa.next b9
  replace ha := ha.next b9
  replace hpp := hpp.next b9
  replace hi := hi.next b9
  replace hr := hr.next b9
  replace xi := xi.next b9
  replace hn := hn.next b9
  replace xn := xn.next b9
  replace hL := hL.next b9
  replace bb := bb.trans (b9.mono bb.size)
  clear b9
  have cxa0 := xa.cell 0 _ rfl
  have cxa1 := xa.cell 1 _ rfl
  have cxa2 := xa.cell 2 _ rfl
  have dle : decide ((ps.length : Int) ≤ (N : Int)) = true := decide_eq_true (by omega)
  have dle' : decide (ps.length ≤ N) = true := decide_eq_true (by omega)
  have HC := refPath_yes pa pc ps (by omega) HPS.out _ _ hpp
  go_wp2_with fail
  refine HC.mono ?_
  rintro e w10 ⟨rfl, rfl⟩
  clear HC
  have cxn0 := xn.cell 0 _ rfl
  have cxn1 := xn.cell 1 _ rfl
  have cxn2 := xn.cell 2 _ rfl
  have cxn3 := xn.cell 3 _ rfl
  have HBB : Hid (Below w.heap.size w w9) := bb
  have HRN : Hid (∀ wx : World, Below w9.heap.size w9 wx → Calls Tryd.prog 17 #[.agg #[.int .i64 (N : Int), .int .i64 p, .slice a l.length cap], .slice pa ps.length pc] wx fun e W' => ∃ ka kc, e = .returned (.agg #[.int .u32 S, .int .i64 M, .int .i64 0, .slice ka ps.length kc]) ∧ Holds .i64 W'.heap.size W' (.slice ka ps.length kc) ps ∧ Below w9.heap.size w9 W') := fun wx hb => by
    have h9 := refNode_any N p a cap l HP.out pa pc ps HPS.out hm wx (ha.next hb) (hpp.next hb)
    rw [HS.out, HMM.out] at h9
    refine h9.mono ?_
    rintro e W' ⟨ka, kc, rfl, ho, hb'⟩
    exact ⟨ka, kc, rfl, holds_of_row ho, hb.trans (hb'.mono hb.size)⟩
  have HKN : Hid (∀ (wx : World) (ka : Option Addr) (kc : Nat), Below w9.heap.size w9 wx → Holds .i64 wx.heap.size wx (.slice ka ps.length kc) ps → Calls Tryd.prog 16 #[.agg #[.int .u32 S, .int .i64 M, .int .i64 0, .slice na ps.length nc], .agg #[.int .u32 S, .int .i64 M, .int .i64 0, .slice ka ps.length kc]] wx fun e W' => e = .returned (.bool true) ∧ Below w9.heap.size w9 W') := fun wx ka kc hb hk => by
    have h9 := node_any S S M M 0 0 (.slice na ps.length nc) (.slice ka ps.length kc) ps ps wx.heap.size wx.heap.size wx (Nat.le_refl _) (Nat.le_refl _) (by omega) (hn.next hb) hk
    rw [decide_eq_true rfl] at h9
    exact h9.mono fun e W' ⟨h, hb'⟩ => ⟨h, hb.trans (hb'.mono hb.size)⟩
  go_wp2
  go_cut [134] (fun t134 wx => t134 = .bool false ∧ Below w9.heap.size w9 wx)
  case first =>
    refine wp_region_any (by kernel_rfl) ?_
    try (change wpAny _ _ _ _ _ _ _ (World.drew _))
    refine wpAny_take (i := 0) (v := (.bool true)) rfl (by kernel_rfl) (by kernel_rfl) (by kernel_rfl) (fun _ _ _ h => h) (Or.inl ⟨by kernel_rfl, ?_⟩) ?_
    · intro wx
      go_simp
      try with_reducible rfl
    refine wpAny_take (i := 1) (v := (.bool true)) rfl (by kernel_rfl) (by kernel_rfl) (by kernel_rfl) (fun _ _ _ h => h) (Or.inl ⟨by kernel_rfl, ?_⟩) ?_
    · intro wx
      go_simp
      try with_reducible rfl
    refine wpAny_take (i := 2) (v := (.int .i64 0)) rfl (by kernel_rfl) (by kernel_rfl) (by kernel_rfl) (fun _ _ _ h => h) (Or.inl ⟨by kernel_rfl, ?_⟩) ?_
    · intro wx
      go_simp
      try with_reducible rfl
    refine wpAny_take (i := 3) (v := (.bool false)) rfl (by kernel_rfl) (by kernel_rfl) (by kernel_rfl) (fun _ _ _ h => h) (Or.inl ⟨by kernel_rfl, ?_⟩) ?_
    · intro wx
      go_simp
      try with_reducible rfl
    refine wpAny_take (i := 4) (v := (.bool false)) rfl (by kernel_rfl) (by kernel_rfl) (by kernel_rfl) (fun _ _ _ h => h) (Or.inl ⟨by kernel_rfl, ?_⟩) ?_
    · intro wx
      go_simp
      try with_reducible rfl
    refine wpAny_take (i := 7) (v := (.slice pa ps.length pc)) rfl (by kernel_rfl) (by kernel_rfl) (by kernel_rfl) (fun _ _ _ h => h) (Or.inl ⟨by kernel_rfl, ?_⟩) ?_
    · intro wx
      go_simp
      try with_reducible rfl
    refine wpAny_ready (rs := [5, 6]) (by kernel_rfl) (by simp) ?_
    refine AllReady.cons rfl (fun K hK => ?_) (AllReady.cons rfl (fun K hK => ?_) AllReady.nil)
    · go_simp
      refine hK _ _ ?_
      clear hK K
      refine wpAny_ready (rs := [6]) (by kernel_rfl) (by simp) ?_
      refine AllReady.cons rfl (fun K hK => ?_) AllReady.nil
      go_simp
      refine hK _ _ ?_
      clear hK K
      refine wpAny_ready (rs := [8]) (by kernel_rfl) (by simp) ?_
      refine AllReady.cons rfl (fun K hK => ?_) AllReady.nil
      go_simp
      go_wp2_with (go_at_call 17; refine (HRN.out _ (by first | exact below_drewN (Below.refl _ _) _ | exact Below.refl _ _ | exact (Below.refl _ _).drew)).mono ?_; rintro e w7 ⟨ka, kc, rfl, h7, b7⟩)
      refine wpAny_ready (rs := [9]) (by kernel_rfl) (by simp) ?_
      refine AllReady.cons rfl (fun K hK => ?_) AllReady.nil
      go_simp
      go_wp2_with (go_at_call 16; refine (HKN.out _ ka kc (by first | exact b7 | exact b7.drew | exact below_drewN b7 _) (by exact h7)).mono ?_; rintro e w8 ⟨rfl, b8⟩)
      refine wpAny_take (i := 10) (v := (.bool false)) rfl (by kernel_rfl) (by kernel_rfl) (by kernel_rfl) (fun _ _ _ h => h) (Or.inl ⟨by kernel_rfl, ?_⟩) ?_
      · intro wx
        go_simp
        try with_reducible rfl
      refine wpAny_take (i := 11) (v := (.bool false)) rfl (by kernel_rfl) (by kernel_rfl) (by kernel_rfl) (fun _ _ _ h => h) (Or.inl ⟨by kernel_rfl, ?_⟩) ?_
      · intro wx
        go_simp
        try with_reducible rfl
      refine wpAny_take (i := 12) (v := (.bool false)) rfl (by kernel_rfl) (by kernel_rfl) (by kernel_rfl) (fun _ _ _ h => h) (Or.inl ⟨by kernel_rfl, ?_⟩) ?_
      · intro wx
        go_simp
        try with_reducible rfl
      refine wpAny_take (i := 13) (v := (.bool false)) rfl (by kernel_rfl) (by kernel_rfl) (by kernel_rfl) (fun _ _ _ h => h) (Or.inl ⟨by kernel_rfl, ?_⟩) ?_
      · intro wx
        go_simp
        try with_reducible rfl
      refine wpAny_take (i := 14) (v := (.bool true)) rfl (by kernel_rfl) (by kernel_rfl) (by kernel_rfl) (fun _ _ _ h => h) (Or.inl ⟨by kernel_rfl, ?_⟩) ?_
      · intro wx
        go_simp
        try with_reducible rfl
      refine wpAny_take (i := 15) (v := (.bool false)) rfl (by kernel_rfl) (by kernel_rfl) (by kernel_rfl) (fun _ _ _ h => h) (Or.inl ⟨by kernel_rfl, ?_⟩) ?_
      · intro wx
        go_simp
        try with_reducible rfl
      refine wpAny_take (i := 16) (v := (.bool false)) rfl (by kernel_rfl) (by kernel_rfl) (by kernel_rfl) (fun _ _ _ h => h) (Or.inl ⟨by kernel_rfl, ?_⟩) ?_
      · intro wx
        go_simp
        try with_reducible rfl
      refine wpAny_take (i := 17) (v := undef) rfl (by kernel_rfl) (by kernel_rfl) (by kernel_rfl) (fun _ _ _ h => h) (Or.inr ⟨by kernel_rfl, rfl⟩) ?_
      refine wpAny_take (i := 18) (v := undef) rfl (by kernel_rfl) (by kernel_rfl) (by kernel_rfl) (fun _ _ _ h => h) (Or.inr ⟨by kernel_rfl, rfl⟩) ?_
      refine wpAny_take (i := 19) (v := undef) rfl (by kernel_rfl) (by kernel_rfl) (by kernel_rfl) (fun _ _ _ h => h) (Or.inr ⟨by kernel_rfl, rfl⟩) ?_
      refine wpAny_take (i := 20) (v := undef) rfl (by kernel_rfl) (by kernel_rfl) (by kernel_rfl) (fun _ _ _ h => h) (Or.inr ⟨by kernel_rfl, rfl⟩) ?_
      refine wpAny_take (i := 21) (v := undef) rfl (by kernel_rfl) (by kernel_rfl) (by kernel_rfl) (fun _ _ _ h => h) (Or.inr ⟨by kernel_rfl, rfl⟩) ?_
      refine wpAny_take (i := 22) (v := undef) rfl (by kernel_rfl) (by kernel_rfl) (by kernel_rfl) (fun _ _ _ h => h) (Or.inr ⟨by kernel_rfl, rfl⟩) ?_
      refine wpAny_take (i := 23) (v := undef) rfl (by kernel_rfl) (by kernel_rfl) (by kernel_rfl) (fun _ _ _ h => h) (Or.inr ⟨by kernel_rfl, rfl⟩) ?_
      refine wpAny_take (i := 24) (v := undef) rfl (by kernel_rfl) (by kernel_rfl) (by kernel_rfl) (fun _ _ _ h => h) (Or.inr ⟨by kernel_rfl, rfl⟩) ?_
      refine wpAny_take (i := 25) (v := (.bool false)) rfl (by kernel_rfl) (by kernel_rfl) (by kernel_rfl) (fun _ _ _ h => h) (Or.inl ⟨by kernel_rfl, ?_⟩) ?_
      · intro wx
        go_simp
        try with_reducible rfl
      refine wpAny_ready (rs := [26]) (by kernel_rfl) (by simp) ?_
      refine AllReady.cons rfl (fun K hK => ?_) AllReady.nil
      go_simp
      refine hK _ _ ?_
      clear hK K
      refine wpAny_done (by kernel_rfl) ?_ _
      go_wp2_with fail
      go_meet
      exact ⟨rfl, b8⟩
    · go_simp
      refine hK _ _ ?_
      clear hK K
      refine wpAny_ready (rs := [5, 8]) (by kernel_rfl) (by simp) ?_
      refine AllReady.cons rfl (fun K hK => ?_) (AllReady.cons rfl (fun K hK => ?_) AllReady.nil)
      · go_simp
        refine hK _ _ ?_
        clear hK K
        refine wpAny_ready (rs := [8]) (by kernel_rfl) (by simp) ?_
        refine AllReady.cons rfl (fun K hK => ?_) AllReady.nil
        go_simp
        go_wp2_with (go_at_call 17; refine (HRN.out _ (by first | exact below_drewN (Below.refl _ _) _ | exact Below.refl _ _ | exact (Below.refl _ _).drew)).mono ?_; rintro e w7 ⟨ka, kc, rfl, h7, b7⟩)
        refine wpAny_ready (rs := [9]) (by kernel_rfl) (by simp) ?_
        refine AllReady.cons rfl (fun K hK => ?_) AllReady.nil
        go_simp
        go_wp2_with (go_at_call 16; refine (HKN.out _ ka kc (by first | exact b7 | exact b7.drew | exact below_drewN b7 _) (by exact h7)).mono ?_; rintro e w8 ⟨rfl, b8⟩)
        refine wpAny_take (i := 10) (v := (.bool false)) rfl (by kernel_rfl) (by kernel_rfl) (by kernel_rfl) (fun _ _ _ h => h) (Or.inl ⟨by kernel_rfl, ?_⟩) ?_
        · intro wx
          go_simp
          try with_reducible rfl
        refine wpAny_take (i := 11) (v := (.bool false)) rfl (by kernel_rfl) (by kernel_rfl) (by kernel_rfl) (fun _ _ _ h => h) (Or.inl ⟨by kernel_rfl, ?_⟩) ?_
        · intro wx
          go_simp
          try with_reducible rfl
        refine wpAny_take (i := 12) (v := (.bool false)) rfl (by kernel_rfl) (by kernel_rfl) (by kernel_rfl) (fun _ _ _ h => h) (Or.inl ⟨by kernel_rfl, ?_⟩) ?_
        · intro wx
          go_simp
          try with_reducible rfl
        refine wpAny_take (i := 13) (v := (.bool false)) rfl (by kernel_rfl) (by kernel_rfl) (by kernel_rfl) (fun _ _ _ h => h) (Or.inl ⟨by kernel_rfl, ?_⟩) ?_
        · intro wx
          go_simp
          try with_reducible rfl
        refine wpAny_take (i := 14) (v := (.bool true)) rfl (by kernel_rfl) (by kernel_rfl) (by kernel_rfl) (fun _ _ _ h => h) (Or.inl ⟨by kernel_rfl, ?_⟩) ?_
        · intro wx
          go_simp
          try with_reducible rfl
        refine wpAny_take (i := 15) (v := (.bool false)) rfl (by kernel_rfl) (by kernel_rfl) (by kernel_rfl) (fun _ _ _ h => h) (Or.inl ⟨by kernel_rfl, ?_⟩) ?_
        · intro wx
          go_simp
          try with_reducible rfl
        refine wpAny_take (i := 16) (v := (.bool false)) rfl (by kernel_rfl) (by kernel_rfl) (by kernel_rfl) (fun _ _ _ h => h) (Or.inl ⟨by kernel_rfl, ?_⟩) ?_
        · intro wx
          go_simp
          try with_reducible rfl
        refine wpAny_take (i := 17) (v := undef) rfl (by kernel_rfl) (by kernel_rfl) (by kernel_rfl) (fun _ _ _ h => h) (Or.inr ⟨by kernel_rfl, rfl⟩) ?_
        refine wpAny_take (i := 18) (v := undef) rfl (by kernel_rfl) (by kernel_rfl) (by kernel_rfl) (fun _ _ _ h => h) (Or.inr ⟨by kernel_rfl, rfl⟩) ?_
        refine wpAny_take (i := 19) (v := undef) rfl (by kernel_rfl) (by kernel_rfl) (by kernel_rfl) (fun _ _ _ h => h) (Or.inr ⟨by kernel_rfl, rfl⟩) ?_
        refine wpAny_take (i := 20) (v := undef) rfl (by kernel_rfl) (by kernel_rfl) (by kernel_rfl) (fun _ _ _ h => h) (Or.inr ⟨by kernel_rfl, rfl⟩) ?_
        refine wpAny_take (i := 21) (v := undef) rfl (by kernel_rfl) (by kernel_rfl) (by kernel_rfl) (fun _ _ _ h => h) (Or.inr ⟨by kernel_rfl, rfl⟩) ?_
        refine wpAny_take (i := 22) (v := undef) rfl (by kernel_rfl) (by kernel_rfl) (by kernel_rfl) (fun _ _ _ h => h) (Or.inr ⟨by kernel_rfl, rfl⟩) ?_
        refine wpAny_take (i := 23) (v := undef) rfl (by kernel_rfl) (by kernel_rfl) (by kernel_rfl) (fun _ _ _ h => h) (Or.inr ⟨by kernel_rfl, rfl⟩) ?_
        refine wpAny_take (i := 24) (v := undef) rfl (by kernel_rfl) (by kernel_rfl) (by kernel_rfl) (fun _ _ _ h => h) (Or.inr ⟨by kernel_rfl, rfl⟩) ?_
        refine wpAny_take (i := 25) (v := (.bool false)) rfl (by kernel_rfl) (by kernel_rfl) (by kernel_rfl) (fun _ _ _ h => h) (Or.inl ⟨by kernel_rfl, ?_⟩) ?_
        · intro wx
          go_simp
          try with_reducible rfl
        refine wpAny_ready (rs := [26]) (by kernel_rfl) (by simp) ?_
        refine AllReady.cons rfl (fun K hK => ?_) AllReady.nil
        go_simp
        refine hK _ _ ?_
        clear hK K
        refine wpAny_done (by kernel_rfl) ?_ _
        go_wp2_with fail
        go_meet
        exact ⟨rfl, b8⟩
      · go_simp
        go_wp2_with (go_at_call 17; refine (HRN.out _ (by first | exact below_drewN (Below.refl _ _) _ | exact Below.refl _ _ | exact (Below.refl _ _).drew)).mono ?_; rintro e w7 ⟨ka, kc, rfl, h7, b7⟩)
        have c70 := (xn.next b7).cell 0 _ rfl
        have c71 := (xn.next b7).cell 1 _ rfl
        have c72 := (xn.next b7).cell 2 _ rfl
        have c73 := (xn.next b7).cell 3 _ rfl
        refine wpAny_ready (rs := [5]) (by kernel_rfl) (by simp) ?_
        refine AllReady.cons rfl (fun K hK => ?_) AllReady.nil
        go_simp
        refine hK _ _ ?_
        clear hK K
        refine wpAny_ready (rs := [9]) (by kernel_rfl) (by simp) ?_
        refine AllReady.cons rfl (fun K hK => ?_) AllReady.nil
        go_simp
        go_wp2_with (go_at_call 16; refine (HKN.out _ ka kc (by first | exact b7 | exact b7.drew | exact below_drewN b7 _) (by exact h7)).mono ?_; rintro e w8 ⟨rfl, b8⟩)
        refine wpAny_take (i := 10) (v := (.bool false)) rfl (by kernel_rfl) (by kernel_rfl) (by kernel_rfl) (fun _ _ _ h => h) (Or.inl ⟨by kernel_rfl, ?_⟩) ?_
        · intro wx
          go_simp
          try with_reducible rfl
        refine wpAny_take (i := 11) (v := (.bool false)) rfl (by kernel_rfl) (by kernel_rfl) (by kernel_rfl) (fun _ _ _ h => h) (Or.inl ⟨by kernel_rfl, ?_⟩) ?_
        · intro wx
          go_simp
          try with_reducible rfl
        refine wpAny_take (i := 12) (v := (.bool false)) rfl (by kernel_rfl) (by kernel_rfl) (by kernel_rfl) (fun _ _ _ h => h) (Or.inl ⟨by kernel_rfl, ?_⟩) ?_
        · intro wx
          go_simp
          try with_reducible rfl
        refine wpAny_take (i := 13) (v := (.bool false)) rfl (by kernel_rfl) (by kernel_rfl) (by kernel_rfl) (fun _ _ _ h => h) (Or.inl ⟨by kernel_rfl, ?_⟩) ?_
        · intro wx
          go_simp
          try with_reducible rfl
        refine wpAny_take (i := 14) (v := (.bool true)) rfl (by kernel_rfl) (by kernel_rfl) (by kernel_rfl) (fun _ _ _ h => h) (Or.inl ⟨by kernel_rfl, ?_⟩) ?_
        · intro wx
          go_simp
          try with_reducible rfl
        refine wpAny_take (i := 15) (v := (.bool false)) rfl (by kernel_rfl) (by kernel_rfl) (by kernel_rfl) (fun _ _ _ h => h) (Or.inl ⟨by kernel_rfl, ?_⟩) ?_
        · intro wx
          go_simp
          try with_reducible rfl
        refine wpAny_take (i := 16) (v := (.bool false)) rfl (by kernel_rfl) (by kernel_rfl) (by kernel_rfl) (fun _ _ _ h => h) (Or.inl ⟨by kernel_rfl, ?_⟩) ?_
        · intro wx
          go_simp
          try with_reducible rfl
        refine wpAny_take (i := 17) (v := undef) rfl (by kernel_rfl) (by kernel_rfl) (by kernel_rfl) (fun _ _ _ h => h) (Or.inr ⟨by kernel_rfl, rfl⟩) ?_
        refine wpAny_take (i := 18) (v := undef) rfl (by kernel_rfl) (by kernel_rfl) (by kernel_rfl) (fun _ _ _ h => h) (Or.inr ⟨by kernel_rfl, rfl⟩) ?_
        refine wpAny_take (i := 19) (v := undef) rfl (by kernel_rfl) (by kernel_rfl) (by kernel_rfl) (fun _ _ _ h => h) (Or.inr ⟨by kernel_rfl, rfl⟩) ?_
        refine wpAny_take (i := 20) (v := undef) rfl (by kernel_rfl) (by kernel_rfl) (by kernel_rfl) (fun _ _ _ h => h) (Or.inr ⟨by kernel_rfl, rfl⟩) ?_
        refine wpAny_take (i := 21) (v := undef) rfl (by kernel_rfl) (by kernel_rfl) (by kernel_rfl) (fun _ _ _ h => h) (Or.inr ⟨by kernel_rfl, rfl⟩) ?_
        refine wpAny_take (i := 22) (v := undef) rfl (by kernel_rfl) (by kernel_rfl) (by kernel_rfl) (fun _ _ _ h => h) (Or.inr ⟨by kernel_rfl, rfl⟩) ?_
        refine wpAny_take (i := 23) (v := undef) rfl (by kernel_rfl) (by kernel_rfl) (by kernel_rfl) (fun _ _ _ h => h) (Or.inr ⟨by kernel_rfl, rfl⟩) ?_
        refine wpAny_take (i := 24) (v := undef) rfl (by kernel_rfl) (by kernel_rfl) (by kernel_rfl) (fun _ _ _ h => h) (Or.inr ⟨by kernel_rfl, rfl⟩) ?_
        refine wpAny_take (i := 25) (v := (.bool false)) rfl (by kernel_rfl) (by kernel_rfl) (by kernel_rfl) (fun _ _ _ h => h) (Or.inl ⟨by kernel_rfl, ?_⟩) ?_
        · intro wx
          go_simp
          try with_reducible rfl
        refine wpAny_ready (rs := [26]) (by kernel_rfl) (by simp) ?_
        refine AllReady.cons rfl (fun K hK => ?_) AllReady.nil
        go_simp
        refine hK _ _ ?_
        clear hK K
        refine wpAny_done (by kernel_rfl) ?_ _
        go_wp2_with fail
        go_meet
        exact ⟨rfl, b8⟩
  case rest =>
    obtain ⟨rfl, b9⟩ := hcut
    clear cxa0 cxa1 cxa2
    clear cxn0 cxn1 cxn2 cxn3
    replace xa := xa.next b9
    replace ha := ha.next b9
    replace hpp := hpp.next b9
    replace hi := hi.next b9
    replace hr := hr.next b9
    replace xi := xi.next b9
    replace hn := hn.next b9
    replace xn := xn.next b9
    replace hL := hL.next b9
    replace bb := bb.trans (b9.mono bb.size)
    clear b9 HBB HKN HRN
    have dd1 : decide (1 ≤ (D1 : Int)) = true := decide_eq_true (by omega)
    have dd2 : decide ((D1 : Int) ≤ 3) = true := decide_eq_true (by omega)
    obtain ⟨D0, hD0⟩ : ∃ D0 : Nat, (D1 : Int) = ((D0 + 1 : Nat) : Int) := ⟨(D1 : Int).toNat - 1, by omega⟩
    have HC := refScore_any N p a cap l HP.out pa pc ps HPS.out hm D0 (by omega) _ ha hpp
    rw [← hD0, show scoB N l D0 ps = V by rw [← HV.out, show (D1 : Int).toNat - 1 = D0 by omega]] at HC
    clear hD0
    have dVV : (V != V) = false := by simp
    have cxa0 := xa.cell 0 _ rfl
    have cxa1 := xa.cell 1 _ rfl
    have cxa2 := xa.cell 2 _ rfl
    go_wp2_with fail
    refine (HC).mono ?_
    rintro e w21 ⟨rfl, b9⟩
    clear cxa0 cxa1 cxa2
    replace xa := xa.next b9
    replace ha := ha.next b9
    replace hpp := hpp.next b9
    replace hi := hi.next b9
    replace hr := hr.next b9
    replace xi := xi.next b9
    replace hn := hn.next b9
    replace xn := xn.next b9
    replace hL := hL.next b9
    replace bb := bb.trans (b9.mono bb.size)
    clear b9
    clear HC
    go_wp2_with fail
    refine (HBM _).mono ?_
    rintro e wz ⟨rfl, rfl⟩
    have HC := refWalk_any N p a cap l HP.out B hB1 hB2 D hDb _ ha
    rw [HD.out, HLL.out, HCU.out] at HC
    have cxa0 := xa.cell 0 _ rfl
    have cxa1 := xa.cell 1 _ rfl
    have cxa2 := xa.cell 2 _ rfl
    go_wp2_with fail
    refine (HC).mono ?_
    rintro e w22 ⟨rv, rfl, hW, b9⟩
    clear cxa0 cxa1 cxa2
    replace xa := xa.next b9
    replace ha := ha.next b9
    replace hpp := hpp.next b9
    replace hi := hi.next b9
    replace hr := hr.next b9
    replace xi := xi.next b9
    replace hn := hn.next b9
    replace xn := xn.next b9
    replace hL := hL.next b9
    replace bb := bb.trans (b9.mono bb.size)
    clear b9
    clear HC
    have HC := nodes_any rl rv LL LL _ (by have := walkB_len N l (b := B) (D := D) (i := N) hB1 hB2; rw [HLL.out] at this; omega) (by intro y hy; rw [← HLL.out] at hy; have := (walkB_node HP.out hB1 hy).2.2.2; omega) hL.nodes hW
    rw [decide_eq_true rfl] at HC
    have dcu : (cu != cu) = false := by simp
    go_wp2_with fail
    refine (HC).mono ?_
    rintro e w23 ⟨rfl, b9⟩
    replace xa := xa.next b9
    replace ha := ha.next b9
    replace hpp := hpp.next b9
    replace hi := hi.next b9
    replace hr := hr.next b9
    replace xi := xi.next b9
    replace hn := hn.next b9
    replace xn := xn.next b9
    replace hL := hL.next b9
    replace hW := hW.next b9
    replace bb := bb.trans (b9.mono bb.size)
    clear b9
    clear HC
    have HC := refDecode_any N p a cap l HP.out B hB1 hB2 D hDb _ ha
    rw [HD.out, HLL.out, HCU.out, HDF.out] at HC
    have cxa0 := xa.cell 0 _ rfl
    have cxa1 := xa.cell 1 _ rfl
    have cxa2 := xa.cell 2 _ rfl
    go_wp2_with fail
    refine HC.mono ?_
    rintro e w24 (⟨hno, he, b9⟩ | ⟨zs1, Z1, hsm, pv, he, hpv, b9⟩)
    case inr => cases hsm
    subst he
    clear cxa0 cxa1 cxa2
    replace xa := xa.next b9
    replace ha := ha.next b9
    replace hpp := hpp.next b9
    replace hi := hi.next b9
    replace hr := hr.next b9
    replace xi := xi.next b9
    replace hn := hn.next b9
    replace xn := xn.next b9
    replace hL := hL.next b9
    replace hW := hW.next b9
    replace bb := bb.trans (b9.mono bb.size)
    clear b9 HC
    have HC := ints_any (.slice none 0 0) (.slice none 0 0) [] [] 0 0 w24 (by decide) (.inl ⟨⟨_, _, rfl, fun _ => rfl⟩, rfl⟩) (.inl ⟨⟨_, _, rfl, fun _ => rfl⟩, rfl⟩)
    rw [decide_eq_true rfl] at HC
    go_wp2_with fail
    refine HC.mono ?_
    rintro e w25 ⟨rfl, q, rfl⟩
    clear HC
    have b9 : Below w24.heap.size w24 (w24.drewN q) := below_drewN (Below.refl _ _) q
    replace xa := xa.next b9
    replace ha := ha.next b9
    replace hpp := hpp.next b9
    replace hi := hi.next b9
    replace hr := hr.next b9
    replace xi := xi.next b9
    replace hn := hn.next b9
    replace xn := xn.next b9
    replace hL := hL.next b9
    replace hW := hW.next b9
    replace bb := bb.trans (b9.mono bb.size)
    clear b9
    generalize w24.drewN q = wE at *
    have HWK := beamWakes_any _ (HFW.out.next bb)
    go_wp2_with (go_at_call 19; refine HWK.mono ?_; rintro e w99 ⟨rfl, b99⟩)
    go_ret
    exact ⟨rfl, bb.trans (b99.mono bb.size)⟩

set_option maxRecDepth 100000 in
set_option maxHeartbeats 4000000 in
theorem beamExact_allT (zs : List Int) (Z : Int) (N : Nat) (p : Int) (a : Option Addr) (cap : Nat) (l : List (Int × Int)) (hl : l.length ≤ 400) (pa : Option Addr) (pc : Nat) (ps : List Int) (hpl : ps.length ≤ 100) (b d : Int) (hp : PileOk (N : Int) p l) (hm : ps.length ≤ N) (hps : Path ps) (hd : 1 ≤ d ∧ d ≤ 3) (hbm : beamB b d = true) (hdec : decB (walkB N l b.toNat (d.toNat - 1) N).1 (walkB N l b.toNat (d.toNat - 1) N).2 = some (zs, Z)) (w : World) (ha : Syms w.heap.size w (.slice a l.length cap) l) (hpp : Holds .i64 w.heap.size w (.slice pa ps.length pc) ps) (hF : Firsts w) :
    Calls Tryd.prog 3 #[.agg #[.int .i64 (N : Int), .int .i64 p, .slice a l.length cap], .slice pa ps.length pc, .int .i64 b, .int .i64 d] w fun e w' => e = .returned (.bool true) ∧ Below w.heap.size w w' := by
  have HFW : Hid (Firsts w) := hF
  have HP : Hid (PileOk (N : Int) p l) := hp
  have hN1 : 1 ≤ N := by have := hp.1.1; omega
  have hN2 : N < 65 := by have := hp.1.2.1; omega
  have HPS : Hid (Path ps) := hps
  have HBM := refBeam_any b d
  rw [hbm] at HBM
  have dl : decide (400 < (l.length : Int)) = false := decide_eq_false (by omega)
  have dl' : decide (400 < l.length) = false := decide_eq_false (by omega)
  have dq : decide (100 < (ps.length : Int)) = false := decide_eq_false (by omega)
  have dq' : decide (100 < ps.length) = false := decide_eq_false (by omega)
  have bb : Below w.heap.size w (w.alloc (.cells #[.int .i64 (N : Int), .int .i64 p, .slice a l.length cap] 24)) := (Below.refl w.heap.size w).alloc (Nat.le_refl _) _
  have xa := Box.new w 24 #[.int .i64 (N : Int), .int .i64 p, .slice a l.length cap]
  replace ha := ha.next bb
  replace hpp := hpp.next bb
  obtain ⟨B, rfl, hB1, hB2, D1, rfl, hD1, hD2⟩ : ∃ B : Nat, b = (B : Int) ∧ 1 ≤ B ∧ B ≤ 16 ∧ ∃ D1 : Nat, d = (D1 : Int) ∧ 1 ≤ D1 ∧ D1 ≤ 3 := by
    unfold beamB at hbm
    simp at hbm
    exact ⟨b.toNat, by omega, by omega, by omega, d.toNat, by omega, by omega, by omega⟩
  obtain ⟨D, hD⟩ : ∃ D, D + 1 = D1 := ⟨D1 - 1, by omega⟩
  have HD : Hid (D + 1 = D1) := hD
  have hDb : D ≤ 2 := by omega
  rw [show (B : Int).toNat = B from rfl, show (D1 : Int).toNat - 1 = D by rw [← hD]; rfl] at hdec
  have HDE : Hid (decB (walkB N l B D N).1 (walkB N l B D N).2 = some (zs, Z)) := hdec
  clear hdec
  clear hD
  clear hp hF hbm hps
  go_enter Tryd.func3, Tryd.ntmps3
  go_wp2_with fail
  refine (HBM _).mono ?_
  rintro e wz ⟨rfl, rfl⟩
  have cxa0 := xa.cell 0 _ rfl
  have cxa1 := xa.cell 1 _ rfl
  have cxa2 := xa.cell 2 _ rfl
  go_wp2_with fail
  refine (light_any _ _ _ _).mono ?_
  rintro e wz ⟨he | he, rfl⟩
  case inr =>
    subst he
    go_wp2
    go_ret
    exact ⟨rfl, bb⟩
  subst he
  clear cxa0 cxa1 cxa2
  have cxa0 := xa.cell 0 _ rfl
  have cxa1 := xa.cell 1 _ rfl
  have cxa2 := xa.cell 2 _ rfl
  go_wp2_with fail
  refine (twinPile_any (N : Int) p (.slice a l.length cap) l (by omega) _ ha).mono ?_
  rintro e w2 ⟨r2, rfl, o2, b9⟩
  clear cxa0 cxa1 cxa2
  replace xa := xa.next b9
  replace ha := ha.next b9
  replace hpp := hpp.next b9
  replace bb := bb.trans (b9.mono bb.size)
  clear b9
  have hi := syms_of_row o2
  obtain ⟨ra, rc, e2⟩ := hi.shape
  subst e2
  clear o2
  go_wp2_with fail
  refine (twinInts_any (.slice pa ps.length pc) ps _ (by omega) _ hpp).mono ?_
  rintro e w3 ⟨r3, rfl, o3, b9⟩
  replace xa := xa.next b9
  replace ha := ha.next b9
  replace hpp := hpp.next b9
  replace hi := hi.next b9
  replace bb := bb.trans (b9.mono bb.size)
  clear b9
  have hr := holds_of_row o3
  obtain ⟨qa, qc, e3⟩ := rowN_shape o3
  subst e3
  clear o3
  have b9 : Below w3.heap.size w3 (w3.alloc (.cells #[.int .i64 (N : Int), .int .i64 p, .slice ra l.length rc] 24)) := (Below.refl _ _).alloc (Nat.le_refl _) _
  have xi := Box.new w3 24 #[.int .i64 (N : Int), .int .i64 p, .slice ra l.length rc]
  replace xa := xa.next b9
  replace ha := ha.next b9
  replace hpp := hpp.next b9
  replace hi := hi.next b9
  replace hr := hr.next b9
  replace bb := bb.trans (b9.mono bb.size)
  clear b9
  have HC := Node_ok N p ra rc l HP.out qa qc ps HPS.out hm _ hi hr (HFW.out.next bb)
  obtain ⟨S, hS⟩ : ∃ S, staB N l ps = S := ⟨_, rfl⟩
  obtain ⟨M, hM⟩ : ∃ M, metB N l ps = M := ⟨_, rfl⟩
  rw [hS, hM] at HC
  have HS : Hid (staB N l ps = S) := hS
  have HMM : Hid (metB N l ps = M) := hM
  clear hS hM
  have cxi0 := xi.cell 0 _ rfl
  have cxi1 := xi.cell 1 _ rfl
  have cxi2 := xi.cell 2 _ rfl
  go_wp2_with fail
  refine (HC).mono ?_
  rintro e w4 ⟨na, nc, rfl, o5, b9⟩
  clear cxi0 cxi1 cxi2
  replace xa := xa.next b9
  replace ha := ha.next b9
  replace hpp := hpp.next b9
  replace hi := hi.next b9
  replace hr := hr.next b9
  replace xi := xi.next b9
  replace bb := bb.trans (b9.mono bb.size)
  clear b9
  clear HC
  have hn := holds_of_row o5
  clear o5
  have b9 : Below w4.heap.size w4 (w4.alloc (.cells #[.int .u32 S, .int .i64 M, .int .i64 0, .slice na ps.length nc] 32)) := (Below.refl _ _).alloc (Nat.le_refl _) _
  have xn := Box.new w4 32 #[.int .u32 S, .int .i64 M, .int .i64 0, .slice na ps.length nc]
  replace xa := xa.next b9
  replace ha := ha.next b9
  replace hpp := hpp.next b9
  replace hi := hi.next b9
  replace hr := hr.next b9
  replace xi := xi.next b9
  replace hn := hn.next b9
  replace bb := bb.trans (b9.mono bb.size)
  clear b9
  have HC := Score_any N p ra rc l HP.out qa qc ps HPS.out hm (D1 : Int) _ hi hr (HFW.out.next bb)
  obtain ⟨V, hV⟩ : ∃ V, scoB N l ((D1 : Int).toNat - 1) ps = V := ⟨_, rfl⟩
  rw [hV] at HC
  have HV : Hid (scoB N l ((D1 : Int).toNat - 1) ps = V) := hV
  clear hV
  have cxi0 := xi.cell 0 _ rfl
  have cxi1 := xi.cell 1 _ rfl
  have cxi2 := xi.cell 2 _ rfl
  go_wp2_with fail
  refine (HC).mono ?_
  rintro e w5 ⟨he, b9⟩
  clear cxi0 cxi1 cxi2
  replace xa := xa.next b9
  replace ha := ha.next b9
  replace hpp := hpp.next b9
  replace hi := hi.next b9
  replace hr := hr.next b9
  replace xi := xi.next b9
  replace hn := hn.next b9
  replace xn := xn.next b9
  replace bb := bb.trans (b9.mono bb.size)
  clear b9
  rcases he with ⟨_, rfl⟩ | ⟨hno, _⟩
  case inr => exact absurd hd hno
  clear HC
  have HC := Walk_ok N p ra rc l HP.out B hB1 hB2 D hDb _ hi (HFW.out.next bb)
  rw [HD.out] at HC
  obtain ⟨LL, hLL⟩ : ∃ LL, (walkB N l B D N).1 = LL := ⟨_, rfl⟩
  obtain ⟨cu, hcu⟩ : ∃ cu, (walkB N l B D N).2 = cu := ⟨_, rfl⟩
  rw [hLL, hcu] at HC
  have HLL : Hid ((walkB N l B D N).1 = LL) := hLL
  have HCU : Hid ((walkB N l B D N).2 = cu) := hcu
  clear hLL hcu
  have cxi0 := xi.cell 0 _ rfl
  have cxi1 := xi.cell 1 _ rfl
  have cxi2 := xi.cell 2 _ rfl
  go_wp2_with fail
  refine (HC).mono ?_
  rintro e w6 ⟨rl, rfl, hL, b9⟩
  clear cxi0 cxi1 cxi2
  replace xa := xa.next b9
  replace ha := ha.next b9
  replace hpp := hpp.next b9
  replace hi := hi.next b9
  replace hr := hr.next b9
  replace xi := xi.next b9
  replace hn := hn.next b9
  replace xn := xn.next b9
  replace bb := bb.trans (b9.mono bb.size)
  clear b9
  clear HC
  have HC := Decode_ok N p ra rc l HP.out B hB1 hB2 D hDb _ hi (HFW.out.next bb)
  rw [HD.out, HLL.out, HCU.out] at HC
  have cxi0 := xi.cell 0 _ rfl
  have cxi1 := xi.cell 1 _ rfl
  have cxi2 := xi.cell 2 _ rfl
  go_wp2_with fail
  refine (HC).mono ?_
  rintro e w7 ⟨he, b9⟩
  clear cxi0 cxi1 cxi2
  replace xa := xa.next b9
  replace ha := ha.next b9
  replace hpp := hpp.next b9
  replace hi := hi.next b9
  replace hr := hr.next b9
  replace xi := xi.next b9
  replace hn := hn.next b9
  replace xn := xn.next b9
  replace hL := hL.next b9
  replace bb := bb.trans (b9.mono bb.size)
  clear b9
  clear HC
  have HC := keepPile_any (N : Int) p (N : Int) p (.slice ra l.length rc) (.slice a l.length cap) l l _ (by omega) hi ha
  rw [decide_eq_true ⟨rfl, rfl, rfl⟩] at HC
  have HDD := HDE.out
  rw [HLL.out, HCU.out] at HDD
  rcases he with ⟨hno, _⟩ | ⟨zs1, Z1, hsm, za, zc, rfl, hzc, hz⟩
  case inl => rw [HDD] at hno; cases hno
  rw [HDD] at hsm
  cases hsm
  have HDF : Hid (decB LL cu = some (zs, Z)) := HDD
  clear HDD HDE
  have cxi0 := xi.cell 0 _ rfl
  have cxi1 := xi.cell 1 _ rfl
  have cxi2 := xi.cell 2 _ rfl
  have cxa0 := xa.cell 0 _ rfl
  have cxa1 := xa.cell 1 _ rfl
  have cxa2 := xa.cell 2 _ rfl
  go_wp2_with fail
  refine (HC).mono ?_
  rintro e w8 ⟨rfl, b9⟩
  clear cxi0 cxi1 cxi2
  clear cxa0 cxa1 cxa2
  replace xa := xa.next b9
  replace ha := ha.next b9
  replace hpp := hpp.next b9
  replace hi := hi.next b9
  replace hr := hr.next b9
  replace xi := xi.next b9
  replace hn := hn.next b9
  replace xn := xn.next b9
  replace hL := hL.next b9
  replace hz := hz.next b9
  replace bb := bb.trans (b9.mono bb.size)
  clear b9
  clear HC
  have HC := ints_any (.slice qa ps.length qc) (.slice pa ps.length pc) ps ps _ _ _ (by omega) hr hpp
  rw [decide_eq_true rfl] at HC
  go_wp2_with fail
  refine HC.mono ?_
  rintro e w9 ⟨rfl, q, rfl⟩
  clear HC
  have b9 : Below w8.heap.size w8 (w8.drewN q) := below_drewN (Below.refl _ _) q
  replace xa := xa.next b9
  replace ha := ha.next b9
  replace hpp := hpp.next b9
  replace hi := hi.next b9
  replace hr := hr.next b9
  replace xi := xi.next b9
  replace hn := hn.next b9
  replace xn := xn.next b9
  replace hL := hL.next b9
  replace hz := hz.next b9
  replace bb := bb.trans (b9.mono bb.size)
  clear b9
  generalize w8.drewN q = wD at *
  have cxa0 := xa.cell 0 _ rfl
  have cxa1 := xa.cell 1 _ rfl
  have cxa2 := xa.cell 2 _ rfl
  go_wp2_with fail
  refine (refPile_yes (N : Int) p a cap l (by omega) HP.out _ ha).mono ?_
  rintro e w9 ⟨rfl, b9⟩
  clear cxa0 cxa1 cxa2
  replace xa := xa.next b9
  replace ha := ha.next b9
  replace hpp := hpp.next b9
  replace hi := hi.next b9
  replace hr := hr.next b9
  replace xi := xi.next b9
  replace hn := hn.next b9
  replace xn := xn.next b9
  replace hL := hL.next b9
  replace hz := hz.next b9
  replace bb := bb.trans (b9.mono bb.size)
  clear b9
  have cxa0 := xa.cell 0 _ rfl
  have cxa1 := xa.cell 1 _ rfl
  have cxa2 := xa.cell 2 _ rfl
  have dle : decide ((ps.length : Int) ≤ (N : Int)) = true := decide_eq_true (by omega)
  have dle' : decide (ps.length ≤ N) = true := decide_eq_true (by omega)
  have HC := refPath_yes pa pc ps (by omega) HPS.out _ _ hpp
  go_wp2_with fail
  refine HC.mono ?_
  rintro e w10 ⟨rfl, rfl⟩
  clear HC
  have cxn0 := xn.cell 0 _ rfl
  have cxn1 := xn.cell 1 _ rfl
  have cxn2 := xn.cell 2 _ rfl
  have cxn3 := xn.cell 3 _ rfl
  have HBB : Hid (Below w.heap.size w w9) := bb
  have HRN : Hid (∀ wx : World, Below w9.heap.size w9 wx → Calls Tryd.prog 17 #[.agg #[.int .i64 (N : Int), .int .i64 p, .slice a l.length cap], .slice pa ps.length pc] wx fun e W' => ∃ ka kc, e = .returned (.agg #[.int .u32 S, .int .i64 M, .int .i64 0, .slice ka ps.length kc]) ∧ Holds .i64 W'.heap.size W' (.slice ka ps.length kc) ps ∧ Below w9.heap.size w9 W') := fun wx hb => by
    have h9 := refNode_any N p a cap l HP.out pa pc ps HPS.out hm wx (ha.next hb) (hpp.next hb)
    rw [HS.out, HMM.out] at h9
    refine h9.mono ?_
    rintro e W' ⟨ka, kc, rfl, ho, hb'⟩
    exact ⟨ka, kc, rfl, holds_of_row ho, hb.trans (hb'.mono hb.size)⟩
  have HKN : Hid (∀ (wx : World) (ka : Option Addr) (kc : Nat), Below w9.heap.size w9 wx → Holds .i64 wx.heap.size wx (.slice ka ps.length kc) ps → Calls Tryd.prog 16 #[.agg #[.int .u32 S, .int .i64 M, .int .i64 0, .slice na ps.length nc], .agg #[.int .u32 S, .int .i64 M, .int .i64 0, .slice ka ps.length kc]] wx fun e W' => e = .returned (.bool true) ∧ Below w9.heap.size w9 W') := fun wx ka kc hb hk => by
    have h9 := node_any S S M M 0 0 (.slice na ps.length nc) (.slice ka ps.length kc) ps ps wx.heap.size wx.heap.size wx (Nat.le_refl _) (Nat.le_refl _) (by omega) (hn.next hb) hk
    rw [decide_eq_true rfl] at h9
    exact h9.mono fun e W' ⟨h, hb'⟩ => ⟨h, hb.trans (hb'.mono hb.size)⟩
  go_wp2
  go_cut [134] (fun t134 wx => t134 = .bool false ∧ Below w9.heap.size w9 wx)
  case first =>
    refine wp_region_any (by kernel_rfl) ?_
    try (change wpAny _ _ _ _ _ _ _ (World.drew _))
    refine wpAny_take (i := 0) (v := (.bool true)) rfl (by kernel_rfl) (by kernel_rfl) (by kernel_rfl) (fun _ _ _ h => h) (Or.inl ⟨by kernel_rfl, ?_⟩) ?_
    · intro wx
      go_simp
      try with_reducible rfl
    refine wpAny_take (i := 1) (v := (.bool true)) rfl (by kernel_rfl) (by kernel_rfl) (by kernel_rfl) (fun _ _ _ h => h) (Or.inl ⟨by kernel_rfl, ?_⟩) ?_
    · intro wx
      go_simp
      try with_reducible rfl
    refine wpAny_take (i := 2) (v := (.int .i64 0)) rfl (by kernel_rfl) (by kernel_rfl) (by kernel_rfl) (fun _ _ _ h => h) (Or.inl ⟨by kernel_rfl, ?_⟩) ?_
    · intro wx
      go_simp
      try with_reducible rfl
    refine wpAny_take (i := 3) (v := (.bool false)) rfl (by kernel_rfl) (by kernel_rfl) (by kernel_rfl) (fun _ _ _ h => h) (Or.inl ⟨by kernel_rfl, ?_⟩) ?_
    · intro wx
      go_simp
      try with_reducible rfl
    refine wpAny_take (i := 4) (v := (.bool false)) rfl (by kernel_rfl) (by kernel_rfl) (by kernel_rfl) (fun _ _ _ h => h) (Or.inl ⟨by kernel_rfl, ?_⟩) ?_
    · intro wx
      go_simp
      try with_reducible rfl
    refine wpAny_take (i := 7) (v := (.slice pa ps.length pc)) rfl (by kernel_rfl) (by kernel_rfl) (by kernel_rfl) (fun _ _ _ h => h) (Or.inl ⟨by kernel_rfl, ?_⟩) ?_
    · intro wx
      go_simp
      try with_reducible rfl
    refine wpAny_ready (rs := [5, 6]) (by kernel_rfl) (by simp) ?_
    refine AllReady.cons rfl (fun K hK => ?_) (AllReady.cons rfl (fun K hK => ?_) AllReady.nil)
    · go_simp
      refine hK _ _ ?_
      clear hK K
      refine wpAny_ready (rs := [6]) (by kernel_rfl) (by simp) ?_
      refine AllReady.cons rfl (fun K hK => ?_) AllReady.nil
      go_simp
      refine hK _ _ ?_
      clear hK K
      refine wpAny_ready (rs := [8]) (by kernel_rfl) (by simp) ?_
      refine AllReady.cons rfl (fun K hK => ?_) AllReady.nil
      go_simp
      go_wp2_with (go_at_call 17; refine (HRN.out _ (by first | exact below_drewN (Below.refl _ _) _ | exact Below.refl _ _ | exact (Below.refl _ _).drew)).mono ?_; rintro e w7 ⟨ka, kc, rfl, h7, b7⟩)
      refine wpAny_ready (rs := [9]) (by kernel_rfl) (by simp) ?_
      refine AllReady.cons rfl (fun K hK => ?_) AllReady.nil
      go_simp
      go_wp2_with (go_at_call 16; refine (HKN.out _ ka kc (by first | exact b7 | exact b7.drew | exact below_drewN b7 _) (by exact h7)).mono ?_; rintro e w8 ⟨rfl, b8⟩)
      refine wpAny_take (i := 10) (v := (.bool false)) rfl (by kernel_rfl) (by kernel_rfl) (by kernel_rfl) (fun _ _ _ h => h) (Or.inl ⟨by kernel_rfl, ?_⟩) ?_
      · intro wx
        go_simp
        try with_reducible rfl
      refine wpAny_take (i := 11) (v := (.bool false)) rfl (by kernel_rfl) (by kernel_rfl) (by kernel_rfl) (fun _ _ _ h => h) (Or.inl ⟨by kernel_rfl, ?_⟩) ?_
      · intro wx
        go_simp
        try with_reducible rfl
      refine wpAny_take (i := 12) (v := (.bool false)) rfl (by kernel_rfl) (by kernel_rfl) (by kernel_rfl) (fun _ _ _ h => h) (Or.inl ⟨by kernel_rfl, ?_⟩) ?_
      · intro wx
        go_simp
        try with_reducible rfl
      refine wpAny_take (i := 13) (v := (.bool false)) rfl (by kernel_rfl) (by kernel_rfl) (by kernel_rfl) (fun _ _ _ h => h) (Or.inl ⟨by kernel_rfl, ?_⟩) ?_
      · intro wx
        go_simp
        try with_reducible rfl
      refine wpAny_take (i := 14) (v := (.bool true)) rfl (by kernel_rfl) (by kernel_rfl) (by kernel_rfl) (fun _ _ _ h => h) (Or.inl ⟨by kernel_rfl, ?_⟩) ?_
      · intro wx
        go_simp
        try with_reducible rfl
      refine wpAny_take (i := 15) (v := (.bool false)) rfl (by kernel_rfl) (by kernel_rfl) (by kernel_rfl) (fun _ _ _ h => h) (Or.inl ⟨by kernel_rfl, ?_⟩) ?_
      · intro wx
        go_simp
        try with_reducible rfl
      refine wpAny_take (i := 16) (v := (.bool false)) rfl (by kernel_rfl) (by kernel_rfl) (by kernel_rfl) (fun _ _ _ h => h) (Or.inl ⟨by kernel_rfl, ?_⟩) ?_
      · intro wx
        go_simp
        try with_reducible rfl
      refine wpAny_take (i := 17) (v := undef) rfl (by kernel_rfl) (by kernel_rfl) (by kernel_rfl) (fun _ _ _ h => h) (Or.inr ⟨by kernel_rfl, rfl⟩) ?_
      refine wpAny_take (i := 18) (v := undef) rfl (by kernel_rfl) (by kernel_rfl) (by kernel_rfl) (fun _ _ _ h => h) (Or.inr ⟨by kernel_rfl, rfl⟩) ?_
      refine wpAny_take (i := 19) (v := undef) rfl (by kernel_rfl) (by kernel_rfl) (by kernel_rfl) (fun _ _ _ h => h) (Or.inr ⟨by kernel_rfl, rfl⟩) ?_
      refine wpAny_take (i := 20) (v := undef) rfl (by kernel_rfl) (by kernel_rfl) (by kernel_rfl) (fun _ _ _ h => h) (Or.inr ⟨by kernel_rfl, rfl⟩) ?_
      refine wpAny_take (i := 21) (v := undef) rfl (by kernel_rfl) (by kernel_rfl) (by kernel_rfl) (fun _ _ _ h => h) (Or.inr ⟨by kernel_rfl, rfl⟩) ?_
      refine wpAny_take (i := 22) (v := undef) rfl (by kernel_rfl) (by kernel_rfl) (by kernel_rfl) (fun _ _ _ h => h) (Or.inr ⟨by kernel_rfl, rfl⟩) ?_
      refine wpAny_take (i := 23) (v := undef) rfl (by kernel_rfl) (by kernel_rfl) (by kernel_rfl) (fun _ _ _ h => h) (Or.inr ⟨by kernel_rfl, rfl⟩) ?_
      refine wpAny_take (i := 24) (v := undef) rfl (by kernel_rfl) (by kernel_rfl) (by kernel_rfl) (fun _ _ _ h => h) (Or.inr ⟨by kernel_rfl, rfl⟩) ?_
      refine wpAny_take (i := 25) (v := (.bool false)) rfl (by kernel_rfl) (by kernel_rfl) (by kernel_rfl) (fun _ _ _ h => h) (Or.inl ⟨by kernel_rfl, ?_⟩) ?_
      · intro wx
        go_simp
        try with_reducible rfl
      refine wpAny_ready (rs := [26]) (by kernel_rfl) (by simp) ?_
      refine AllReady.cons rfl (fun K hK => ?_) AllReady.nil
      go_simp
      refine hK _ _ ?_
      clear hK K
      refine wpAny_done (by kernel_rfl) ?_ _
      go_wp2_with fail
      go_meet
      exact ⟨rfl, b8⟩
    · go_simp
      refine hK _ _ ?_
      clear hK K
      refine wpAny_ready (rs := [5, 8]) (by kernel_rfl) (by simp) ?_
      refine AllReady.cons rfl (fun K hK => ?_) (AllReady.cons rfl (fun K hK => ?_) AllReady.nil)
      · go_simp
        refine hK _ _ ?_
        clear hK K
        refine wpAny_ready (rs := [8]) (by kernel_rfl) (by simp) ?_
        refine AllReady.cons rfl (fun K hK => ?_) AllReady.nil
        go_simp
        go_wp2_with (go_at_call 17; refine (HRN.out _ (by first | exact below_drewN (Below.refl _ _) _ | exact Below.refl _ _ | exact (Below.refl _ _).drew)).mono ?_; rintro e w7 ⟨ka, kc, rfl, h7, b7⟩)
        refine wpAny_ready (rs := [9]) (by kernel_rfl) (by simp) ?_
        refine AllReady.cons rfl (fun K hK => ?_) AllReady.nil
        go_simp
        go_wp2_with (go_at_call 16; refine (HKN.out _ ka kc (by first | exact b7 | exact b7.drew | exact below_drewN b7 _) (by exact h7)).mono ?_; rintro e w8 ⟨rfl, b8⟩)
        refine wpAny_take (i := 10) (v := (.bool false)) rfl (by kernel_rfl) (by kernel_rfl) (by kernel_rfl) (fun _ _ _ h => h) (Or.inl ⟨by kernel_rfl, ?_⟩) ?_
        · intro wx
          go_simp
          try with_reducible rfl
        refine wpAny_take (i := 11) (v := (.bool false)) rfl (by kernel_rfl) (by kernel_rfl) (by kernel_rfl) (fun _ _ _ h => h) (Or.inl ⟨by kernel_rfl, ?_⟩) ?_
        · intro wx
          go_simp
          try with_reducible rfl
        refine wpAny_take (i := 12) (v := (.bool false)) rfl (by kernel_rfl) (by kernel_rfl) (by kernel_rfl) (fun _ _ _ h => h) (Or.inl ⟨by kernel_rfl, ?_⟩) ?_
        · intro wx
          go_simp
          try with_reducible rfl
        refine wpAny_take (i := 13) (v := (.bool false)) rfl (by kernel_rfl) (by kernel_rfl) (by kernel_rfl) (fun _ _ _ h => h) (Or.inl ⟨by kernel_rfl, ?_⟩) ?_
        · intro wx
          go_simp
          try with_reducible rfl
        refine wpAny_take (i := 14) (v := (.bool true)) rfl (by kernel_rfl) (by kernel_rfl) (by kernel_rfl) (fun _ _ _ h => h) (Or.inl ⟨by kernel_rfl, ?_⟩) ?_
        · intro wx
          go_simp
          try with_reducible rfl
        refine wpAny_take (i := 15) (v := (.bool false)) rfl (by kernel_rfl) (by kernel_rfl) (by kernel_rfl) (fun _ _ _ h => h) (Or.inl ⟨by kernel_rfl, ?_⟩) ?_
        · intro wx
          go_simp
          try with_reducible rfl
        refine wpAny_take (i := 16) (v := (.bool false)) rfl (by kernel_rfl) (by kernel_rfl) (by kernel_rfl) (fun _ _ _ h => h) (Or.inl ⟨by kernel_rfl, ?_⟩) ?_
        · intro wx
          go_simp
          try with_reducible rfl
        refine wpAny_take (i := 17) (v := undef) rfl (by kernel_rfl) (by kernel_rfl) (by kernel_rfl) (fun _ _ _ h => h) (Or.inr ⟨by kernel_rfl, rfl⟩) ?_
        refine wpAny_take (i := 18) (v := undef) rfl (by kernel_rfl) (by kernel_rfl) (by kernel_rfl) (fun _ _ _ h => h) (Or.inr ⟨by kernel_rfl, rfl⟩) ?_
        refine wpAny_take (i := 19) (v := undef) rfl (by kernel_rfl) (by kernel_rfl) (by kernel_rfl) (fun _ _ _ h => h) (Or.inr ⟨by kernel_rfl, rfl⟩) ?_
        refine wpAny_take (i := 20) (v := undef) rfl (by kernel_rfl) (by kernel_rfl) (by kernel_rfl) (fun _ _ _ h => h) (Or.inr ⟨by kernel_rfl, rfl⟩) ?_
        refine wpAny_take (i := 21) (v := undef) rfl (by kernel_rfl) (by kernel_rfl) (by kernel_rfl) (fun _ _ _ h => h) (Or.inr ⟨by kernel_rfl, rfl⟩) ?_
        refine wpAny_take (i := 22) (v := undef) rfl (by kernel_rfl) (by kernel_rfl) (by kernel_rfl) (fun _ _ _ h => h) (Or.inr ⟨by kernel_rfl, rfl⟩) ?_
        refine wpAny_take (i := 23) (v := undef) rfl (by kernel_rfl) (by kernel_rfl) (by kernel_rfl) (fun _ _ _ h => h) (Or.inr ⟨by kernel_rfl, rfl⟩) ?_
        refine wpAny_take (i := 24) (v := undef) rfl (by kernel_rfl) (by kernel_rfl) (by kernel_rfl) (fun _ _ _ h => h) (Or.inr ⟨by kernel_rfl, rfl⟩) ?_
        refine wpAny_take (i := 25) (v := (.bool false)) rfl (by kernel_rfl) (by kernel_rfl) (by kernel_rfl) (fun _ _ _ h => h) (Or.inl ⟨by kernel_rfl, ?_⟩) ?_
        · intro wx
          go_simp
          try with_reducible rfl
        refine wpAny_ready (rs := [26]) (by kernel_rfl) (by simp) ?_
        refine AllReady.cons rfl (fun K hK => ?_) AllReady.nil
        go_simp
        refine hK _ _ ?_
        clear hK K
        refine wpAny_done (by kernel_rfl) ?_ _
        go_wp2_with fail
        go_meet
        exact ⟨rfl, b8⟩
      · go_simp
        go_wp2_with (go_at_call 17; refine (HRN.out _ (by first | exact below_drewN (Below.refl _ _) _ | exact Below.refl _ _ | exact (Below.refl _ _).drew)).mono ?_; rintro e w7 ⟨ka, kc, rfl, h7, b7⟩)
        have c70 := (xn.next b7).cell 0 _ rfl
        have c71 := (xn.next b7).cell 1 _ rfl
        have c72 := (xn.next b7).cell 2 _ rfl
        have c73 := (xn.next b7).cell 3 _ rfl
        refine wpAny_ready (rs := [5]) (by kernel_rfl) (by simp) ?_
        refine AllReady.cons rfl (fun K hK => ?_) AllReady.nil
        go_simp
        refine hK _ _ ?_
        clear hK K
        refine wpAny_ready (rs := [9]) (by kernel_rfl) (by simp) ?_
        refine AllReady.cons rfl (fun K hK => ?_) AllReady.nil
        go_simp
        go_wp2_with (go_at_call 16; refine (HKN.out _ ka kc (by first | exact b7 | exact b7.drew | exact below_drewN b7 _) (by exact h7)).mono ?_; rintro e w8 ⟨rfl, b8⟩)
        refine wpAny_take (i := 10) (v := (.bool false)) rfl (by kernel_rfl) (by kernel_rfl) (by kernel_rfl) (fun _ _ _ h => h) (Or.inl ⟨by kernel_rfl, ?_⟩) ?_
        · intro wx
          go_simp
          try with_reducible rfl
        refine wpAny_take (i := 11) (v := (.bool false)) rfl (by kernel_rfl) (by kernel_rfl) (by kernel_rfl) (fun _ _ _ h => h) (Or.inl ⟨by kernel_rfl, ?_⟩) ?_
        · intro wx
          go_simp
          try with_reducible rfl
        refine wpAny_take (i := 12) (v := (.bool false)) rfl (by kernel_rfl) (by kernel_rfl) (by kernel_rfl) (fun _ _ _ h => h) (Or.inl ⟨by kernel_rfl, ?_⟩) ?_
        · intro wx
          go_simp
          try with_reducible rfl
        refine wpAny_take (i := 13) (v := (.bool false)) rfl (by kernel_rfl) (by kernel_rfl) (by kernel_rfl) (fun _ _ _ h => h) (Or.inl ⟨by kernel_rfl, ?_⟩) ?_
        · intro wx
          go_simp
          try with_reducible rfl
        refine wpAny_take (i := 14) (v := (.bool true)) rfl (by kernel_rfl) (by kernel_rfl) (by kernel_rfl) (fun _ _ _ h => h) (Or.inl ⟨by kernel_rfl, ?_⟩) ?_
        · intro wx
          go_simp
          try with_reducible rfl
        refine wpAny_take (i := 15) (v := (.bool false)) rfl (by kernel_rfl) (by kernel_rfl) (by kernel_rfl) (fun _ _ _ h => h) (Or.inl ⟨by kernel_rfl, ?_⟩) ?_
        · intro wx
          go_simp
          try with_reducible rfl
        refine wpAny_take (i := 16) (v := (.bool false)) rfl (by kernel_rfl) (by kernel_rfl) (by kernel_rfl) (fun _ _ _ h => h) (Or.inl ⟨by kernel_rfl, ?_⟩) ?_
        · intro wx
          go_simp
          try with_reducible rfl
        refine wpAny_take (i := 17) (v := undef) rfl (by kernel_rfl) (by kernel_rfl) (by kernel_rfl) (fun _ _ _ h => h) (Or.inr ⟨by kernel_rfl, rfl⟩) ?_
        refine wpAny_take (i := 18) (v := undef) rfl (by kernel_rfl) (by kernel_rfl) (by kernel_rfl) (fun _ _ _ h => h) (Or.inr ⟨by kernel_rfl, rfl⟩) ?_
        refine wpAny_take (i := 19) (v := undef) rfl (by kernel_rfl) (by kernel_rfl) (by kernel_rfl) (fun _ _ _ h => h) (Or.inr ⟨by kernel_rfl, rfl⟩) ?_
        refine wpAny_take (i := 20) (v := undef) rfl (by kernel_rfl) (by kernel_rfl) (by kernel_rfl) (fun _ _ _ h => h) (Or.inr ⟨by kernel_rfl, rfl⟩) ?_
        refine wpAny_take (i := 21) (v := undef) rfl (by kernel_rfl) (by kernel_rfl) (by kernel_rfl) (fun _ _ _ h => h) (Or.inr ⟨by kernel_rfl, rfl⟩) ?_
        refine wpAny_take (i := 22) (v := undef) rfl (by kernel_rfl) (by kernel_rfl) (by kernel_rfl) (fun _ _ _ h => h) (Or.inr ⟨by kernel_rfl, rfl⟩) ?_
        refine wpAny_take (i := 23) (v := undef) rfl (by kernel_rfl) (by kernel_rfl) (by kernel_rfl) (fun _ _ _ h => h) (Or.inr ⟨by kernel_rfl, rfl⟩) ?_
        refine wpAny_take (i := 24) (v := undef) rfl (by kernel_rfl) (by kernel_rfl) (by kernel_rfl) (fun _ _ _ h => h) (Or.inr ⟨by kernel_rfl, rfl⟩) ?_
        refine wpAny_take (i := 25) (v := (.bool false)) rfl (by kernel_rfl) (by kernel_rfl) (by kernel_rfl) (fun _ _ _ h => h) (Or.inl ⟨by kernel_rfl, ?_⟩) ?_
        · intro wx
          go_simp
          try with_reducible rfl
        refine wpAny_ready (rs := [26]) (by kernel_rfl) (by simp) ?_
        refine AllReady.cons rfl (fun K hK => ?_) AllReady.nil
        go_simp
        refine hK _ _ ?_
        clear hK K
        refine wpAny_done (by kernel_rfl) ?_ _
        go_wp2_with fail
        go_meet
        exact ⟨rfl, b8⟩
  case rest =>
    obtain ⟨rfl, b9⟩ := hcut
    clear cxa0 cxa1 cxa2
    clear cxn0 cxn1 cxn2 cxn3
    replace xa := xa.next b9
    replace ha := ha.next b9
    replace hpp := hpp.next b9
    replace hi := hi.next b9
    replace hr := hr.next b9
    replace xi := xi.next b9
    replace hn := hn.next b9
    replace xn := xn.next b9
    replace hL := hL.next b9
    replace hz := hz.next b9
    replace bb := bb.trans (b9.mono bb.size)
    clear b9 HBB HKN HRN
    have dd1 : decide (1 ≤ (D1 : Int)) = true := decide_eq_true (by omega)
    have dd2 : decide ((D1 : Int) ≤ 3) = true := decide_eq_true (by omega)
    obtain ⟨D0, hD0⟩ : ∃ D0 : Nat, (D1 : Int) = ((D0 + 1 : Nat) : Int) := ⟨(D1 : Int).toNat - 1, by omega⟩
    have HC := refScore_any N p a cap l HP.out pa pc ps HPS.out hm D0 (by omega) _ ha hpp
    rw [← hD0, show scoB N l D0 ps = V by rw [← HV.out, show (D1 : Int).toNat - 1 = D0 by omega]] at HC
    clear hD0
    have dVV : (V != V) = false := by simp
    have cxa0 := xa.cell 0 _ rfl
    have cxa1 := xa.cell 1 _ rfl
    have cxa2 := xa.cell 2 _ rfl
    go_wp2_with fail
    refine (HC).mono ?_
    rintro e w21 ⟨rfl, b9⟩
    clear cxa0 cxa1 cxa2
    replace xa := xa.next b9
    replace ha := ha.next b9
    replace hpp := hpp.next b9
    replace hi := hi.next b9
    replace hr := hr.next b9
    replace xi := xi.next b9
    replace hn := hn.next b9
    replace xn := xn.next b9
    replace hL := hL.next b9
    replace hz := hz.next b9
    replace bb := bb.trans (b9.mono bb.size)
    clear b9
    clear HC
    go_wp2_with fail
    refine (HBM _).mono ?_
    rintro e wz ⟨rfl, rfl⟩
    have HC := refWalk_any N p a cap l HP.out B hB1 hB2 D hDb _ ha
    rw [HD.out, HLL.out, HCU.out] at HC
    have cxa0 := xa.cell 0 _ rfl
    have cxa1 := xa.cell 1 _ rfl
    have cxa2 := xa.cell 2 _ rfl
    go_wp2_with fail
    refine (HC).mono ?_
    rintro e w22 ⟨rv, rfl, hW, b9⟩
    clear cxa0 cxa1 cxa2
    replace xa := xa.next b9
    replace ha := ha.next b9
    replace hpp := hpp.next b9
    replace hi := hi.next b9
    replace hr := hr.next b9
    replace xi := xi.next b9
    replace hn := hn.next b9
    replace xn := xn.next b9
    replace hL := hL.next b9
    replace hz := hz.next b9
    replace bb := bb.trans (b9.mono bb.size)
    clear b9
    clear HC
    have HC := nodes_any rl rv LL LL _ (by have := walkB_len N l (b := B) (D := D) (i := N) hB1 hB2; rw [HLL.out] at this; omega) (by intro y hy; rw [← HLL.out] at hy; have := (walkB_node HP.out hB1 hy).2.2.2; omega) hL.nodes hW
    rw [decide_eq_true rfl] at HC
    have dcu : (cu != cu) = false := by simp
    go_wp2_with fail
    refine (HC).mono ?_
    rintro e w23 ⟨rfl, b9⟩
    replace xa := xa.next b9
    replace ha := ha.next b9
    replace hpp := hpp.next b9
    replace hi := hi.next b9
    replace hr := hr.next b9
    replace xi := xi.next b9
    replace hn := hn.next b9
    replace xn := xn.next b9
    replace hL := hL.next b9
    replace hz := hz.next b9
    replace hW := hW.next b9
    replace bb := bb.trans (b9.mono bb.size)
    clear b9
    clear HC
    have HC := refDecode_any N p a cap l HP.out B hB1 hB2 D hDb _ ha
    rw [HD.out, HLL.out, HCU.out, HDF.out] at HC
    have cxa0 := xa.cell 0 _ rfl
    have cxa1 := xa.cell 1 _ rfl
    have cxa2 := xa.cell 2 _ rfl
    go_wp2_with fail
    refine HC.mono ?_
    rintro e w24 (⟨hno, he, b9⟩ | ⟨zs1, Z1, hsm, pv, he, hpv, b9⟩)
    case inl => cases hno
    cases hsm
    subst he
    clear cxa0 cxa1 cxa2
    replace xa := xa.next b9
    replace ha := ha.next b9
    replace hpp := hpp.next b9
    replace hi := hi.next b9
    replace hr := hr.next b9
    replace xi := xi.next b9
    replace hn := hn.next b9
    replace xn := xn.next b9
    replace hL := hL.next b9
    replace hz := hz.next b9
    replace hW := hW.next b9
    replace bb := bb.trans (b9.mono bb.size)
    clear b9 HC
    have dZZ : (Z == Z) = true := by simp
    have HC := ints_any (.slice za zs.length zc) pv zs zs _ _ _ (by rw [show zs.length = N by obtain ⟨s, c, h⟩ := decB_some HDF.out; rw [← HLL.out] at h; exact (walkB_node HP.out hB1 (List.mem_of_getElem? h)).2.2.2]; omega) hz hpv
    rw [decide_eq_true rfl] at HC
    go_wp2_with fail
    refine HC.mono ?_
    rintro e w25 ⟨rfl, q, rfl⟩
    clear HC
    have b9 : Below w24.heap.size w24 (w24.drewN q) := below_drewN (Below.refl _ _) q
    replace xa := xa.next b9
    replace ha := ha.next b9
    replace hpp := hpp.next b9
    replace hi := hi.next b9
    replace hr := hr.next b9
    replace xi := xi.next b9
    replace hn := hn.next b9
    replace xn := xn.next b9
    replace hL := hL.next b9
    replace hz := hz.next b9
    replace hW := hW.next b9
    replace hpv := hpv.next b9
    replace bb := bb.trans (b9.mono bb.size)
    clear b9
    generalize w24.drewN q = wE at *
    have HWK := beamWakes_any _ (HFW.out.next bb)
    go_wp2_with (go_at_call 19; refine HWK.mono ?_; rintro e w99 ⟨rfl, b99⟩)
    go_ret
    exact ⟨rfl, bb.trans (b99.mono bb.size)⟩

end Go.Proofs.YtddcloanbpkecaaDoor
