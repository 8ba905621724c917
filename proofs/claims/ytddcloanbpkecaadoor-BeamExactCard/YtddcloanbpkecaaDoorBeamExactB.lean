/-
  BeamExact: the walk: whatever the pile, the path, the beam and the depth, the law answers true, and nothing that lay has turned. (Written by tpl_beamexact.py, a case a theorem.)
-/
import Derived.Test.YtddcloanbpkecaaDoorBeamWakes
import Derived.Test.YtddcloanbpkecaaDoorLight12
import Derived.Test.YtddcloanbpkecaaDoorRefPath
import Derived.Test.YtddcloanbpkecaaDoorRefDecode
import Derived.Test.YtddcloanbpkecaaDoorKeepPile
import Derived.Test.YtddcloanbpkecaaDoorKeepNodes
import Derived.Test.YtddcloanbpkecaaDoorKeepInts
import Derived.Deep.QuietTactic
import Derived.BigQuiet
import Derived.Deep.Cut
import Derived.Deep.CutRange
import Derived.Deep.DeepCutAuto
namespace Go.Proofs.YtddcloanbpkecaaDoor
open Go.RowKit

set_option maxRecDepth 100000 in
set_option maxHeartbeats 4000000 in
theorem beamExact_len (N : Nat) (p : Int) (a : Option Addr) (cap : Nat) (l : List (Int × Int)) (hl : l.length ≤ 400) (pa : Option Addr) (pc : Nat) (ps : List Int) (hpl : ps.length ≤ 100) (b d : Int) (hp : PileOk (N : Int) p l) (hlen : N < ps.length) (hbm : beamB b d = false) (w : World) (ha : Syms w.heap.size w (.slice a l.length cap) l) (hpp : Holds .i64 w.heap.size w (.slice pa ps.length pc) ps) (hF : Firsts w) :
    Calls Tryd.prog 3 #[.agg #[.int .i64 (N : Int), .int .i64 p, .slice a l.length cap], .slice pa ps.length pc, .int .i64 b, .int .i64 d] w fun e w' => e = .returned (.bool true) ∧ Below w.heap.size w w' := by
  have HFW : Hid (Firsts w) := hF
  have HP : Hid (PileOk (N : Int) p l) := hp
  have hN1 : 1 ≤ N := by have := hp.1.1; omega
  have hN2 : N < 65 := by have := hp.1.2.1; omega
  have HM : Hid (N < ps.length ∨ ¬ Path ps) := .inl hlen
  have HBM := refBeam_any b d
  rw [hbm] at HBM
  have dl : decide (400 < (l.length : Int)) = false := decide_eq_false (by omega)
  have dl' : decide (400 < l.length) = false := decide_eq_false (by omega)
  have dq : decide (100 < (ps.length : Int)) = false := decide_eq_false (by omega)
  have dq' : decide (100 < ps.length) = false := decide_eq_false (by omega)
  have bb : Below w.heap.size w (w.alloc (.cells #[.int .i64 (N : Int), .int .i64 p, .slice a l.length cap] 24)) := (Below.refl w.heap.size w).alloc (Nat.le_refl _) _
  have xa := Box.new w 24 #[.int .i64 (N : Int), .int .i64 p, .slice a l.length cap]
  replace ha := ha.next bb
  replace hpp := hpp.next bb
  have HNB : Hid (¬ ((1 ≤ b ∧ b ≤ 16) ∧ 1 ≤ d ∧ d ≤ 3)) := by
    show ¬ _
    intro h
    unfold beamB at hbm
    simp at hbm
    omega
  clear hp hF hbm
  go_enter Tryd.func3, Tryd.ntmps3
  go_wp2_with fail
  refine (HBM _).mono ?_
  rintro e wz ⟨rfl, rfl⟩
  have cxa0 := xa.cell 0 _ rfl
  have cxa1 := xa.cell 1 _ rfl
  have cxa2 := xa.cell 2 _ rfl
  go_wp2_with fail
  refine (twinPile_any (N : Int) p (.slice a l.length cap) l (by omega) _ ha).mono ?_
  rintro e w2 ⟨r2, rfl, o2, b9⟩
  clear cxa0 cxa1 cxa2
  replace xa := xa.next b9
  replace ha := ha.next b9
  replace hpp := hpp.next b9
  replace bb := bb.trans (b9.mono bb.size)
  clear b9
  have hi := syms_of_row o2
  obtain ⟨ra, rc, e2⟩ := hi.shape
  subst e2
  clear o2
  go_wp2_with fail
  refine (twinInts_any (.slice pa ps.length pc) ps _ (by omega) _ hpp).mono ?_
  rintro e w3 ⟨r3, rfl, o3, b9⟩
  replace xa := xa.next b9
  replace ha := ha.next b9
  replace hpp := hpp.next b9
  replace hi := hi.next b9
  replace bb := bb.trans (b9.mono bb.size)
  clear b9
  have hr := holds_of_row o3
  obtain ⟨qa, qc, e3⟩ := rowN_shape o3
  subst e3
  clear o3
  have b9 : Below w3.heap.size w3 (w3.alloc (.cells #[.int .i64 (N : Int), .int .i64 p, .slice ra l.length rc] 24)) := (Below.refl _ _).alloc (Nat.le_refl _) _
  have xi := Box.new w3 24 #[.int .i64 (N : Int), .int .i64 p, .slice ra l.length rc]
  replace xa := xa.next b9
  replace ha := ha.next b9
  replace hpp := hpp.next b9
  replace hi := hi.next b9
  replace hr := hr.next b9
  replace bb := bb.trans (b9.mono bb.size)
  clear b9
  have HC := Node_arg N p ra rc l HP.out qa qc ps HM.out _ hi hr (HFW.out.next bb)
  simp only [nodeZ] at HC
  have cxi0 := xi.cell 0 _ rfl
  have cxi1 := xi.cell 1 _ rfl
  have cxi2 := xi.cell 2 _ rfl
  go_wp2_with fail
  refine (HC).mono ?_
  rintro e w4 ⟨rfl, b9⟩
  clear cxi0 cxi1 cxi2
  replace xa := xa.next b9
  replace ha := ha.next b9
  replace hpp := hpp.next b9
  replace hi := hi.next b9
  replace hr := hr.next b9
  replace xi := xi.next b9
  replace bb := bb.trans (b9.mono bb.size)
  clear b9
  clear HC
  have b9 : Below w4.heap.size w4 (w4.alloc (.cells #[.int .u32 0, .int .i64 0, .int .i64 0, .slice none 0 0] 32)) := (Below.refl _ _).alloc (Nat.le_refl _) _
  have xn := Box.new w4 32 #[.int .u32 0, .int .i64 0, .int .i64 0, .slice none 0 0]
  replace xa := xa.next b9
  replace ha := ha.next b9
  replace hpp := hpp.next b9
  replace hi := hi.next b9
  replace hr := hr.next b9
  replace xi := xi.next b9
  replace bb := bb.trans (b9.mono bb.size)
  clear b9
  have HC := Score_arg N p ra rc l HP.out qa qc ps HM.out d _ hi hr (HFW.out.next bb)
  have cxi0 := xi.cell 0 _ rfl
  have cxi1 := xi.cell 1 _ rfl
  have cxi2 := xi.cell 2 _ rfl
  go_wp2_with fail
  refine (HC).mono ?_
  rintro e w5 ⟨rfl, b9⟩
  clear cxi0 cxi1 cxi2
  replace xa := xa.next b9
  replace ha := ha.next b9
  replace hpp := hpp.next b9
  replace hi := hi.next b9
  replace hr := hr.next b9
  replace xi := xi.next b9
  replace xn := xn.next b9
  replace bb := bb.trans (b9.mono bb.size)
  clear b9
  clear HC
  have HC := Walk_arg N p ra rc l HP.out b d HNB.out _ hi (HFW.out.next bb)
  have cxi0 := xi.cell 0 _ rfl
  have cxi1 := xi.cell 1 _ rfl
  have cxi2 := xi.cell 2 _ rfl
  go_wp2_with fail
  refine (HC).mono ?_
  rintro e w6 ⟨rfl, b9⟩
  clear cxi0 cxi1 cxi2
  replace xa := xa.next b9
  replace ha := ha.next b9
  replace hpp := hpp.next b9
  replace hi := hi.next b9
  replace hr := hr.next b9
  replace xi := xi.next b9
  replace xn := xn.next b9
  replace bb := bb.trans (b9.mono bb.size)
  clear b9
  clear HC
  have HC := Decode_arg N p ra rc l HP.out b d HNB.out _ hi (HFW.out.next bb)
  have cxi0 := xi.cell 0 _ rfl
  have cxi1 := xi.cell 1 _ rfl
  have cxi2 := xi.cell 2 _ rfl
  go_wp2_with fail
  refine (HC).mono ?_
  rintro e w7 ⟨rfl, b9⟩
  clear cxi0 cxi1 cxi2
  replace xa := xa.next b9
  replace ha := ha.next b9
  replace hpp := hpp.next b9
  replace hi := hi.next b9
  replace hr := hr.next b9
  replace xi := xi.next b9
  replace xn := xn.next b9
  replace bb := bb.trans (b9.mono bb.size)
  clear b9
  clear HC
  have HC := keepPile_any (N : Int) p (N : Int) p (.slice ra l.length rc) (.slice a l.length cap) l l _ (by omega) hi ha
  rw [decide_eq_true ⟨rfl, rfl, rfl⟩] at HC
  have cxi0 := xi.cell 0 _ rfl
  have cxi1 := xi.cell 1 _ rfl
  have cxi2 := xi.cell 2 _ rfl
  have cxa0 := xa.cell 0 _ rfl
  have cxa1 := xa.cell 1 _ rfl
  have cxa2 := xa.cell 2 _ rfl
  go_wp2_with fail
  refine (HC).mono ?_
  rintro e w8 ⟨rfl, b9⟩
  clear cxi0 cxi1 cxi2
  clear cxa0 cxa1 cxa2
  replace xa := xa.next b9
  replace ha := ha.next b9
  replace hpp := hpp.next b9
  replace hi := hi.next b9
  replace hr := hr.next b9
  replace xi := xi.next b9
  replace xn := xn.next b9
  replace bb := bb.trans (b9.mono bb.size)
  clear b9
  clear HC
  have HC := ints_any (.slice qa ps.length qc) (.slice pa ps.length pc) ps ps _ _ _ (by omega) hr hpp
  rw [decide_eq_true rfl] at HC
  go_wp2_with fail
  refine HC.mono ?_
  rintro e w9 ⟨rfl, q, rfl⟩
  clear HC
  have b9 : Below w8.heap.size w8 (w8.drewN q) := below_drewN (Below.refl _ _) q
  replace xa := xa.next b9
  replace ha := ha.next b9
  replace hpp := hpp.next b9
  replace hi := hi.next b9
  replace hr := hr.next b9
  replace xi := xi.next b9
  replace xn := xn.next b9
  replace bb := bb.trans (b9.mono bb.size)
  clear b9
  generalize w8.drewN q = wD at *
  have cxa0 := xa.cell 0 _ rfl
  have cxa1 := xa.cell 1 _ rfl
  have cxa2 := xa.cell 2 _ rfl
  go_wp2_with fail
  refine (refPile_yes (N : Int) p a cap l (by omega) HP.out _ ha).mono ?_
  rintro e w9 ⟨rfl, b9⟩
  clear cxa0 cxa1 cxa2
  replace xa := xa.next b9
  replace ha := ha.next b9
  replace hpp := hpp.next b9
  replace hi := hi.next b9
  replace hr := hr.next b9
  replace xi := xi.next b9
  replace xn := xn.next b9
  replace bb := bb.trans (b9.mono bb.size)
  clear b9
  have cxa0 := xa.cell 0 _ rfl
  have cxa1 := xa.cell 1 _ rfl
  have cxa2 := xa.cell 2 _ rfl
  have dle : decide ((ps.length : Int) ≤ (N : Int)) = false := decide_eq_false (by omega)
  have dle' : decide (ps.length ≤ N) = false := decide_eq_false (by omega)
  have cxn0 := xn.cell 0 _ rfl
  have cxn1 := xn.cell 1 _ rfl
  have cxn2 := xn.cell 2 _ rfl
  have cxn3 := xn.cell 3 _ rfl
  have HBB : Hid (Below w.heap.size w w9) := bb
  have HKN : Hid (∀ (wx : World), Below w9.heap.size w9 wx → Calls Tryd.prog 16 #[.agg #[.int .u32 0, .int .i64 0, .int .i64 0, .slice none 0 0], .agg #[.int .u32 0, .int .i64 0, .int .i64 0, .slice none 0 0]] wx fun e W' => e = .returned (.bool true) ∧ Below w9.heap.size w9 W') := fun wx hb => by
    have h9 := node_any 0 0 0 0 0 0 (.slice none 0 0) (.slice none 0 0) [] [] wx.heap.size wx.heap.size wx (Nat.le_refl _) (Nat.le_refl _) (by decide) (.inl ⟨⟨_, _, rfl, fun _ => rfl⟩, rfl⟩) (.inl ⟨⟨_, _, rfl, fun _ => rfl⟩, rfl⟩)
    rw [decide_eq_true rfl] at h9
    exact h9.mono fun e W' ⟨h, hb'⟩ => ⟨h, hb.trans (hb'.mono hb.size)⟩
  go_wp2
  go_cut [134] (fun t134 wx => t134 = .bool false ∧ Below w9.heap.size w9 wx)
  case first =>
    refine wp_region_any (by kernel_rfl) ?_
    try (change wpAny _ _ _ _ _ _ _ (World.drew _))
    refine wpAny_take (i := 0) (v := (.bool false)) rfl (by kernel_rfl) (by kernel_rfl) (by kernel_rfl) (fun _ _ _ h => h) (Or.inl ⟨by kernel_rfl, ?_⟩) ?_
    · intro wx
      go_simp
      try with_reducible rfl
    refine wpAny_take (i := 1) (v := (.bool false)) rfl (by kernel_rfl) (by kernel_rfl) (by kernel_rfl) (fun _ _ _ h => h) (Or.inl ⟨by kernel_rfl, ?_⟩) ?_
    · intro wx
      go_simp
      try with_reducible rfl
    refine wpAny_take (i := 2) (v := undef) rfl (by kernel_rfl) (by kernel_rfl) (by kernel_rfl) (fun _ _ _ h => h) (Or.inr ⟨by kernel_rfl, rfl⟩) ?_
    refine wpAny_take (i := 3) (v := undef) rfl (by kernel_rfl) (by kernel_rfl) (by kernel_rfl) (fun _ _ _ h => h) (Or.inr ⟨by kernel_rfl, rfl⟩) ?_
    refine wpAny_take (i := 4) (v := undef) rfl (by kernel_rfl) (by kernel_rfl) (by kernel_rfl) (fun _ _ _ h => h) (Or.inr ⟨by kernel_rfl, rfl⟩) ?_
    refine wpAny_take (i := 5) (v := undef) rfl (by kernel_rfl) (by kernel_rfl) (by kernel_rfl) (fun _ _ _ h => h) (Or.inr ⟨by kernel_rfl, rfl⟩) ?_
    refine wpAny_take (i := 6) (v := undef) rfl (by kernel_rfl) (by kernel_rfl) (by kernel_rfl) (fun _ _ _ h => h) (Or.inr ⟨by kernel_rfl, rfl⟩) ?_
    refine wpAny_take (i := 7) (v := undef) rfl (by kernel_rfl) (by kernel_rfl) (by kernel_rfl) (fun _ _ _ h => h) (Or.inr ⟨by kernel_rfl, rfl⟩) ?_
    refine wpAny_take (i := 8) (v := undef) rfl (by kernel_rfl) (by kernel_rfl) (by kernel_rfl) (fun _ _ _ h => h) (Or.inr ⟨by kernel_rfl, rfl⟩) ?_
    refine wpAny_take (i := 9) (v := undef) rfl (by kernel_rfl) (by kernel_rfl) (by kernel_rfl) (fun _ _ _ h => h) (Or.inr ⟨by kernel_rfl, rfl⟩) ?_
    refine wpAny_take (i := 10) (v := undef) rfl (by kernel_rfl) (by kernel_rfl) (by kernel_rfl) (fun _ _ _ h => h) (Or.inr ⟨by kernel_rfl, rfl⟩) ?_
    refine wpAny_take (i := 11) (v := undef) rfl (by kernel_rfl) (by kernel_rfl) (by kernel_rfl) (fun _ _ _ h => h) (Or.inr ⟨by kernel_rfl, rfl⟩) ?_
    refine wpAny_take (i := 12) (v := (.bool false)) rfl (by kernel_rfl) (by kernel_rfl) (by kernel_rfl) (fun _ _ _ h => h) (Or.inl ⟨by kernel_rfl, ?_⟩) ?_
    · intro wx
      go_simp
      try with_reducible rfl
    refine wpAny_take (i := 13) (v := (.bool false)) rfl (by kernel_rfl) (by kernel_rfl) (by kernel_rfl) (fun _ _ _ h => h) (Or.inl ⟨by kernel_rfl, ?_⟩) ?_
    · intro wx
      go_simp
      try with_reducible rfl
    refine wpAny_take (i := 14) (v := (.bool false)) rfl (by kernel_rfl) (by kernel_rfl) (by kernel_rfl) (fun _ _ _ h => h) (Or.inl ⟨by kernel_rfl, ?_⟩) ?_
    · intro wx
      go_simp
      try with_reducible rfl
    refine wpAny_take (i := 15) (v := (.bool true)) rfl (by kernel_rfl) (by kernel_rfl) (by kernel_rfl) (fun _ _ _ h => h) (Or.inl ⟨by kernel_rfl, ?_⟩) ?_
    · intro wx
      go_simp
      try with_reducible rfl
    refine wpAny_take (i := 16) (v := (.bool true)) rfl (by kernel_rfl) (by kernel_rfl) (by kernel_rfl) (fun _ _ _ h => h) (Or.inl ⟨by kernel_rfl, ?_⟩) ?_
    · intro wx
      go_simp
      try with_reducible rfl
    refine wpAny_take (i := 17) (v := (.int .i64 1)) rfl (by kernel_rfl) (by kernel_rfl) (by kernel_rfl) (fun _ _ _ h => h) (Or.inl ⟨by kernel_rfl, ?_⟩) ?_
    · intro wx
      go_simp
      try with_reducible rfl
    refine wpAny_take (i := 18) (v := (.bool false)) rfl (by kernel_rfl) (by kernel_rfl) (by kernel_rfl) (fun _ _ _ h => h) (Or.inl ⟨by kernel_rfl, ?_⟩) ?_
    · intro wx
      go_simp
      try with_reducible rfl
    refine wpAny_take (i := 19) (v := (.bool false)) rfl (by kernel_rfl) (by kernel_rfl) (by kernel_rfl) (fun _ _ _ h => h) (Or.inl ⟨by kernel_rfl, ?_⟩) ?_
    · intro wx
      go_simp
      try with_reducible rfl
    refine wpAny_take (i := 21) (v := (.agg #[.int .u32 0, .int .i64 0, .int .i64 0, .slice none 0 0])) rfl (by kernel_rfl) (by kernel_rfl) (by kernel_rfl) (fun _ _ _ h => h) (Or.inl ⟨by kernel_rfl, ?_⟩) ?_
    · intro wx
      go_simp
      try with_reducible rfl
    refine wpAny_ready (rs := [20]) (by kernel_rfl) (by simp) ?_
    refine AllReady.cons rfl (fun K hK => ?_) AllReady.nil
    go_simp
    refine hK _ _ ?_
    clear hK K
    refine wpAny_ready (rs := [22]) (by kernel_rfl) (by simp) ?_
    refine AllReady.cons rfl (fun K hK => ?_) AllReady.nil
    go_simp
    go_wp2_with (go_at_call 16; refine (HKN.out _ (by first | exact below_drewN (Below.refl _ _) _ | exact Below.refl _ _ | exact (Below.refl _ _).drew)).mono ?_; rintro e w8 ⟨rfl, b8⟩)
    refine wpAny_take (i := 23) (v := (.bool false)) rfl (by kernel_rfl) (by kernel_rfl) (by kernel_rfl) (fun _ _ _ h => h) (Or.inl ⟨by kernel_rfl, ?_⟩) ?_
    · intro wx
      go_simp
      try with_reducible rfl
    refine wpAny_take (i := 24) (v := (.bool false)) rfl (by kernel_rfl) (by kernel_rfl) (by kernel_rfl) (fun _ _ _ h => h) (Or.inl ⟨by kernel_rfl, ?_⟩) ?_
    · intro wx
      go_simp
      try with_reducible rfl
    refine wpAny_take (i := 25) (v := (.bool false)) rfl (by kernel_rfl) (by kernel_rfl) (by kernel_rfl) (fun _ _ _ h => h) (Or.inl ⟨by kernel_rfl, ?_⟩) ?_
    · intro wx
      go_simp
      try with_reducible rfl
    refine wpAny_take (i := 26) (v := (.bool false)) rfl (by kernel_rfl) (by kernel_rfl) (by kernel_rfl) (fun _ _ _ h => h) (Or.inl ⟨by kernel_rfl, ?_⟩) ?_
    · intro wx
      go_simp
      try with_reducible rfl
    refine wpAny_done (by kernel_rfl) ?_ _
    go_wp2_with fail
    go_meet
    exact ⟨rfl, b8⟩
  case rest =>
    obtain ⟨rfl, b9⟩ := hcut
    clear cxa0 cxa1 cxa2
    clear cxn0 cxn1 cxn2 cxn3
    replace xa := xa.next b9
    replace ha := ha.next b9
    replace hpp := hpp.next b9
    replace hi := hi.next b9
    replace hr := hr.next b9
    replace xi := xi.next b9
    replace xn := xn.next b9
    replace bb := bb.trans (b9.mono bb.size)
    clear b9 HBB HKN
    go_wp2_with fail
    refine (HBM _).mono ?_
    rintro e wz ⟨rfl, rfl⟩
    have HWK := beamWakes_any _ (HFW.out.next bb)
    go_wp2_with (go_at_call 19; refine HWK.mono ?_; rintro e w99 ⟨rfl, b99⟩)
    go_ret
    exact ⟨rfl, bb.trans (b99.mono bb.size)⟩

set_option maxRecDepth 100000 in
set_option maxHeartbeats 4000000 in
theorem beamExact_nop (N : Nat) (p : Int) (a : Option Addr) (cap : Nat) (l : List (Int × Int)) (hl : l.length ≤ 400) (pa : Option Addr) (pc : Nat) (ps : List Int) (hpl : ps.length ≤ 100) (b d : Int) (hp : PileOk (N : Int) p l) (hlen : ps.length ≤ N) (hnp : ¬ Path ps) (hbm : beamB b d = false) (w : World) (ha : Syms w.heap.size w (.slice a l.length cap) l) (hpp : Holds .i64 w.heap.size w (.slice pa ps.length pc) ps) (hF : Firsts w) :
    Calls Tryd.prog 3 #[.agg #[.int .i64 (N : Int), .int .i64 p, .slice a l.length cap], .slice pa ps.length pc, .int .i64 b, .int .i64 d] w fun e w' => e = .returned (.bool true) ∧ Below w.heap.size w w' := by
  have HFW : Hid (Firsts w) := hF
  have HP : Hid (PileOk (N : Int) p l) := hp
  have hN1 : 1 ≤ N := by have := hp.1.1; omega
  have hN2 : N < 65 := by have := hp.1.2.1; omega
  have HM : Hid (N < ps.length ∨ ¬ Path ps) := .inr hnp
  have HNP : Hid (¬ Path ps) := hnp
  have HBM := refBeam_any b d
  rw [hbm] at HBM
  have dl : decide (400 < (l.length : Int)) = false := decide_eq_false (by omega)
  have dl' : decide (400 < l.length) = false := decide_eq_false (by omega)
  have dq : decide (100 < (ps.length : Int)) = false := decide_eq_false (by omega)
  have dq' : decide (100 < ps.length) = false := decide_eq_false (by omega)
  have bb : Below w.heap.size w (w.alloc (.cells #[.int .i64 (N : Int), .int .i64 p, .slice a l.length cap] 24)) := (Below.refl w.heap.size w).alloc (Nat.le_refl _) _
  have xa := Box.new w 24 #[.int .i64 (N : Int), .int .i64 p, .slice a l.length cap]
  replace ha := ha.next bb
  replace hpp := hpp.next bb
  have HNB : Hid (¬ ((1 ≤ b ∧ b ≤ 16) ∧ 1 ≤ d ∧ d ≤ 3)) := by
    show ¬ _
    intro h
    unfold beamB at hbm
    simp at hbm
    omega
  clear hp hF hbm hnp
  go_enter Tryd.func3, Tryd.ntmps3
  go_wp2_with fail
  refine (HBM _).mono ?_
  rintro e wz ⟨rfl, rfl⟩
  have cxa0 := xa.cell 0 _ rfl
  have cxa1 := xa.cell 1 _ rfl
  have cxa2 := xa.cell 2 _ rfl
  go_wp2_with fail
  refine (twinPile_any (N : Int) p (.slice a l.length cap) l (by omega) _ ha).mono ?_
  rintro e w2 ⟨r2, rfl, o2, b9⟩
  clear cxa0 cxa1 cxa2
  replace xa := xa.next b9
  replace ha := ha.next b9
  replace hpp := hpp.next b9
  replace bb := bb.trans (b9.mono bb.size)
  clear b9
  have hi := syms_of_row o2
  obtain ⟨ra, rc, e2⟩ := hi.shape
  subst e2
  clear o2
  go_wp2_with fail
  refine (twinInts_any (.slice pa ps.length pc) ps _ (by omega) _ hpp).mono ?_
  rintro e w3 ⟨r3, rfl, o3, b9⟩
  replace xa := xa.next b9
  replace ha := ha.next b9
  replace hpp := hpp.next b9
  replace hi := hi.next b9
  replace bb := bb.trans (b9.mono bb.size)
  clear b9
  have hr := holds_of_row o3
  obtain ⟨qa, qc, e3⟩ := rowN_shape o3
  subst e3
  clear o3
  have b9 : Below w3.heap.size w3 (w3.alloc (.cells #[.int .i64 (N : Int), .int .i64 p, .slice ra l.length rc] 24)) := (Below.refl _ _).alloc (Nat.le_refl _) _
  have xi := Box.new w3 24 #[.int .i64 (N : Int), .int .i64 p, .slice ra l.length rc]
  replace xa := xa.next b9
  replace ha := ha.next b9
  replace hpp := hpp.next b9
  replace hi := hi.next b9
  replace hr := hr.next b9
  replace bb := bb.trans (b9.mono bb.size)
  clear b9
  have HC := Node_arg N p ra rc l HP.out qa qc ps HM.out _ hi hr (HFW.out.next bb)
  simp only [nodeZ] at HC
  have cxi0 := xi.cell 0 _ rfl
  have cxi1 := xi.cell 1 _ rfl
  have cxi2 := xi.cell 2 _ rfl
  go_wp2_with fail
  refine (HC).mono ?_
  rintro e w4 ⟨rfl, b9⟩
  clear cxi0 cxi1 cxi2
  replace xa := xa.next b9
  replace ha := ha.next b9
  replace hpp := hpp.next b9
  replace hi := hi.next b9
  replace hr := hr.next b9
  replace xi := xi.next b9
  replace bb := bb.trans (b9.mono bb.size)
  clear b9
  clear HC
  have b9 : Below w4.heap.size w4 (w4.alloc (.cells #[.int .u32 0, .int .i64 0, .int .i64 0, .slice none 0 0] 32)) := (Below.refl _ _).alloc (Nat.le_refl _) _
  have xn := Box.new w4 32 #[.int .u32 0, .int .i64 0, .int .i64 0, .slice none 0 0]
  replace xa := xa.next b9
  replace ha := ha.next b9
  replace hpp := hpp.next b9
  replace hi := hi.next b9
  replace hr := hr.next b9
  replace xi := xi.next b9
  replace bb := bb.trans (b9.mono bb.size)
  clear b9
  have HC := Score_arg N p ra rc l HP.out qa qc ps HM.out d _ hi hr (HFW.out.next bb)
  have cxi0 := xi.cell 0 _ rfl
  have cxi1 := xi.cell 1 _ rfl
  have cxi2 := xi.cell 2 _ rfl
  go_wp2_with fail
  refine (HC).mono ?_
  rintro e w5 ⟨rfl, b9⟩
  clear cxi0 cxi1 cxi2
  replace xa := xa.next b9
  replace ha := ha.next b9
  replace hpp := hpp.next b9
  replace hi := hi.next b9
  replace hr := hr.next b9
  replace xi := xi.next b9
  replace xn := xn.next b9
  replace bb := bb.trans (b9.mono bb.size)
  clear b9
  clear HC
  have HC := Walk_arg N p ra rc l HP.out b d HNB.out _ hi (HFW.out.next bb)
  have cxi0 := xi.cell 0 _ rfl
  have cxi1 := xi.cell 1 _ rfl
  have cxi2 := xi.cell 2 _ rfl
  go_wp2_with fail
  refine (HC).mono ?_
  rintro e w6 ⟨rfl, b9⟩
  clear cxi0 cxi1 cxi2
  replace xa := xa.next b9
  replace ha := ha.next b9
  replace hpp := hpp.next b9
  replace hi := hi.next b9
  replace hr := hr.next b9
  replace xi := xi.next b9
  replace xn := xn.next b9
  replace bb := bb.trans (b9.mono bb.size)
  clear b9
  clear HC
  have HC := Decode_arg N p ra rc l HP.out b d HNB.out _ hi (HFW.out.next bb)
  have cxi0 := xi.cell 0 _ rfl
  have cxi1 := xi.cell 1 _ rfl
  have cxi2 := xi.cell 2 _ rfl
  go_wp2_with fail
  refine (HC).mono ?_
  rintro e w7 ⟨rfl, b9⟩
  clear cxi0 cxi1 cxi2
  replace xa := xa.next b9
  replace ha := ha.next b9
  replace hpp := hpp.next b9
  replace hi := hi.next b9
  replace hr := hr.next b9
  replace xi := xi.next b9
  replace xn := xn.next b9
  replace bb := bb.trans (b9.mono bb.size)
  clear b9
  clear HC
  have HC := keepPile_any (N : Int) p (N : Int) p (.slice ra l.length rc) (.slice a l.length cap) l l _ (by omega) hi ha
  rw [decide_eq_true ⟨rfl, rfl, rfl⟩] at HC
  have cxi0 := xi.cell 0 _ rfl
  have cxi1 := xi.cell 1 _ rfl
  have cxi2 := xi.cell 2 _ rfl
  have cxa0 := xa.cell 0 _ rfl
  have cxa1 := xa.cell 1 _ rfl
  have cxa2 := xa.cell 2 _ rfl
  go_wp2_with fail
  refine (HC).mono ?_
  rintro e w8 ⟨rfl, b9⟩
  clear cxi0 cxi1 cxi2
  clear cxa0 cxa1 cxa2
  replace xa := xa.next b9
  replace ha := ha.next b9
  replace hpp := hpp.next b9
  replace hi := hi.next b9
  replace hr := hr.next b9
  replace xi := xi.next b9
  replace xn := xn.next b9
  replace bb := bb.trans (b9.mono bb.size)
  clear b9
  clear HC
  have HC := ints_any (.slice qa ps.length qc) (.slice pa ps.length pc) ps ps _ _ _ (by omega) hr hpp
  rw [decide_eq_true rfl] at HC
  go_wp2_with fail
  refine HC.mono ?_
  rintro e w9 ⟨rfl, q, rfl⟩
  clear HC
  have b9 : Below w8.heap.size w8 (w8.drewN q) := below_drewN (Below.refl _ _) q
  replace xa := xa.next b9
  replace ha := ha.next b9
  replace hpp := hpp.next b9
  replace hi := hi.next b9
  replace hr := hr.next b9
  replace xi := xi.next b9
  replace xn := xn.next b9
  replace bb := bb.trans (b9.mono bb.size)
  clear b9
  generalize w8.drewN q = wD at *
  have cxa0 := xa.cell 0 _ rfl
  have cxa1 := xa.cell 1 _ rfl
  have cxa2 := xa.cell 2 _ rfl
  go_wp2_with fail
  refine (refPile_yes (N : Int) p a cap l (by omega) HP.out _ ha).mono ?_
  rintro e w9 ⟨rfl, b9⟩
  clear cxa0 cxa1 cxa2
  replace xa := xa.next b9
  replace ha := ha.next b9
  replace hpp := hpp.next b9
  replace hi := hi.next b9
  replace hr := hr.next b9
  replace xi := xi.next b9
  replace xn := xn.next b9
  replace bb := bb.trans (b9.mono bb.size)
  clear b9
  have cxa0 := xa.cell 0 _ rfl
  have cxa1 := xa.cell 1 _ rfl
  have cxa2 := xa.cell 2 _ rfl
  have dle : decide ((ps.length : Int) ≤ (N : Int)) = true := decide_eq_true (by omega)
  have dle' : decide (ps.length ≤ N) = true := decide_eq_true (by omega)
  have HC := refPath_no pa pc ps (by omega) HNP.out _ _ hpp
  go_wp2_with fail
  refine HC.mono ?_
  rintro e w10 ⟨rfl, rfl⟩
  clear HC
  have cxn0 := xn.cell 0 _ rfl
  have cxn1 := xn.cell 1 _ rfl
  have cxn2 := xn.cell 2 _ rfl
  have cxn3 := xn.cell 3 _ rfl
  have HBB : Hid (Below w.heap.size w w9) := bb
  have HKN : Hid (∀ (wx : World), Below w9.heap.size w9 wx → Calls Tryd.prog 16 #[.agg #[.int .u32 0, .int .i64 0, .int .i64 0, .slice none 0 0], .agg #[.int .u32 0, .int .i64 0, .int .i64 0, .slice none 0 0]] wx fun e W' => e = .returned (.bool true) ∧ Below w9.heap.size w9 W') := fun wx hb => by
    have h9 := node_any 0 0 0 0 0 0 (.slice none 0 0) (.slice none 0 0) [] [] wx.heap.size wx.heap.size wx (Nat.le_refl _) (Nat.le_refl _) (by decide) (.inl ⟨⟨_, _, rfl, fun _ => rfl⟩, rfl⟩) (.inl ⟨⟨_, _, rfl, fun _ => rfl⟩, rfl⟩)
    rw [decide_eq_true rfl] at h9
    exact h9.mono fun e W' ⟨h, hb'⟩ => ⟨h, hb.trans (hb'.mono hb.size)⟩
  go_wp2
  go_cut [134] (fun t134 wx => t134 = .bool false ∧ Below w9.heap.size w9 wx)
  case first =>
    refine wp_region_any (by kernel_rfl) ?_
    try (change wpAny _ _ _ _ _ _ _ (World.drew _))
    refine wpAny_take (i := 0) (v := (.bool false)) rfl (by kernel_rfl) (by kernel_rfl) (by kernel_rfl) (fun _ _ _ h => h) (Or.inl ⟨by kernel_rfl, ?_⟩) ?_
    · intro wx
      go_simp
      try with_reducible rfl
    refine wpAny_take (i := 1) (v := (.bool false)) rfl (by kernel_rfl) (by kernel_rfl) (by kernel_rfl) (fun _ _ _ h => h) (Or.inl ⟨by kernel_rfl, ?_⟩) ?_
    · intro wx
      go_simp
      try with_reducible rfl
    refine wpAny_take (i := 2) (v := undef) rfl (by kernel_rfl) (by kernel_rfl) (by kernel_rfl) (fun _ _ _ h => h) (Or.inr ⟨by kernel_rfl, rfl⟩) ?_
    refine wpAny_take (i := 3) (v := undef) rfl (by kernel_rfl) (by kernel_rfl) (by kernel_rfl) (fun _ _ _ h => h) (Or.inr ⟨by kernel_rfl, rfl⟩) ?_
    refine wpAny_take (i := 4) (v := undef) rfl (by kernel_rfl) (by kernel_rfl) (by kernel_rfl) (fun _ _ _ h => h) (Or.inr ⟨by kernel_rfl, rfl⟩) ?_
    refine wpAny_take (i := 5) (v := undef) rfl (by kernel_rfl) (by kernel_rfl) (by kernel_rfl) (fun _ _ _ h => h) (Or.inr ⟨by kernel_rfl, rfl⟩) ?_
    refine wpAny_take (i := 6) (v := undef) rfl (by kernel_rfl) (by kernel_rfl) (by kernel_rfl) (fun _ _ _ h => h) (Or.inr ⟨by kernel_rfl, rfl⟩) ?_
    refine wpAny_take (i := 7) (v := undef) rfl (by kernel_rfl) (by kernel_rfl) (by kernel_rfl) (fun _ _ _ h => h) (Or.inr ⟨by kernel_rfl, rfl⟩) ?_
    refine wpAny_take (i := 8) (v := undef) rfl (by kernel_rfl) (by kernel_rfl) (by kernel_rfl) (fun _ _ _ h => h) (Or.inr ⟨by kernel_rfl, rfl⟩) ?_
    refine wpAny_take (i := 9) (v := undef) rfl (by kernel_rfl) (by kernel_rfl) (by kernel_rfl) (fun _ _ _ h => h) (Or.inr ⟨by kernel_rfl, rfl⟩) ?_
    refine wpAny_take (i := 10) (v := undef) rfl (by kernel_rfl) (by kernel_rfl) (by kernel_rfl) (fun _ _ _ h => h) (Or.inr ⟨by kernel_rfl, rfl⟩) ?_
    refine wpAny_take (i := 11) (v := undef) rfl (by kernel_rfl) (by kernel_rfl) (by kernel_rfl) (fun _ _ _ h => h) (Or.inr ⟨by kernel_rfl, rfl⟩) ?_
    refine wpAny_take (i := 12) (v := (.bool false)) rfl (by kernel_rfl) (by kernel_rfl) (by kernel_rfl) (fun _ _ _ h => h) (Or.inl ⟨by kernel_rfl, ?_⟩) ?_
    · intro wx
      go_simp
      try with_reducible rfl
    refine wpAny_take (i := 13) (v := (.bool false)) rfl (by kernel_rfl) (by kernel_rfl) (by kernel_rfl) (fun _ _ _ h => h) (Or.inl ⟨by kernel_rfl, ?_⟩) ?_
    · intro wx
      go_simp
      try with_reducible rfl
    refine wpAny_take (i := 14) (v := (.bool false)) rfl (by kernel_rfl) (by kernel_rfl) (by kernel_rfl) (fun _ _ _ h => h) (Or.inl ⟨by kernel_rfl, ?_⟩) ?_
    · intro wx
      go_simp
      try with_reducible rfl
    refine wpAny_take (i := 15) (v := (.bool true)) rfl (by kernel_rfl) (by kernel_rfl) (by kernel_rfl) (fun _ _ _ h => h) (Or.inl ⟨by kernel_rfl, ?_⟩) ?_
    · intro wx
      go_simp
      try with_reducible rfl
    refine wpAny_take (i := 16) (v := (.bool true)) rfl (by kernel_rfl) (by kernel_rfl) (by kernel_rfl) (fun _ _ _ h => h) (Or.inl ⟨by kernel_rfl, ?_⟩) ?_
    · intro wx
      go_simp
      try with_reducible rfl
    refine wpAny_take (i := 17) (v := (.int .i64 1)) rfl (by kernel_rfl) (by kernel_rfl) (by kernel_rfl) (fun _ _ _ h => h) (Or.inl ⟨by kernel_rfl, ?_⟩) ?_
    · intro wx
      go_simp
      try with_reducible rfl
    refine wpAny_take (i := 18) (v := (.bool false)) rfl (by kernel_rfl) (by kernel_rfl) (by kernel_rfl) (fun _ _ _ h => h) (Or.inl ⟨by kernel_rfl, ?_⟩) ?_
    · intro wx
      go_simp
      try with_reducible rfl
    refine wpAny_take (i := 19) (v := (.bool false)) rfl (by kernel_rfl) (by kernel_rfl) (by kernel_rfl) (fun _ _ _ h => h) (Or.inl ⟨by kernel_rfl, ?_⟩) ?_
    · intro wx
      go_simp
      try with_reducible rfl
    refine wpAny_take (i := 21) (v := (.agg #[.int .u32 0, .int .i64 0, .int .i64 0, .slice none 0 0])) rfl (by kernel_rfl) (by kernel_rfl) (by kernel_rfl) (fun _ _ _ h => h) (Or.inl ⟨by kernel_rfl, ?_⟩) ?_
    · intro wx
      go_simp
      try with_reducible rfl
    refine wpAny_ready (rs := [20]) (by kernel_rfl) (by simp) ?_
    refine AllReady.cons rfl (fun K hK => ?_) AllReady.nil
    go_simp
    refine hK _ _ ?_
    clear hK K
    refine wpAny_ready (rs := [22]) (by kernel_rfl) (by simp) ?_
    refine AllReady.cons rfl (fun K hK => ?_) AllReady.nil
    go_simp
    go_wp2_with (go_at_call 16; refine (HKN.out _ (by first | exact below_drewN (Below.refl _ _) _ | exact Below.refl _ _ | exact (Below.refl _ _).drew)).mono ?_; rintro e w8 ⟨rfl, b8⟩)
    refine wpAny_take (i := 23) (v := (.bool false)) rfl (by kernel_rfl) (by kernel_rfl) (by kernel_rfl) (fun _ _ _ h => h) (Or.inl ⟨by kernel_rfl, ?_⟩) ?_
    · intro wx
      go_simp
      try with_reducible rfl
    refine wpAny_take (i := 24) (v := (.bool false)) rfl (by kernel_rfl) (by kernel_rfl) (by kernel_rfl) (fun _ _ _ h => h) (Or.inl ⟨by kernel_rfl, ?_⟩) ?_
    · intro wx
      go_simp
      try with_reducible rfl
    refine wpAny_take (i := 25) (v := (.bool false)) rfl (by kernel_rfl) (by kernel_rfl) (by kernel_rfl) (fun _ _ _ h => h) (Or.inl ⟨by kernel_rfl, ?_⟩) ?_
    · intro wx
      go_simp
      try with_reducible rfl
    refine wpAny_take (i := 26) (v := (.bool false)) rfl (by kernel_rfl) (by kernel_rfl) (by kernel_rfl) (fun _ _ _ h => h) (Or.inl ⟨by kernel_rfl, ?_⟩) ?_
    · intro wx
      go_simp
      try with_reducible rfl
    refine wpAny_done (by kernel_rfl) ?_ _
    go_wp2_with fail
    go_meet
    exact ⟨rfl, b8⟩
  case rest =>
    obtain ⟨rfl, b9⟩ := hcut
    clear cxa0 cxa1 cxa2
    clear cxn0 cxn1 cxn2 cxn3
    replace xa := xa.next b9
    replace ha := ha.next b9
    replace hpp := hpp.next b9
    replace hi := hi.next b9
    replace hr := hr.next b9
    replace xi := xi.next b9
    replace xn := xn.next b9
    replace bb := bb.trans (b9.mono bb.size)
    clear b9 HBB HKN
    go_wp2_with fail
    refine (HBM _).mono ?_
    rintro e wz ⟨rfl, rfl⟩
    have HWK := beamWakes_any _ (HFW.out.next bb)
    go_wp2_with (go_at_call 19; refine HWK.mono ?_; rintro e w99 ⟨rfl, b99⟩)
    go_ret
    exact ⟨rfl, bb.trans (b99.mono bb.size)⟩

end Go.Proofs.YtddcloanbpkecaaDoor
