/-
  What beam.Node and beam.Score answer.
-/
import Derived.Test.YtdnhnnidlangiaaDoorM26
import Derived.Test.YtdnhnnidlangiaaDoorM31
import Derived.Test.YtdnhnnidlangiaaDoorM32
import Derived.BigRegion
import Derived.Deep.RegionWith
import Derived.RegionTactic
namespace Go.Proofs.YtdnhnnidlangiaaDoor
open Go.RowKit

set_option maxRecDepth 100000 in
set_option maxHeartbeats 4000000 in
theorem Node_ok (N : Nat) (p : Int) (a : Option Addr) (cap : Nat) (l : List (Int × Int)) (hp : PileOk (N : Int) p l) (pa : Option Addr) (pc : Nat) (ps : List Int) (hps : Path ps) (hlen : ps.length ≤ N) (w : World) (ha : Syms w.heap.size w (.slice a l.length cap) l) (hpp : Holds .i64 w.heap.size w (.slice pa ps.length pc) ps) (hF : Firsts w) :
    Calls Tryd.prog 13 #[.agg #[.int .i64 N, .int .i64 p, .slice a l.length cap], .slice pa ps.length pc] w fun e W' => ∃ qa qc, e = .returned (.tuple #[.agg #[.int .u32 (staB N l ps), .int .i64 (metB N l ps), .int .i64 0, .slice qa ps.length qc], .int .i64 0]) ∧ W'.ownsRow w.heap.size 3 1 (.slice qa ps.length qc) ps.length (ps.map (Value.int .i64)) ∧ Below w.heap.size w W' := by
  have hN2 : N < 65 := by have := hp.1.2.1; omega
  have b1 : Below w.heap.size w ((w.alloc (.cells #[.int .i64 N, .int .i64 p, .slice a l.length cap] 24)).alloc (.cells #[.int .u32 0, .int .i64 0, .int .i64 0, .slice none 0 0] 32)) := ((Below.refl w.heap.size w).alloc (Nat.le_refl _) _).alloc (by simp) _
  have x4 : Box ((w.alloc (.cells #[.int .i64 N, .int .i64 p, .slice a l.length cap] 24)).alloc (.cells #[.int .u32 0, .int .i64 0, .int .i64 0, .slice none 0 0] 32)) (w.heap.size + 1) 32 #[.int .u32 0, .int .i64 0, .int .i64 0, .slice none 0 0] := by
    have := Box.new (w.alloc (.cells #[.int .i64 N, .int .i64 p, .slice a l.length cap] 24)) 32 #[.int .u32 0, .int .i64 0, .int .i64 0, .slice none 0 0]
    simpa using this
  have HBS := bySegment_ok N p a cap l hp _ (ha.next b1) (hF.next b1)
  have HPP : Hid (Holds .i64 w.heap.size w (.slice pa ps.length pc) ps) := hpp
  have HP : Hid (PileOk (N : Int) p l) := hp
  have HPS : Hid (Path ps) := hps
  obtain ⟨n, hn⟩ : ∃ n, ps.length = n := ⟨_, rfl⟩
  have HN : Hid (ps.length = n) := hn
  rw [hn] at HPP hlen ⊢
  obtain ⟨S, hS⟩ : ∃ S, staB N l ps = S := ⟨_, rfl⟩
  obtain ⟨M, hM⟩ : ∃ M, metB N l ps = M := ⟨_, rfl⟩
  rw [hS, hM]
  have HSS : Hid (staB N l ps = S) := hS
  have HMM : Hid (metB N l ps = M) := hM
  clear hp ha hpp hF hps hn hS hM
  go_enter Tryd.func13, Tryd.ntmps13
  go_wp2_with fail
  refine HBS.mono ?_
  rintro e w2 ⟨r, rfl, hSg, b2⟩
  clear HBS
  obtain ⟨sb, so, scap, e3, hsb⟩ := hSg.shape
  rw [segsL_len] at e3
  subst e3
  have bb2 := b1.trans (b2.mono b1.size)
  have HBE := behind_any sb so N scap l p HP.out pa pc ps (by rw [HN.out]; exact hlen) w2 hSg (by rw [HN.out]; exact HPP.out.next bb2)
  rw [HN.out, HSS.out, HMM.out] at HBE
  have x42 := x4.next b2
  clear hSg x4 b2 b1
  go_wp2_with fail
  refine HBE.mono ?_
  rintro e w3 ⟨he, b3⟩
  clear HBE
  rcases he with ⟨_, rfl⟩ | ⟨hno, _⟩
  case inr => exact absurd HPS.out hno
  have bb3 := bb2.trans (b3.mono bb2.size)
  have x43 := (x42.next b3).alloc (.cells #[.int .i64 (n : Int), .int .u32 S, .int .i64 M] 77)
  have x8 := Box.new w3 77 #[.int .i64 (n : Int), .int .u32 S, .int .i64 M]
  have bb4 : Below w.heap.size w (w3.alloc (.cells #[.int .i64 (n : Int), .int .u32 S, .int .i64 M] 77)) := bb3.alloc bb3.size _
  clear x42 b3
  go_wp2
  obtain ⟨W4, hW4⟩ : ∃ W, w3.alloc (.cells #[.int .i64 (n : Int), .int .u32 S, .int .i64 M] 77) = W := ⟨_, rfl⟩
  rw [hW4] at x43 x8 bb4 ⊢
  clear hW4
  have k1 := x8.cell 1 _ rfl
  have k2 := x8.cell 2 _ rfl
  have hl8 := x8.lt
  have HCL : Hid (∀ wx : World, wx.heap = W4.heap → Calls Tryd.prog 36 #[.slice pa n pc] wx fun e W' => ∃ r, e = .returned r ∧ W'.ownsRow wx.heap.size 3 1 r n (ps.map (Value.int .i64)) ∧ Below wx.heap.size wx W') := fun wx hx => by
    have hh : Holds .i64 wx.heap.size wx (.slice pa n pc) ps := by
      have := HPP.out.next bb4
      unfold Holds World.cell? at this ⊢
      rw [hx]
      exact this
    have := cloneInts_ok pa pc wx.heap.size ps (by have := HN.out; omega) wx (Nat.le_refl _) (by rw [HN.out]; exact hh)
    rw [HN.out] at this
    exact this
  first | go_region_with (go_at_call 36; refine (HCL.out _ (by rfl)).mono ?_; rintro e w5 ⟨r5, rfl, o5, b5⟩; obtain ⟨qa, qc, e5⟩ := rowN_shape o5; subst e5; have b5' : Below W4.heap.size W4 w5 := (Below.refl W4.heap.size W4).drew.trans b5; have m1 := (b5'.cell (p := ⟨w3.heap.size, 1, none⟩) hl8).trans k1; have m2 := (b5'.cell (p := ⟨w3.heap.size, 2, none⟩) hl8).trans k2; have xr := x43.next b5'; have z0 := xr.cell 0 _ rfl; have z1 := xr.cell 1 _ rfl; have z2 := xr.cell 2 _ rfl; have z3 := xr.cell 3 _ rfl; have f0 := xr.free 0; have f1 := xr.free 1; have f2 := xr.free 2; have f3 := xr.free 3) | fail
  all_goals (
    go_wp2
    refine bodyPost_ret (v := .tuple #[.agg #[.int .u32 S, .int .i64 M, .int .i64 0, .slice qa n qc], .int .i64 0]) (by simp [results, Tryd.results13, go_sem, z0, z1, z2, z3]) rfl ⟨_, _, rfl, ?_, ?_⟩
    · exact rowN_base (row_set4 o5 (by have := bb4.size; have := x43.lt; show w.heap.size + 1 < W4.heap.size; omega) _ _ _ _) bb4.size
    · exact below_set4 (bb4.trans (b5'.mono bb4.size)) (by omega) _ _ _ _)

/-- The node that is told beside an error. -/
def nodeZ : Value := .agg #[.int .u32 0, .int .i64 0, .int .i64 0, .slice none 0 0]

set_option maxRecDepth 100000 in
set_option maxHeartbeats 2000000 in
theorem Node_no (n p : Int) (a : Option Addr) (cap : Nat) (l : List (Int × Int)) (hl : l.length ≤ 4294967296) (hp : ¬ PileOk n p l) (v : Value) (w : World) (ha : Syms w.heap.size w (.slice a l.length cap) l) :
    Calls Tryd.prog 13 #[.agg #[.int .i64 n, .int .i64 p, .slice a l.length cap], v] w fun e W' => e = .returned (.tuple #[nodeZ, .int .i64 1]) ∧ Below w.heap.size w W' := by
  have b1 : Below w.heap.size w ((w.alloc (.cells #[.int .i64 n, .int .i64 p, .slice a l.length cap] 24)).alloc (.cells #[.int .u32 0, .int .i64 0, .int .i64 0, .slice none 0 0] 32)) := ((Below.refl w.heap.size w).alloc (Nat.le_refl _) _).alloc (by simp) _
  have x4 : Box ((w.alloc (.cells #[.int .i64 n, .int .i64 p, .slice a l.length cap] 24)).alloc (.cells #[.int .u32 0, .int .i64 0, .int .i64 0, .slice none 0 0] 32)) (w.heap.size + 1) 32 #[.int .u32 0, .int .i64 0, .int .i64 0, .slice none 0 0] := by
    have := Box.new (w.alloc (.cells #[.int .i64 n, .int .i64 p, .slice a l.length cap] 24)) 32 #[.int .u32 0, .int .i64 0, .int .i64 0, .slice none 0 0]
    simpa using this
  have HBS := bySegment_no n p a cap l hl hp _ (ha.next b1)
  clear hp ha
  go_enter Tryd.func13, Tryd.ntmps13
  go_wp2_with fail
  refine HBS.mono ?_
  rintro e w2 ⟨rfl, b2⟩
  have xr := x4.next b2
  have z0 := xr.cell 0 _ rfl
  have z1 := xr.cell 1 _ rfl
  have z2 := xr.cell 2 _ rfl
  have z3 := xr.cell 3 _ rfl
  have f0 := xr.free 0
  have f1 := xr.free 1
  have f2 := xr.free 2
  have f3 := xr.free 3
  go_wp2
  refine bodyPost_ret (v := .tuple #[nodeZ, .int .i64 1]) (by simp [results, Tryd.results13, go_sem, z0, z1, z2, z3, nodeZ]) rfl ⟨rfl, ?_⟩
  exact below_set4 (b1.trans (b2.mono b1.size)) (by omega) _ _ _ _

/-- behind's refusals. -/
theorem behind_no (b off N cap : Nat) (l : List (Int × Int)) (p : Int) (hp : PileOk (N : Int) p l) (pa : Option Addr) (pc : Nat) (ps : List Int) (h : N < ps.length ∨ ¬ Path ps) (w : World)
    (hS : Segs w.heap.size w (.slice (some ⟨b, off, none⟩) N cap) (segsL N l)) (hpp : Holds .i64 w.heap.size w (.slice pa ps.length pc) ps) :
    Calls Tryd.prog 35 #[.slice (some ⟨b, off, none⟩) N cap, .slice pa ps.length pc] w fun e W' => e = .returned (.tuple #[.agg #[.int .i64 0, .int .u32 0, .int .i64 0], .int .i64 1]) ∧ Below w.heap.size w W' := by
  by_cases hl : N < ps.length
  · exact behind_long _ _ _ _ _ _ hl w
  · refine (behind_any b off N cap l p hp pa pc ps (by omega) w hS hpp).mono ?_
    rintro e W' ⟨he, hb⟩
    rcases he with ⟨hy, _⟩ | ⟨_, rfl⟩
    · exact absurd hy (h.resolve_left hl)
    · exact ⟨rfl, hb⟩

set_option maxRecDepth 100000 in
set_option maxHeartbeats 2000000 in
theorem Node_arg (N : Nat) (p : Int) (a : Option Addr) (cap : Nat) (l : List (Int × Int)) (hp : PileOk (N : Int) p l) (pa : Option Addr) (pc : Nat) (ps : List Int) (h : N < ps.length ∨ ¬ Path ps) (w : World) (ha : Syms w.heap.size w (.slice a l.length cap) l) (hpp : Holds .i64 w.heap.size w (.slice pa ps.length pc) ps) (hF : Firsts w) :
    Calls Tryd.prog 13 #[.agg #[.int .i64 N, .int .i64 p, .slice a l.length cap], .slice pa ps.length pc] w fun e W' => e = .returned (.tuple #[nodeZ, .int .i64 1]) ∧ Below w.heap.size w W' := by
  have b1 : Below w.heap.size w ((w.alloc (.cells #[.int .i64 N, .int .i64 p, .slice a l.length cap] 24)).alloc (.cells #[.int .u32 0, .int .i64 0, .int .i64 0, .slice none 0 0] 32)) := ((Below.refl w.heap.size w).alloc (Nat.le_refl _) _).alloc (by simp) _
  have x4 : Box ((w.alloc (.cells #[.int .i64 N, .int .i64 p, .slice a l.length cap] 24)).alloc (.cells #[.int .u32 0, .int .i64 0, .int .i64 0, .slice none 0 0] 32)) (w.heap.size + 1) 32 #[.int .u32 0, .int .i64 0, .int .i64 0, .slice none 0 0] := by
    have := Box.new (w.alloc (.cells #[.int .i64 N, .int .i64 p, .slice a l.length cap] 24)) 32 #[.int .u32 0, .int .i64 0, .int .i64 0, .slice none 0 0]
    simpa using this
  have HBS := bySegment_ok N p a cap l hp _ (ha.next b1) (hF.next b1)
  have HB0 : Hid (∀ (sb so scap : Nat) (w2 : World), Segs w2.heap.size w2 (.slice (some ⟨sb, so, none⟩) N scap) (segsL N l) → Below w.heap.size w w2 → Calls Tryd.prog 35 #[.slice (some ⟨sb, so, none⟩) N scap, .slice pa ps.length pc] w2 fun e W' => e = .returned (.tuple #[.agg #[.int .i64 0, .int .u32 0, .int .i64 0], .int .i64 1]) ∧ Below w2.heap.size w2 W') := fun sb so scap w2 h1 h2 => behind_no sb so N scap l p hp pa pc ps h w2 h1 (hpp.next h2)
  clear hp ha hpp hF h
  go_enter Tryd.func13, Tryd.ntmps13
  go_wp2_with fail
  refine HBS.mono ?_
  rintro e w2 ⟨r, rfl, hSg, b2⟩
  clear HBS
  obtain ⟨sb, so, scap, e3, hsb⟩ := hSg.shape
  rw [segsL_len] at e3
  subst e3
  have bb2 := b1.trans (b2.mono b1.size)
  have HBE := HB0.out sb so scap w2 hSg bb2
  have x42 := x4.next b2
  clear hSg x4 b2 b1
  go_wp2_with fail
  refine HBE.mono ?_
  rintro e w3 ⟨rfl, b3⟩
  clear HBE
  have xr := (x42.next b3).alloc (.cells #[.int .i64 0, .int .u32 0, .int .i64 0] 77)
  have bb4 : Below w.heap.size w (w3.alloc (.cells #[.int .i64 0, .int .u32 0, .int .i64 0] 77)) := (bb2.trans (b3.mono bb2.size)).alloc (by have := bb2.size; have := b3.size; omega) _
  have z0 := xr.cell 0 _ rfl
  have z1 := xr.cell 1 _ rfl
  have z2 := xr.cell 2 _ rfl
  have z3 := xr.cell 3 _ rfl
  have f0 := xr.free 0
  have f1 := xr.free 1
  have f2 := xr.free 2
  have f3 := xr.free 3
  go_wp2
  refine bodyPost_ret (v := .tuple #[nodeZ, .int .i64 1]) (by simp [results, Tryd.results13, go_sem, z0, z1, z2, z3, nodeZ]) rfl ⟨rfl, ?_⟩
  exact below_set4 bb4 (by omega) _ _ _ _

set_option maxRecDepth 100000 in
set_option maxHeartbeats 2000000 in
theorem Score_no (n p : Int) (a : Option Addr) (cap : Nat) (l : List (Int × Int)) (hl : l.length ≤ 4294967296) (hp : ¬ PileOk n p l) (v : Value) (d : Int) (w : World) (ha : Syms w.heap.size w (.slice a l.length cap) l) :
    Calls Tryd.prog 14 #[.agg #[.int .i64 n, .int .i64 p, .slice a l.length cap], v, .int .i64 d] w fun e W' => e = .returned (.tuple #[.int .i64 0, .int .i64 1]) ∧ Below w.heap.size w W' := by
  have b1 : Below w.heap.size w (w.alloc (.cells #[.int .i64 n, .int .i64 p, .slice a l.length cap] 24)) := (Below.refl w.heap.size w).alloc (Nat.le_refl _) _
  have HBS := bySegment_no n p a cap l hl hp _ (ha.next b1)
  clear hp ha
  go_enter Tryd.func14, Tryd.ntmps14
  go_wp2_with fail
  refine HBS.mono ?_
  rintro e w2 ⟨rfl, b2⟩
  go_wp2
  go_ret2
  exact ⟨rfl, b1.trans (b2.mono b1.size)⟩

set_option maxRecDepth 100000 in
set_option maxHeartbeats 2000000 in
theorem Score_arg (N : Nat) (p : Int) (a : Option Addr) (cap : Nat) (l : List (Int × Int)) (hp : PileOk (N : Int) p l) (pa : Option Addr) (pc : Nat) (ps : List Int) (h : N < ps.length ∨ ¬ Path ps) (d : Int) (w : World) (ha : Syms w.heap.size w (.slice a l.length cap) l) (hpp : Holds .i64 w.heap.size w (.slice pa ps.length pc) ps) (hF : Firsts w) :
    Calls Tryd.prog 14 #[.agg #[.int .i64 N, .int .i64 p, .slice a l.length cap], .slice pa ps.length pc, .int .i64 d] w fun e W' => e = .returned (.tuple #[.int .i64 0, .int .i64 1]) ∧ Below w.heap.size w W' := by
  have b1 : Below w.heap.size w (w.alloc (.cells #[.int .i64 N, .int .i64 p, .slice a l.length cap] 24)) := (Below.refl w.heap.size w).alloc (Nat.le_refl _) _
  have HBS := bySegment_ok N p a cap l hp _ (ha.next b1) (hF.next b1)
  have HB0 : Hid (∀ (sb so scap : Nat) (w2 : World), Segs w2.heap.size w2 (.slice (some ⟨sb, so, none⟩) N scap) (segsL N l) → Below w.heap.size w w2 → Calls Tryd.prog 35 #[.slice (some ⟨sb, so, none⟩) N scap, .slice pa ps.length pc] w2 fun e W' => e = .returned (.tuple #[.agg #[.int .i64 0, .int .u32 0, .int .i64 0], .int .i64 1]) ∧ Below w2.heap.size w2 W') := fun sb so scap w2 h1 h2 => behind_no sb so N scap l p hp pa pc ps h w2 h1 (hpp.next h2)
  clear hp ha hpp hF h
  go_enter Tryd.func14, Tryd.ntmps14
  go_wp2_with fail
  refine HBS.mono ?_
  rintro e w2 ⟨r, rfl, hSg, b2⟩
  clear HBS
  obtain ⟨sb, so, scap, e3, hsb⟩ := hSg.shape
  rw [segsL_len] at e3
  subst e3
  have bb2 := b1.trans (b2.mono b1.size)
  have HBE := HB0.out sb so scap w2 hSg bb2
  clear hSg b2 b1
  go_wp2_with fail
  refine HBE.mono ?_
  rintro e w3 ⟨rfl, b3⟩
  clear HBE
  have bb4 : Below w.heap.size w (w3.alloc (.cells #[.int .i64 0, .int .u32 0, .int .i64 0] 77)) := (bb2.trans (b3.mono bb2.size)).alloc (by have := bb2.size; have := b3.size; omega) _
  go_wp2
  go_ret2
  exact ⟨rfl, bb4⟩

set_option maxRecDepth 100000 in
set_option maxHeartbeats 2000000 in
theorem Score_any (N : Nat) (p : Int) (a : Option Addr) (cap : Nat) (l : List (Int × Int)) (hp : PileOk (N : Int) p l) (pa : Option Addr) (pc : Nat) (ps : List Int) (hps : Path ps) (hlen : ps.length ≤ N) (d : Int) (w : World) (ha : Syms w.heap.size w (.slice a l.length cap) l) (hpp : Holds .i64 w.heap.size w (.slice pa ps.length pc) ps) (hF : Firsts w) :
    Calls Tryd.prog 14 #[.agg #[.int .i64 N, .int .i64 p, .slice a l.length cap], .slice pa ps.length pc, .int .i64 d] w fun e W' => ((1 ≤ d ∧ d ≤ 3) ∧ e = .returned (.tuple #[.int .i64 (scoB N l (d.toNat - 1) ps), .int .i64 0]) ∨ ¬ (1 ≤ d ∧ d ≤ 3) ∧ e = .returned (.tuple #[.int .i64 0, .int .i64 1])) ∧ Below w.heap.size w W' := by
  have hN2 : N < 65 := by have := hp.1.2.1; omega
  have b1 : Below w.heap.size w (w.alloc (.cells #[.int .i64 N, .int .i64 p, .slice a l.length cap] 24)) := (Below.refl w.heap.size w).alloc (Nat.le_refl _) _
  have HBS := bySegment_ok N p a cap l hp _ (ha.next b1) (hF.next b1)
  have HP : Hid (PileOk (N : Int) p l) := hp
  have HPS : Hid (Path ps) := hps
  have HPP : Hid (Holds .i64 w.heap.size w (.slice pa ps.length pc) ps) := hpp
  obtain ⟨s, hs, es⟩ := staB_nat N l ps
  have hm0 := metB_pos N l ps
  have hm1 := metB_le hp ps.length ps rfl
  have HSC : Hid (∀ a, lst stB (coB N l) N a (s : Int) ps.length (metB N l ps) = scoB N l a ps) := fun a => scoB_lst es a
  obtain ⟨n, hn⟩ : ∃ n, ps.length = n := ⟨_, rfl⟩
  have HN : Hid (ps.length = n) := hn
  rw [hn] at HPP hlen hm1 HSC ⊢
  obtain ⟨M, hM⟩ : ∃ M, metB N l ps = M := ⟨_, rfl⟩
  rw [hM] at hm0 hm1 HSC
  have HSS : Hid (staB N l ps = (s : Int)) := es
  have HMM : Hid (metB N l ps = M) := hM
  obtain ⟨V, hV⟩ : ∃ V, scoB N l (d.toNat - 1) ps = V := ⟨_, rfl⟩
  rw [hV]
  have HV : Hid (scoB N l (d.toNat - 1) ps = V) := hV
  clear hp ha hpp hF hps hn hM es hV
  go_enter Tryd.func14, Tryd.ntmps14
  go_wp2_with fail
  refine HBS.mono ?_
  rintro e w2 ⟨r, rfl, hSg, b2⟩
  clear HBS
  obtain ⟨sb, so, scap, e3, hsb⟩ := hSg.shape
  rw [segsL_len] at e3
  subst e3
  have bb2 := b1.trans (b2.mono b1.size)
  have HBE := behind_any sb so N scap l p HP.out pa pc ps (by rw [HN.out]; exact hlen) w2 hSg (by rw [HN.out]; exact HPP.out.next bb2)
  rw [HN.out, HSS.out, HMM.out] at HBE
  have HSG : Hid (Segs w2.heap.size w2 (.slice (some ⟨sb, so, none⟩) N scap) (segsL N l)) := hSg
  clear hSg b2 b1
  go_wp2_with fail
  refine HBE.mono ?_
  rintro e w3 ⟨he, b3⟩
  clear HBE
  rcases he with ⟨_, rfl⟩ | ⟨hno, _⟩
  case inr => exact absurd HPS.out hno
  have bb3 := bb2.trans (b3.mono bb2.size)
  have x8 := Box.new w3 77 #[.int .i64 (n : Int), .int .u32 (s : Int), .int .i64 M]
  have b4 : Below w3.heap.size w3 (w3.alloc (.cells #[.int .i64 (n : Int), .int .u32 (s : Int), .int .i64 M] 77)) := (Below.refl _ _).alloc (Nat.le_refl _) _
  have bb4 := bb3.trans (b4.mono bb3.size)
  have HS4 : Hid (Segs (w3.alloc (.cells #[.int .i64 (n : Int), .int .u32 (s : Int), .int .i64 M] 77)).heap.size (w3.alloc (.cells #[.int .i64 (n : Int), .int .u32 (s : Int), .int .i64 M] 77)) (.slice (some ⟨sb, so, none⟩) N scap) (segsL N l)) := (HSG.out.next b3).next b4
  clear b3
  by_cases hd : 1 ≤ d ∧ d ≤ 3
  · have HID := isDepth_yes d hd.1 hd.2 (w3.alloc (.cells #[.int .i64 (n : Int), .int .u32 (s : Int), .int .i64 M] 77))
    obtain ⟨D, hD⟩ : ∃ D : Nat, d = ((D + 1 : Nat) : Int) := ⟨d.toNat - 1, by omega⟩
    have HSO := score_ok sb so N scap l p HP.out D (by omega) n s hlen hs M hm0 (by omega) _ HS4.out
    rw [HSC.out, show scoB N l D ps = V by rw [← HV.out, show d.toNat - 1 = D by omega], ← hD] at HSO
    have HDD : Hid (1 ≤ d ∧ d ≤ 3) := hd
    clear hd hD
    go_wp2_with (first | (go_at_call 37; refine HID.mono ?_; rintro e wz ⟨rfl, rfl⟩) | (go_at_call 38; refine HSO.mono ?_; rintro e w5 ⟨rfl, b5⟩))
    go_ret2
    exact ⟨.inl ⟨HDD.out, rfl⟩, bb4.trans (b5.mono bb4.size)⟩
  · have HID := isDepth_no d (by omega) (w3.alloc (.cells #[.int .i64 (n : Int), .int .u32 (s : Int), .int .i64 M] 77))
    have HDD : Hid (¬ (1 ≤ d ∧ d ≤ 3)) := hd
    clear hd
    go_wp2_with (go_at_call 37; refine HID.mono ?_; rintro e wz ⟨rfl, rfl⟩)
    go_ret2
    exact ⟨.inr ⟨HDD.out, rfl⟩, bb4⟩

end Go.Proofs.YtdnhnnidlangiaaDoor
