/-
  What the page's Packet answers, of data that may be. (Written by tpl_refdata.py.)
-/
import Derived.Test.YtmjidhnlofpliaaDoorM06
import Derived.Test.YtmjidhnlofpliaaDoorM10
import Derived.Test.YtmjidhnlofpliaaDoorM15
import Derived.Test.YtmjidhnlofpliaaDoorM17
import Derived.Test.YtmjidhnlofpliaaDoorM23
import Derived.Deep.Cut
import Derived.Deep.CutRange
import Derived.Deep.DeepCutAuto
namespace Go.Proofs.YtmjidhnlofpliaaDoor
open Go.RowKit

theorem Box.grown {W W' : World} {B : Nat} {t : TypeId} {cs : Array Value} {ob : Option Nat} (h : Box W B t cs) (hg : W.grownBy W' ob) (hne : ob ≠ some B) : Box W' B t cs := (hg.block B h.lt hne.symm).trans h
theorem box_holds1 {W : World} {B : Nat} {t : TypeId} {x : Int} (h : Box W B t #[.int .u8 x]) : Holds .u8 W.heap.size W (.slice (some ⟨B, 0, none⟩) 1 1) [x] :=
  .inr ⟨B, 0, 1, rfl, h.lt, fun j hj => by
    have : j = 0 := by simpa using hj
    subst this
    exact h.cell 0 _ rfl⟩

end Go.Proofs.YtmjidhnlofpliaaDoor

/-
  What package block's take answers: what bytes say, right or not.
-/
namespace Go.Proofs.YtmjidhnlofpliaaDoor
open Go.RowKit

theorem row_heap {W : World} {base n g : Nat} (h : W.ownsRow base 5 1 (.slice (some ⟨g, 0, none⟩) n n) n ((List.replicate n (0 : Int)).map (Value.int .u8))) : W.heap[g]? = some (.cells (List.replicate n (Value.int .u8 0)).toArray 5 (0, 0)) := by
  rw [List.map_replicate] at h
  rcases h.2 with ⟨e, _⟩ | ⟨g', c, cur, e, _, hg, _, _, hs, ht⟩
  · cases e
  · cases e
    rw [hg]
    congr 2
    have hc : cur.toList = List.replicate n (.int .u8 0) := by
      rw [← ht, List.take_of_length_le]
      simp [hs]
    rw [← hc]

/-- copy over a row of noughts: its run. -/
theorem run_copy_over (g b off n L cap : Nat) (cs : List Int) (w : World) (hg : w.heap[g]? = some (.cells (List.replicate n (Value.int .u8 0)).toArray 5 (0, 0))) (hl : cs.length = Nat.min L n) (hn : cs.length ≤ n)
    (hc : ∀ (j : Nat) (v : Value), (cs.map (Value.int .u8))[j]? = some v → w.cell? ((⟨b, off, none⟩ : Addr).add j) = some v) :
    ∃ w2, (Builtin.copy_ #[35, 35] 3 #[.slice (some ⟨g, 0, none⟩) n n, .slice (some ⟨b, off, none⟩) L cap]).run Tryd.prog w = .ok (.int .i64 cs.length) w2 ∧ w2.heap[g]? = some (.cells ((cs ++ List.replicate (n - cs.length) 0).map (Value.int .u8)).toArray 5 (0, 0)) ∧ Below g w w2 := by
  obtain ⟨i0, hi, hz0, hz1, hz2⟩ := info_parts infoU8
  have hsz : (Tryd.prog.info? 5).map (·.size) = some 1 := by rw [hi]; simp [hz1]
  have hr := run_copy_row (P := Tryd.prog) w 35 35 3 5 g 0 n n ⟨b, off, none⟩ L cap _ 5 (cs.map (Value.int .u8)) Tryd.underlying35 hsz hg (by rw [List.length_map]; exact hl) hc (by simp; omega) (oneCells _ _)
  have e0 : ((List.replicate n (Value.int .u8 0)).toArray.toList.take 0 ++ cs.map (Value.int .u8) ++ (List.replicate n (Value.int .u8 0)).toArray.toList.drop (0 + (cs.map (Value.int .u8)).length)) = (cs ++ List.replicate (n - cs.length) 0).map (Value.int .u8) := by
    simp
  rw [e0, List.length_map] at hr
  exact ⟨_, hr, setRow_heap w g _ _ _ _ hg, below_setRow (Below.refl g w) (Nat.le_refl _) _⟩

end Go.Proofs.YtmjidhnlofpliaaDoor

/-
  What the page's ReadData answers, whatever it is asked. (Written by tpl_refdata.py.)
-/
namespace Go.Proofs.YtmjidhnlofpliaaDoor
open Go.RowKit

theorem below_set4d {W V : World} {n : Nat} (h : Below n W V) {D : Nat} (hD : n ≤ D) (x y z u : Value) : Below n W ((((V.setCell ⟨D, 0, none⟩ x).setCell ⟨D, 1, none⟩ y).setCell ⟨D, 2, none⟩ z).setCell ⟨D, 3, none⟩ u) := (below_set3 h hD x y z).setCell (p := ⟨D, 3, none⟩) hD u
theorem row_set4d {w : World} {base : Nat} {e : TypeId} {size : Nat} {v : Value} {n : Nat} {xs : List Value} (h : w.ownsRow base e size v n xs) {D : Nat} (hD : D < base) (x y z u : Value) : ((((w.setCell ⟨D, 0, none⟩ x).setCell ⟨D, 1, none⟩ y).setCell ⟨D, 2, none⟩ z).setCell ⟨D, 3, none⟩ u).ownsRow base e size v n xs := ownsRow_setCell_below (row_set3 h hD x y z) (a := ⟨D, 3, none⟩) hD u
end Go.Proofs.YtmjidhnlofpliaaDoor

/-
  What slices.Concat of two texts answers; data's isSeq, isCount.
-/
namespace Go.Proofs.YtmjidhnlofpliaaDoor
open Go.RowKit

set_option maxRecDepth 100000 in
set_option maxHeartbeats 4000000 in
/-- slices.Concat of two texts, the first of which has bytes. -/
theorem concat2_ok (g : Nat) (a1 a2 : Option Addr) (c1 c2 : Nat) (n1 n2 : Nat) (l1 l2 : List Int) (e1 : l1.length = n1) (e2 : l2.length = n2) (p1 : n1 ≤ 1048576) (p2 : n2 ≤ 1048576) (h0 : 0 < n1) (w : World)
    (k1 : w.cell? ⟨g, 0, none⟩ = some (.slice a1 n1 c1)) (k2 : w.cell? ⟨g, 1, none⟩ = some (.slice a2 n2 c2))
    (h1 : Holds .u8 w.heap.size w (.slice a1 n1 c1) l1) (h2 : Holds .u8 w.heap.size w (.slice a2 n2 c2) l2) :
    Calls Tryd.prog 75 #[.slice (some ⟨g, 0, none⟩) 2 2] w fun e W' => ∃ r, e = .returned r ∧ W'.ownsRow w.heap.size 5 1 r (n1 + n2) ((l1 ++ l2).map (Value.int .u8)) ∧ Below w.heap.size w W' := by
  have hg : g < w.heap.size := cell_block_lt k1
  have H1 : Hid (Holds .u8 w.heap.size w (.slice a1 n1 c1) l1) := h1
  have H2 : Hid (Holds .u8 w.heap.size w (.slice a2 n2 c2) l2) := h2
  have E1 : Hid (l1.length = n1) := e1
  have E2 : Hid (l2.length = n2) := e2
  clear e1 e2 h1 h2
  go_enter Tryd.func75, Tryd.ntmps75
  go_wp2
  go_loop [3, 11] (fun s i => (s = .int .i64 0 ∧ i = .int .i64 0) ∨ (s = .int .i64 n1 ∧ i = .int .i64 1) ∨ (s = .int .i64 ((n1 + n2 : Nat) : Int) ∧ i = .int .i64 2)) (fun _ i => 2 - (intOf i).toNat)
  case atStart => exact .inl ⟨rfl, rfl⟩
  case round =>
    rcases hrel with ⟨rfl, rfl⟩ | ⟨rfl, rfl⟩ | ⟨rfl, rfl⟩
    · go_wp2
      go_round
      case rel => exact .inr (.inl ⟨by go_num, by go_num⟩)
      case measure => simp [intOf]
    · go_wp2
      go_round
      case rel => exact .inr (.inr ⟨by go_num, by go_num⟩)
      case measure => simp [intOf]
    · obtain ⟨m, hm⟩ : ∃ m, n1 + n2 = m := ⟨_, rfl⟩
      have HG := growB_new m (by omega) (by omega) w
      rw [hm]
      have HM : Hid (n1 + n2 = m) := hm
      have hmp : 0 < m := by omega
      clear hm
      go_wp2_with fail
      refine HG.mono ?_
      rintro e w1 ⟨r, rfl, o1, b1⟩
      have hs1 := b1.size
      have q1 := (b1.cell (p := ⟨g, 0, none⟩) hg).trans k1
      have q2 := (b1.cell (p := ⟨g, 1, none⟩) hg).trans k2
      clear HG k1 k2
      go_wp2
      go_loopw [6, 27] (fun v i wr => ((i = .int .i64 0 ∧ wr.ownsRow w.heap.size 5 1 v 0 (([] : List Int).map (Value.int .u8))) ∨ (i = .int .i64 1 ∧ wr.ownsRow w.heap.size 5 1 v n1 (l1.map (Value.int .u8))) ∨ (i = .int .i64 2 ∧ wr.ownsRow w.heap.size 5 1 v (n1 + n2) ((l1 ++ l2).map (Value.int .u8)))) ∧ Below w.heap.size w wr) (fun _ i _ => 2 - (intOf i).toNat)
      case atStart => exact ⟨.inl ⟨rfl, o1⟩, b1⟩
      case round =>
        obtain ⟨hc, hbw⟩ := hrel
        have r1 := (hbw.cell (p := ⟨g, 0, none⟩) hg).trans ((b1.cell (p := ⟨g, 0, none⟩) hg).symm.trans q1)
        have r2 := (hbw.cell (p := ⟨g, 1, none⟩) hg).trans ((b1.cell (p := ⟨g, 1, none⟩) hg).symm.trans q2)
        clear q1 q2 o1
        rcases hc with ⟨rfl, ho⟩ | ⟨rfl, ho⟩ | ⟨rfl, ho⟩
        · obtain ⟨v3, w3, hr3, ho3, hg3⟩ := run_append_u8 _ (.slice a1 n1 c1) 0 w.heap.size _ [] l1 35 wr ho (H1.out.below hbw) hbw.size (by omega) (by rw [E1.out]; omega)
          rw [E1.out, List.nil_append, Nat.zero_add] at ho3
          have b3 := hbw.trans ((Below.refl w.heap.size _).grown hg3 hbw.size (fun q e => (ho.lt q e).1))
          have HR3 : Hid _ := hr3
          clear hr3 ho hg3
          go_wp2_with (at_builtin; refine wpList_append_run rfl _ _ 35 rfl _ _ rfl rfl _ _ HR3.out ?_)
          exact ⟨⟨.inr (.inl ⟨by go_num, ho3⟩), b3⟩, by simp [intOf]⟩
        · obtain ⟨v3, w3, hr3, ho3, hg3⟩ := run_append_u8 _ (.slice a2 n2 c2) n1 w.heap.size _ l1 l2 35 wr ho (H2.out.below hbw) hbw.size (by omega) (by rw [E2.out]; omega)
          rw [E2.out] at ho3
          have b3 := hbw.trans ((Below.refl w.heap.size _).grown hg3 hbw.size (fun q e => (ho.lt q e).1))
          have HR3 : Hid _ := hr3
          clear hr3 ho hg3
          go_wp2_with (at_builtin; refine wpList_append_run rfl _ _ 35 rfl _ _ rfl rfl _ _ HR3.out ?_)
          exact ⟨⟨.inr (.inr ⟨by go_num, ho3⟩), b3⟩, by simp [intOf]⟩
        · go_wp2
          go_ret
          exact ⟨_, rfl, HM.out ▸ ho, hbw⟩

set_option maxHeartbeats 400000 in
theorem isSeq_yes (z : Int) (h : 0 ≤ z ∧ z < 1073741824) (w : World) : Calls Tryd.prog 24 #[.int .i64 z] w fun e w' => e = .returned (.bool true) ∧ w = w' := by
  obtain ⟨h1, h2⟩ := h
  go_enter Tryd.func24, Tryd.ntmps24
  go_wp2
  go_ret
  exact ⟨rfl, rfl⟩
set_option maxHeartbeats 400000 in
theorem dCount_yes (z : Int) (h : 1 ≤ z ∧ z ≤ 64) (w : World) : Calls Tryd.prog 21 #[.int .i64 z] w fun e w' => e = .returned (.bool true) ∧ w = w' := by
  obtain ⟨h1, h2⟩ := h
  go_enter Tryd.func21, Tryd.ntmps21
  go_wp2
  go_ret
  exact ⟨rfl, rfl⟩
end Go.Proofs.YtmjidhnlofpliaaDoor

/-
  What data's head and Make answer. (Written by tpl_datamake.py.)
-/
namespace Go.Proofs.YtmjidhnlofpliaaDoor
open Go.RowKit

theorem put_atD (a : Option Addr) (n cap : Nat) (zs : List Int) (hn : zs.length = n) (x : Int) (s : Nat) (w : World) (n₀ : Nat) (h1 : 1 ≤ s) (h2 : s ≤ 4) (h3 : 0 ≤ x) (h4 : x / 2 ^ (8 * s) = 0) (h5 : n ≤ 4096 - s) (hn₀ : n₀ ≤ w.heap.size) (hH : Holds .u8 n₀ w (.slice a n cap) zs) :
    Calls Tryd.prog 57 #[.slice a n cap, .int .i64 x, .int .i64 s] w fun e W' => ∃ ra rc, e = .returned (.tuple #[.slice ra (n + s) rc, .int .i64 0]) ∧ W'.ownsRow w.heap.size 5 1 (.slice ra (n + s) rc) (n + s) ((zs ++ beBytes s x).map (Value.int .u8)) ∧ Below w.heap.size w W' := by
  subst hn
  refine (put_ok a cap zs x s w n₀ h1 h2 h3 h4 h5 hn₀ hH).mono ?_
  rintro e W' ⟨r, rfl, o, b⟩
  obtain ⟨ra, rc, rfl⟩ := row_shapeB o
  exact ⟨ra, rc, rfl, o, b⟩

theorem beBytes_one {r : Int} (h : 0 ≤ r ∧ r ≤ 255) : beBytes 1 r = [r] := by
  simp [beBytes, List.range, List.range.loop]
  omega

theorem headD_puts {s r f : Int} {n : Nat} (hr : 0 ≤ r ∧ r ≤ 255) (hn : n ≤ 255) : (((([68] ++ beBytes 4 s) ++ beBytes 1 r) ++ beBytes 2 f) ++ beBytes 1 (n : Int)) = headD s r f n := by
  rw [beBytes_one hr, beBytes_one (r := (n : Int)) (by omega)]
  simp [headD]

set_option maxRecDepth 100000 in
set_option maxHeartbeats 4000000 in
theorem head_ok (s r f : Int) (a : Option Addr) (n cap : Nat) (hs : 0 ≤ s ∧ s < 1073741824) (hr : 0 ≤ r ∧ r ≤ 255) (hf : 0 ≤ f ∧ f ≤ 65535) (hn : n ≤ 64) (w : World) :
    Calls Tryd.prog 81 #[.agg #[.int .i64 s, .int .i64 r, .int .i64 f, .slice a n cap]] w fun e W' => ∃ ra rc, e = .returned (.tuple #[.slice ra 9 rc, .int .i64 0]) ∧ Holds .u8 W'.heap.size W' (.slice ra 9 rc) (headD s r f n) ∧ Below w.heap.size w W' := by
  have HF : Hid _ := headD_puts (s := s) (f := f) hr (show n ≤ 255 by omega)
  have d1 : s / 2 ^ (8 * 4) = 0 := by rw [show (2 : Int) ^ (8 * 4) = 4294967296 from rfl]; omega
  have d2 : r / 2 ^ (8 * 1) = 0 := by rw [show (2 : Int) ^ (8 * 1) = 256 from rfl]; omega
  have d3 : f / 2 ^ (8 * 2) = 0 := by rw [show (2 : Int) ^ (8 * 2) = 65536 from rfl]; omega
  have d4 : (n : Int) / 2 ^ (8 * 1) = 0 := by rw [show (2 : Int) ^ (8 * 1) = 256 from rfl]; omega
  have D1 : Hid (0 ≤ s ∧ s / 2 ^ (8 * 4) = 0) := ⟨hs.1, d1⟩
  have D2 : Hid (0 ≤ r ∧ r / 2 ^ (8 * 1) = 0) := ⟨hr.1, d2⟩
  have D3 : Hid (0 ≤ f ∧ f / 2 ^ (8 * 2) = 0) := ⟨hf.1, d3⟩
  have D4 : Hid (0 ≤ (n : Int) ∧ (n : Int) / 2 ^ (8 * 1) = 0) := ⟨by omega, d4⟩
  clear d1 d2 d3 d4 hs hr hf
  obtain ⟨l0, hl0⟩ : ∃ l, ([68] : List Int) = l := ⟨_, rfl⟩
  have K0 : Hid (l0.length = 1) := by rw [← hl0]; rfl
  obtain ⟨l1, hl1⟩ : ∃ l, l0 ++ beBytes 4 s = l := ⟨_, rfl⟩
  have K1 : Hid (l1.length = 5) := by show l1.length = 5; rw [← hl1, List.length_append, beBytes_len, K0.out]
  obtain ⟨l2, hl2⟩ : ∃ l, l1 ++ beBytes 1 r = l := ⟨_, rfl⟩
  have K2 : Hid (l2.length = 6) := by show l2.length = 6; rw [← hl2, List.length_append, beBytes_len, K1.out]
  obtain ⟨l3, hl3⟩ : ∃ l, l2 ++ beBytes 2 f = l := ⟨_, rfl⟩
  have K3 : Hid (l3.length = 8) := by show l3.length = 8; rw [← hl3, List.length_append, beBytes_len, K2.out]
  obtain ⟨l4, hl4⟩ : ∃ l, l3 ++ beBytes 1 (n : Int) = l := ⟨_, rfl⟩
  have K4 : Hid (l4.length = 9) := by show l4.length = 9; rw [← hl4, List.length_append, beBytes_len, K3.out]
  rw [hl0, hl1, hl2, hl3, hl4] at HF
  have E0 : Hid ([68] = l0) := hl0
  have E1 : Hid (l0 ++ beBytes 4 s = l1) := hl1
  have E2 : Hid (l1 ++ beBytes 1 r = l2) := hl2
  have E3 : Hid (l2 ++ beBytes 2 f = l3) := hl3
  have E4 : Hid (l3 ++ beBytes 1 (n : Int) = l4) := hl4
  clear hl0 hl1 hl2 hl3 hl4
  have b1 : Below w.heap.size w (w.alloc (.cells #[.int .i64 s, .int .i64 r, .int .i64 f, .slice a n cap] 43)) := (Below.refl w.heap.size w).alloc (Nat.le_refl _) _
  go_enter Tryd.func81, Tryd.ntmps81
  go_wp2
  obtain ⟨W3, hW3⟩ : ∃ W, ((w.alloc (.cells #[.int .i64 s, .int .i64 r, .int .i64 f, .slice a n cap] 43)).alloc (.cells #[.int .u8 68] 5)).alloc (.cells #[.int .i64 s, .int .i64 4, .int .i64 r, .int .i64 1, .int .i64 f, .int .i64 2, .int .i64 (n : Int), .int .i64 1] 124) = W := ⟨_, rfl⟩
  have hz3 : W3.heap.size = w.heap.size + 3 := by rw [← hW3]; simp
  have bb3 : Below w.heap.size w W3 := by
    rw [← hW3]
    exact (b1.alloc (by simp) _).alloc (by simp; omega) _
  have x3 : Box W3 (w.heap.size + 1 + 1) 124 #[.int .i64 s, .int .i64 4, .int .i64 r, .int .i64 1, .int .i64 f, .int .i64 2, .int .i64 (n : Int), .int .i64 1] := by
    have := Box.new ((w.alloc (.cells #[.int .i64 s, .int .i64 r, .int .i64 f, .slice a n cap] 43)).alloc (.cells #[.int .u8 68] 5)) 124 #[.int .i64 s, .int .i64 4, .int .i64 r, .int .i64 1, .int .i64 f, .int .i64 2, .int .i64 (n : Int), .int .i64 1]
    rw [hW3] at this
    simpa using this
  have h3 : Holds .u8 W3.heap.size W3 (.slice (some ⟨w.heap.size + 1, 0, none⟩) 1 1) l0 := by
    have := (box_holds1 (Box.new (w.alloc (.cells #[.int .i64 s, .int .i64 r, .int .i64 f, .slice a n cap] 43)) 5 #[.int .u8 68])).next ((Below.refl _ _).alloc (Nat.le_refl _) (.cells #[.int .i64 s, .int .i64 4, .int .i64 r, .int .i64 1, .int .i64 f, .int .i64 2, .int .i64 (n : Int), .int .i64 1] 124))
    rw [hW3, E0.out] at this
    simpa using this
  have H3 : Hid (Holds .u8 W3.heap.size W3 (.slice (some ⟨w.heap.size + 1, 0, none⟩) 1 1) l0) := h3
  have X3 : Hid (Box W3 (w.heap.size + 1 + 1) 124 #[.int .i64 s, .int .i64 4, .int .i64 r, .int .i64 1, .int .i64 f, .int .i64 2, .int .i64 (n : Int), .int .i64 1]) := x3
  have BB3 : Hid (Below w.heap.size w W3) := bb3
  have HZ3 : Hid (W3.heap.size = w.heap.size + 3) := hz3
  rw [hW3]
  clear hW3 h3 x3 bb3 b1 hz3
  go_loopw [4, 25] (fun v i wr => ((i = .int .i64 0 ∧ ∃ a c, v = .slice a 1 c ∧ Holds .u8 wr.heap.size wr (.slice a 1 c) l0) ∨ (i = .int .i64 1 ∧ ∃ a c, v = .slice a 5 c ∧ Holds .u8 wr.heap.size wr (.slice a 5 c) l1) ∨ (i = .int .i64 2 ∧ ∃ a c, v = .slice a 6 c ∧ Holds .u8 wr.heap.size wr (.slice a 6 c) l2) ∨ (i = .int .i64 3 ∧ ∃ a c, v = .slice a 8 c ∧ Holds .u8 wr.heap.size wr (.slice a 8 c) l3) ∨ (i = .int .i64 4 ∧ ∃ a c, v = .slice a 9 c ∧ Holds .u8 wr.heap.size wr (.slice a 9 c) l4)) ∧ Below W3.heap.size W3 wr) (fun _ i _ => 4 - (intOf i).toNat)
  case atStart => exact ⟨.inl ⟨rfl, _, _, rfl, H3.out⟩, Below.refl _ _⟩
  case round =>
    obtain ⟨hc, hbw⟩ := hrel
    have X4 := X3.out.next hbw
    have x0 := X4.cell 0 _ rfl
    have x1 := X4.cell 1 _ rfl
    have x2 := X4.cell 2 _ rfl
    have x3 := X4.cell 3 _ rfl
    have x4 := X4.cell 4 _ rfl
    have x5 := X4.cell 5 _ rfl
    have x6 := X4.cell 6 _ rfl
    have x7 := X4.cell 7 _ rfl
    have hB : w.heap.size + 1 + 1 < wr.heap.size := X4.lt
    have HBW : Hid (Below W3.heap.size W3 wr) := hbw
    have HX4 : Hid _ := X4
    clear hbw X4
    rcases hc with ⟨rfl, a4, c4, rfl, h4⟩ | ⟨rfl, a4, c4, rfl, h4⟩ | ⟨rfl, a4, c4, rfl, h4⟩ | ⟨rfl, a4, c4, rfl, h4⟩ | ⟨rfl, a4, c4, rfl, h4⟩
    · have q4 : Below wr.heap.size wr (wr.alloc (.cells #[.int .i64 s, .int .i64 4] 124)) := (Below.refl _ _).alloc (Nat.le_refl _) _
      have HP := put_atD a4 1 c4 l0 K0.out s 4 (wr.alloc (.cells #[.int .i64 s, .int .i64 4] 124)) _ (by decide) (by decide) D1.out.1 D1.out.2 (by decide) (Nat.le_refl _) (h4.next q4)
      rw [E1.out] at HP
      clear h4
      go_wp2_with fail
      refine HP.mono ?_
      rintro e w5 ⟨ra, rc, rfl, o5, b5⟩
      have h5 : Holds .u8 w5.heap.size w5 (.slice ra 5 rc) l1 := holds_of_row o5
      have b6 := HBW.out.trans ((q4.trans (b5.mono (by simp))).mono HBW.out.size)
      clear HP o5 b5 q4
      go_wp2
      exact ⟨⟨.inr (.inl ⟨by go_num, ra, rc, rfl, h5⟩), b6⟩, by simp [intOf]⟩
    · have q4 : Below wr.heap.size wr (wr.alloc (.cells #[.int .i64 r, .int .i64 1] 124)) := (Below.refl _ _).alloc (Nat.le_refl _) _
      have HP := put_atD a4 5 c4 l1 K1.out r 1 (wr.alloc (.cells #[.int .i64 r, .int .i64 1] 124)) _ (by decide) (by decide) D2.out.1 D2.out.2 (by decide) (Nat.le_refl _) (h4.next q4)
      rw [E2.out] at HP
      clear h4
      go_wp2_with fail
      refine HP.mono ?_
      rintro e w5 ⟨ra, rc, rfl, o5, b5⟩
      have h5 : Holds .u8 w5.heap.size w5 (.slice ra 6 rc) l2 := holds_of_row o5
      have b6 := HBW.out.trans ((q4.trans (b5.mono (by simp))).mono HBW.out.size)
      clear HP o5 b5 q4
      go_wp2
      exact ⟨⟨.inr (.inr (.inl ⟨by go_num, ra, rc, rfl, h5⟩)), b6⟩, by simp [intOf]⟩
    · have q4 : Below wr.heap.size wr (wr.alloc (.cells #[.int .i64 f, .int .i64 2] 124)) := (Below.refl _ _).alloc (Nat.le_refl _) _
      have HP := put_atD a4 6 c4 l2 K2.out f 2 (wr.alloc (.cells #[.int .i64 f, .int .i64 2] 124)) _ (by decide) (by decide) D3.out.1 D3.out.2 (by decide) (Nat.le_refl _) (h4.next q4)
      rw [E3.out] at HP
      clear h4
      go_wp2_with fail
      refine HP.mono ?_
      rintro e w5 ⟨ra, rc, rfl, o5, b5⟩
      have h5 : Holds .u8 w5.heap.size w5 (.slice ra 8 rc) l3 := holds_of_row o5
      have b6 := HBW.out.trans ((q4.trans (b5.mono (by simp))).mono HBW.out.size)
      clear HP o5 b5 q4
      go_wp2
      exact ⟨⟨.inr (.inr (.inr (.inl ⟨by go_num, ra, rc, rfl, h5⟩))), b6⟩, by simp [intOf]⟩
    · have q4 : Below wr.heap.size wr (wr.alloc (.cells #[.int .i64 (n : Int), .int .i64 1] 124)) := (Below.refl _ _).alloc (Nat.le_refl _) _
      have HP := put_atD a4 8 c4 l3 K3.out (n : Int) 1 (wr.alloc (.cells #[.int .i64 (n : Int), .int .i64 1] 124)) _ (by decide) (by decide) D4.out.1 D4.out.2 (by decide) (Nat.le_refl _) (h4.next q4)
      rw [E4.out] at HP
      clear h4
      go_wp2_with fail
      refine HP.mono ?_
      rintro e w5 ⟨ra, rc, rfl, o5, b5⟩
      have h5 : Holds .u8 w5.heap.size w5 (.slice ra 9 rc) l4 := holds_of_row o5
      have b6 := HBW.out.trans ((q4.trans (b5.mono (by simp))).mono HBW.out.size)
      clear HP o5 b5 q4
      go_wp2
      exact ⟨⟨.inr (.inr (.inr (.inr ⟨by go_num, ra, rc, rfl, h5⟩))), b6⟩, by simp [intOf]⟩
    · have b6 := BB3.out.trans (HBW.out.mono BB3.out.size)
      have h6 := h4
      rw [HF.out] at h6
      go_wp2
      go_ret2
      exact ⟨a4, c4, rfl, h6, b6⟩

end Go.Proofs.YtmjidhnlofpliaaDoor

/-
  What data's Make answers. (Written by tpl_datamake2.py.)
-/
namespace Go.Proofs.YtmjidhnlofpliaaDoor
open Go.RowKit

set_option maxRecDepth 100000 in
set_option maxHeartbeats 4000000 in
theorem DataMake_at (s r f : Int) (a : Option Addr) (n cap : Nat) (xs : List Int) (hn : xs.length = n) (h : RightD s r f xs) (w : World) (ha : Holds .u8 w.heap.size w (.slice a n cap) xs) :
    Calls Tryd.prog 63 #[.agg #[.int .i64 s, .int .i64 r, .int .i64 f, .slice a n cap]] w fun e W' => ∃ q, e = .returned (.tuple #[q, .int .i64 0]) ∧ W'.ownsRow w.heap.size 5 1 q (n + 11) ((packD s r f xs).map (Value.int .u8)) ∧ Below w.heap.size w W' := by
  obtain ⟨hs, hr, hf, hx1, hx2⟩ := h
  have HN : Hid (xs.length = n) := hn
  have HPK : Hid ((headD s r f n ++ beBytes 2 (sum16 (headD s r f n) : Int)) ++ xs = packD s r f xs) := by
    show _ = _
    unfold packD
    rw [hn, List.append_assoc]
  rw [hn] at hx1 hx2
  have HBD : Hid (∀ z ∈ headD s r f n, 0 ≤ z ∧ z ≤ 255) := headD_bd hr (by omega)
  have HHL : Hid ((headD s r f n).length = 9) := headD_len s r f n
  have hq := sum16_lt (headD s r f n)
  have HQ : Hid (0 ≤ (sum16 (headD s r f n) : Int) ∧ (sum16 (headD s r f n) : Int) / 2 ^ (8 * 2) = 0) := ⟨by omega, by rw [show (2 : Int) ^ (8 * 2) = 65536 from rfl]; omega⟩
  have b1 : Below w.heap.size w (w.alloc (.cells #[.int .i64 s, .int .i64 r, .int .i64 f, .slice a n cap] 43)) := (Below.refl w.heap.size w).alloc (Nat.le_refl _) _
  have x1 := Box.new w 43 #[.int .i64 s, .int .i64 r, .int .i64 f, .slice a n cap]
  have HA : Hid (Holds .u8 w.heap.size w (.slice a n cap) xs) := ha
  have HS := isSeq_yes s hs (w.alloc (.cells #[.int .i64 s, .int .i64 r, .int .i64 f, .slice a n cap] 43))
  have HC := dCount_yes (n : Int) (by omega) (w.alloc (.cells #[.int .i64 s, .int .i64 r, .int .i64 f, .slice a n cap] 43))
  have HH := head_ok s r f a n cap hs hr hf hx2 (w.alloc (.cells #[.int .i64 s, .int .i64 r, .int .i64 f, .slice a n cap] 43))
  have d1 : decide (r < 0) = false := decide_eq_false (by omega)
  have d2 : decide (255 < r) = false := decide_eq_false (by omega)
  have d3 : decide (f < 0) = false := decide_eq_false (by omega)
  have d4 : decide (65535 < f) = false := decide_eq_false (by omega)
  obtain ⟨H, hH⟩ : ∃ H, headD s r f n = H := ⟨_, rfl⟩
  obtain ⟨Q, hQ⟩ : ∃ Q, sum16 H = Q := ⟨_, rfl⟩
  rw [hH] at HPK HBD HHL HQ HH
  rw [hQ] at HPK HQ
  have HSQ : Hid (sum16 H = Q) := hQ
  clear hn hs hr hf ha hq hH hQ
  go_enter Tryd.func63, Tryd.ntmps63
  go_wp2_with (first | (go_at_call 24; refine HS.mono ?_; rintro e w' ⟨rfl, rfl⟩) | (go_at_call 21; refine HC.mono ?_; rintro e w' ⟨rfl, rfl⟩))
  refine HH.mono ?_
  rintro e w2 ⟨ra, rc, rfl, h2, b2⟩
  have bb2 := b1.trans (b2.mono (by simp))
  have x2 := x1.next b2
  have HSm := Sum16_at ra 9 rc H HHL.out (by decide) HBD.out w2 _ h2
  rw [HSQ.out] at HSm
  have HP := put_atD ra 9 rc H HHL.out (Q : Int) 2 w2 _ (by decide) (by decide) HQ.out.1 HQ.out.2 (by decide) (Nat.le_refl _) h2
  clear HS HC HH b1 b2 x1 h2
  go_wp2_with fail
  refine HSm.mono ?_
  rintro e w3 ⟨rfl, rfl⟩
  go_wp2_with fail
  refine HP.mono ?_
  rintro e w3 ⟨qa, qc, rfl, o3, b3⟩
  have bb3 := bb2.trans (b3.mono bb2.size)
  have x3 := x2.next b3
  have k3 := x3.cell 3 _ rfl
  have hB3 := x3.lt
  have X5 : Hid (Box (w3.alloc (.cells #[.slice qa (9 + 2) qc, .slice a n cap] 35)) w3.heap.size 35 #[.slice qa (9 + 2) qc, .slice a n cap]) := Box.new w3 _ _
  have B5 : Hid (Below w3.heap.size w3 (w3.alloc (.cells #[.slice qa (9 + 2) qc, .slice a n cap] 35))) := (Below.refl _ _).alloc (Nat.le_refl _) _
  have hHL2 : (H ++ beBytes 2 (Q : Int)).length = 9 + 2 := by rw [List.length_append, beBytes_len, HHL.out]
  have HCc := concat2_ok w3.heap.size qa a qc cap (9 + 2) n (H ++ beBytes 2 (Q : Int)) xs hHL2 HN.out (by decide) (by omega) (by decide) (w3.alloc (.cells #[.slice qa (9 + 2) qc, .slice a n cap] 35)) (X5.out.cell 0 _ rfl) (X5.out.cell 1 _ rfl) ((holds_of_row o3).next B5.out) (((HA.out.below bb3).mono bb3.size).next B5.out)
  rw [HPK.out] at HCc
  have HW : Hid (Below w.heap.size w w3) := bb3
  clear HP HSm x2 x3 b3 bb2 bb3 o3 hHL2
  go_wp2_with fail
  refine HCc.mono ?_
  rintro e w6 ⟨r6, rfl, o6, b6⟩
  have b7 := HW.out.trans ((B5.out.trans (b6.mono (by simp))).mono HW.out.size)
  have o7 : w6.ownsRow w.heap.size 5 1 r6 (n + 11) ((packD s r f xs).map (Value.int .u8)) := by
    have := row_base o6 (show w.heap.size ≤ (w3.alloc (.cells #[.slice qa (9 + 2) qc, .slice a n cap] 35)).heap.size by have := HW.out.size; simp; omega)
    rw [show 9 + 2 + n = n + 11 by omega] at this
    exact this
  clear HCc o6 b6
  go_wp2
  go_ret2
  exact ⟨_, rfl, o7, b7⟩

end Go.Proofs.YtmjidhnlofpliaaDoor

/-
  What data's isSummed and take answer. (Written by tpl_datatake.py.)
-/
namespace Go.Proofs.YtmjidhnlofpliaaDoor
open Go.RowKit

theorem byte_at {zs : List Int} (bz : ∀ z ∈ zs, 0 ≤ z ∧ z ≤ 255) {k : Nat} (h : k < zs.length) : 0 ≤ (zs[k]?.getD 0 : Int) ∧ (zs[k]?.getD 0 : Int) ≤ 255 := by
  rw [List.getElem?_eq_getElem h]
  exact bz _ (List.getElem_mem h)

set_option maxRecDepth 100000 in
set_option maxHeartbeats 2000000 in
theorem isSummed_yes (a : Option Addr) (cap : Nat) (zs : List Int) (hl : dLen zs) (hc : zs.length ≤ cap) (bz : ∀ z ∈ zs, 0 ≤ z ∧ z ≤ 255) (hS : dSum zs) (w : World) (ha : Holds .u8 w.heap.size w (.slice a zs.length cap) zs) :
    Calls Tryd.prog 22 #[.slice a zs.length cap] w fun e w' => e = .returned (.tuple #[.bool true, .int .i64 0]) ∧ w = w' := by
  obtain ⟨hl1, hl2⟩ := hl
  rcases id ha with ⟨_, e⟩ | ⟨b, off, cap', e, hb, hcs⟩
  · rw [e] at hl1; simp at hl1
  cases e
  have HG : Calls Tryd.prog 46 #[.slice (some ⟨b, off, none⟩) zs.length cap, .int .i64 9, .int .i64 2] w fun e w' => e = .returned (.tuple #[.int .i64 (dC zs), .int .i64 0]) ∧ w = w' := get_ok b off cap zs 9 2 w (by decide) (by decide) (by omega) hc (by omega) bz hcs
  have h9 := holds_takeB ha 9 (by omega)
  rw [show (zs.take 9).length = 9 by rw [List.length_take]; omega] at h9
  have HS := Sum16_at (some ⟨b, off, none⟩) 9 cap (zs.take 9) (by rw [List.length_take]; omega) (by decide) (fun z hz => bz z (List.mem_of_mem_take hz)) w _ h9
  unfold dSum at hS
  have hi9 : (9 : Int) ≤ (zs.length : Int) := by omega
  have hi9' : 9 ≤ zs.length := by omega
  have hi9c : (9 : Int) ≤ (cap : Int) := by omega
  have hi9c' : 9 ≤ cap := by omega
  obtain ⟨C, hC⟩ : ∃ C, dC zs = C := ⟨_, rfl⟩
  obtain ⟨Q, hQ⟩ : ∃ Q, ((sum16 (zs.take 9) : Nat) : Int) = Q := ⟨_, rfl⟩
  rw [hC] at HG hS
  rw [hQ] at HS hS
  have d1 : (C == Q) = true := by rw [beq_iff_eq]; exact hS.symm
  clear hS hC hQ bz hcs ha h9
  go_enter Tryd.func22, Tryd.ntmps22
  go_wp2_with fail
  refine HS.mono ?_
  rintro e w1 ⟨rfl, rfl⟩
  go_wp2_with fail
  refine HG.mono ?_
  rintro e w1 ⟨rfl, rfl⟩
  go_wp2
  go_ret2
  exact ⟨by rfl, rfl⟩

theorem heap_row {W : World} {g n base : Nat} {ys : List Int} (h : W.heap[g]? = some (.cells (ys.map (Value.int .u8)).toArray 5 (0, 0))) (hl : ys.length = n) (hn : n ≤ 4096) (hb : base ≤ g) : W.ownsRow base 5 1 (.slice (some ⟨g, 0, none⟩) n n) n (ys.map (Value.int .u8)) := by
  subst hl
  exact ⟨by simp, .inr ⟨g, ys.length, (ys.map (Value.int .u8)).toArray, rfl, hb, h, Nat.le_refl _, by unfold maxLen; omega, by simp, by simp [List.take_of_length_le]⟩⟩

set_option maxRecDepth 100000 in
set_option maxHeartbeats 4000000 in
theorem dtake_at (a : Option Addr) (L cap : Nat) (zs : List Int) (hL : zs.length = L + 11) (hl : dLen zs) (hc : zs.length ≤ cap) (bz : ∀ z ∈ zs, 0 ≤ z ∧ z ≤ 255) (w : World) (ha : Holds .u8 w.heap.size w (.slice a zs.length cap) zs) :
    Calls Tryd.prog 23 #[.slice a zs.length cap] w fun e W' => ∃ g, e = .returned (.tuple #[.agg #[.int .i64 (dS zs), .int .i64 (dR zs), .int .i64 (dF zs), .slice (some ⟨g, 0, none⟩) L L], .int .i64 0]) ∧ W'.ownsRow w.heap.size 5 1 (.slice (some ⟨g, 0, none⟩) L L) L ((dX zs).map (Value.int .u8)) ∧ Below w.heap.size w W' := by
  obtain ⟨i0, hi, hz0, hz1, hz2⟩ := info_parts infoU8
  obtain ⟨hl1, hl2⟩ := hl
  have b0 := (Below.refl w.heap.size w).alloc (Nat.le_refl _) (.cells #[.int .i64 0, .int .i64 0, .int .i64 0, .slice none 0 0] 43)
  have x0 := Box.new w 43 #[.int .i64 0, .int .i64 0, .int .i64 0, .slice none 0 0]
  rcases id ha with ⟨_, e⟩ | ⟨b, off, cap', e, hb, hcs⟩
  · rw [e] at hl1; simp at hl1
  cases e
  have c5 : w.cell? ⟨b, off + 5, none⟩ = some (.int .u8 (dR zs)) := hcs 5 (by omega)
  have hR0 := byte_at bz (k := 5) (by omega)
  have hR0 : 0 ≤ dR zs ∧ dR zs ≤ 255 := hR0
  have HG1 : Calls Tryd.prog 46 #[.slice (some ⟨b, off, none⟩) zs.length cap, .int .i64 1, .int .i64 4] (w.alloc (.cells #[.int .i64 0, .int .i64 0, .int .i64 0, .slice none 0 0] 43)) fun e w' => e = .returned (.tuple #[.int .i64 (dS zs), .int .i64 0]) ∧ (w.alloc (.cells #[.int .i64 0, .int .i64 0, .int .i64 0, .slice none 0 0] 43)) = w' := get_ok b off cap zs 1 4 _ (by decide) (by decide) (by omega) hc (by omega) bz (fun j hj => (b0.cell (p := ⟨b, off + j, none⟩) hb).trans (hcs j hj))
  have HG2 : Calls Tryd.prog 46 #[.slice (some ⟨b, off, none⟩) zs.length cap, .int .i64 6, .int .i64 2] (w.alloc (.cells #[.int .i64 0, .int .i64 0, .int .i64 0, .slice none 0 0] 43)) fun e w' => e = .returned (.tuple #[.int .i64 (dF zs), .int .i64 0]) ∧ (w.alloc (.cells #[.int .i64 0, .int .i64 0, .int .i64 0, .slice none 0 0] 43)) = w' := get_ok b off cap zs 6 2 _ (by decide) (by decide) (by omega) hc (by omega) bz (fun j hj => (b0.cell (p := ⟨b, off + j, none⟩) hb).trans (hcs j hj))
  have e5 := (b0.cell (p := ⟨b, off + 5, none⟩) hb).trans c5
  have HXL : Hid ((dX zs).length = L) := by show (dX zs).length = L; unfold dX; rw [List.length_drop]; omega
  have HCS : Hid (∀ (j : Nat) (v : Value), ((dX zs).map (Value.int .u8))[j]? = some v → w.cell? ((⟨b, off + 11, none⟩ : Addr).add j) = some v) := fun j v hj => by
    have hj1 : j < (dX zs).length := by simpa using (List.getElem?_eq_some_iff.1 hj).1
    have hj2 : j < L := HXL.out ▸ hj1
    rw [Addr.add_lit, Nat.add_assoc, hcs (11 + j) (by omega)]
    unfold dX at hj
    rw [List.getElem?_map, List.getElem?_drop, List.getElem?_eq_getElem (by omega : 11 + j < zs.length)] at hj
    rw [List.getElem?_eq_getElem (by omega : 11 + j < zs.length)]
    exact hj
  obtain ⟨S, hS⟩ : ∃ S, dS zs = S := ⟨_, rfl⟩
  obtain ⟨R, hR⟩ : ∃ M, dR zs = M := ⟨_, rfl⟩
  obtain ⟨F, hF⟩ : ∃ n, dF zs = n := ⟨_, rfl⟩
  obtain ⟨X, hX⟩ : ∃ X, dX zs = X := ⟨_, rfl⟩
  rw [hS] at HG1
  rw [hF] at HG2
  rw [hR] at e5 hR0
  rw [hX] at HXL HCS
  rw [hS, hR, hF, hX]
  have ewR : IntKind.i64.wrap R = R := by rw [IntKind.wrap_i64]; omega
  obtain ⟨Z, hZ⟩ : ∃ Z, zs.length = Z := ⟨_, rfl⟩
  rw [hZ] at hL hl1 hl2 hc HG1 HG2 ⊢
  have HL : Hid (Z = L + 11) := hL
  have hL64 : L ≤ 64 := by omega
  have eL : (Z : Int) - 11 = (L : Int) := by omega
  have eL2 : Z - 11 = L := by omega
  have hi5 : (5 : Int) < (Z : Int) := by omega
  have hi5' : 5 < Z := by omega
  have hi11 : (11 : Int) ≤ (Z : Int) := by omega
  have hi11' : 11 ≤ Z := by omega
  have hcap11 : ¬ cap = 11 := by omega
  clear bz hcs ha c5 hS hR hF hX hZ hL
  go_enter Tryd.func23, Tryd.ntmps23
  go_wp2_with fail
  refine HG1.mono ?_
  rintro e w1 ⟨rfl, rfl⟩
  clear HG1
  go_wp2_with fail
  refine HG2.mono ?_
  rintro e w1 ⟨rfl, rfl⟩
  clear HG2
  go_wp2_with (at_make; refine wpList_make_full _ rfl _ _ 35 rfl (w.heap.size + 1) 5 i0 (.int .u8 0) 1 Tryd.underlying35 hi hz0 hz1 .i64 .i64 _ _ L rfl rfl rfl rfl (by rw [hz2]; omega) (by unfold maxLen; omega) (by simp) ?_; intro w2 hown2 hgrow2)
  have b2 : Below (w.heap.size + 1) (w.alloc (.cells #[.int .i64 0, .int .i64 0, .int .i64 0, .slice none 0 0] 43)) w2 := (Below.refl _ _).grown hgrow2 (by simp) (fun k e => by cases e)
  have o2 := made_noughts hown2
  rw [show (w.alloc (.cells #[.int .i64 0, .int .i64 0, .int .i64 0, .slice none 0 0] 43)).heap.size = w.heap.size + 1 by simp] at o2
  obtain ⟨w3, hr3, hg3, b3'⟩ := run_copy_over (w.heap.size + 1) b (off + 11) L L (cap - 11) X w2 (row_heap o2) (by rw [HXL.out]; exact (Nat.min_self L).symm) (by rw [HXL.out]; exact Nat.le_refl _) (fun j v hj => (b2.cell (p := (⟨b, off + 11, none⟩ : Addr).add j) (by rw [Addr.add_lit]; show b < w.heap.size + 1; omega)).trans ((b0.cell (p := (⟨b, off + 11, none⟩ : Addr).add j) (by rw [Addr.add_lit]; exact hb)).trans (HCS.out j v hj)))
  rw [HXL.out, Nat.sub_self, List.replicate_zero, List.append_nil] at hg3
  have b3 := b2.trans b3'
  have z5 := (b3.cell (p := ⟨b, off + 5, none⟩) (by show b < w.heap.size + 1; omega)).trans e5
  have y3 := x0.below b3 (by simp)
  have z0 := y3.cell 0 _ rfl
  have z1 := y3.cell 1 _ rfl
  have z2 := y3.cell 2 _ rfl
  have z3 := y3.cell 3 _ rfl
  have f0 := y3.free 0
  have f1 := y3.free 1
  have f2 := y3.free 2
  have f3 := y3.free 3
  have hs3 : w.heap.size + 1 < w3.heap.size := (Array.getElem?_eq_some_iff.1 hg3).1
  have bb3 : Below w.heap.size w w3 := b0.trans (b3.mono (by omega))
  have HH : Hid (w3.ownsRow (w.heap.size + 1) 5 1 (.slice (some ⟨w.heap.size + 1, 0, none⟩) L L) L (X.map (Value.int .u8))) := heap_row hg3 HXL.out (by omega) (Nat.le_refl _)
  clear hown2 hgrow2 o2 b2 b3' hg3 e5 HCS b3 b0 x0
  rw [hr3]
  clear hr3
  go_wp2
  refine bodyPost_ret (v := .tuple #[.agg #[.int .i64 S, .int .i64 R, .int .i64 F, .slice (some ⟨w.heap.size + 1, 0, none⟩) L L], .int .i64 0]) (by simp [results, Tryd.results23, go_sem, z0, z1, z2, z3]) rfl ⟨_, rfl, ?_, below_set4d bb3 (Nat.le_refl _) _ _ _ _⟩
  exact row_base (row_set4d HH.out (Nat.lt_succ_self _) _ _ _ _) (Nat.le_succ _)

end Go.Proofs.YtmjidhnlofpliaaDoor

/-
  What package data answers (Read; Make: DataMake). (Written by tpl_datacode.py.)
-/
namespace Go.Proofs.YtmjidhnlofpliaaDoor
open Go.RowKit

set_option maxRecDepth 100000 in
set_option maxHeartbeats 4000000 in
theorem DataRead_ok (a : Option Addr) (cap : Nat) (zs : List Int) (hc : zs.length ≤ cap) (bz : ∀ z ∈ zs, 0 ≤ z ∧ z ≤ 255) (h : okD zs) (w : World) (ha : Holds .u8 w.heap.size w (.slice a zs.length cap) zs) :
    Calls Tryd.prog 8 #[.slice a zs.length cap] w fun e W' => ∃ ra rc, e = .returned (.tuple #[.agg #[.int .i64 (dS zs), .int .i64 (dR zs), .int .i64 (dF zs), .slice ra (dX zs).length rc], .int .i64 0]) ∧ W'.ownsRow w.heap.size 5 1 (.slice ra (dX zs).length rc) (dX zs).length ((dX zs).map (Value.int .u8)) ∧ Below w.heap.size w W' := by
  obtain ⟨hl, h0, hS, hq, hf⟩ := h
  obtain ⟨SR, hSR⟩ : ∃ X, dS zs = X := ⟨_, rfl⟩
  obtain ⟨RR, hRR⟩ : ∃ X, dR zs = X := ⟨_, rfl⟩
  obtain ⟨FR, hFR⟩ : ∃ X, dF zs = X := ⟨_, rfl⟩
  obtain ⟨XR, hXR⟩ : ∃ X, dX zs = X := ⟨_, rfl⟩
  obtain ⟨LR, hLR⟩ : ∃ X, XR.length = X := ⟨_, rfl⟩
  rw [hSR, hRR, hFR, hXR, hLR]
  have b0 := (Below.refl w.heap.size w).alloc (Nat.le_refl _) (.cells #[.int .i64 0, .int .i64 0, .int .i64 0, .slice none 0 0] 43)
  have x0 := Box.new w 43 #[.int .i64 0, .int .i64 0, .int .i64 0, .slice none 0 0]
  obtain ⟨hl1, hl2⟩ := id hl
  rcases id ha with ⟨_, e⟩ | ⟨b, off, cap', e, hb, hcs⟩
  · rw [e] at hl1; simp at hl1
  cases e
  have HC := dCount_yes ((zs.length : Int) - 11) (by omega) (w.alloc (.cells #[.int .i64 0, .int .i64 0, .int .i64 0, .slice none 0 0] 43))
  have e0 : (w.alloc (.cells #[.int .i64 0, .int .i64 0, .int .i64 0, .slice none 0 0] 43)).cell? ⟨b, off, none⟩ = some (.int .u8 (zs[0]?.getD 0)) := (b0.cell (p := ⟨b, off, none⟩) hb).trans (hcs 0 (by omega))
  have hi0 : (0 : Int) < (zs.length : Int) := by omega
  have hi0' : 0 < zs.length := by omega
  have hHa := ha.next b0
  have HCS : Hid (∀ j, j < zs.length → w.cell? ⟨b, off + j, none⟩ = some (.int .u8 (zs[j]?.getD 0))) := hcs
  rw [h0] at e0
  clear h0 hcs
  have HS := isSummed_yes (some ⟨b, off, none⟩) cap zs hl hc bz hS _ hHa
  obtain ⟨L, hL⟩ : ∃ L, zs.length = L + 11 := ⟨zs.length - 11, by omega⟩
  have HT := dtake_at (some ⟨b, off, none⟩) L cap zs hL hl hc bz _ hHa
  have hN := byte_at bz (k := 8) (by omega)
  have HXL : Hid ((dX zs).length = L) := by show (dX zs).length = L; unfold dX; rw [List.length_drop]; omega
  obtain ⟨S, hSe⟩ : ∃ S, dS zs = S := ⟨_, rfl⟩
  obtain ⟨R, hR⟩ : ∃ M, dR zs = M := ⟨_, rfl⟩
  obtain ⟨F, hF⟩ : ∃ n, dF zs = n := ⟨_, rfl⟩
  obtain ⟨X, hX⟩ : ∃ X, dX zs = X := ⟨_, rfl⟩
  have hS0 : 0 ≤ dS zs := by
    rw [dS]
    exact (beNum_bd _ (fun z hz => bz z (List.mem_of_mem_drop (List.mem_of_mem_take hz)))).1
  rw [hSe, hR, hF, hX] at HT
  rw [hX] at HXL
  rw [hSe] at hq hS0
  have HE1 : Hid (SR = S) := hSR.symm.trans hSe
  have HE2 : Hid (RR = R) := hRR.symm.trans hR
  have HE3 : Hid (FR = F) := hFR.symm.trans hF
  have HE4 : Hid (XR = X) := hXR.symm.trans hX
  have HE5 : Hid (LR = L) := hLR.symm.trans ((congrArg List.length HE4.out).trans HXL.out)
  clear hSR hRR hFR hXR hLR
  have e8 : w.cell? ⟨b, off + 8, none⟩ = some (.int .u8 (dN zs)) := HCS.out 8 (by omega)
  obtain ⟨M, hM⟩ : ∃ M, dN zs = M := ⟨_, rfl⟩
  have hN : 0 ≤ dN zs ∧ dN zs ≤ 255 := hN
  rw [hM] at hN e8 hf
  have ewM : IntKind.i64.wrap M = M := by rw [IntKind.wrap_i64]; omega
  have dM : ((L : Int) != M) = false := by rw [bne_eq_false_iff_eq]; omega
  have hi8 : (8 : Int) < (zs.length : Int) := by omega
  have hi8' : 8 < zs.length := by omega
  clear hM hf hN
  clear hS bz hHa ha hSe hR hF hX hL
  go_enter Tryd.func8, Tryd.ntmps8
  go_wp2_with fail
  refine HC.mono ?_
  rintro e w' ⟨rfl, rfl⟩
  clear HC
  go_wp2_with fail
  refine HS.mono ?_
  rintro e w' ⟨rfl, rfl⟩
  clear HS
  go_wp2_with fail
  refine HT.mono ?_
  rintro e w2 ⟨g, rfl, o2, b2⟩
  clear HT
  have bb2 := b0.trans (b2.mono (by simp))
  have y2 := x0.next b2
  have X3 : Hid (Box (w2.alloc (.cells #[.int .i64 S, .int .i64 R, .int .i64 F, .slice (some ⟨g, 0, none⟩) L L] 43)) w2.heap.size 43 #[.int .i64 S, .int .i64 R, .int .i64 F, .slice (some ⟨g, 0, none⟩) L L]) := Box.new w2 _ _
  have b3 : Below w2.heap.size w2 (w2.alloc (.cells #[.int .i64 S, .int .i64 R, .int .i64 F, .slice (some ⟨g, 0, none⟩) L L] 43)) := (Below.refl _ _).alloc (Nat.le_refl _) _
  have HQ := isSeq_yes S ⟨hS0, hq⟩ (w2.alloc (.cells #[.int .i64 S, .int .i64 R, .int .i64 F, .slice (some ⟨g, 0, none⟩) L L] 43))
  have bb3 := bb2.trans (b3.mono bb2.size)
  have y3 := y2.next b3
  have v0 := X3.out.cell 0 _ rfl
  have v1 := X3.out.cell 1 _ rfl
  have v2 := X3.out.cell 2 _ rfl
  have v3 := X3.out.cell 3 _ rfl
  have z0 := y3.cell 0 _ rfl
  have z1 := y3.cell 1 _ rfl
  have z2 := y3.cell 2 _ rfl
  have z3 := y3.cell 3 _ rfl
  have f0 := y3.free 0
  have f1 := y3.free 1
  have f2 := y3.free 2
  have f3 := y3.free 3
  have q8 : (w2.alloc (.cells #[.int .i64 S, .int .i64 R, .int .i64 F, .slice (some ⟨g, 0, none⟩) L L] 43)).cell? ⟨b, off + 8, none⟩ = some (.int .u8 M) := (bb3.cell (p := ⟨b, off + 8, none⟩) hb).trans e8
  have hb3 : b < (w2.alloc (.cells #[.int .i64 S, .int .i64 R, .int .i64 F, .slice (some ⟨g, 0, none⟩) L L] 43)).heap.size := Nat.lt_of_lt_of_le hb bb3.size
  have HO : Hid ((w2.alloc (.cells #[.int .i64 S, .int .i64 R, .int .i64 F, .slice (some ⟨g, 0, none⟩) L L] 43)).ownsRow (w.heap.size + 1) 5 1 (.slice (some ⟨g, 0, none⟩) L L) L (X.map (Value.int .u8))) := row_base (row_below o2 b3 (Nat.le_refl _)) (by simp)
  have hD : w.heap.size < (w2.alloc (.cells #[.int .i64 S, .int .i64 R, .int .i64 F, .slice (some ⟨g, 0, none⟩) L L] 43)).heap.size := y3.lt
  clear b2 b3 y2 hq hS0 e8 o2
  go_wp2_with fail
  refine HQ.mono ?_
  rintro e w' ⟨rfl, rfl⟩
  clear HQ
  go_wp2
  go_quiet (fail)
  go_wp2
  refine bodyPost_ret (v := .tuple #[.agg #[.int .i64 S, .int .i64 R, .int .i64 F, .slice (some ⟨g, 0, none⟩) L L], .int .i64 0]) (by simp [results, Tryd.results8, go_sem, z0, z1, z2, z3]) rfl ⟨some ⟨g, 0, none⟩, L, ?_, ?_, below_set4d (below_drewN bb3 nq) (Nat.le_refl _) _ _ _ _⟩
  · rw [HE1.out, HE2.out, HE3.out, HE5.out]
  · rw [HE4.out, HE5.out]
    exact row_base (row_set4d (row_drewN HO.out nq) (Nat.lt_succ_self _) _ _ _ _) (Nat.le_succ _)

end Go.Proofs.YtmjidhnlofpliaaDoor
