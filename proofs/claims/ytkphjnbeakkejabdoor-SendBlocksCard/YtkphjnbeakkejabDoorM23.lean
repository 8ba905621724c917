/-
  What the page's Packet answers, of data that may be. (Written by tpl_refdata.py.)
-/
import Derived.Test.YtkphjnbeakkejabDoorM06
import Derived.Test.YtkphjnbeakkejabDoorM10
import Derived.Test.YtkphjnbeakkejabDoorM21
import Derived.Test.YtkphjnbeakkejabDoorM22
import Derived.Deep.Cut
import Derived.Deep.CutRange
import Derived.Deep.DeepCutAuto
namespace Go.Proofs.YtkphjnbeakkejabDoor
open Go.RowKit

theorem Box.grown {W W' : World} {B : Nat} {t : TypeId} {cs : Array Value} {ob : Option Nat} (h : Box W B t cs) (hg : W.grownBy W' ob) (hne : ob ≠ some B) : Box W' B t cs := (hg.block B h.lt hne.symm).trans h
theorem box_holds1 {W : World} {B : Nat} {t : TypeId} {x : Int} (h : Box W B t #[.int .u8 x]) : Holds .u8 W.heap.size W (.slice (some ⟨B, 0, none⟩) 1 1) [x] :=
  .inr ⟨B, 0, 1, rfl, h.lt, fun j hj => by
    have : j = 0 := by simpa using hj
    subst this
    exact h.cell 0 _ rfl⟩

end Go.Proofs.YtkphjnbeakkejabDoor

/-
  What package block's take answers: what bytes say, right or not.
-/
namespace Go.Proofs.YtkphjnbeakkejabDoor
open Go.RowKit

end Go.Proofs.YtkphjnbeakkejabDoor

/-
  What the page's ReadData answers, whatever it is asked. (Written by tpl_refdata.py.)
-/
namespace Go.Proofs.YtkphjnbeakkejabDoor
open Go.RowKit

end Go.Proofs.YtkphjnbeakkejabDoor

/-
  What slices.Concat of two texts answers; data's isSeq, isCount.
-/
namespace Go.Proofs.YtkphjnbeakkejabDoor
open Go.RowKit

set_option maxRecDepth 100000 in
set_option maxHeartbeats 4000000 in
/-- slices.Concat of two texts, the first of which has bytes. -/
theorem concat2_ok (g : Nat) (a1 a2 : Option Addr) (c1 c2 : Nat) (n1 n2 : Nat) (l1 l2 : List Int) (e1 : l1.length = n1) (e2 : l2.length = n2) (p1 : n1 ≤ 1048576) (p2 : n2 ≤ 1048576) (h0 : 0 < n1) (w : World)
    (k1 : w.cell? ⟨g, 0, none⟩ = some (.slice a1 n1 c1)) (k2 : w.cell? ⟨g, 1, none⟩ = some (.slice a2 n2 c2))
    (h1 : Holds .u8 w.heap.size w (.slice a1 n1 c1) l1) (h2 : Holds .u8 w.heap.size w (.slice a2 n2 c2) l2) :
    Calls Tryd.prog 29 #[.slice (some ⟨g, 0, none⟩) 2 2] w fun e W' => ∃ r, e = .returned r ∧ W'.ownsRow w.heap.size 5 1 r (n1 + n2) ((l1 ++ l2).map (Value.int .u8)) ∧ Below w.heap.size w W' := by
  have hg : g < w.heap.size := cell_block_lt k1
  have H1 : Hid (Holds .u8 w.heap.size w (.slice a1 n1 c1) l1) := h1
  have H2 : Hid (Holds .u8 w.heap.size w (.slice a2 n2 c2) l2) := h2
  have E1 : Hid (l1.length = n1) := e1
  have E2 : Hid (l2.length = n2) := e2
  clear e1 e2 h1 h2
  go_enter Tryd.func29, Tryd.ntmps29
  go_wp2
  go_loop [3, 11] (fun s i => (s = .int .i64 0 ∧ i = .int .i64 0) ∨ (s = .int .i64 n1 ∧ i = .int .i64 1) ∨ (s = .int .i64 ((n1 + n2 : Nat) : Int) ∧ i = .int .i64 2)) (fun _ i => 2 - (intOf i).toNat)
  case atStart => exact .inl ⟨rfl, rfl⟩
  case round =>
    rcases hrel with ⟨rfl, rfl⟩ | ⟨rfl, rfl⟩ | ⟨rfl, rfl⟩
    · go_wp2
      go_round
      case rel => exact .inr (.inl ⟨by go_num, by go_num⟩)
      case measure => simp [intOf]
    · go_wp2
      go_round
      case rel => exact .inr (.inr ⟨by go_num, by go_num⟩)
      case measure => simp [intOf]
    · obtain ⟨m, hm⟩ : ∃ m, n1 + n2 = m := ⟨_, rfl⟩
      have HG := growB_new m (by omega) (by omega) w
      rw [hm]
      have HM : Hid (n1 + n2 = m) := hm
      have hmp : 0 < m := by omega
      clear hm
      go_wp2_with fail
      refine HG.mono ?_
      rintro e w1 ⟨r, rfl, o1, b1⟩
      have hs1 := b1.size
      have q1 := (b1.cell (p := ⟨g, 0, none⟩) hg).trans k1
      have q2 := (b1.cell (p := ⟨g, 1, none⟩) hg).trans k2
      clear HG k1 k2
      go_wp2
      go_loopw [6, 27] (fun v i wr => ((i = .int .i64 0 ∧ wr.ownsRow w.heap.size 5 1 v 0 (([] : List Int).map (Value.int .u8))) ∨ (i = .int .i64 1 ∧ wr.ownsRow w.heap.size 5 1 v n1 (l1.map (Value.int .u8))) ∨ (i = .int .i64 2 ∧ wr.ownsRow w.heap.size 5 1 v (n1 + n2) ((l1 ++ l2).map (Value.int .u8)))) ∧ Below w.heap.size w wr) (fun _ i _ => 2 - (intOf i).toNat)
      case atStart => exact ⟨.inl ⟨rfl, o1⟩, b1⟩
      case round =>
        obtain ⟨hc, hbw⟩ := hrel
        have r1 := (hbw.cell (p := ⟨g, 0, none⟩) hg).trans ((b1.cell (p := ⟨g, 0, none⟩) hg).symm.trans q1)
        have r2 := (hbw.cell (p := ⟨g, 1, none⟩) hg).trans ((b1.cell (p := ⟨g, 1, none⟩) hg).symm.trans q2)
        clear q1 q2 o1
        rcases hc with ⟨rfl, ho⟩ | ⟨rfl, ho⟩ | ⟨rfl, ho⟩
        · obtain ⟨v3, w3, hr3, ho3, hg3⟩ := run_append_u8 _ (.slice a1 n1 c1) 0 w.heap.size _ [] l1 33 wr ho (H1.out.below hbw) hbw.size (by omega) (by rw [E1.out]; omega)
          rw [E1.out, List.nil_append, Nat.zero_add] at ho3
          have b3 := hbw.trans ((Below.refl w.heap.size _).grown hg3 hbw.size (fun q e => (ho.lt q e).1))
          have HR3 : Hid _ := hr3
          clear hr3 ho hg3
          go_wp2_with (at_builtin; refine wpList_append_run rfl _ _ 33 rfl _ _ rfl rfl _ _ HR3.out ?_)
          exact ⟨⟨.inr (.inl ⟨by go_num, ho3⟩), b3⟩, by simp [intOf]⟩
        · obtain ⟨v3, w3, hr3, ho3, hg3⟩ := run_append_u8 _ (.slice a2 n2 c2) n1 w.heap.size _ l1 l2 33 wr ho (H2.out.below hbw) hbw.size (by omega) (by rw [E2.out]; omega)
          rw [E2.out] at ho3
          have b3 := hbw.trans ((Below.refl w.heap.size _).grown hg3 hbw.size (fun q e => (ho.lt q e).1))
          have HR3 : Hid _ := hr3
          clear hr3 ho hg3
          go_wp2_with (at_builtin; refine wpList_append_run rfl _ _ 33 rfl _ _ rfl rfl _ _ HR3.out ?_)
          exact ⟨⟨.inr (.inr ⟨by go_num, ho3⟩), b3⟩, by simp [intOf]⟩
        · go_wp2
          go_ret
          exact ⟨_, rfl, HM.out ▸ ho, hbw⟩

set_option maxHeartbeats 400000 in
theorem isSeq_yes (z : Int) (h : 0 ≤ z ∧ z < 1073741824) (w : World) : Calls Tryd.prog 39 #[.int .i64 z] w fun e w' => e = .returned (.bool true) ∧ w = w' := by
  obtain ⟨h1, h2⟩ := h
  go_enter Tryd.func39, Tryd.ntmps39
  go_wp2
  go_ret
  exact ⟨rfl, rfl⟩
set_option maxHeartbeats 400000 in
theorem dCount_yes (z : Int) (h : 1 ≤ z ∧ z ≤ 64) (w : World) : Calls Tryd.prog 36 #[.int .i64 z] w fun e w' => e = .returned (.bool true) ∧ w = w' := by
  obtain ⟨h1, h2⟩ := h
  go_enter Tryd.func36, Tryd.ntmps36
  go_wp2
  go_ret
  exact ⟨rfl, rfl⟩
end Go.Proofs.YtkphjnbeakkejabDoor

/-
  What data's head and Make answer. (Written by tpl_datamake.py.)
-/
namespace Go.Proofs.YtkphjnbeakkejabDoor
open Go.RowKit

theorem put_atD (a : Option Addr) (n cap : Nat) (zs : List Int) (hn : zs.length = n) (x : Int) (s : Nat) (w : World) (n₀ : Nat) (h1 : 1 ≤ s) (h2 : s ≤ 4) (h3 : 0 ≤ x) (h4 : x / 2 ^ (8 * s) = 0) (h5 : n ≤ 4096 - s) (hn₀ : n₀ ≤ w.heap.size) (hH : Holds .u8 n₀ w (.slice a n cap) zs) :
    Calls Tryd.prog 27 #[.slice a n cap, .int .i64 x, .int .i64 s] w fun e W' => ∃ ra rc, e = .returned (.tuple #[.slice ra (n + s) rc, .int .i64 0]) ∧ W'.ownsRow w.heap.size 5 1 (.slice ra (n + s) rc) (n + s) ((zs ++ beBytes s x).map (Value.int .u8)) ∧ Below w.heap.size w W' := by
  subst hn
  refine (put_ok a cap zs x s w n₀ h1 h2 h3 h4 h5 hn₀ hH).mono ?_
  rintro e W' ⟨r, rfl, o, b⟩
  obtain ⟨ra, rc, rfl⟩ := row_shapeB o
  exact ⟨ra, rc, rfl, o, b⟩

theorem beBytes_one {r : Int} (h : 0 ≤ r ∧ r ≤ 255) : beBytes 1 r = [r] := by
  simp [beBytes, List.range, List.range.loop]
  omega

theorem headD_puts {s r f : Int} {n : Nat} (hr : 0 ≤ r ∧ r ≤ 255) (hn : n ≤ 255) : (((([68] ++ beBytes 4 s) ++ beBytes 1 r) ++ beBytes 2 f) ++ beBytes 1 (n : Int)) = headD s r f n := by
  rw [beBytes_one hr, beBytes_one (r := (n : Int)) (by omega)]
  simp [headD]

set_option maxRecDepth 100000 in
set_option maxHeartbeats 4000000 in
theorem head_ok (s r f : Int) (a : Option Addr) (n cap : Nat) (hs : 0 ≤ s ∧ s < 1073741824) (hr : 0 ≤ r ∧ r ≤ 255) (hf : 0 ≤ f ∧ f ≤ 65535) (hn : n ≤ 64) (w : World) :
    Calls Tryd.prog 79 #[.agg #[.int .i64 s, .int .i64 r, .int .i64 f, .slice a n cap]] w fun e W' => ∃ ra rc, e = .returned (.tuple #[.slice ra 9 rc, .int .i64 0]) ∧ Holds .u8 W'.heap.size W' (.slice ra 9 rc) (headD s r f n) ∧ Below w.heap.size w W' := by
  have HF : Hid _ := headD_puts (s := s) (f := f) hr (show n ≤ 255 by omega)
  have d1 : s / 2 ^ (8 * 4) = 0 := by rw [show (2 : Int) ^ (8 * 4) = 4294967296 from rfl]; omega
  have d2 : r / 2 ^ (8 * 1) = 0 := by rw [show (2 : Int) ^ (8 * 1) = 256 from rfl]; omega
  have d3 : f / 2 ^ (8 * 2) = 0 := by rw [show (2 : Int) ^ (8 * 2) = 65536 from rfl]; omega
  have d4 : (n : Int) / 2 ^ (8 * 1) = 0 := by rw [show (2 : Int) ^ (8 * 1) = 256 from rfl]; omega
  have D1 : Hid (0 ≤ s ∧ s / 2 ^ (8 * 4) = 0) := ⟨hs.1, d1⟩
  have D2 : Hid (0 ≤ r ∧ r / 2 ^ (8 * 1) = 0) := ⟨hr.1, d2⟩
  have D3 : Hid (0 ≤ f ∧ f / 2 ^ (8 * 2) = 0) := ⟨hf.1, d3⟩
  have D4 : Hid (0 ≤ (n : Int) ∧ (n : Int) / 2 ^ (8 * 1) = 0) := ⟨by omega, d4⟩
  clear d1 d2 d3 d4 hs hr hf
  obtain ⟨l0, hl0⟩ : ∃ l, ([68] : List Int) = l := ⟨_, rfl⟩
  have K0 : Hid (l0.length = 1) := by rw [← hl0]; rfl
  obtain ⟨l1, hl1⟩ : ∃ l, l0 ++ beBytes 4 s = l := ⟨_, rfl⟩
  have K1 : Hid (l1.length = 5) := by show l1.length = 5; rw [← hl1, List.length_append, beBytes_len, K0.out]
  obtain ⟨l2, hl2⟩ : ∃ l, l1 ++ beBytes 1 r = l := ⟨_, rfl⟩
  have K2 : Hid (l2.length = 6) := by show l2.length = 6; rw [← hl2, List.length_append, beBytes_len, K1.out]
  obtain ⟨l3, hl3⟩ : ∃ l, l2 ++ beBytes 2 f = l := ⟨_, rfl⟩
  have K3 : Hid (l3.length = 8) := by show l3.length = 8; rw [← hl3, List.length_append, beBytes_len, K2.out]
  obtain ⟨l4, hl4⟩ : ∃ l, l3 ++ beBytes 1 (n : Int) = l := ⟨_, rfl⟩
  have K4 : Hid (l4.length = 9) := by show l4.length = 9; rw [← hl4, List.length_append, beBytes_len, K3.out]
  rw [hl0, hl1, hl2, hl3, hl4] at HF
  have E0 : Hid ([68] = l0) := hl0
  have E1 : Hid (l0 ++ beBytes 4 s = l1) := hl1
  have E2 : Hid (l1 ++ beBytes 1 r = l2) := hl2
  have E3 : Hid (l2 ++ beBytes 2 f = l3) := hl3
  have E4 : Hid (l3 ++ beBytes 1 (n : Int) = l4) := hl4
  clear hl0 hl1 hl2 hl3 hl4
  have b1 : Below w.heap.size w (w.alloc (.cells #[.int .i64 s, .int .i64 r, .int .i64 f, .slice a n cap] 56)) := (Below.refl w.heap.size w).alloc (Nat.le_refl _) _
  go_enter Tryd.func79, Tryd.ntmps79
  go_wp2
  obtain ⟨W3, hW3⟩ : ∃ W, ((w.alloc (.cells #[.int .i64 s, .int .i64 r, .int .i64 f, .slice a n cap] 56)).alloc (.cells #[.int .u8 68] 5)).alloc (.cells #[.int .i64 s, .int .i64 4, .int .i64 r, .int .i64 1, .int .i64 f, .int .i64 2, .int .i64 (n : Int), .int .i64 1] 118) = W := ⟨_, rfl⟩
  have hz3 : W3.heap.size = w.heap.size + 3 := by rw [← hW3]; simp
  have bb3 : Below w.heap.size w W3 := by
    rw [← hW3]
    exact (b1.alloc (by simp) _).alloc (by simp; omega) _
  have x3 : Box W3 (w.heap.size + 1 + 1) 118 #[.int .i64 s, .int .i64 4, .int .i64 r, .int .i64 1, .int .i64 f, .int .i64 2, .int .i64 (n : Int), .int .i64 1] := by
    have := Box.new ((w.alloc (.cells #[.int .i64 s, .int .i64 r, .int .i64 f, .slice a n cap] 56)).alloc (.cells #[.int .u8 68] 5)) 118 #[.int .i64 s, .int .i64 4, .int .i64 r, .int .i64 1, .int .i64 f, .int .i64 2, .int .i64 (n : Int), .int .i64 1]
    rw [hW3] at this
    simpa using this
  have h3 : Holds .u8 W3.heap.size W3 (.slice (some ⟨w.heap.size + 1, 0, none⟩) 1 1) l0 := by
    have := (box_holds1 (Box.new (w.alloc (.cells #[.int .i64 s, .int .i64 r, .int .i64 f, .slice a n cap] 56)) 5 #[.int .u8 68])).next ((Below.refl _ _).alloc (Nat.le_refl _) (.cells #[.int .i64 s, .int .i64 4, .int .i64 r, .int .i64 1, .int .i64 f, .int .i64 2, .int .i64 (n : Int), .int .i64 1] 118))
    rw [hW3, E0.out] at this
    simpa using this
  have H3 : Hid (Holds .u8 W3.heap.size W3 (.slice (some ⟨w.heap.size + 1, 0, none⟩) 1 1) l0) := h3
  have X3 : Hid (Box W3 (w.heap.size + 1 + 1) 118 #[.int .i64 s, .int .i64 4, .int .i64 r, .int .i64 1, .int .i64 f, .int .i64 2, .int .i64 (n : Int), .int .i64 1]) := x3
  have BB3 : Hid (Below w.heap.size w W3) := bb3
  have HZ3 : Hid (W3.heap.size = w.heap.size + 3) := hz3
  rw [hW3]
  clear hW3 h3 x3 bb3 b1 hz3
  go_loopw [4, 25] (fun v i wr => ((i = .int .i64 0 ∧ ∃ a c, v = .slice a 1 c ∧ Holds .u8 wr.heap.size wr (.slice a 1 c) l0) ∨ (i = .int .i64 1 ∧ ∃ a c, v = .slice a 5 c ∧ Holds .u8 wr.heap.size wr (.slice a 5 c) l1) ∨ (i = .int .i64 2 ∧ ∃ a c, v = .slice a 6 c ∧ Holds .u8 wr.heap.size wr (.slice a 6 c) l2) ∨ (i = .int .i64 3 ∧ ∃ a c, v = .slice a 8 c ∧ Holds .u8 wr.heap.size wr (.slice a 8 c) l3) ∨ (i = .int .i64 4 ∧ ∃ a c, v = .slice a 9 c ∧ Holds .u8 wr.heap.size wr (.slice a 9 c) l4)) ∧ Below W3.heap.size W3 wr) (fun _ i _ => 4 - (intOf i).toNat)
  case atStart => exact ⟨.inl ⟨rfl, _, _, rfl, H3.out⟩, Below.refl _ _⟩
  case round =>
    obtain ⟨hc, hbw⟩ := hrel
    have X4 := X3.out.next hbw
    have x0 := X4.cell 0 _ rfl
    have x1 := X4.cell 1 _ rfl
    have x2 := X4.cell 2 _ rfl
    have x3 := X4.cell 3 _ rfl
    have x4 := X4.cell 4 _ rfl
    have x5 := X4.cell 5 _ rfl
    have x6 := X4.cell 6 _ rfl
    have x7 := X4.cell 7 _ rfl
    have hB : w.heap.size + 1 + 1 < wr.heap.size := X4.lt
    have HBW : Hid (Below W3.heap.size W3 wr) := hbw
    have HX4 : Hid _ := X4
    clear hbw X4
    rcases hc with ⟨rfl, a4, c4, rfl, h4⟩ | ⟨rfl, a4, c4, rfl, h4⟩ | ⟨rfl, a4, c4, rfl, h4⟩ | ⟨rfl, a4, c4, rfl, h4⟩ | ⟨rfl, a4, c4, rfl, h4⟩
    · have q4 : Below wr.heap.size wr (wr.alloc (.cells #[.int .i64 s, .int .i64 4] 118)) := (Below.refl _ _).alloc (Nat.le_refl _) _
      have HP := put_atD a4 1 c4 l0 K0.out s 4 (wr.alloc (.cells #[.int .i64 s, .int .i64 4] 118)) _ (by decide) (by decide) D1.out.1 D1.out.2 (by decide) (Nat.le_refl _) (h4.next q4)
      rw [E1.out] at HP
      clear h4
      go_wp2_with fail
      refine HP.mono ?_
      rintro e w5 ⟨ra, rc, rfl, o5, b5⟩
      have h5 : Holds .u8 w5.heap.size w5 (.slice ra 5 rc) l1 := holds_of_row o5
      have b6 := HBW.out.trans ((q4.trans (b5.mono (by simp))).mono HBW.out.size)
      clear HP o5 b5 q4
      go_wp2
      exact ⟨⟨.inr (.inl ⟨by go_num, ra, rc, rfl, h5⟩), b6⟩, by simp [intOf]⟩
    · have q4 : Below wr.heap.size wr (wr.alloc (.cells #[.int .i64 r, .int .i64 1] 118)) := (Below.refl _ _).alloc (Nat.le_refl _) _
      have HP := put_atD a4 5 c4 l1 K1.out r 1 (wr.alloc (.cells #[.int .i64 r, .int .i64 1] 118)) _ (by decide) (by decide) D2.out.1 D2.out.2 (by decide) (Nat.le_refl _) (h4.next q4)
      rw [E2.out] at HP
      clear h4
      go_wp2_with fail
      refine HP.mono ?_
      rintro e w5 ⟨ra, rc, rfl, o5, b5⟩
      have h5 : Holds .u8 w5.heap.size w5 (.slice ra 6 rc) l2 := holds_of_row o5
      have b6 := HBW.out.trans ((q4.trans (b5.mono (by simp))).mono HBW.out.size)
      clear HP o5 b5 q4
      go_wp2
      exact ⟨⟨.inr (.inr (.inl ⟨by go_num, ra, rc, rfl, h5⟩)), b6⟩, by simp [intOf]⟩
    · have q4 : Below wr.heap.size wr (wr.alloc (.cells #[.int .i64 f, .int .i64 2] 118)) := (Below.refl _ _).alloc (Nat.le_refl _) _
      have HP := put_atD a4 6 c4 l2 K2.out f 2 (wr.alloc (.cells #[.int .i64 f, .int .i64 2] 118)) _ (by decide) (by decide) D3.out.1 D3.out.2 (by decide) (Nat.le_refl _) (h4.next q4)
      rw [E3.out] at HP
      clear h4
      go_wp2_with fail
      refine HP.mono ?_
      rintro e w5 ⟨ra, rc, rfl, o5, b5⟩
      have h5 : Holds .u8 w5.heap.size w5 (.slice ra 8 rc) l3 := holds_of_row o5
      have b6 := HBW.out.trans ((q4.trans (b5.mono (by simp))).mono HBW.out.size)
      clear HP o5 b5 q4
      go_wp2
      exact ⟨⟨.inr (.inr (.inr (.inl ⟨by go_num, ra, rc, rfl, h5⟩))), b6⟩, by simp [intOf]⟩
    · have q4 : Below wr.heap.size wr (wr.alloc (.cells #[.int .i64 (n : Int), .int .i64 1] 118)) := (Below.refl _ _).alloc (Nat.le_refl _) _
      have HP := put_atD a4 8 c4 l3 K3.out (n : Int) 1 (wr.alloc (.cells #[.int .i64 (n : Int), .int .i64 1] 118)) _ (by decide) (by decide) D4.out.1 D4.out.2 (by decide) (Nat.le_refl _) (h4.next q4)
      rw [E4.out] at HP
      clear h4
      go_wp2_with fail
      refine HP.mono ?_
      rintro e w5 ⟨ra, rc, rfl, o5, b5⟩
      have h5 : Holds .u8 w5.heap.size w5 (.slice ra 9 rc) l4 := holds_of_row o5
      have b6 := HBW.out.trans ((q4.trans (b5.mono (by simp))).mono HBW.out.size)
      clear HP o5 b5 q4
      go_wp2
      exact ⟨⟨.inr (.inr (.inr (.inr ⟨by go_num, ra, rc, rfl, h5⟩))), b6⟩, by simp [intOf]⟩
    · have b6 := BB3.out.trans (HBW.out.mono BB3.out.size)
      have h6 := h4
      rw [HF.out] at h6
      go_wp2
      go_ret2
      exact ⟨a4, c4, rfl, h6, b6⟩

end Go.Proofs.YtkphjnbeakkejabDoor

/-
  What data's Make answers. (Written by tpl_datamake2.py.)
-/
namespace Go.Proofs.YtkphjnbeakkejabDoor
open Go.RowKit

set_option maxRecDepth 100000 in
set_option maxHeartbeats 4000000 in
theorem DataMake_at (s r f : Int) (a : Option Addr) (n cap : Nat) (xs : List Int) (hn : xs.length = n) (h : RightD s r f xs) (w : World) (ha : Holds .u8 w.heap.size w (.slice a n cap) xs) :
    Calls Tryd.prog 72 #[.agg #[.int .i64 s, .int .i64 r, .int .i64 f, .slice a n cap]] w fun e W' => ∃ q, e = .returned (.tuple #[q, .int .i64 0]) ∧ W'.ownsRow w.heap.size 5 1 q (n + 11) ((packD s r f xs).map (Value.int .u8)) ∧ Below w.heap.size w W' := by
  obtain ⟨hs, hr, hf, hx1, hx2⟩ := h
  have HN : Hid (xs.length = n) := hn
  have HPK : Hid ((headD s r f n ++ beBytes 2 (sum16 (headD s r f n) : Int)) ++ xs = packD s r f xs) := by
    show _ = _
    unfold packD
    rw [hn, List.append_assoc]
  rw [hn] at hx1 hx2
  have HBD : Hid (∀ z ∈ headD s r f n, 0 ≤ z ∧ z ≤ 255) := headD_bd hr (by omega)
  have HHL : Hid ((headD s r f n).length = 9) := headD_len s r f n
  have hq := sum16_lt (headD s r f n)
  have HQ : Hid (0 ≤ (sum16 (headD s r f n) : Int) ∧ (sum16 (headD s r f n) : Int) / 2 ^ (8 * 2) = 0) := ⟨by omega, by rw [show (2 : Int) ^ (8 * 2) = 65536 from rfl]; omega⟩
  have b1 : Below w.heap.size w (w.alloc (.cells #[.int .i64 s, .int .i64 r, .int .i64 f, .slice a n cap] 56)) := (Below.refl w.heap.size w).alloc (Nat.le_refl _) _
  have x1 := Box.new w 56 #[.int .i64 s, .int .i64 r, .int .i64 f, .slice a n cap]
  have HA : Hid (Holds .u8 w.heap.size w (.slice a n cap) xs) := ha
  have HS := isSeq_yes s hs (w.alloc (.cells #[.int .i64 s, .int .i64 r, .int .i64 f, .slice a n cap] 56))
  have HC := dCount_yes (n : Int) (by omega) (w.alloc (.cells #[.int .i64 s, .int .i64 r, .int .i64 f, .slice a n cap] 56))
  have HH := head_ok s r f a n cap hs hr hf hx2 (w.alloc (.cells #[.int .i64 s, .int .i64 r, .int .i64 f, .slice a n cap] 56))
  have d1 : decide (r < 0) = false := decide_eq_false (by omega)
  have d2 : decide (255 < r) = false := decide_eq_false (by omega)
  have d3 : decide (f < 0) = false := decide_eq_false (by omega)
  have d4 : decide (65535 < f) = false := decide_eq_false (by omega)
  obtain ⟨H, hH⟩ : ∃ H, headD s r f n = H := ⟨_, rfl⟩
  obtain ⟨Q, hQ⟩ : ∃ Q, sum16 H = Q := ⟨_, rfl⟩
  rw [hH] at HPK HBD HHL HQ HH
  rw [hQ] at HPK HQ
  have HSQ : Hid (sum16 H = Q) := hQ
  clear hn hs hr hf ha hq hH hQ
  go_enter Tryd.func72, Tryd.ntmps72
  go_wp2_with (first | (go_at_call 39; refine HS.mono ?_; rintro e w' ⟨rfl, rfl⟩) | (go_at_call 36; refine HC.mono ?_; rintro e w' ⟨rfl, rfl⟩))
  refine HH.mono ?_
  rintro e w2 ⟨ra, rc, rfl, h2, b2⟩
  have bb2 := b1.trans (b2.mono (by simp))
  have x2 := x1.next b2
  have HSm := Sum16_at ra 9 rc H HHL.out (by decide) HBD.out w2 _ h2
  rw [HSQ.out] at HSm
  have HP := put_atD ra 9 rc H HHL.out (Q : Int) 2 w2 _ (by decide) (by decide) HQ.out.1 HQ.out.2 (by decide) (Nat.le_refl _) h2
  clear HS HC HH b1 b2 x1 h2
  go_wp2_with fail
  refine HSm.mono ?_
  rintro e w3 ⟨rfl, rfl⟩
  go_wp2_with fail
  refine HP.mono ?_
  rintro e w3 ⟨qa, qc, rfl, o3, b3⟩
  have bb3 := bb2.trans (b3.mono bb2.size)
  have x3 := x2.next b3
  have k3 := x3.cell 3 _ rfl
  have hB3 := x3.lt
  have X5 : Hid (Box (w3.alloc (.cells #[.slice qa (9 + 2) qc, .slice a n cap] 33)) w3.heap.size 33 #[.slice qa (9 + 2) qc, .slice a n cap]) := Box.new w3 _ _
  have B5 : Hid (Below w3.heap.size w3 (w3.alloc (.cells #[.slice qa (9 + 2) qc, .slice a n cap] 33))) := (Below.refl _ _).alloc (Nat.le_refl _) _
  have hHL2 : (H ++ beBytes 2 (Q : Int)).length = 9 + 2 := by rw [List.length_append, beBytes_len, HHL.out]
  have HCc := concat2_ok w3.heap.size qa a qc cap (9 + 2) n (H ++ beBytes 2 (Q : Int)) xs hHL2 HN.out (by decide) (by omega) (by decide) (w3.alloc (.cells #[.slice qa (9 + 2) qc, .slice a n cap] 33)) (X5.out.cell 0 _ rfl) (X5.out.cell 1 _ rfl) ((holds_of_row o3).next B5.out) (((HA.out.below bb3).mono bb3.size).next B5.out)
  rw [HPK.out] at HCc
  have HW : Hid (Below w.heap.size w w3) := bb3
  clear HP HSm x2 x3 b3 bb2 bb3 o3 hHL2
  go_wp2_with fail
  refine HCc.mono ?_
  rintro e w6 ⟨r6, rfl, o6, b6⟩
  have b7 := HW.out.trans ((B5.out.trans (b6.mono (by simp))).mono HW.out.size)
  have o7 : w6.ownsRow w.heap.size 5 1 r6 (n + 11) ((packD s r f xs).map (Value.int .u8)) := by
    have := row_base o6 (show w.heap.size ≤ (w3.alloc (.cells #[.slice qa (9 + 2) qc, .slice a n cap] 33)).heap.size by have := HW.out.size; simp; omega)
    rw [show 9 + 2 + n = n + 11 by omega] at this
    exact this
  clear HCc o6 b6
  go_wp2
  go_ret2
  exact ⟨_, rfl, o7, b7⟩

end Go.Proofs.YtkphjnbeakkejabDoor
