/-
  What pile.Put answers where the symbol is fresh; how the row lies: 2. (Written by tpl_pileput.py.)
-/
import Derived.Test.YtddcloanbpkecaaDoorPilePutCat
import Derived.Deep.RegionWith
namespace Go.Proofs.YtddcloanbpkecaaDoor
open Go.RowKit

set_option maxRecDepth 100000 in
set_option maxHeartbeats 4000000 in
theorem Put_fresh2 (n p : Int) (k u : Int) (k0 : 0 ≤ k) (hk : k ≤ 9223372036854775807) (u0 : 0 ≤ u) (u1 : u ≤ 255) (cap : Nat) (l : List (Int × Int)) (q : Nat) (hq : aheadOf l k = q) (ht : hasAt l k = false) (hMk : k < n * p) (hp : PileOk n p l) (w : World) (ha : Syms w.heap.size w (.slice none l.length cap) l) :
    Calls Tryd.prog 56 #[.agg #[.int .i64 n, .int .i64 p, .slice none l.length cap], .int .i64 k, .int .i64 u] w fun e W' => ∃ r, e = .returned (.tuple #[.agg #[.int .i64 n, .int .i64 p, r], .bool true, .int .i64 0]) ∧ W'.ownsRow w.heap.size 72 2 r (l.length + 1) (symCells (putL l k u)) ∧ Below w.heap.size w W' := by
  obtain ⟨rfl, rfl⟩ : l = [] ∧ cap = 0 := by
    rcases ha with ⟨⟨a', c', e, h'⟩, h⟩ | ⟨b', off', c', e, _⟩
    · simp only [Value.slice.injEq] at e
      obtain ⟨rfl, _, rfl⟩ := e
      exact ⟨h, h' rfl⟩
    · simp only [Value.slice.injEq] at e; exact absurd e.1 (by simp)
  obtain rfl : q = 0 := by rw [← hq]; rfl
  have hl : 0 ≤ 1024 := by have := pile_len hp; have := hp.1.prod; omega
  have HP : Hid (PileOk n p ([] : List (Int × Int))) := hp
  have hpr := hp.1.prod
  obtain ⟨M, hM⟩ : ∃ M, n * p = M := ⟨_, rfl⟩
  have HM : Hid (n * p = M) := hM
  rw [hM] at hpr hMk
  obtain ⟨hM1, hM2⟩ := hpr
  have b0 := ((Below.refl w.heap.size w).alloc (Nat.le_refl _) (.cells #[.int .i64 n, .int .i64 p, .slice none 0 0] 24)).alloc (by simp) (.cells #[.int .i64 0, .int .i64 0, .slice none 0 0] 24)
  have xP : Box ((w.alloc (.cells #[.int .i64 n, .int .i64 p, .slice none 0 0] 24)).alloc (.cells #[.int .i64 0, .int .i64 0, .slice none 0 0] 24)) w.heap.size 24 #[.int .i64 n, .int .i64 p, .slice none 0 0] := (Box.new w 24 #[.int .i64 n, .int .i64 p, .slice none 0 0]).alloc (.cells #[.int .i64 0, .int .i64 0, .slice none 0 0] 24)
  have xR : Box ((w.alloc (.cells #[.int .i64 n, .int .i64 p, .slice none 0 0] 24)).alloc (.cells #[.int .i64 0, .int .i64 0, .slice none 0 0] 24)) (w.heap.size + 1) 24 #[.int .i64 0, .int .i64 0, .slice none 0 0] := by
    have := Box.new (w.alloc (.cells #[.int .i64 n, .int .i64 p, .slice none 0 0] 24)) 24 #[.int .i64 0, .int .i64 0, .slice none 0 0]
    simpa using this
  have ha0 := ha.next b0
  have HC := Check_ok n p none 0 ([] : List (Int × Int)) (by decide) hp _ ha0
  have dk : decide (k < 0) = false := decide_eq_false (by omega)
  have HA : Hid (aheadOf ([] : List (Int × Int)) k = 0) := hq
  have HT : Hid (hasAt ([] : List (Int × Int)) k = false) := ht
  clear hp ha hM hq ht
  go_enter Tryd.func56, Tryd.ntmps56
  go_wp2_with fail
  refine HC.mono ?_
  rintro e w1 ⟨rfl, b1⟩
  replace xP := xP.next b1
  replace xR := xR.next b1
  have ha1 := ha0.next b1
  have bb1 := b0.trans (b1.mono (by simp; omega))
  clear b0 b1 HC ha0
  have c0 := xP.cell 0 _ rfl
  have c1 := xP.cell 1 _ rfl
  have c2 := xP.cell 2 _ rfl
  go_wp2_with fail
  refine (isValue_yes u u0 u1 _).mono ?_
  rintro e w2 ⟨rfl, rfl⟩
  go_wp2_with fail
  refine (find_ok k none 0 ([] : List (Int × Int)) (by decide) HP.out.2.2 w1 ha1).mono ?_
  rw [HA.out, HT.out]
  rintro e w3 ⟨rfl, b3⟩
  replace xP := xP.next b3
  replace xR := xR.next b3
  replace ha1 := ha1.next b3
  have bb3 := bb1.trans (b3.mono bb1.size)
  clear b3 bb1 c0 c1 c2
  have c0 := xP.cell 0 _ rfl
  have c1 := xP.cell 1 _ rfl
  have c2 := xP.cell 2 _ rfl
  have dM : decide (M ≤ k) = false := decide_eq_false (by omega)
  clear hMk
  go_wp2_with fail
  refine (places_ok n p M HM.out hM1 hM2 none 0 0 w3).mono ?_
  rintro e w4 ⟨rfl, b4⟩
  replace xP := xP.next b4
  replace xR := xR.next b4
  replace ha1 := ha1.next b4
  have bb4 := bb3.trans (b4.mono bb3.size)
  clear b4 bb3 c0 c1 c2
  have c0 := xP.cell 0 _ rfl
  have c1 := xP.cell 1 _ rfl
  have c2 := xP.cell 2 _ rfl
  have hql : 0 ≤ 0 := by have h := aheadOf_le ([] : List (Int × Int)) k; rw [HA.out] at h; exact h
  have hT : Syms w4.heap.size w4 (.slice none 0 0) (([] : List (Int × Int)).take 0) := syms_nil _ _
  have hD : Syms w4.heap.size w4 (.slice none 0 0) (([] : List (Int × Int)).drop 0) := syms_nil _ _
  have HCP := concat_put k u ([] : List (Int × Int)) 0 0 HA.out hl (by decide) none none 0 0 w4 hT hD
  have hx1 : w.heap.size < w4.heap.size := xP.lt
  have hx2 : w.heap.size + 1 < w4.heap.size := xR.lt
  clear hT hD ha1
  go_wp2
  have c2D : w4.drew.cell? ⟨w.heap.size, 2, none⟩ = some (.slice none 0 0) := xP.cell 2 _ rfl
  have c2A : (w4.alloc (.cells #[.int .i64 k, .int .i64 u] 72)).drew.cell? ⟨w.heap.size, 2, none⟩ = some (.slice none 0 0) := (xP.alloc _).cell 2 _ rfl
  first | go_region_with (go_at_call 77; refine HCP.mono ?_; rintro e w9 ⟨a9, c9, rfl, o9, b9⟩; have xP9 := xP.next b9; have xR9 := xR.next b9; have m0 := xP9.cell 0 _ rfl; have m1 := xP9.cell 1 _ rfl; have m2 := xP9.cell 2 _ rfl; have mf := xP9.free 2) | fail
  all_goals (
    have bb9 := bb4.trans (b9.mono bb4.size)
    have z0 := xR9.cell 0 _ rfl
    have z1 := xR9.cell 1 _ rfl
    have z2 := xR9.cell 2 _ rfl
    have f0 := xR9.free 0
    have f1 := xR9.free 1
    have f2 := xR9.free 2
    go_wp2
    refine bodyPost_ret (v := .tuple #[.agg #[.int .i64 n, .int .i64 p, .slice a9 (0 + 1) c9], .bool true, .int .i64 0]) (by simp [results, Tryd.results56, go_sem, z0, z1, z2]) rfl ⟨_, rfl, ?_, ?_⟩
    · exact symRow_base (row_set3 (ownsRow_setCell_below o9 (a := ⟨w.heap.size, 2, none⟩) (by simp; omega) _) (by omega) _ _ _) (by omega)
    · exact below_set3 (bb9.setCell (p := ⟨w.heap.size, 2, none⟩) (Nat.le_refl _) _) (D := w.heap.size + 1) (by omega) _ _ _)

end Go.Proofs.YtddcloanbpkecaaDoor
