/-
  What the page's Put answers, of a right pile.
-/
import Derived.Test.YtifkjglhdppocaaDoorRefPile
import Derived.Test.YtifkjglhdppocaaDoorSymAppend
namespace Go.Proofs.YtifkjglhdppocaaDoor
open Go.RowKit

set_option maxRecDepth 100000 in
set_option maxHeartbeats 2000000 in
theorem refPut_arg (n p k u : Int) (h : k < 0 ∨ u < 0 ∨ 255 < u) (a : Option Addr) (len cap : Nat) (w : World) :
    Calls Tryd.prog 14 #[.agg #[.int .i64 n, .int .i64 p, .slice a len cap], .int .i64 k, .int .i64 u] w fun e w' => e = .returned (.tuple #[.agg #[.int .i64 0, .int .i64 0, .slice none 0 0], .bool false, .int .i64 1]) ∧ Below w.heap.size w w' := by
  have b0 := ((Below.refl w.heap.size w).alloc (Nat.le_refl _) (.cells #[.int .i64 n, .int .i64 p, .slice a len cap] 24)).alloc (by simp) (.cells #[.int .i64 0, .int .i64 0, .slice none 0 0] 24)
  by_cases h1 : k < 0
  · have d1 : decide (k < 0) = true := decide_eq_true h1
    clear h h1
    go_enter Tryd.func14, Tryd.ntmps14
    go_wp2
    refine bodyPost_ret (v := .tuple #[.agg #[.int .i64 0, .int .i64 0, .slice none 0 0], .bool false, .int .i64 1]) (by simp [results, Tryd.results14, go_sem]) rfl ⟨rfl, ?_⟩
    exact b0
  have d1 : decide (k < 0) = false := decide_eq_false h1
  by_cases h2 : u < 0
  · have d2 : decide (u < 0) = true := decide_eq_true h2
    clear h h1 h2
    go_enter Tryd.func14, Tryd.ntmps14
    go_wp2
    refine bodyPost_ret (v := .tuple #[.agg #[.int .i64 0, .int .i64 0, .slice none 0 0], .bool false, .int .i64 1]) (by simp [results, Tryd.results14, go_sem]) rfl ⟨rfl, ?_⟩
    exact b0
  have d2 : decide (u < 0) = false := decide_eq_false h2
  have d3 : decide (255 < u) = true := decide_eq_true (by omega)
  clear h h1 h2
  go_enter Tryd.func14, Tryd.ntmps14
  go_wp2
  refine bodyPost_ret (v := .tuple #[.agg #[.int .i64 0, .int .i64 0, .slice none 0 0], .bool false, .int .i64 1]) (by simp [results, Tryd.results14, go_sem]) rfl ⟨rfl, ?_⟩
  exact b0

theorem putL_cells (l : List (Int × Int)) (k u : Int) : putL l k u = l.take (aheadOf l k) ++ [(k, u)] ++ l.drop (aheadOf l k) := by unfold putL; simp

set_option maxRecDepth 100000 in
set_option maxHeartbeats 4000000 in
/-- The page's Put, of a right pile and numbers that may be. -/
theorem refPut_in (n p k u : Int) (k0 : 0 ≤ k) (u0 : 0 ≤ u) (u1 : u ≤ 255) (a : Option Addr) (cap : Nat) (l : List (Int × Int)) (hp : PileOk n p l) (w : World) (ha : Syms w.heap.size w (.slice a l.length cap) l) :
    Calls Tryd.prog 14 #[.agg #[.int .i64 n, .int .i64 p, .slice a l.length cap], .int .i64 k, .int .i64 u] w fun e W' => ∃ r, e = .returned (.tuple #[.agg #[.int .i64 n, .int .i64 p, r], .bool (freshN n p l k), .int .i64 0]) ∧ W'.ownsRow w.heap.size 49 2 r (putN n p l k u).length (symCells (putN n p l k u)) ∧ Below w.heap.size w W' := by
  have hlen := pile_len hp
  have hprod := hp.1.prod
  have HP : Hid (PileOk n p l) := hp
  obtain ⟨M, hM⟩ : ∃ M, n * p = M := ⟨_, rfl⟩
  have HM : Hid (n * p = M) := hM
  have hM1 : 1 ≤ M ∧ M ≤ 1024 := by rw [← hM]; exact hprod
  have hl : l.length ≤ 1024 := by rw [hM] at hlen; omega
  have d1 : decide (k < 0) = false := decide_eq_false (by omega)
  have d2 : decide (u < 0) = false := decide_eq_false (by omega)
  have d3 : decide (255 < u) = false := decide_eq_false (by omega)
  have b0 := ((Below.refl w.heap.size w).alloc (Nat.le_refl _) (.cells #[.int .i64 n, .int .i64 p, .slice a l.length cap] 24)).alloc (by simp) (.cells #[.int .i64 0, .int .i64 0, .slice none 0 0] 24)
  have x0 := (Box.new w 24 #[.int .i64 n, .int .i64 p, .slice a l.length cap]).alloc (.cells #[.int .i64 0, .int .i64 0, .slice none 0 0] 24)
  have x1 := Box.new (w.alloc (.cells #[.int .i64 n, .int .i64 p, .slice a l.length cap] 24)) 24 #[.int .i64 0, .int .i64 0, .slice none 0 0]
  have hsz : (w.alloc (.cells #[.int .i64 n, .int .i64 p, .slice a l.length cap] 24)).heap.size = w.heap.size + 1 := by simp
  rw [hsz] at x1
  have ha0 := ha.next b0
  have hs0 : ((w.alloc (.cells #[.int .i64 n, .int .i64 p, .slice a l.length cap] 24)).alloc (.cells #[.int .i64 0, .int .i64 0, .slice none 0 0] 24)).heap.size = w.heap.size + 2 := by simp
  clear hprod hlen hp ha hsz
  go_enter Tryd.func14, Tryd.ntmps14
  go_wp2_with fail
  refine (twinPile_any n p (.slice a l.length cap) l (by omega) _ ha0).mono ?_
  rintro e w1 ⟨r, rfl, o1, b1⟩
  have x2 := x0.next b1
  have x3 := x1.next b1
  rw [hs0] at o1
  obtain ⟨ar, cr, rfl⟩ := (syms_of_row o1).shape
  have hw1 := b1.size
  rw [hs0] at hw1
  have bb1 := b0.trans (b1.mono (by simp; omega))
  clear b0 b1 x0 x1 ha0 hs0
  have bb2 : Below w.heap.size w (w1.alloc (.cells #[.int .i64 n, .int .i64 p, .slice ar l.length cr] 24)) := bb1.alloc bb1.size _
  have X2 : Hid (Box (w1.alloc (.cells #[.int .i64 n, .int .i64 p, .slice ar l.length cr] 24)) w.heap.size 24 #[.int .i64 n, .int .i64 p, .slice a l.length cap]) := x2.alloc _
  have X3 : Hid (Box (w1.alloc (.cells #[.int .i64 n, .int .i64 p, .slice ar l.length cr] 24)) (w.heap.size + 1) 24 #[.int .i64 0, .int .i64 0, .slice none 0 0]) := x3.alloc _
  have X4 : Hid (Box (w1.alloc (.cells #[.int .i64 n, .int .i64 p, .slice ar l.length cr] 24)) w1.heap.size 24 #[.int .i64 n, .int .i64 p, .slice ar l.length cr]) := Box.new _ _ _
  have o2 : (w1.alloc (.cells #[.int .i64 n, .int .i64 p, .slice ar l.length cr] 24)).ownsRow (w.heap.size + 2) 49 2 (.slice ar l.length cr) l.length (symCells l) := o1.alloc _
  have hsw : (w1.alloc (.cells #[.int .i64 n, .int .i64 p, .slice ar l.length cr] 24)).heap.size = w1.heap.size + 1 := by simp
  obtain ⟨w2, hw2⟩ : ∃ w2, w1.alloc (.cells #[.int .i64 n, .int .i64 p, .slice ar l.length cr] 24) = w2 := ⟨_, rfl⟩
  rw [hw2] at bb2 X2 X3 X4 o2 hsw
  have q0 := X2.out.cell 0 _ rfl
  have q1 := X2.out.cell 1 _ rfl
  have z0 := X3.out.cell 0 _ rfl
  have z1 := X3.out.cell 1 _ rfl
  have z2 := X3.out.cell 2 _ rfl
  have zf0 := X3.out.free 0
  have zf1 := X3.out.free 1
  have zf2 := X3.out.free 2
  have y0 := X4.out.cell 0 _ rfl
  have y1 := X4.out.cell 1 _ rfl
  have y2 := X4.out.cell 2 _ rfl
  have hr2 := syms_of_row o2
  have hX3 : w.heap.size + 1 < w2.heap.size := by omega
  have hX4 : w1.heap.size < w2.heap.size := by omega
  clear x2 x3 o1 bb1
  by_cases hMk : M ≤ k
  · have d4 : decide (M ≤ k) = true := decide_eq_true hMk
    have HFR : Hid (freshN n p l k = false) := by
      show freshN n p l k = false
      unfold freshN
      rw [HM.out]
      exact decide_eq_false (by simp [hMk])
    have HPU : Hid (putN n p l k u = l) := by
      show putN n p l k u = l
      unfold putN
      rw [HM.out, if_pos (.inl hMk)]
    clear hMk hr2
    go_wp2
    refine bodyPost_ret (v := .tuple #[.agg #[.int .i64 n, .int .i64 p, .slice ar l.length cr], .bool false, .int .i64 0]) (by simp [results, Tryd.results14, go_sem, z0, z1, z2]) rfl ⟨_, by rw [HFR.out], ?_, ?_⟩
    · rw [HPU.out]
      exact symRow_base (ownsRow_setCell_below (ownsRow_setCell_below (ownsRow_setCell_below o2 (a := ⟨w.heap.size + 1, 0, none⟩) (by simp) _) (a := ⟨w.heap.size + 1, 1, none⟩) (by simp) _) (a := ⟨w.heap.size + 1, 2, none⟩) (by simp) _) (by omega)
    · exact ((bb2.setCell (p := ⟨w.heap.size + 1, 0, none⟩) (by simp) _).setCell (p := ⟨w.heap.size + 1, 1, none⟩) (by simp) _).setCell (p := ⟨w.heap.size + 1, 2, none⟩) (by simp) _
  have d4 : decide (M ≤ k) = false := decide_eq_false hMk
  go_wp2
  clear hw2
  go_loop [10] (fun i => ∃ j : Nat, j ≤ aheadOf l k ∧ i = .int .i64 j) (fun i => l.length - (intOf i).toNat)
  case atStart => exact ⟨0, Nat.zero_le _, rfl⟩
  case round =>
    obtain ⟨j, hj, rfl⟩ := hrel
    have hal := aheadOf_le l k
    by_cases hja : j < aheadOf l k
    · obtain ⟨⟨at_, val⟩, hx⟩ : ∃ x, l[j]? = some x := ⟨l[j]'(by omega), by simp⟩
      obtain ⟨b, off, rfl, hb, hcs⟩ := syms_at hr2 rfl (by omega)
      have c1 := (hcs j _ hx).1
      have h1 := aheadOf_lt hja hx
      have d5 : decide (at_ < k) = true := decide_eq_true h1
      clear hcs hx h1
      go_wp2
      go_round
      case rel => exact ⟨j + 1, by omega, by go_num⟩
      case measure => simp [intOf]; omega
    · have HAJ' : Hid (aheadOf l k = j) := by
        show aheadOf l k = j
        omega
      by_cases hjl : j < l.length
      · obtain ⟨⟨at_, val⟩, hx⟩ : ∃ x, l[j]? = some x := ⟨l[j], by simp⟩
        obtain ⟨b, off, rfl, hb, hcs⟩ := syms_at hr2 rfl (by omega)
        have c1 := (hcs j _ hx).1
        have h1 : ¬ at_ < k := aheadOf_ge (l := l) (k := k) (x := (at_, val)) (by rw [HAJ'.out]; exact hx)
        have d5 : decide (at_ < k) = false := decide_eq_false h1
        by_cases he : at_ = k
        · have d6 : (at_ == k) = true := by simp [he]
          have HHA : Hid (hasAt l k = true) := by
            show hasAt l k = true
            unfold hasAt
            rw [HAJ'.out, hx]
            simpa using he
          have HFR : Hid (freshN n p l k = false) := by
            show freshN n p l k = false
            unfold freshN
            exact decide_eq_false (by simp [HHA.out])
          have HPU : Hid (putN n p l k u = l) := by
            show putN n p l k u = l
            unfold putN
            rw [if_pos (.inr HHA.out)]
          clear hcs hx h1 he hr2 hja hj
          go_wp2
          refine bodyPost_ret (v := .tuple #[.agg #[.int .i64 n, .int .i64 p, .slice (some ⟨b, off, none⟩) l.length cr], .bool false, .int .i64 0]) (by simp [results, Tryd.results14, go_sem, z0, z1, z2]) rfl ⟨_, by rw [HFR.out], ?_, ?_⟩
          · rw [HPU.out]
            exact symRow_base (ownsRow_setCell_below (ownsRow_setCell_below (ownsRow_setCell_below o2 (a := ⟨w.heap.size + 1, 0, none⟩) (by simp) _) (a := ⟨w.heap.size + 1, 1, none⟩) (by simp) _) (a := ⟨w.heap.size + 1, 2, none⟩) (by simp) _) (by omega)
          · exact ((bb2.setCell (p := ⟨w.heap.size + 1, 0, none⟩) (by simp) _).setCell (p := ⟨w.heap.size + 1, 1, none⟩) (by simp) _).setCell (p := ⟨w.heap.size + 1, 2, none⟩) (by simp) _
        · have d6 : (at_ == k) = false := by simp [he]
          have HNA : Hid (hasAt l k = false) := by
            show hasAt l k = false
            unfold hasAt
            rw [HAJ'.out, hx]
            simpa using he
          have HAJ : Hid (some (⟨b, off, none⟩ : Addr) = some ⟨b, off, none⟩) := rfl
          have hcrj : j < cr := by have := row_cap2 o2; omega
          have hcne : ¬ cr = j := by omega
          clear hcs hx h1 he hja hj
          have HFR : Hid (freshN n p l k = true) := by
            show freshN n p l k = true
            unfold freshN
            rw [HM.out]
            exact decide_eq_true (by rw [HNA.out]; simp; omega)
          have HPU : Hid (putN n p l k u = putL l k u) := by
            show putN n p l k u = putL l k u
            unfold putN
            rw [HM.out, if_neg (by rw [HNA.out]; simp; omega)]
          have hT : Syms w2.heap.size w2 (.slice (some ⟨b, off, none⟩) j cr) (l.take j) := syms_take hr2 rfl j (by omega) cr (by rw [HAJ.out] at *; intro e; cases e)
          have hD : Syms w2.heap.size w2 (.slice (some ⟨b, off + j * 2, none⟩) (l.length - j) (cr - j)) (l.drop j) := syms_drop hr2 rfl j hjl _
          have HTL : Hid ((l.take j).length = j) := by
            show (l.take j).length = j
            rw [List.length_take]; omega
          have HDL : Hid ((l.drop j).length = l.length - j) := List.length_drop
          obtain ⟨v3, w3, hr3, ho3, hg3⟩ := run_append_syms (.slice none 0 0) (.slice (some ⟨b, off, none⟩) j cr) 0 w2.heap.size _ [] (l.take j) 22 w2 (World.ownsRow_nil _ _ _ _) hT (Nat.le_refl _) (by omega) (by rw [HTL.out]; omega)
          have b3 : Below w2.heap.size w2 w3 := (Below.refl _ w2).grown hg3 (Nat.le_refl _) (fun q e => by cases e)
          have b3a : Below w2.heap.size w2 (w3.alloc (.cells #[.int .i64 k, .int .i64 u] 49)) := b3.alloc b3.size _
          have hN : Syms (w3.alloc (.cells #[.int .i64 k, .int .i64 u] 49)).heap.size (w3.alloc (.cells #[.int .i64 k, .int .i64 u] 49)) (.slice (some ⟨w3.heap.size, 0, none⟩) 1 1) [(k, u)] := by
            have xb := Box.new w3 49 #[.int .i64 k, .int .i64 u]
            refine .inr ⟨w3.heap.size, 0, 1, rfl, xb.lt, fun q x hq => ?_⟩
            cases q with
            | zero => simp at hq; subst hq; exact ⟨xb.cell 0 _ rfl, xb.cell 1 _ rfl⟩
            | succ q => simp at hq
          obtain ⟨v4, w4, hr4, ho4, hg4⟩ := run_append_syms v3 (.slice (some ⟨w3.heap.size, 0, none⟩) 1 1) (0 + (l.take j).length) w2.heap.size _ ([] ++ l.take j) [(k, u)] 22 (w3.alloc (.cells #[.int .i64 k, .int .i64 u] 49)) (ho3.alloc _) hN b3a.size (by rw [HTL.out]; omega) (by simp)
          have b4 : Below w2.heap.size w2 w4 := b3a.trans ((Below.refl _ _).grown hg4 b3a.size (fun q e => (ho3.lt q e).1))
          obtain ⟨v5, w5, hr5, ho5, hg5⟩ := run_append_syms v4 (.slice (some ⟨b, off + j * 2, none⟩) (l.length - j) (cr - j)) (0 + (l.take j).length + 1) w2.heap.size _ ([] ++ l.take j ++ [(k, u)]) (l.drop j) 22 w4 ho4 (hD.below b4) b4.size (by rw [HTL.out]; omega) (by rw [HDL.out]; omega)
          have b5 : Below w2.heap.size w2 w5 := b4.trans ((Below.refl _ _).grown hg5 b4.size (fun q e => (ho4.lt q e).1))
          obtain ⟨a5, c5, rfl⟩ := (syms_of_row ho5).shape
          have HL5 : Hid (([] ++ l.take j ++ [(k, u)] ++ l.drop j).length = l.length + 1) := by
            show ([] ++ l.take j ++ [(k, u)] ++ l.drop j).length = l.length + 1
            simp <;> omega
          rw [HL5.out] at ho5 hr5
          have HC5 : Hid (symCells ([] ++ l.take j ++ [(k, u)] ++ l.drop j) = symCells (putN n p l k u)) := by
            show symCells ([] ++ l.take j ++ [(k, u)] ++ l.drop j) = symCells (putN n p l k u)
            rw [HPU.out]
            unfold putL
            rw [HAJ'.out]
            simp
          have t2 := (X4.out.below b4 hX4).cell 2 _ rfl
          have m0 := (X4.out.below b5 hX4).cell 0 _ rfl
          have m1 := (X4.out.below b5 hX4).cell 1 _ rfl
          have m2 := (X4.out.below b5 hX4).cell 2 _ rfl
          have mf := (X4.out.below b5 hX4).free 2
          have s0 := (X3.out.below b5 hX3).cell 0 _ rfl
          have s1 := (X3.out.below b5 hX3).cell 1 _ rfl
          have s2 := (X3.out.below b5 hX3).cell 2 _ rfl
          have sf0 := (X3.out.below b5 hX3).free 0
          have sf1 := (X3.out.below b5 hX3).free 1
          have sf2 := (X3.out.below b5 hX3).free 2
          have hne : w1.heap.size ≠ w.heap.size + 1 := by omega
          have HR3 : Hid _ := hr3
          have HR4 : Hid _ := hr4
          have HR5 : Hid _ := hr5
          have HO5 : Hid _ := ho5
          clear hr3 hr4 hr5 ho3 ho4 ho5 hg3 hg4 hg5 hT hD hN b3 b3a hr2
          go_wp2_with (first | (at_builtin; refine wpList_append_known rfl _ _ 22 rfl _ _ rfl rfl _ _ HR3.out ?_) | (at_builtin; refine wpList_append_known rfl _ _ 22 rfl _ _ rfl rfl _ _ HR4.out ?_) | (at_builtin; refine wpList_append_known rfl _ _ 22 rfl _ _ rfl rfl _ _ HR5.out ?_))
          refine bodyPost_ret (v := .tuple #[.agg #[.int .i64 n, .int .i64 p, .slice a5 (l.length + 1) c5], .bool true, .int .i64 0]) (by simp [results, Tryd.results14, go_sem, s0, s1, s2]) rfl ⟨_, by rw [HFR.out], ?_, ?_⟩
          · have hn5 : 0 + (l.take j).length + 1 + (l.drop j).length = l.length + 1 := by rw [HTL.out, HDL.out]; omega
            have ho5 := HO5.out
            rw [HC5.out, hn5] at ho5
            rw [show (putN n p l k u).length = l.length + 1 by rw [HPU.out, putL_len]]
            exact symRow_base (ownsRow_setCell_below (ownsRow_setCell_below (ownsRow_setCell_below (ownsRow_setCell_below ho5 (a := ⟨w1.heap.size, 2, none⟩) hX4 _) (a := ⟨w.heap.size + 1, 0, none⟩) hX3 _) (a := ⟨w.heap.size + 1, 1, none⟩) hX3 _) (a := ⟨w.heap.size + 1, 2, none⟩) hX3 _) (by omega)
          · have bb5 := bb2.trans (b5.mono bb2.size)
            exact (((bb5.setCell (p := ⟨w1.heap.size, 2, none⟩) (by simp; omega) _).setCell (p := ⟨w.heap.size + 1, 0, none⟩) (by simp) _).setCell (p := ⟨w.heap.size + 1, 1, none⟩) (by simp) _).setCell (p := ⟨w.heap.size + 1, 2, none⟩) (by simp) _
      · have hje : j = l.length := by omega
        have HNA : Hid (hasAt l k = false) := by
          show hasAt l k = false
          unfold hasAt
          rw [HAJ'.out, List.getElem?_eq_none (by omega)]
        have HDN : Hid (l.drop j = []) := List.drop_of_length_le (by omega)
        have dlt : decide ((j : Int) < (l.length : Int)) = false := decide_eq_false (by omega)
        cases ar with
        | none =>
          have hz : l.length = 0 ∧ cr = 0 := by
            rcases o2.2 with ⟨e, _⟩ | ⟨g, c, cur, e, _⟩
            · simp only [Value.slice.injEq] at e; exact e.2
            · simp only [Value.slice.injEq] at e; exact absurd e.1 (by simp)
          obtain ⟨hl0, rfl⟩ := hz
          obtain rfl : j = 0 := by omega
          have HL0 : Hid (l.length = 0) := hl0
          have HAJ : Hid ((none : Option Addr) = none) := rfl
          have hr2 : Syms w2.heap.size w2 (.slice none l.length 0) l := hr2
          rw [hl0] at y2 X4 ⊢
          have hl1 : l.length ≤ 1024 := hl
          clear hj hja hjl hl0 hje dlt
          have HFR : Hid (freshN n p l k = true) := by
            show freshN n p l k = true
            unfold freshN
            rw [HM.out]
            exact decide_eq_true (by rw [HNA.out]; simp; omega)
          have HPU : Hid (putN n p l k u = putL l k u) := by
            show putN n p l k u = putL l k u
            unfold putN
            rw [HM.out, if_neg (by rw [HNA.out]; simp; omega)]
          have hT : Syms w2.heap.size w2 (.slice none 0 0) (l.take 0) := syms_take hr2 rfl 0 (by omega) 0 (by rw [HAJ.out] at *; exact fun _ => rfl)
          have hD : Syms w2.heap.size w2 (.slice none 0 0) (l.drop 0) := by rw [HDN.out]; exact syms_nil _ _
          have HTL : Hid ((l.take 0).length = 0) := by
            show (l.take 0).length = 0
            rw [List.length_take]; omega
          have HDL : Hid ((l.drop 0).length = l.length - 0) := List.length_drop
          obtain ⟨v3, w3, hr3, ho3, hg3⟩ := run_append_syms (.slice none 0 0) (.slice none 0 0) 0 w2.heap.size _ [] (l.take 0) 22 w2 (World.ownsRow_nil _ _ _ _) hT (Nat.le_refl _) (by omega) (by rw [HTL.out]; omega)
          have b3 : Below w2.heap.size w2 w3 := (Below.refl _ w2).grown hg3 (Nat.le_refl _) (fun q e => by cases e)
          have b3a : Below w2.heap.size w2 (w3.alloc (.cells #[.int .i64 k, .int .i64 u] 49)) := b3.alloc b3.size _
          have hN : Syms (w3.alloc (.cells #[.int .i64 k, .int .i64 u] 49)).heap.size (w3.alloc (.cells #[.int .i64 k, .int .i64 u] 49)) (.slice (some ⟨w3.heap.size, 0, none⟩) 1 1) [(k, u)] := by
            have xb := Box.new w3 49 #[.int .i64 k, .int .i64 u]
            refine .inr ⟨w3.heap.size, 0, 1, rfl, xb.lt, fun q x hq => ?_⟩
            cases q with
            | zero => simp at hq; subst hq; exact ⟨xb.cell 0 _ rfl, xb.cell 1 _ rfl⟩
            | succ q => simp at hq
          obtain ⟨v4, w4, hr4, ho4, hg4⟩ := run_append_syms v3 (.slice (some ⟨w3.heap.size, 0, none⟩) 1 1) (0 + (l.take 0).length) w2.heap.size _ ([] ++ l.take 0) [(k, u)] 22 (w3.alloc (.cells #[.int .i64 k, .int .i64 u] 49)) (ho3.alloc _) hN b3a.size (by rw [HTL.out]; omega) (by simp)
          have b4 : Below w2.heap.size w2 w4 := b3a.trans ((Below.refl _ _).grown hg4 b3a.size (fun q e => (ho3.lt q e).1))
          obtain ⟨v5, w5, hr5, ho5, hg5⟩ := run_append_syms v4 (.slice none 0 0) (0 + (l.take 0).length + 1) w2.heap.size _ ([] ++ l.take 0 ++ [(k, u)]) (l.drop 0) 22 w4 ho4 (hD.below b4) b4.size (by rw [HTL.out]; omega) (by rw [HDL.out]; omega)
          have b5 : Below w2.heap.size w2 w5 := b4.trans ((Below.refl _ _).grown hg5 b4.size (fun q e => (ho4.lt q e).1))
          obtain ⟨a5, c5, rfl⟩ := (syms_of_row ho5).shape
          have HL5 : Hid (([] ++ l.take 0 ++ [(k, u)] ++ l.drop 0).length = l.length + 1) := by
            show ([] ++ l.take 0 ++ [(k, u)] ++ l.drop 0).length = l.length + 1
            simp <;> omega
          rw [HL5.out] at ho5 hr5
          have HC5 : Hid (symCells ([] ++ l.take 0 ++ [(k, u)] ++ l.drop 0) = symCells (putN n p l k u)) := by
            show symCells ([] ++ l.take 0 ++ [(k, u)] ++ l.drop 0) = symCells (putN n p l k u)
            rw [HPU.out]
            unfold putL
            rw [HAJ'.out]
            simp
          have t2 := (X4.out.below b4 hX4).cell 2 _ rfl
          have m0 := (X4.out.below b5 hX4).cell 0 _ rfl
          have m1 := (X4.out.below b5 hX4).cell 1 _ rfl
          have m2 := (X4.out.below b5 hX4).cell 2 _ rfl
          have mf := (X4.out.below b5 hX4).free 2
          have s0 := (X3.out.below b5 hX3).cell 0 _ rfl
          have s1 := (X3.out.below b5 hX3).cell 1 _ rfl
          have s2 := (X3.out.below b5 hX3).cell 2 _ rfl
          have sf0 := (X3.out.below b5 hX3).free 0
          have sf1 := (X3.out.below b5 hX3).free 1
          have sf2 := (X3.out.below b5 hX3).free 2
          have hne : w1.heap.size ≠ w.heap.size + 1 := by omega
          have HR3 : Hid _ := hr3
          have HR4 : Hid _ := hr4
          have HR5 : Hid _ := hr5
          have HO5 : Hid _ := ho5
          clear hr3 hr4 hr5 ho3 ho4 ho5 hg3 hg4 hg5 hT hD hN b3 b3a hr2
          go_wp2_with (first | (at_builtin; refine wpList_append_known rfl _ _ 22 rfl _ _ rfl rfl _ _ HR3.out ?_) | (at_builtin; refine wpList_append_known rfl _ _ 22 rfl _ _ rfl rfl _ _ HR4.out ?_) | (at_builtin; refine wpList_append_known rfl _ _ 22 rfl _ _ rfl rfl _ _ HR5.out ?_))
          refine bodyPost_ret (v := .tuple #[.agg #[.int .i64 n, .int .i64 p, .slice a5 (l.length + 1) c5], .bool true, .int .i64 0]) (by simp [results, Tryd.results14, go_sem, s0, s1, s2]) rfl ⟨_, by rw [HFR.out], ?_, ?_⟩
          · have hn5 : 0 + (l.take 0).length + 1 + (l.drop 0).length = l.length + 1 := by rw [HTL.out, HDL.out]; omega
            have ho5 := HO5.out
            rw [HC5.out, hn5] at ho5
            rw [show (putN n p l k u).length = l.length + 1 by rw [HPU.out, putL_len]]
            exact symRow_base (ownsRow_setCell_below (ownsRow_setCell_below (ownsRow_setCell_below (ownsRow_setCell_below ho5 (a := ⟨w1.heap.size, 2, none⟩) hX4 _) (a := ⟨w.heap.size + 1, 0, none⟩) hX3 _) (a := ⟨w.heap.size + 1, 1, none⟩) hX3 _) (a := ⟨w.heap.size + 1, 2, none⟩) hX3 _) (by omega)
          · have bb5 := bb2.trans (b5.mono bb2.size)
            exact (((bb5.setCell (p := ⟨w1.heap.size, 2, none⟩) (by simp; omega) _).setCell (p := ⟨w.heap.size + 1, 0, none⟩) (by simp) _).setCell (p := ⟨w.heap.size + 1, 1, none⟩) (by simp) _).setCell (p := ⟨w.heap.size + 1, 2, none⟩) (by simp) _
        | some ad =>
          obtain ⟨b, off, rfl⟩ : ∃ b off, ad = ⟨b, off, none⟩ := by
            rcases o2.2 with ⟨e, _⟩ | ⟨g, c, cur, e, _⟩
            · simp only [Value.slice.injEq] at e; exact absurd e.1 (by simp)
            · simp only [Value.slice.injEq, Option.some.injEq] at e; exact ⟨g, 0, e.1⟩
          have HAJ : Hid (some (⟨b, off, none⟩ : Addr) = some ⟨b, off, none⟩) := rfl
          have hlj : l.length - j = 0 := by omega
          have hjc : j ≤ cr := by have := row_cap2 o2; omega
          have hjl2 : j ≤ l.length := by omega
          by_cases hcj : cr = j
          · have hcj' : (cr = j) = True := eq_true hcj
            clear hj hja hjl hje hcj
            have HFR : Hid (freshN n p l k = true) := by
              show freshN n p l k = true
              unfold freshN
              rw [HM.out]
              exact decide_eq_true (by rw [HNA.out]; simp; omega)
            have HPU : Hid (putN n p l k u = putL l k u) := by
              show putN n p l k u = putL l k u
              unfold putN
              rw [HM.out, if_neg (by rw [HNA.out]; simp; omega)]
            have hT : Syms w2.heap.size w2 (.slice (some ⟨b, off, none⟩) j cr) (l.take j) := syms_take hr2 rfl j (by omega) cr (by rw [HAJ.out] at *; intro e; cases e)
            have hD : Syms w2.heap.size w2 (.slice (some ⟨b, off, none⟩) 0 (cr - j)) (l.drop j) := by rw [HDN.out]; exact syms_empty _ _
            have HTL : Hid ((l.take j).length = j) := by
              show (l.take j).length = j
              rw [List.length_take]; omega
            have HDL : Hid ((l.drop j).length = l.length - j) := List.length_drop
            obtain ⟨v3, w3, hr3, ho3, hg3⟩ := run_append_syms (.slice none 0 0) (.slice (some ⟨b, off, none⟩) j cr) 0 w2.heap.size _ [] (l.take j) 22 w2 (World.ownsRow_nil _ _ _ _) hT (Nat.le_refl _) (by omega) (by rw [HTL.out]; omega)
            have b3 : Below w2.heap.size w2 w3 := (Below.refl _ w2).grown hg3 (Nat.le_refl _) (fun q e => by cases e)
            have b3a : Below w2.heap.size w2 (w3.alloc (.cells #[.int .i64 k, .int .i64 u] 49)) := b3.alloc b3.size _
            have hN : Syms (w3.alloc (.cells #[.int .i64 k, .int .i64 u] 49)).heap.size (w3.alloc (.cells #[.int .i64 k, .int .i64 u] 49)) (.slice (some ⟨w3.heap.size, 0, none⟩) 1 1) [(k, u)] := by
              have xb := Box.new w3 49 #[.int .i64 k, .int .i64 u]
              refine .inr ⟨w3.heap.size, 0, 1, rfl, xb.lt, fun q x hq => ?_⟩
              cases q with
              | zero => simp at hq; subst hq; exact ⟨xb.cell 0 _ rfl, xb.cell 1 _ rfl⟩
              | succ q => simp at hq
            obtain ⟨v4, w4, hr4, ho4, hg4⟩ := run_append_syms v3 (.slice (some ⟨w3.heap.size, 0, none⟩) 1 1) (0 + (l.take j).length) w2.heap.size _ ([] ++ l.take j) [(k, u)] 22 (w3.alloc (.cells #[.int .i64 k, .int .i64 u] 49)) (ho3.alloc _) hN b3a.size (by rw [HTL.out]; omega) (by simp)
            have b4 : Below w2.heap.size w2 w4 := b3a.trans ((Below.refl _ _).grown hg4 b3a.size (fun q e => (ho3.lt q e).1))
            obtain ⟨v5, w5, hr5, ho5, hg5⟩ := run_append_syms v4 (.slice (some ⟨b, off, none⟩) 0 (cr - j)) (0 + (l.take j).length + 1) w2.heap.size _ ([] ++ l.take j ++ [(k, u)]) (l.drop j) 22 w4 ho4 (hD.below b4) b4.size (by rw [HTL.out]; omega) (by rw [HDL.out]; omega)
            have b5 : Below w2.heap.size w2 w5 := b4.trans ((Below.refl _ _).grown hg5 b4.size (fun q e => (ho4.lt q e).1))
            obtain ⟨a5, c5, rfl⟩ := (syms_of_row ho5).shape
            have HL5 : Hid (([] ++ l.take j ++ [(k, u)] ++ l.drop j).length = l.length + 1) := by
              show ([] ++ l.take j ++ [(k, u)] ++ l.drop j).length = l.length + 1
              simp <;> omega
            rw [HL5.out] at ho5 hr5
            have HC5 : Hid (symCells ([] ++ l.take j ++ [(k, u)] ++ l.drop j) = symCells (putN n p l k u)) := by
              show symCells ([] ++ l.take j ++ [(k, u)] ++ l.drop j) = symCells (putN n p l k u)
              rw [HPU.out]
              unfold putL
              rw [HAJ'.out]
              simp
            have t2 := (X4.out.below b4 hX4).cell 2 _ rfl
            have m0 := (X4.out.below b5 hX4).cell 0 _ rfl
            have m1 := (X4.out.below b5 hX4).cell 1 _ rfl
            have m2 := (X4.out.below b5 hX4).cell 2 _ rfl
            have mf := (X4.out.below b5 hX4).free 2
            have s0 := (X3.out.below b5 hX3).cell 0 _ rfl
            have s1 := (X3.out.below b5 hX3).cell 1 _ rfl
            have s2 := (X3.out.below b5 hX3).cell 2 _ rfl
            have sf0 := (X3.out.below b5 hX3).free 0
            have sf1 := (X3.out.below b5 hX3).free 1
            have sf2 := (X3.out.below b5 hX3).free 2
            have hne : w1.heap.size ≠ w.heap.size + 1 := by omega
            have HR3 : Hid _ := hr3
            have HR4 : Hid _ := hr4
            have HR5 : Hid _ := hr5
            have HO5 : Hid _ := ho5
            clear hr3 hr4 hr5 ho3 ho4 ho5 hg3 hg4 hg5 hT hD hN b3 b3a hr2
            go_wp2_with (first | (at_builtin; refine wpList_append_known rfl _ _ 22 rfl _ _ rfl rfl _ _ HR3.out ?_) | (at_builtin; refine wpList_append_known rfl _ _ 22 rfl _ _ rfl rfl _ _ HR4.out ?_) | (at_builtin; refine wpList_append_known rfl _ _ 22 rfl _ _ rfl rfl _ _ HR5.out ?_))
            refine bodyPost_ret (v := .tuple #[.agg #[.int .i64 n, .int .i64 p, .slice a5 (l.length + 1) c5], .bool true, .int .i64 0]) (by simp [results, Tryd.results14, go_sem, s0, s1, s2]) rfl ⟨_, by rw [HFR.out], ?_, ?_⟩
            · have hn5 : 0 + (l.take j).length + 1 + (l.drop j).length = l.length + 1 := by rw [HTL.out, HDL.out]; omega
              have ho5 := HO5.out
              rw [HC5.out, hn5] at ho5
              rw [show (putN n p l k u).length = l.length + 1 by rw [HPU.out, putL_len]]
              exact symRow_base (ownsRow_setCell_below (ownsRow_setCell_below (ownsRow_setCell_below (ownsRow_setCell_below ho5 (a := ⟨w1.heap.size, 2, none⟩) hX4 _) (a := ⟨w.heap.size + 1, 0, none⟩) hX3 _) (a := ⟨w.heap.size + 1, 1, none⟩) hX3 _) (a := ⟨w.heap.size + 1, 2, none⟩) hX3 _) (by omega)
            · have bb5 := bb2.trans (b5.mono bb2.size)
              exact (((bb5.setCell (p := ⟨w1.heap.size, 2, none⟩) (by simp; omega) _).setCell (p := ⟨w.heap.size + 1, 0, none⟩) (by simp) _).setCell (p := ⟨w.heap.size + 1, 1, none⟩) (by simp) _).setCell (p := ⟨w.heap.size + 1, 2, none⟩) (by simp) _
          · clear hj hja hjl hje
            have HFR : Hid (freshN n p l k = true) := by
              show freshN n p l k = true
              unfold freshN
              rw [HM.out]
              exact decide_eq_true (by rw [HNA.out]; simp; omega)
            have HPU : Hid (putN n p l k u = putL l k u) := by
              show putN n p l k u = putL l k u
              unfold putN
              rw [HM.out, if_neg (by rw [HNA.out]; simp; omega)]
            have hT : Syms w2.heap.size w2 (.slice (some ⟨b, off, none⟩) j cr) (l.take j) := syms_take hr2 rfl j (by omega) cr (by rw [HAJ.out] at *; intro e; cases e)
            have hD : Syms w2.heap.size w2 (.slice (some ⟨b, off + j * 2, none⟩) 0 (cr - j)) (l.drop j) := by rw [HDN.out]; exact syms_empty _ _
            have HTL : Hid ((l.take j).length = j) := by
              show (l.take j).length = j
              rw [List.length_take]; omega
            have HDL : Hid ((l.drop j).length = l.length - j) := List.length_drop
            obtain ⟨v3, w3, hr3, ho3, hg3⟩ := run_append_syms (.slice none 0 0) (.slice (some ⟨b, off, none⟩) j cr) 0 w2.heap.size _ [] (l.take j) 22 w2 (World.ownsRow_nil _ _ _ _) hT (Nat.le_refl _) (by omega) (by rw [HTL.out]; omega)
            have b3 : Below w2.heap.size w2 w3 := (Below.refl _ w2).grown hg3 (Nat.le_refl _) (fun q e => by cases e)
            have b3a : Below w2.heap.size w2 (w3.alloc (.cells #[.int .i64 k, .int .i64 u] 49)) := b3.alloc b3.size _
            have hN : Syms (w3.alloc (.cells #[.int .i64 k, .int .i64 u] 49)).heap.size (w3.alloc (.cells #[.int .i64 k, .int .i64 u] 49)) (.slice (some ⟨w3.heap.size, 0, none⟩) 1 1) [(k, u)] := by
              have xb := Box.new w3 49 #[.int .i64 k, .int .i64 u]
              refine .inr ⟨w3.heap.size, 0, 1, rfl, xb.lt, fun q x hq => ?_⟩
              cases q with
              | zero => simp at hq; subst hq; exact ⟨xb.cell 0 _ rfl, xb.cell 1 _ rfl⟩
              | succ q => simp at hq
            obtain ⟨v4, w4, hr4, ho4, hg4⟩ := run_append_syms v3 (.slice (some ⟨w3.heap.size, 0, none⟩) 1 1) (0 + (l.take j).length) w2.heap.size _ ([] ++ l.take j) [(k, u)] 22 (w3.alloc (.cells #[.int .i64 k, .int .i64 u] 49)) (ho3.alloc _) hN b3a.size (by rw [HTL.out]; omega) (by simp)
            have b4 : Below w2.heap.size w2 w4 := b3a.trans ((Below.refl _ _).grown hg4 b3a.size (fun q e => (ho3.lt q e).1))
            obtain ⟨v5, w5, hr5, ho5, hg5⟩ := run_append_syms v4 (.slice (some ⟨b, off + j * 2, none⟩) 0 (cr - j)) (0 + (l.take j).length + 1) w2.heap.size _ ([] ++ l.take j ++ [(k, u)]) (l.drop j) 22 w4 ho4 (hD.below b4) b4.size (by rw [HTL.out]; omega) (by rw [HDL.out]; omega)
            have b5 : Below w2.heap.size w2 w5 := b4.trans ((Below.refl _ _).grown hg5 b4.size (fun q e => (ho4.lt q e).1))
            obtain ⟨a5, c5, rfl⟩ := (syms_of_row ho5).shape
            have HL5 : Hid (([] ++ l.take j ++ [(k, u)] ++ l.drop j).length = l.length + 1) := by
              show ([] ++ l.take j ++ [(k, u)] ++ l.drop j).length = l.length + 1
              simp <;> omega
            rw [HL5.out] at ho5 hr5
            have HC5 : Hid (symCells ([] ++ l.take j ++ [(k, u)] ++ l.drop j) = symCells (putN n p l k u)) := by
              show symCells ([] ++ l.take j ++ [(k, u)] ++ l.drop j) = symCells (putN n p l k u)
              rw [HPU.out]
              unfold putL
              rw [HAJ'.out]
              simp
            have t2 := (X4.out.below b4 hX4).cell 2 _ rfl
            have m0 := (X4.out.below b5 hX4).cell 0 _ rfl
            have m1 := (X4.out.below b5 hX4).cell 1 _ rfl
            have m2 := (X4.out.below b5 hX4).cell 2 _ rfl
            have mf := (X4.out.below b5 hX4).free 2
            have s0 := (X3.out.below b5 hX3).cell 0 _ rfl
            have s1 := (X3.out.below b5 hX3).cell 1 _ rfl
            have s2 := (X3.out.below b5 hX3).cell 2 _ rfl
            have sf0 := (X3.out.below b5 hX3).free 0
            have sf1 := (X3.out.below b5 hX3).free 1
            have sf2 := (X3.out.below b5 hX3).free 2
            have hne : w1.heap.size ≠ w.heap.size + 1 := by omega
            have HR3 : Hid _ := hr3
            have HR4 : Hid _ := hr4
            have HR5 : Hid _ := hr5
            have HO5 : Hid _ := ho5
            clear hr3 hr4 hr5 ho3 ho4 ho5 hg3 hg4 hg5 hT hD hN b3 b3a hr2
            go_wp2_with (first | (at_builtin; refine wpList_append_known rfl _ _ 22 rfl _ _ rfl rfl _ _ HR3.out ?_) | (at_builtin; refine wpList_append_known rfl _ _ 22 rfl _ _ rfl rfl _ _ HR4.out ?_) | (at_builtin; refine wpList_append_known rfl _ _ 22 rfl _ _ rfl rfl _ _ HR5.out ?_))
            refine bodyPost_ret (v := .tuple #[.agg #[.int .i64 n, .int .i64 p, .slice a5 (l.length + 1) c5], .bool true, .int .i64 0]) (by simp [results, Tryd.results14, go_sem, s0, s1, s2]) rfl ⟨_, by rw [HFR.out], ?_, ?_⟩
            · have hn5 : 0 + (l.take j).length + 1 + (l.drop j).length = l.length + 1 := by rw [HTL.out, HDL.out]; omega
              have ho5 := HO5.out
              rw [HC5.out, hn5] at ho5
              rw [show (putN n p l k u).length = l.length + 1 by rw [HPU.out, putL_len]]
              exact symRow_base (ownsRow_setCell_below (ownsRow_setCell_below (ownsRow_setCell_below (ownsRow_setCell_below ho5 (a := ⟨w1.heap.size, 2, none⟩) hX4 _) (a := ⟨w.heap.size + 1, 0, none⟩) hX3 _) (a := ⟨w.heap.size + 1, 1, none⟩) hX3 _) (a := ⟨w.heap.size + 1, 2, none⟩) hX3 _) (by omega)
            · have bb5 := bb2.trans (b5.mono bb2.size)
              exact (((bb5.setCell (p := ⟨w1.heap.size, 2, none⟩) (by simp; omega) _).setCell (p := ⟨w.heap.size + 1, 0, none⟩) (by simp) _).setCell (p := ⟨w.heap.size + 1, 1, none⟩) (by simp) _).setCell (p := ⟨w.heap.size + 1, 2, none⟩) (by simp) _

end Go.Proofs.YtifkjglhdppocaaDoor
