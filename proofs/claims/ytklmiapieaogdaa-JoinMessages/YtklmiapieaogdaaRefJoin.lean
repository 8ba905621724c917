/-
  What volutekeep.Join, the page's Ends and the page's Join answer. (Written by tpl_refjoin.py.)
-/
import Derived.Test.YtklmiapieaogdaaJoinNums
import Derived.Test.YtklmiapieaogdaaKeepBytes
import Derived.Test.YtklmiapieaogdaaTwins
import Derived.Test.YtklmiapieaogdaaBoxMem
import Derived.Test.YtklmiapieaogdaaRowMem
namespace Go.Proofs.Ytklmiapieaogdaa
open Go.RowKit

theorem apart_nil (p : Value) : Apart p (.slice none 0 0) := by
  cases h : p.ownBlock with
  | none => exact .inl h
  | some g => exact .inr (by rw [h]; simp [Value.ownBlock])

set_option maxRecDepth 100000 in
set_option maxHeartbeats 1000000 in
theorem refEnds_any (o : Bool) (a : Option Addr) (n cap : Nat) (s m : Int) (b : Option Addr) (k bc : Nat) (w : World) :
    Calls Try.prog 9 #[.agg #[.bool o, .slice a n cap], .agg #[.int .i64 s, .int .i64 m, .slice b k bc]] w fun e w' => e = .returned (.bool (endsA o m)) ∧ Below w.heap.size w w' := by
  have b1 := ((Below.refl w.heap.size w).alloc (Nat.le_refl _) (.cells #[.bool o, .slice a n cap] 24)).alloc (by simp) (.cells #[.int .i64 s, .int .i64 m, .slice b k bc] 27)
  unfold endsA
  obtain ⟨p, hp⟩ : ∃ p, (bits .and .i64 m 2 != 0) = p := ⟨_, rfl⟩
  obtain ⟨q, hq⟩ : ∃ q, (bits .and .i64 m 1 != 0) = q := ⟨_, rfl⟩
  rw [hp, hq]
  cases p with
  | false =>
    go_enter Try.func9, Try.ntmps9
    go_wp2
    go_ret
    exact ⟨rfl, b1⟩
  | true =>
    cases o with
    | true =>
      go_enter Try.func9, Try.ntmps9
      go_wp2
      go_ret
      exact ⟨rfl, b1⟩
    | false =>
      cases q with
      | true =>
        go_enter Try.func9, Try.ntmps9
        go_wp2
        go_ret
        exact ⟨rfl, b1⟩
      | false =>
        go_enter Try.func9, Try.ntmps9
        go_wp2
        go_ret
        exact ⟨rfl, b1⟩

set_option maxRecDepth 100000 in
set_option maxHeartbeats 1000000 in
theorem keepJoin_any (o o' : Bool) (v v' : Value) (xs ys : List Int) (w : World) (n₀ n₁ : Nat) (h0 : n₀ ≤ w.heap.size) (h1 : n₁ ≤ w.heap.size) (hy : ys.length ≤ 4611686018427387904) (ha : Holds .u8 n₀ w v xs) (hb : Holds .u8 n₁ w v' ys) :
    Calls Try.prog 12 #[.agg #[.bool o, v], .agg #[.bool o', v']] w fun e w' => e = .returned (.bool (decide (o = o' ∧ xs = ys))) ∧ Below w.heap.size w w' := by
  obtain ⟨a, ca, rfl⟩ := ha.shape
  obtain ⟨b, cb, rfl⟩ := hb.shape
  have b0 := (Below.refl w.heap.size w).alloc (Nat.le_refl _) (.cells #[.bool o, .slice a xs.length ca] 24)
  have b1 := b0.alloc (by simp) (.cells #[.bool o', .slice b ys.length cb] 24)
  have HC := bytes_any (.slice a xs.length ca) (.slice b ys.length cb) xs ys n₀ n₁ _ hy (ha.below (b1.mono h0)) (hb.below (b1.mono h1))
  clear ha hb b0
  by_cases e : o = o'
  · subst e
    have HE : Hid (decide (o = o ∧ xs = ys) = decide (xs = ys)) := by show decide (o = o ∧ xs = ys) = decide (xs = ys); simp
    rw [HE.out]
    cases o with
    | true =>
      go_enter Try.func12, Try.ntmps12
      go_wp2_with fail
      refine HC.mono ?_
      rintro e w2 ⟨rfl, nd, rfl⟩
      go_wp2
      go_ret
      exact ⟨rfl, below_drewN b1 nd⟩
    | false =>
      go_enter Try.func12, Try.ntmps12
      go_wp2_with fail
      refine HC.mono ?_
      rintro e w2 ⟨rfl, nd, rfl⟩
      go_wp2
      go_ret
      exact ⟨rfl, below_drewN b1 nd⟩
  · rw [decide_eq_false (fun h => e h.1)]
    cases o with
    | true =>
      obtain rfl : o' = false := by cases o' with | false => rfl | true => exact absurd rfl e
      clear e HC
      go_enter Try.func12, Try.ntmps12
      go_wp2
      go_ret
      exact ⟨rfl, b1⟩
    | false =>
      obtain rfl : o' = true := by cases o' with | true => rfl | false => exact absurd rfl e
      clear e HC
      go_enter Try.func12, Try.ntmps12
      go_wp2
      go_ret
      exact ⟨rfl, b1⟩

set_option maxRecDepth 100000 in
set_option maxHeartbeats 2000000 in
theorem refJoin_arg (o : Bool) (a : Option Addr) (n cap : Nat) (s m : Int) (b : Option Addr) (k bc : Nat) (t : List Int) (hn : t.length = n) (h : argJ (o, t) m = false) (w : World) : Calls Try.prog 11 #[.agg #[.bool o, .slice a n cap], .agg #[.int .i64 s, .int .i64 m, .slice b k bc]] w fun e W' => e = .returned (.tuple #[.agg #[.bool false, .slice none 0 0], .slice none 0 0, .bool false, .int .i64 1]) ∧ Below w.heap.size w W' := by
  have b1 := (((Below.refl w.heap.size w).alloc (Nat.le_refl _) (.cells #[.bool o, .slice a n cap] 24)).alloc (by simp) (.cells #[.int .i64 s, .int .i64 m, .slice b k bc] 27)).alloc (by simp; omega) (.cells #[.bool false, .slice none 0 0] 24)
  have hA : ¬ (n ≤ 4096 ∧ (o = true ∨ n = 0) ∧ 0 ≤ m ∧ m ≤ 3) := fun g => by
    rw [(argJ_iff (o, t) m).2 ⟨by rw [hn]; exact g.1, by rw [hn]; exact g.2.1, g.2.2⟩] at h
    cases h
  clear hn h
  by_cases h1 : 4096 < n
  · have d1 : decide (4096 < n) = true := decide_eq_true h1
    have d1i : decide (4096 < (n : Int)) = true := decide_eq_true (by omega)
    clear hA h1
    go_enter Try.func11, Try.ntmps11
    go_wp2
    exact bodyPost_ret (v := .tuple #[.agg #[.bool false, .slice none 0 0], .slice none 0 0, .bool false, .int .i64 1]) (by simp [results, Try.results11, go_sem]) rfl ⟨rfl, b1⟩
  have d1 : decide (4096 < n) = false := decide_eq_false h1
  have d1i : decide (4096 < (n : Int)) = false := decide_eq_false (by omega)
  by_cases h2 : o = false ∧ 0 < n
  · obtain ⟨rfl, h2⟩ := h2
    have d2 : decide (0 < n) = true := decide_eq_true h2
    have d2i : decide (0 < (n : Int)) = true := decide_eq_true (by omega)
    clear hA h1 h2
    go_enter Try.func11, Try.ntmps11
    go_wp2
    exact bodyPost_ret (v := .tuple #[.agg #[.bool false, .slice none 0 0], .slice none 0 0, .bool false, .int .i64 1]) (by simp [results, Try.results11, go_sem]) rfl ⟨rfl, b1⟩
  have hB : m < 0 ∨ 3 < m := by
    have h3 : o = true ∨ n = 0 := by cases o with | true => exact .inl rfl | false => exact .inr (by have : ¬ 0 < n := fun g => h2 ⟨rfl, g⟩; omega)
    refine Classical.byContradiction fun g => hA ⟨by omega, h3, by omega, by omega⟩
  have hC : Hid (m < 0 ∨ 3 < m) := hB
  clear hA hB h1
  cases o with
  | true =>
    clear h2
    by_cases h3 : m < 0
    · have d3 : decide (m < 0) = true := decide_eq_true h3
      clear h3
      go_enter Try.func11, Try.ntmps11
      go_wp2
      exact bodyPost_ret (v := .tuple #[.agg #[.bool false, .slice none 0 0], .slice none 0 0, .bool false, .int .i64 1]) (by simp [results, Try.results11, go_sem]) rfl ⟨rfl, b1⟩
    · have d3 : decide (m < 0) = false := decide_eq_false h3
      have d4 : decide (3 < m) = true := decide_eq_true (by have := hC.out; omega)
      clear h3
      go_enter Try.func11, Try.ntmps11
      go_wp2
      exact bodyPost_ret (v := .tuple #[.agg #[.bool false, .slice none 0 0], .slice none 0 0, .bool false, .int .i64 1]) (by simp [results, Try.results11, go_sem]) rfl ⟨rfl, b1⟩
  | false =>
    have d2 : decide (0 < n) = false := decide_eq_false fun g => h2 ⟨rfl, g⟩
    have d2i : decide (0 < (n : Int)) = false := decide_eq_false fun g => h2 ⟨rfl, by omega⟩
    clear h2
    by_cases h3 : m < 0
    · have d3 : decide (m < 0) = true := decide_eq_true h3
      clear h3
      go_enter Try.func11, Try.ntmps11
      go_wp2
      exact bodyPost_ret (v := .tuple #[.agg #[.bool false, .slice none 0 0], .slice none 0 0, .bool false, .int .i64 1]) (by simp [results, Try.results11, go_sem]) rfl ⟨rfl, b1⟩
    · have d3 : decide (m < 0) = false := decide_eq_false h3
      have d4 : decide (3 < m) = true := decide_eq_true (by have := hC.out; omega)
      clear h3
      go_enter Try.func11, Try.ntmps11
      go_wp2
      exact bodyPost_ret (v := .tuple #[.agg #[.bool false, .slice none 0 0], .slice none 0 0, .bool false, .int .i64 1]) (by simp [results, Try.results11, go_sem]) rfl ⟨rfl, b1⟩

set_option maxRecDepth 100000 in
set_option maxHeartbeats 2000000 in
theorem refJoin_len_t (a : Option Addr) (n cap : Nat) (s m : Int) (b : Option Addr) (k bc : Nat) (h1 : n ≤ 4096) (hm0 : 0 ≤ m) (hm1 : m ≤ 3) (h2 : 16 < k) (w : World) : Calls Try.prog 11 #[.agg #[.bool true, .slice a n cap], .agg #[.int .i64 s, .int .i64 m, .slice b k bc]] w fun e W' => e = .returned (.tuple #[.agg #[.bool false, .slice none 0 0], .slice none 0 0, .bool false, .int .i64 2]) ∧ Below w.heap.size w W' := by
  have b1 := (((Below.refl w.heap.size w).alloc (Nat.le_refl _) (.cells #[.bool true, .slice a n cap] 24)).alloc (by simp) (.cells #[.int .i64 s, .int .i64 m, .slice b k bc] 27)).alloc (by simp; omega) (.cells #[.bool false, .slice none 0 0] 24)
  have d1 : decide (4096 < n) = false := decide_eq_false (by omega)
  have d1i : decide (4096 < (n : Int)) = false := decide_eq_false (by omega)
  have d3 : decide (m < 0) = false := decide_eq_false (by omega)
  have d4 : decide (3 < m) = false := decide_eq_false (by omega)
  have d5 : decide (16 < k) = true := decide_eq_true (by omega)
  have d5i : decide (16 < (k : Int)) = true := decide_eq_true (by omega)
  clear h1 h2 hm0 hm1
  go_enter Try.func11, Try.ntmps11
  go_wp2
  exact bodyPost_ret (v := .tuple #[.agg #[.bool false, .slice none 0 0], .slice none 0 0, .bool false, .int .i64 2]) (by simp [results, Try.results11, go_sem]) rfl ⟨rfl, b1⟩

set_option maxRecDepth 100000 in
set_option maxHeartbeats 2000000 in
theorem refJoin_len_f (a : Option Addr) (n cap : Nat) (s m : Int) (b : Option Addr) (k bc : Nat) (h1 : n = 0) (hm0 : 0 ≤ m) (hm1 : m ≤ 3) (h2 : 16 < k) (w : World) : Calls Try.prog 11 #[.agg #[.bool false, .slice a n cap], .agg #[.int .i64 s, .int .i64 m, .slice b k bc]] w fun e W' => e = .returned (.tuple #[.agg #[.bool false, .slice none 0 0], .slice none 0 0, .bool false, .int .i64 2]) ∧ Below w.heap.size w W' := by
  have b1 := (((Below.refl w.heap.size w).alloc (Nat.le_refl _) (.cells #[.bool false, .slice a n cap] 24)).alloc (by simp) (.cells #[.int .i64 s, .int .i64 m, .slice b k bc] 27)).alloc (by simp; omega) (.cells #[.bool false, .slice none 0 0] 24)
  have d1 : decide (4096 < n) = false := decide_eq_false (by omega)
  have d1i : decide (4096 < (n : Int)) = false := decide_eq_false (by omega)
  have d2 : decide (0 < n) = false := decide_eq_false (by omega)
  have d2i : decide (0 < (n : Int)) = false := decide_eq_false (by omega)
  have d3 : decide (m < 0) = false := decide_eq_false (by omega)
  have d4 : decide (3 < m) = false := decide_eq_false (by omega)
  have d5 : decide (16 < k) = true := decide_eq_true (by omega)
  have d5i : decide (16 < (k : Int)) = true := decide_eq_true (by omega)
  clear h1 h2 hm0 hm1
  go_enter Try.func11, Try.ntmps11
  go_wp2
  exact bodyPost_ret (v := .tuple #[.agg #[.bool false, .slice none 0 0], .slice none 0 0, .bool false, .int .i64 2]) (by simp [results, Try.results11, go_sem]) rfl ⟨rfl, b1⟩

set_option maxRecDepth 100000 in
set_option maxHeartbeats 4000000 in
theorem refJoin_shut (a : Option Addr) (n cap : Nat) (s m : Int) (b : Option Addr) (k bc : Nat) (h1 : n = 0) (hm0 : 0 ≤ m) (hm1 : m ≤ 3) (h2 : k ≤ 16) (hf : firstM m = false) (t xs : List Int) (hn : t.length = n) (hk : xs.length = k) (w : World) (ha : Holds .u8 w.heap.size w (.slice a n cap) t) (hb : Holds .u8 w.heap.size w (.slice b k bc) xs) :
    Calls Try.prog 11 #[.agg #[.bool false, .slice a n cap], .agg #[.int .i64 s, .int .i64 m, .slice b k bc]] w fun e W' => ∃ qa qc, e = .returned (.tuple #[.agg #[.bool false, .slice qa 0 qc], .slice none 0 0, .bool false, .int .i64 0]) ∧ W'.ownsRow w.heap.size 5 1 (.slice qa 0 qc) (([] : List Int)).length ((([] : List Int)).map (Value.int .u8)) ∧ Below w.heap.size w W' := by
  have b1 := (((Below.refl w.heap.size w).alloc (Nat.le_refl _) (.cells #[.bool false, .slice a n cap] 24)).alloc (by simp) (.cells #[.int .i64 s, .int .i64 m, .slice b k bc] 27)).alloc (by simp; omega) (.cells #[.bool false, .slice none 0 0] 24)
  have x2 := ((Box.new w 24 #[.bool false, .slice a n cap]).alloc (.cells #[.int .i64 s, .int .i64 m, .slice b k bc] 27)).alloc (.cells #[.bool false, .slice none 0 0] 24)
  have x3 := (Box.new (w.alloc (.cells #[.bool false, .slice a n cap] 24)) 27 #[.int .i64 s, .int .i64 m, .slice b k bc]).alloc (.cells #[.bool false, .slice none 0 0] 24)
  have x4 := Box.new ((w.alloc (.cells #[.bool false, .slice a n cap] 24)).alloc (.cells #[.int .i64 s, .int .i64 m, .slice b k bc] 27)) 24 #[.bool false, .slice none 0 0]
  rw [show (w.alloc (.cells #[.bool false, .slice a n cap] 24)).heap.size = w.heap.size + 1 by simp] at x3
  rw [show ((w.alloc (.cells #[.bool false, .slice a n cap] 24)).alloc (.cells #[.int .i64 s, .int .i64 m, .slice b k bc] 27)).heap.size = w.heap.size + 2 by simp] at x4
  have d1 : decide (4096 < n) = false := decide_eq_false (by omega)
  have d1i : decide (4096 < (n : Int)) = false := decide_eq_false (by omega)
  have d2 : decide (0 < n) = false := decide_eq_false (by omega)
  have d2i : decide (0 < (n : Int)) = false := decide_eq_false (by omega)
  have d3 : decide (m < 0) = false := decide_eq_false (by omega)
  have d4 : decide (3 < m) = false := decide_eq_false (by omega)
  have d5 : decide (16 < k) = false := decide_eq_false (by omega)
  have d5i : decide (16 < (k : Int)) = false := decide_eq_false (by omega)
  have f1 : (bits .and .i64 m 1 != 0) = false := (and1_first hm0 hm1).trans hf
  have ht4 : n ≤ 4096 := by omega
  have hk16 : k ≤ 16 := h2
  have H1 : Hid (n = 0) := h1
  have HN : Hid (t.length = n) := hn
  have HK : Hid (xs.length = k) := hk
  clear h1 h2 hf hn hk
  have ha1 := ha.next b1
  have hb1 := hb.next b1
  have HT := twin_any (.slice a n cap) t _ (by rw [HN.out]; omega) _ ha1
  go_enter Try.func11, Try.ntmps11
  go_wp2_with fail
  refine HT.mono ?_
  rintro e w2 ⟨q, rfl, o2, b2⟩
  rw [HN.out, show (((w.alloc (.cells #[.bool false, .slice a n cap] 24)).alloc (.cells #[.int .i64 s, .int .i64 m, .slice b k bc] 27)).alloc (.cells #[.bool false, .slice none 0 0] 24)).heap.size = w.heap.size + 3 by simp] at o2
  obtain ⟨qa, qc, rfl⟩ : ∃ qa qc, q = .slice qa n qc := by obtain ⟨_, qa, qc, e, _⟩ := kept_of_row (kd := .u8) (zs := t) o2; rw [HN.out] at e; exact ⟨qa, qc, e⟩
  have y2 := x2.next b2
  have y3 := x3.next b2
  have y4 := x4.next b2
  have hb2 := hb1.next b2
  have bb := b1.trans (b2.mono b1.size)
  have hsz : w.heap.size + 3 ≤ w2.heap.size := by have := b2.size; simp at this; omega
  have c20 := y2.cell 0 _ rfl
  have c21 := y2.cell 1 _ rfl
  have g20 := y2.free 0
  have g21 := y2.free 1
  have c30 := y3.cell 0 _ rfl
  have c31 := y3.cell 1 _ rfl
  have c32 := y3.cell 2 _ rfl
  have c40 := y4.cell 0 _ rfl
  have c41 := y4.cell 1 _ rfl
  have g40 := y4.free 0
  have g41 := y4.free 1
  clear HT x2 x3 x4 b1 ha1 hb1
  go_wp2
  have bE := ((((((bb).setCell (p := ⟨w.heap.size, 1, none⟩) (by simp only; omega) (.slice qa n qc))).setCell (p := ⟨w.heap.size + 1 + 1, 0, none⟩) (by simp only; omega) (.bool false))).setCell (p := ⟨w.heap.size + 1 + 1, 1, none⟩) (by simp only; omega) (.slice qa n qc))
  have oE := rowK_base (ownsRow_setCell_below ((ownsRow_setCell_below ((ownsRow_setCell_below (o2) (a := ⟨w.heap.size, 1, none⟩) (by simp only; omega) (.slice qa n qc))) (a := ⟨w.heap.size + 1 + 1, 0, none⟩) (by simp only; omega) (.bool false))) (a := ⟨w.heap.size + 1 + 1, 1, none⟩) (by simp only; omega) (.slice qa n qc)) (show w.heap.size ≤ _ by omega)
  have hn0 := H1.out
  subst hn0
  have ht0 : t = [] := List.length_eq_zero_iff.1 HN.out
  subst ht0
  exact bodyPost_ret (v := .tuple #[.agg #[.bool false, .slice qa 0 qc], .slice none 0 0, .bool false, .int .i64 0]) (by simp [results, Try.results11, go_sem, c40, c41]) rfl ⟨_, _, rfl, oE, bE⟩

set_option maxRecDepth 100000 in
set_option maxHeartbeats 4000000 in
theorem refJoin_full (a : Option Addr) (n cap : Nat) (s m : Int) (b : Option Addr) (k bc : Nat) (h1 : n ≤ 4096) (hm0 : 0 ≤ m) (hm1 : m ≤ 3) (h2 : k ≤ 16) (hf : firstM m = false) (hfu : 4096 < n + k) (t xs : List Int) (hn : t.length = n) (hk : xs.length = k) (w : World) (ha : Holds .u8 w.heap.size w (.slice a n cap) t) (hb : Holds .u8 w.heap.size w (.slice b k bc) xs) :
    Calls Try.prog 11 #[.agg #[.bool true, .slice a n cap], .agg #[.int .i64 s, .int .i64 m, .slice b k bc]] w fun e W' => e = .returned (.tuple #[.agg #[.bool false, .slice none 0 0], .slice none 0 0, .bool false, .int .i64 2]) ∧ Below w.heap.size w W' := by
  have b1 := (((Below.refl w.heap.size w).alloc (Nat.le_refl _) (.cells #[.bool true, .slice a n cap] 24)).alloc (by simp) (.cells #[.int .i64 s, .int .i64 m, .slice b k bc] 27)).alloc (by simp; omega) (.cells #[.bool false, .slice none 0 0] 24)
  have x2 := ((Box.new w 24 #[.bool true, .slice a n cap]).alloc (.cells #[.int .i64 s, .int .i64 m, .slice b k bc] 27)).alloc (.cells #[.bool false, .slice none 0 0] 24)
  have x3 := (Box.new (w.alloc (.cells #[.bool true, .slice a n cap] 24)) 27 #[.int .i64 s, .int .i64 m, .slice b k bc]).alloc (.cells #[.bool false, .slice none 0 0] 24)
  have x4 := Box.new ((w.alloc (.cells #[.bool true, .slice a n cap] 24)).alloc (.cells #[.int .i64 s, .int .i64 m, .slice b k bc] 27)) 24 #[.bool false, .slice none 0 0]
  rw [show (w.alloc (.cells #[.bool true, .slice a n cap] 24)).heap.size = w.heap.size + 1 by simp] at x3
  rw [show ((w.alloc (.cells #[.bool true, .slice a n cap] 24)).alloc (.cells #[.int .i64 s, .int .i64 m, .slice b k bc] 27)).heap.size = w.heap.size + 2 by simp] at x4
  have d1 : decide (4096 < n) = false := decide_eq_false (by omega)
  have d1i : decide (4096 < (n : Int)) = false := decide_eq_false (by omega)
  have d3 : decide (m < 0) = false := decide_eq_false (by omega)
  have d4 : decide (3 < m) = false := decide_eq_false (by omega)
  have d5 : decide (16 < k) = false := decide_eq_false (by omega)
  have d5i : decide (16 < (k : Int)) = false := decide_eq_false (by omega)
  have f1 : (bits .and .i64 m 1 != 0) = false := (and1_first hm0 hm1).trans hf
  have ht4 : n ≤ 4096 := by omega
  have hk16 : k ≤ 16 := h2
  have H1 : Hid (n ≤ 4096) := h1
  have HN : Hid (t.length = n) := hn
  have HK : Hid (xs.length = k) := hk
  clear h1 h2 hf hn hk
  have ha1 := ha.next b1
  have hb1 := hb.next b1
  have HT := twin_any (.slice a n cap) t _ (by rw [HN.out]; omega) _ ha1
  go_enter Try.func11, Try.ntmps11
  go_wp2_with fail
  refine HT.mono ?_
  rintro e w2 ⟨q, rfl, o2, b2⟩
  rw [HN.out, show (((w.alloc (.cells #[.bool true, .slice a n cap] 24)).alloc (.cells #[.int .i64 s, .int .i64 m, .slice b k bc] 27)).alloc (.cells #[.bool false, .slice none 0 0] 24)).heap.size = w.heap.size + 3 by simp] at o2
  obtain ⟨qa, qc, rfl⟩ : ∃ qa qc, q = .slice qa n qc := by obtain ⟨_, qa, qc, e, _⟩ := kept_of_row (kd := .u8) (zs := t) o2; rw [HN.out] at e; exact ⟨qa, qc, e⟩
  have y2 := x2.next b2
  have y3 := x3.next b2
  have y4 := x4.next b2
  have hb2 := hb1.next b2
  have bb := b1.trans (b2.mono b1.size)
  have hsz : w.heap.size + 3 ≤ w2.heap.size := by have := b2.size; simp at this; omega
  have c20 := y2.cell 0 _ rfl
  have c21 := y2.cell 1 _ rfl
  have g20 := y2.free 0
  have g21 := y2.free 1
  have c30 := y3.cell 0 _ rfl
  have c31 := y3.cell 1 _ rfl
  have c32 := y3.cell 2 _ rfl
  have c40 := y4.cell 0 _ rfl
  have c41 := y4.cell 1 _ rfl
  have g40 := y4.free 0
  have g41 := y4.free 1
  clear HT x2 x3 x4 b1 ha1 hb1
  have d6 : decide (4096 < (n : Int) + (k : Int)) = true := decide_eq_true (by omega)
  have d6n : decide (4096 < n + k) = true := decide_eq_true hfu
  clear hfu
  go_wp2
  have bE := ((((((bb).setCell (p := ⟨w.heap.size, 1, none⟩) (by simp only; omega) (.slice qa n qc))).setCell (p := ⟨w.heap.size + 1 + 1, 0, none⟩) (by simp only; omega) (.bool false))).setCell (p := ⟨w.heap.size + 1 + 1, 1, none⟩) (by simp only; omega) (.slice none 0 0))
  exact bodyPost_ret (v := .tuple #[.agg #[.bool false, .slice none 0 0], .slice none 0 0, .bool false, .int .i64 2]) (by simp [results, Try.results11, go_sem, c40, c41]) rfl ⟨rfl, bE⟩

set_option maxRecDepth 100000 in
set_option maxHeartbeats 4000000 in
theorem refJoin_aolt (a : Option Addr) (n cap : Nat) (s m : Int) (b : Option Addr) (k bc : Nat) (h1 : n ≤ 4096) (hm0 : 0 ≤ m) (hm1 : m ≤ 3) (h2 : k ≤ 16) (hf : firstM m = false) (hl : lastM m = true) (hfu : n + k ≤ 4096) (t xs : List Int) (hn : t.length = n) (hk : xs.length = k) (w : World) (ha : Holds .u8 w.heap.size w (.slice a n cap) t) (hb : Holds .u8 w.heap.size w (.slice b k bc) xs) :
    Calls Try.prog 11 #[.agg #[.bool true, .slice a n cap], .agg #[.int .i64 s, .int .i64 m, .slice b k bc]] w fun e W' => ∃ va vc, e = .returned (.tuple #[.agg #[.bool false, .slice none 0 0], .slice va (n + k) vc, .bool true, .int .i64 0]) ∧ W'.ownsRow w.heap.size 5 1 (.slice va (n + k) vc) (n + k) ((t ++ xs).map (Value.int .u8)) ∧ Below w.heap.size w W' := by
  have b1 := (((Below.refl w.heap.size w).alloc (Nat.le_refl _) (.cells #[.bool true, .slice a n cap] 24)).alloc (by simp) (.cells #[.int .i64 s, .int .i64 m, .slice b k bc] 27)).alloc (by simp; omega) (.cells #[.bool false, .slice none 0 0] 24)
  have x2 := ((Box.new w 24 #[.bool true, .slice a n cap]).alloc (.cells #[.int .i64 s, .int .i64 m, .slice b k bc] 27)).alloc (.cells #[.bool false, .slice none 0 0] 24)
  have x3 := (Box.new (w.alloc (.cells #[.bool true, .slice a n cap] 24)) 27 #[.int .i64 s, .int .i64 m, .slice b k bc]).alloc (.cells #[.bool false, .slice none 0 0] 24)
  have x4 := Box.new ((w.alloc (.cells #[.bool true, .slice a n cap] 24)).alloc (.cells #[.int .i64 s, .int .i64 m, .slice b k bc] 27)) 24 #[.bool false, .slice none 0 0]
  rw [show (w.alloc (.cells #[.bool true, .slice a n cap] 24)).heap.size = w.heap.size + 1 by simp] at x3
  rw [show ((w.alloc (.cells #[.bool true, .slice a n cap] 24)).alloc (.cells #[.int .i64 s, .int .i64 m, .slice b k bc] 27)).heap.size = w.heap.size + 2 by simp] at x4
  have d1 : decide (4096 < n) = false := decide_eq_false (by omega)
  have d1i : decide (4096 < (n : Int)) = false := decide_eq_false (by omega)
  have d3 : decide (m < 0) = false := decide_eq_false (by omega)
  have d4 : decide (3 < m) = false := decide_eq_false (by omega)
  have d5 : decide (16 < k) = false := decide_eq_false (by omega)
  have d5i : decide (16 < (k : Int)) = false := decide_eq_false (by omega)
  have f1 : (bits .and .i64 m 1 != 0) = false := (and1_first hm0 hm1).trans hf
  have f2 : (bits .and .i64 m 2 != 0) = true := (and2_last hm0 hm1).trans hl
  have ht4 : n ≤ 4096 := by omega
  have hk16 : k ≤ 16 := h2
  have H1 : Hid (n ≤ 4096) := h1
  have HN : Hid (t.length = n) := hn
  have HK : Hid (xs.length = k) := hk
  clear h1 h2 hf hn hk hl
  have ha1 := ha.next b1
  have hb1 := hb.next b1
  have HT := twin_any (.slice a n cap) t _ (by rw [HN.out]; omega) _ ha1
  go_enter Try.func11, Try.ntmps11
  go_wp2_with fail
  refine HT.mono ?_
  rintro e w2 ⟨q, rfl, o2, b2⟩
  rw [HN.out, show (((w.alloc (.cells #[.bool true, .slice a n cap] 24)).alloc (.cells #[.int .i64 s, .int .i64 m, .slice b k bc] 27)).alloc (.cells #[.bool false, .slice none 0 0] 24)).heap.size = w.heap.size + 3 by simp] at o2
  obtain ⟨qa, qc, rfl⟩ : ∃ qa qc, q = .slice qa n qc := by obtain ⟨_, qa, qc, e, _⟩ := kept_of_row (kd := .u8) (zs := t) o2; rw [HN.out] at e; exact ⟨qa, qc, e⟩
  have y2 := x2.next b2
  have y3 := x3.next b2
  have y4 := x4.next b2
  have hb2 := hb1.next b2
  have bb := b1.trans (b2.mono b1.size)
  have hsz : w.heap.size + 3 ≤ w2.heap.size := by have := b2.size; simp at this; omega
  have c20 := y2.cell 0 _ rfl
  have c21 := y2.cell 1 _ rfl
  have g20 := y2.free 0
  have g21 := y2.free 1
  have c30 := y3.cell 0 _ rfl
  have c31 := y3.cell 1 _ rfl
  have c32 := y3.cell 2 _ rfl
  have c40 := y4.cell 0 _ rfl
  have c41 := y4.cell 1 _ rfl
  have g40 := y4.free 0
  have g41 := y4.free 1
  clear HT x2 x3 x4 b1 ha1 hb1
  have d6 : decide (4096 < (n : Int) + (k : Int)) = false := decide_eq_false (by omega)
  have d6n : decide (4096 < n + k) = false := decide_eq_false (by omega)
  clear hfu
  have bX : Below w.heap.size w (w2.setCell ⟨w.heap.size, 1, none⟩ (.slice qa n qc)) := ((bb).setCell (p := ⟨w.heap.size, 1, none⟩) (by simp only; omega) (.slice qa n qc))
  have hsX : (w2.setCell ⟨w.heap.size, 1, none⟩ (.slice qa n qc)).heap.size = w2.heap.size := by simp [World.setCell]
  have oX : (w2.setCell ⟨w.heap.size, 1, none⟩ (.slice qa n qc)).ownsRow (w.heap.size + 3) 5 1 (.slice qa n qc) n ((t).map (Value.int .u8)) := (ownsRow_setCell_below (o2) (a := ⟨w.heap.size, 1, none⟩) (by simp only; omega) (.slice qa n qc))
  have z2 : Box (w2.setCell ⟨w.heap.size, 1, none⟩ (.slice qa n qc)) w.heap.size 24 #[.bool true, .slice qa n qc] := (y2.set 1 (.slice qa n qc))
  have z3 : Box (w2.setCell ⟨w.heap.size, 1, none⟩ (.slice qa n qc)) (w.heap.size + 1) 27 #[.int .i64 s, .int .i64 m, .slice b k bc] := (y3.other (p := ⟨w.heap.size, 1, none⟩) (by simp only; omega) (.slice qa n qc))
  have z4 : Box (w2.setCell ⟨w.heap.size, 1, none⟩ (.slice qa n qc)) (w.heap.size + 2) 24 #[.bool false, .slice none 0 0] := (y4.other (p := ⟨w.heap.size, 1, none⟩) (by simp only; omega) (.slice qa n qc))
  have hbX : Holds .u8 w.heap.size (w2.setCell ⟨w.heap.size, 1, none⟩ (.slice qa n qc)) (.slice b k bc) xs := hb.below bX
  obtain ⟨v5, w5, hr5, ho5, hg5⟩ := run_append_u8 (.slice qa n qc) (.slice b k bc) n (w.heap.size + 3) _ (t) xs 22 _ oX hbX (by rw [hsX]; omega) (by omega) (by rw [HK.out]; omega)
  have b5 : Below (w.heap.size + 3) (w2.setCell ⟨w.heap.size, 1, none⟩ (.slice qa n qc)) w5 := (Below.refl _ _).grown hg5 (by rw [hsX]; omega) (fun q e => (oX.lt q e).1)
  replace z2 := z2.below b5 (by omega)
  replace z3 := z3.below b5 (by omega)
  replace z4 := z4.below b5 (by omega)
  have bE := bX.trans (b5.mono (by omega))
  have HR : Hid _ := hr5
  obtain ⟨va, vc, hv5⟩ := (holds_of_row ho5).shape
  rw [HK.out] at ho5
  have hln : ((t ++ xs).length) = n + k := by rw [List.length_append, HK.out, HN.out]
  rw [hln] at hv5
  subst hv5
  have HLN : Hid _ := hln
  clear hln
  have e20 := z2.cell 0 _ rfl
  have e21 := z2.cell 1 _ rfl
  have h21 := z2.free 1
  have h20 := z2.free 0
  have e31 := z3.cell 1 _ rfl
  have e40 := z4.cell 0 _ rfl
  have e41 := z4.cell 1 _ rfl
  have h40 := z4.free 0
  have h41 := z4.free 1
  have l2 := z2.lt
  have l4 := z4.lt
  clear hr5 oX hg5 b5 bX hbX hsX z3 y2 y3 y4
  go_wp2_with (at_builtin; refine wpList_append_k rfl _ _ 22 rfl _ _ rfl rfl _ _ HR.out ?_)
  have bF := ((bE).setCell (p := ⟨w.heap.size, 1, none⟩) (by simp only; omega) (.slice va (n + k) vc))
  have oF := (ownsRow_setCell_below (ho5) (a := ⟨w.heap.size, 1, none⟩) (by simp only; omega) (.slice va (n + k) vc))
  have q2 := z2.set 1 (.slice va (n + k) vc)
  have q4 := z4.other (p := ⟨w.heap.size, 1, none⟩) (by simp only; omega) (.slice va (n + k) vc)
  generalize w5.setCell ⟨w.heap.size, 1, none⟩ (.slice va (n + k) vc) = w6 at *
  clear e20 e21 h20 h21 e31 e40 e41 h40 h41 l2 l4 c20 c21 g20 g21 c30 c31 c32 c40 c41 g40 g41
  have e21 := q2.cell 1 _ rfl
  have e40 := q4.cell 0 _ rfl
  have e41 := q4.cell 1 _ rfl
  have h40 := q4.free 0
  have h41 := q4.free 1
  have l2 := q2.lt
  have l4 := q4.lt
  have bG := ((((bF).setCell (p := ⟨w.heap.size + 1 + 1, 0, none⟩) (by simp only; omega) (.bool false))).setCell (p := ⟨w.heap.size + 1 + 1, 1, none⟩) (by simp only; omega) (.slice none 0 0))
  have oG := rowK_base (ownsRow_setCell_below ((ownsRow_setCell_below (oF) (a := ⟨w.heap.size + 1 + 1, 0, none⟩) (by simp only; omega) (.bool false))) (a := ⟨w.heap.size + 1 + 1, 1, none⟩) (by simp only; omega) (.slice none 0 0)) (show w.heap.size ≤ _ by omega)
  go_region
  go_wp2
  exact bodyPost_ret (v := .tuple #[.agg #[.bool false, .slice none 0 0], .slice va (n + k) vc, .bool true, .int .i64 0]) (by simp [results, Try.results11, go_sem, e40, e41]) rfl ⟨_, _, rfl, oG.drew, bG.drew⟩

set_option maxRecDepth 100000 in
set_option maxHeartbeats 4000000 in
theorem refJoin_aomt (a : Option Addr) (n cap : Nat) (s m : Int) (b : Option Addr) (k bc : Nat) (h1 : n ≤ 4096) (hm0 : 0 ≤ m) (hm1 : m ≤ 3) (h2 : k ≤ 16) (hf : firstM m = false) (hl : lastM m = false) (hfu : n + k ≤ 4096) (t xs : List Int) (hn : t.length = n) (hk : xs.length = k) (w : World) (ha : Holds .u8 w.heap.size w (.slice a n cap) t) (hb : Holds .u8 w.heap.size w (.slice b k bc) xs) :
    Calls Try.prog 11 #[.agg #[.bool true, .slice a n cap], .agg #[.int .i64 s, .int .i64 m, .slice b k bc]] w fun e W' => ∃ va vc, e = .returned (.tuple #[.agg #[.bool true, .slice va (n + k) vc], .slice none 0 0, .bool false, .int .i64 0]) ∧ W'.ownsRow w.heap.size 5 1 (.slice va (n + k) vc) (n + k) ((t ++ xs).map (Value.int .u8)) ∧ Below w.heap.size w W' := by
  have b1 := (((Below.refl w.heap.size w).alloc (Nat.le_refl _) (.cells #[.bool true, .slice a n cap] 24)).alloc (by simp) (.cells #[.int .i64 s, .int .i64 m, .slice b k bc] 27)).alloc (by simp; omega) (.cells #[.bool false, .slice none 0 0] 24)
  have x2 := ((Box.new w 24 #[.bool true, .slice a n cap]).alloc (.cells #[.int .i64 s, .int .i64 m, .slice b k bc] 27)).alloc (.cells #[.bool false, .slice none 0 0] 24)
  have x3 := (Box.new (w.alloc (.cells #[.bool true, .slice a n cap] 24)) 27 #[.int .i64 s, .int .i64 m, .slice b k bc]).alloc (.cells #[.bool false, .slice none 0 0] 24)
  have x4 := Box.new ((w.alloc (.cells #[.bool true, .slice a n cap] 24)).alloc (.cells #[.int .i64 s, .int .i64 m, .slice b k bc] 27)) 24 #[.bool false, .slice none 0 0]
  rw [show (w.alloc (.cells #[.bool true, .slice a n cap] 24)).heap.size = w.heap.size + 1 by simp] at x3
  rw [show ((w.alloc (.cells #[.bool true, .slice a n cap] 24)).alloc (.cells #[.int .i64 s, .int .i64 m, .slice b k bc] 27)).heap.size = w.heap.size + 2 by simp] at x4
  have d1 : decide (4096 < n) = false := decide_eq_false (by omega)
  have d1i : decide (4096 < (n : Int)) = false := decide_eq_false (by omega)
  have d3 : decide (m < 0) = false := decide_eq_false (by omega)
  have d4 : decide (3 < m) = false := decide_eq_false (by omega)
  have d5 : decide (16 < k) = false := decide_eq_false (by omega)
  have d5i : decide (16 < (k : Int)) = false := decide_eq_false (by omega)
  have f1 : (bits .and .i64 m 1 != 0) = false := (and1_first hm0 hm1).trans hf
  have f2 : (bits .and .i64 m 2 != 0) = false := (and2_last hm0 hm1).trans hl
  have ht4 : n ≤ 4096 := by omega
  have hk16 : k ≤ 16 := h2
  have H1 : Hid (n ≤ 4096) := h1
  have HN : Hid (t.length = n) := hn
  have HK : Hid (xs.length = k) := hk
  clear h1 h2 hf hn hk hl
  have ha1 := ha.next b1
  have hb1 := hb.next b1
  have HT := twin_any (.slice a n cap) t _ (by rw [HN.out]; omega) _ ha1
  go_enter Try.func11, Try.ntmps11
  go_wp2_with fail
  refine HT.mono ?_
  rintro e w2 ⟨q, rfl, o2, b2⟩
  rw [HN.out, show (((w.alloc (.cells #[.bool true, .slice a n cap] 24)).alloc (.cells #[.int .i64 s, .int .i64 m, .slice b k bc] 27)).alloc (.cells #[.bool false, .slice none 0 0] 24)).heap.size = w.heap.size + 3 by simp] at o2
  obtain ⟨qa, qc, rfl⟩ : ∃ qa qc, q = .slice qa n qc := by obtain ⟨_, qa, qc, e, _⟩ := kept_of_row (kd := .u8) (zs := t) o2; rw [HN.out] at e; exact ⟨qa, qc, e⟩
  have y2 := x2.next b2
  have y3 := x3.next b2
  have y4 := x4.next b2
  have hb2 := hb1.next b2
  have bb := b1.trans (b2.mono b1.size)
  have hsz : w.heap.size + 3 ≤ w2.heap.size := by have := b2.size; simp at this; omega
  have c20 := y2.cell 0 _ rfl
  have c21 := y2.cell 1 _ rfl
  have g20 := y2.free 0
  have g21 := y2.free 1
  have c30 := y3.cell 0 _ rfl
  have c31 := y3.cell 1 _ rfl
  have c32 := y3.cell 2 _ rfl
  have c40 := y4.cell 0 _ rfl
  have c41 := y4.cell 1 _ rfl
  have g40 := y4.free 0
  have g41 := y4.free 1
  clear HT x2 x3 x4 b1 ha1 hb1
  have d6 : decide (4096 < (n : Int) + (k : Int)) = false := decide_eq_false (by omega)
  have d6n : decide (4096 < n + k) = false := decide_eq_false (by omega)
  clear hfu
  have bX : Below w.heap.size w (w2.setCell ⟨w.heap.size, 1, none⟩ (.slice qa n qc)) := ((bb).setCell (p := ⟨w.heap.size, 1, none⟩) (by simp only; omega) (.slice qa n qc))
  have hsX : (w2.setCell ⟨w.heap.size, 1, none⟩ (.slice qa n qc)).heap.size = w2.heap.size := by simp [World.setCell]
  have oX : (w2.setCell ⟨w.heap.size, 1, none⟩ (.slice qa n qc)).ownsRow (w.heap.size + 3) 5 1 (.slice qa n qc) n ((t).map (Value.int .u8)) := (ownsRow_setCell_below (o2) (a := ⟨w.heap.size, 1, none⟩) (by simp only; omega) (.slice qa n qc))
  have z2 : Box (w2.setCell ⟨w.heap.size, 1, none⟩ (.slice qa n qc)) w.heap.size 24 #[.bool true, .slice qa n qc] := (y2.set 1 (.slice qa n qc))
  have z3 : Box (w2.setCell ⟨w.heap.size, 1, none⟩ (.slice qa n qc)) (w.heap.size + 1) 27 #[.int .i64 s, .int .i64 m, .slice b k bc] := (y3.other (p := ⟨w.heap.size, 1, none⟩) (by simp only; omega) (.slice qa n qc))
  have z4 : Box (w2.setCell ⟨w.heap.size, 1, none⟩ (.slice qa n qc)) (w.heap.size + 2) 24 #[.bool false, .slice none 0 0] := (y4.other (p := ⟨w.heap.size, 1, none⟩) (by simp only; omega) (.slice qa n qc))
  have hbX : Holds .u8 w.heap.size (w2.setCell ⟨w.heap.size, 1, none⟩ (.slice qa n qc)) (.slice b k bc) xs := hb.below bX
  obtain ⟨v5, w5, hr5, ho5, hg5⟩ := run_append_u8 (.slice qa n qc) (.slice b k bc) n (w.heap.size + 3) _ (t) xs 22 _ oX hbX (by rw [hsX]; omega) (by omega) (by rw [HK.out]; omega)
  have b5 : Below (w.heap.size + 3) (w2.setCell ⟨w.heap.size, 1, none⟩ (.slice qa n qc)) w5 := (Below.refl _ _).grown hg5 (by rw [hsX]; omega) (fun q e => (oX.lt q e).1)
  replace z2 := z2.below b5 (by omega)
  replace z3 := z3.below b5 (by omega)
  replace z4 := z4.below b5 (by omega)
  have bE := bX.trans (b5.mono (by omega))
  have HR : Hid _ := hr5
  obtain ⟨va, vc, hv5⟩ := (holds_of_row ho5).shape
  rw [HK.out] at ho5
  have hln : ((t ++ xs).length) = n + k := by rw [List.length_append, HK.out, HN.out]
  rw [hln] at hv5
  subst hv5
  have HLN : Hid _ := hln
  clear hln
  have e20 := z2.cell 0 _ rfl
  have e21 := z2.cell 1 _ rfl
  have h21 := z2.free 1
  have h20 := z2.free 0
  have e31 := z3.cell 1 _ rfl
  have e40 := z4.cell 0 _ rfl
  have e41 := z4.cell 1 _ rfl
  have h40 := z4.free 0
  have h41 := z4.free 1
  have l2 := z2.lt
  have l4 := z4.lt
  clear hr5 oX hg5 b5 bX hbX hsX z3 y2 y3 y4 z2 z4
  go_wp2_with (at_builtin; refine wpList_append_k rfl _ _ 22 rfl _ _ rfl rfl _ _ HR.out ?_)
  have bF := ((((((bE).setCell (p := ⟨w.heap.size, 1, none⟩) (by simp only; omega) (.slice va (n + k) vc))).setCell (p := ⟨w.heap.size + 1 + 1, 0, none⟩) (by simp only; omega) (.bool true))).setCell (p := ⟨w.heap.size + 1 + 1, 1, none⟩) (by simp only; omega) (.slice va (n + k) vc))
  have oF := rowK_base (ownsRow_setCell_below ((ownsRow_setCell_below ((ownsRow_setCell_below (ho5) (a := ⟨w.heap.size, 1, none⟩) (by simp only; omega) (.slice va (n + k) vc))) (a := ⟨w.heap.size + 1 + 1, 0, none⟩) (by simp only; omega) (.bool true))) (a := ⟨w.heap.size + 1 + 1, 1, none⟩) (by simp only; omega) (.slice va (n + k) vc)) (show w.heap.size ≤ _ by omega)
  exact bodyPost_ret (v := .tuple #[.agg #[.bool true, .slice va (n + k) vc], .slice none 0 0, .bool false, .int .i64 0]) (by simp [results, Try.results11, go_sem, e40, e41]) rfl ⟨_, _, rfl, oF, bF⟩

set_option maxRecDepth 100000 in
set_option maxHeartbeats 4000000 in
theorem refJoin_aflt (a : Option Addr) (n cap : Nat) (s m : Int) (b : Option Addr) (k bc : Nat) (h1 : n ≤ 4096) (hm0 : 0 ≤ m) (hm1 : m ≤ 3) (h2 : k ≤ 16) (hf : firstM m = true) (hl : lastM m = true) (t xs : List Int) (hn : t.length = n) (hk : xs.length = k) (w : World) (ha : Holds .u8 w.heap.size w (.slice a n cap) t) (hb : Holds .u8 w.heap.size w (.slice b k bc) xs) :
    Calls Try.prog 11 #[.agg #[.bool true, .slice a n cap], .agg #[.int .i64 s, .int .i64 m, .slice b k bc]] w fun e W' => ∃ va vc, e = .returned (.tuple #[.agg #[.bool false, .slice none 0 0], .slice va (k) vc, .bool true, .int .i64 0]) ∧ W'.ownsRow w.heap.size 5 1 (.slice va (k) vc) (k) ((xs).map (Value.int .u8)) ∧ Below w.heap.size w W' := by
  have b1 := (((Below.refl w.heap.size w).alloc (Nat.le_refl _) (.cells #[.bool true, .slice a n cap] 24)).alloc (by simp) (.cells #[.int .i64 s, .int .i64 m, .slice b k bc] 27)).alloc (by simp; omega) (.cells #[.bool false, .slice none 0 0] 24)
  have x2 := ((Box.new w 24 #[.bool true, .slice a n cap]).alloc (.cells #[.int .i64 s, .int .i64 m, .slice b k bc] 27)).alloc (.cells #[.bool false, .slice none 0 0] 24)
  have x3 := (Box.new (w.alloc (.cells #[.bool true, .slice a n cap] 24)) 27 #[.int .i64 s, .int .i64 m, .slice b k bc]).alloc (.cells #[.bool false, .slice none 0 0] 24)
  have x4 := Box.new ((w.alloc (.cells #[.bool true, .slice a n cap] 24)).alloc (.cells #[.int .i64 s, .int .i64 m, .slice b k bc] 27)) 24 #[.bool false, .slice none 0 0]
  rw [show (w.alloc (.cells #[.bool true, .slice a n cap] 24)).heap.size = w.heap.size + 1 by simp] at x3
  rw [show ((w.alloc (.cells #[.bool true, .slice a n cap] 24)).alloc (.cells #[.int .i64 s, .int .i64 m, .slice b k bc] 27)).heap.size = w.heap.size + 2 by simp] at x4
  have d1 : decide (4096 < n) = false := decide_eq_false (by omega)
  have d1i : decide (4096 < (n : Int)) = false := decide_eq_false (by omega)
  have d3 : decide (m < 0) = false := decide_eq_false (by omega)
  have d4 : decide (3 < m) = false := decide_eq_false (by omega)
  have d5 : decide (16 < k) = false := decide_eq_false (by omega)
  have d5i : decide (16 < (k : Int)) = false := decide_eq_false (by omega)
  have f1 : (bits .and .i64 m 1 != 0) = true := (and1_first hm0 hm1).trans hf
  have f2 : (bits .and .i64 m 2 != 0) = true := (and2_last hm0 hm1).trans hl
  have ht4 : n ≤ 4096 := by omega
  have hk16 : k ≤ 16 := h2
  have H1 : Hid (n ≤ 4096) := h1
  have HN : Hid (t.length = n) := hn
  have HK : Hid (xs.length = k) := hk
  clear h1 h2 hf hn hk hl
  have ha1 := ha.next b1
  have hb1 := hb.next b1
  have HT := twin_any (.slice a n cap) t _ (by rw [HN.out]; omega) _ ha1
  go_enter Try.func11, Try.ntmps11
  go_wp2_with fail
  refine HT.mono ?_
  rintro e w2 ⟨q, rfl, o2, b2⟩
  rw [HN.out, show (((w.alloc (.cells #[.bool true, .slice a n cap] 24)).alloc (.cells #[.int .i64 s, .int .i64 m, .slice b k bc] 27)).alloc (.cells #[.bool false, .slice none 0 0] 24)).heap.size = w.heap.size + 3 by simp] at o2
  obtain ⟨qa, qc, rfl⟩ : ∃ qa qc, q = .slice qa n qc := by obtain ⟨_, qa, qc, e, _⟩ := kept_of_row (kd := .u8) (zs := t) o2; rw [HN.out] at e; exact ⟨qa, qc, e⟩
  have y2 := x2.next b2
  have y3 := x3.next b2
  have y4 := x4.next b2
  have hb2 := hb1.next b2
  have bb := b1.trans (b2.mono b1.size)
  have hsz : w.heap.size + 3 ≤ w2.heap.size := by have := b2.size; simp at this; omega
  have c20 := y2.cell 0 _ rfl
  have c21 := y2.cell 1 _ rfl
  have g20 := y2.free 0
  have g21 := y2.free 1
  have c30 := y3.cell 0 _ rfl
  have c31 := y3.cell 1 _ rfl
  have c32 := y3.cell 2 _ rfl
  have c40 := y4.cell 0 _ rfl
  have c41 := y4.cell 1 _ rfl
  have g40 := y4.free 0
  have g41 := y4.free 1
  clear HT x2 x3 x4 b1 ha1 hb1
  have d6 : decide (4096 < (k : Int)) = false := decide_eq_false (by omega)
  have d6n : decide (4096 < k) = false := decide_eq_false (by omega)
  have bX : Below w.heap.size w (((w2.setCell ⟨w.heap.size, 1, none⟩ (.slice qa n qc)).setCell ⟨w.heap.size, 0, none⟩ (.bool true)).setCell ⟨w.heap.size, 1, none⟩ (.slice none 0 0)) := ((((((bb).setCell (p := ⟨w.heap.size, 1, none⟩) (by simp only; omega) (.slice qa n qc))).setCell (p := ⟨w.heap.size, 0, none⟩) (by simp only; omega) (.bool true))).setCell (p := ⟨w.heap.size, 1, none⟩) (by simp only; omega) (.slice none 0 0))
  have hsX : (((w2.setCell ⟨w.heap.size, 1, none⟩ (.slice qa n qc)).setCell ⟨w.heap.size, 0, none⟩ (.bool true)).setCell ⟨w.heap.size, 1, none⟩ (.slice none 0 0)).heap.size = w2.heap.size := by simp [World.setCell]
  have oX : (((w2.setCell ⟨w.heap.size, 1, none⟩ (.slice qa n qc)).setCell ⟨w.heap.size, 0, none⟩ (.bool true)).setCell ⟨w.heap.size, 1, none⟩ (.slice none 0 0)).ownsRow (w.heap.size + 3) 5 1 (.slice none 0 0) 0 ((([] : List Int)).map (Value.int .u8)) := World.ownsRow_nil _ _ _ _
  have z2 : Box (((w2.setCell ⟨w.heap.size, 1, none⟩ (.slice qa n qc)).setCell ⟨w.heap.size, 0, none⟩ (.bool true)).setCell ⟨w.heap.size, 1, none⟩ (.slice none 0 0)) w.heap.size 24 #[.bool true, .slice none 0 0] := (((y2.set 1 (.slice qa n qc)).set 0 (.bool true)).set 1 (.slice none 0 0))
  have z3 : Box (((w2.setCell ⟨w.heap.size, 1, none⟩ (.slice qa n qc)).setCell ⟨w.heap.size, 0, none⟩ (.bool true)).setCell ⟨w.heap.size, 1, none⟩ (.slice none 0 0)) (w.heap.size + 1) 27 #[.int .i64 s, .int .i64 m, .slice b k bc] := (((y3.other (p := ⟨w.heap.size, 1, none⟩) (by simp only; omega) (.slice qa n qc)).other (p := ⟨w.heap.size, 0, none⟩) (by simp only; omega) (.bool true)).other (p := ⟨w.heap.size, 1, none⟩) (by simp only; omega) (.slice none 0 0))
  have z4 : Box (((w2.setCell ⟨w.heap.size, 1, none⟩ (.slice qa n qc)).setCell ⟨w.heap.size, 0, none⟩ (.bool true)).setCell ⟨w.heap.size, 1, none⟩ (.slice none 0 0)) (w.heap.size + 2) 24 #[.bool false, .slice none 0 0] := (((y4.other (p := ⟨w.heap.size, 1, none⟩) (by simp only; omega) (.slice qa n qc)).other (p := ⟨w.heap.size, 0, none⟩) (by simp only; omega) (.bool true)).other (p := ⟨w.heap.size, 1, none⟩) (by simp only; omega) (.slice none 0 0))
  have hbX : Holds .u8 w.heap.size (((w2.setCell ⟨w.heap.size, 1, none⟩ (.slice qa n qc)).setCell ⟨w.heap.size, 0, none⟩ (.bool true)).setCell ⟨w.heap.size, 1, none⟩ (.slice none 0 0)) (.slice b k bc) xs := hb.below bX
  obtain ⟨v5, w5, hr5, ho5, hg5⟩ := run_append_u8 (.slice none 0 0) (.slice b k bc) 0 (w.heap.size + 3) _ (([] : List Int)) xs 22 _ oX hbX (by rw [hsX]; omega) (by omega) (by rw [HK.out]; omega)
  have b5 : Below (w.heap.size + 3) (((w2.setCell ⟨w.heap.size, 1, none⟩ (.slice qa n qc)).setCell ⟨w.heap.size, 0, none⟩ (.bool true)).setCell ⟨w.heap.size, 1, none⟩ (.slice none 0 0)) w5 := (Below.refl _ _).grown hg5 (by rw [hsX]; omega) (fun q e => (oX.lt q e).1)
  replace z2 := z2.below b5 (by omega)
  replace z3 := z3.below b5 (by omega)
  replace z4 := z4.below b5 (by omega)
  have bE := bX.trans (b5.mono (by omega))
  have HR : Hid _ := hr5
  obtain ⟨va, vc, hv5⟩ := (holds_of_row ho5).shape
  rw [HK.out] at ho5
  have hln : xs.length = k := HK.out
  rw [List.nil_append, hln] at hv5
  subst hv5
  rw [Nat.zero_add, List.nil_append] at ho5
  have HLN : Hid _ := hln
  clear hln
  have e20 := z2.cell 0 _ rfl
  have e21 := z2.cell 1 _ rfl
  have h21 := z2.free 1
  have h20 := z2.free 0
  have e31 := z3.cell 1 _ rfl
  have e40 := z4.cell 0 _ rfl
  have e41 := z4.cell 1 _ rfl
  have h40 := z4.free 0
  have h41 := z4.free 1
  have l2 := z2.lt
  have l4 := z4.lt
  clear hr5 oX hg5 b5 bX hbX hsX z3 y2 y3 y4
  go_wp2_with (at_builtin; refine wpList_append_k rfl _ _ 22 rfl _ _ rfl rfl _ _ HR.out ?_)
  have bF := ((bE).setCell (p := ⟨w.heap.size, 1, none⟩) (by simp only; omega) (.slice va (k) vc))
  have oF := (ownsRow_setCell_below (ho5) (a := ⟨w.heap.size, 1, none⟩) (by simp only; omega) (.slice va (k) vc))
  have q2 := z2.set 1 (.slice va (k) vc)
  have q4 := z4.other (p := ⟨w.heap.size, 1, none⟩) (by simp only; omega) (.slice va (k) vc)
  generalize w5.setCell ⟨w.heap.size, 1, none⟩ (.slice va (k) vc) = w6 at *
  clear e20 e21 h20 h21 e31 e40 e41 h40 h41 l2 l4 c20 c21 g20 g21 c30 c31 c32 c40 c41 g40 g41
  have e21 := q2.cell 1 _ rfl
  have e40 := q4.cell 0 _ rfl
  have e41 := q4.cell 1 _ rfl
  have h40 := q4.free 0
  have h41 := q4.free 1
  have l2 := q2.lt
  have l4 := q4.lt
  have bG := ((((bF).setCell (p := ⟨w.heap.size + 1 + 1, 0, none⟩) (by simp only; omega) (.bool false))).setCell (p := ⟨w.heap.size + 1 + 1, 1, none⟩) (by simp only; omega) (.slice none 0 0))
  have oG := rowK_base (ownsRow_setCell_below ((ownsRow_setCell_below (oF) (a := ⟨w.heap.size + 1 + 1, 0, none⟩) (by simp only; omega) (.bool false))) (a := ⟨w.heap.size + 1 + 1, 1, none⟩) (by simp only; omega) (.slice none 0 0)) (show w.heap.size ≤ _ by omega)
  go_region
  go_wp2
  exact bodyPost_ret (v := .tuple #[.agg #[.bool false, .slice none 0 0], .slice va (k) vc, .bool true, .int .i64 0]) (by simp [results, Try.results11, go_sem, e40, e41]) rfl ⟨_, _, rfl, oG.drew, bG.drew⟩

set_option maxRecDepth 100000 in
set_option maxHeartbeats 4000000 in
theorem refJoin_afmt (a : Option Addr) (n cap : Nat) (s m : Int) (b : Option Addr) (k bc : Nat) (h1 : n ≤ 4096) (hm0 : 0 ≤ m) (hm1 : m ≤ 3) (h2 : k ≤ 16) (hf : firstM m = true) (hl : lastM m = false) (t xs : List Int) (hn : t.length = n) (hk : xs.length = k) (w : World) (ha : Holds .u8 w.heap.size w (.slice a n cap) t) (hb : Holds .u8 w.heap.size w (.slice b k bc) xs) :
    Calls Try.prog 11 #[.agg #[.bool true, .slice a n cap], .agg #[.int .i64 s, .int .i64 m, .slice b k bc]] w fun e W' => ∃ va vc, e = .returned (.tuple #[.agg #[.bool true, .slice va (k) vc], .slice none 0 0, .bool false, .int .i64 0]) ∧ W'.ownsRow w.heap.size 5 1 (.slice va (k) vc) (k) ((xs).map (Value.int .u8)) ∧ Below w.heap.size w W' := by
  have b1 := (((Below.refl w.heap.size w).alloc (Nat.le_refl _) (.cells #[.bool true, .slice a n cap] 24)).alloc (by simp) (.cells #[.int .i64 s, .int .i64 m, .slice b k bc] 27)).alloc (by simp; omega) (.cells #[.bool false, .slice none 0 0] 24)
  have x2 := ((Box.new w 24 #[.bool true, .slice a n cap]).alloc (.cells #[.int .i64 s, .int .i64 m, .slice b k bc] 27)).alloc (.cells #[.bool false, .slice none 0 0] 24)
  have x3 := (Box.new (w.alloc (.cells #[.bool true, .slice a n cap] 24)) 27 #[.int .i64 s, .int .i64 m, .slice b k bc]).alloc (.cells #[.bool false, .slice none 0 0] 24)
  have x4 := Box.new ((w.alloc (.cells #[.bool true, .slice a n cap] 24)).alloc (.cells #[.int .i64 s, .int .i64 m, .slice b k bc] 27)) 24 #[.bool false, .slice none 0 0]
  rw [show (w.alloc (.cells #[.bool true, .slice a n cap] 24)).heap.size = w.heap.size + 1 by simp] at x3
  rw [show ((w.alloc (.cells #[.bool true, .slice a n cap] 24)).alloc (.cells #[.int .i64 s, .int .i64 m, .slice b k bc] 27)).heap.size = w.heap.size + 2 by simp] at x4
  have d1 : decide (4096 < n) = false := decide_eq_false (by omega)
  have d1i : decide (4096 < (n : Int)) = false := decide_eq_false (by omega)
  have d3 : decide (m < 0) = false := decide_eq_false (by omega)
  have d4 : decide (3 < m) = false := decide_eq_false (by omega)
  have d5 : decide (16 < k) = false := decide_eq_false (by omega)
  have d5i : decide (16 < (k : Int)) = false := decide_eq_false (by omega)
  have f1 : (bits .and .i64 m 1 != 0) = true := (and1_first hm0 hm1).trans hf
  have f2 : (bits .and .i64 m 2 != 0) = false := (and2_last hm0 hm1).trans hl
  have ht4 : n ≤ 4096 := by omega
  have hk16 : k ≤ 16 := h2
  have H1 : Hid (n ≤ 4096) := h1
  have HN : Hid (t.length = n) := hn
  have HK : Hid (xs.length = k) := hk
  clear h1 h2 hf hn hk hl
  have ha1 := ha.next b1
  have hb1 := hb.next b1
  have HT := twin_any (.slice a n cap) t _ (by rw [HN.out]; omega) _ ha1
  go_enter Try.func11, Try.ntmps11
  go_wp2_with fail
  refine HT.mono ?_
  rintro e w2 ⟨q, rfl, o2, b2⟩
  rw [HN.out, show (((w.alloc (.cells #[.bool true, .slice a n cap] 24)).alloc (.cells #[.int .i64 s, .int .i64 m, .slice b k bc] 27)).alloc (.cells #[.bool false, .slice none 0 0] 24)).heap.size = w.heap.size + 3 by simp] at o2
  obtain ⟨qa, qc, rfl⟩ : ∃ qa qc, q = .slice qa n qc := by obtain ⟨_, qa, qc, e, _⟩ := kept_of_row (kd := .u8) (zs := t) o2; rw [HN.out] at e; exact ⟨qa, qc, e⟩
  have y2 := x2.next b2
  have y3 := x3.next b2
  have y4 := x4.next b2
  have hb2 := hb1.next b2
  have bb := b1.trans (b2.mono b1.size)
  have hsz : w.heap.size + 3 ≤ w2.heap.size := by have := b2.size; simp at this; omega
  have c20 := y2.cell 0 _ rfl
  have c21 := y2.cell 1 _ rfl
  have g20 := y2.free 0
  have g21 := y2.free 1
  have c30 := y3.cell 0 _ rfl
  have c31 := y3.cell 1 _ rfl
  have c32 := y3.cell 2 _ rfl
  have c40 := y4.cell 0 _ rfl
  have c41 := y4.cell 1 _ rfl
  have g40 := y4.free 0
  have g41 := y4.free 1
  clear HT x2 x3 x4 b1 ha1 hb1
  have d6 : decide (4096 < (k : Int)) = false := decide_eq_false (by omega)
  have d6n : decide (4096 < k) = false := decide_eq_false (by omega)
  have bX : Below w.heap.size w (((w2.setCell ⟨w.heap.size, 1, none⟩ (.slice qa n qc)).setCell ⟨w.heap.size, 0, none⟩ (.bool true)).setCell ⟨w.heap.size, 1, none⟩ (.slice none 0 0)) := ((((((bb).setCell (p := ⟨w.heap.size, 1, none⟩) (by simp only; omega) (.slice qa n qc))).setCell (p := ⟨w.heap.size, 0, none⟩) (by simp only; omega) (.bool true))).setCell (p := ⟨w.heap.size, 1, none⟩) (by simp only; omega) (.slice none 0 0))
  have hsX : (((w2.setCell ⟨w.heap.size, 1, none⟩ (.slice qa n qc)).setCell ⟨w.heap.size, 0, none⟩ (.bool true)).setCell ⟨w.heap.size, 1, none⟩ (.slice none 0 0)).heap.size = w2.heap.size := by simp [World.setCell]
  have oX : (((w2.setCell ⟨w.heap.size, 1, none⟩ (.slice qa n qc)).setCell ⟨w.heap.size, 0, none⟩ (.bool true)).setCell ⟨w.heap.size, 1, none⟩ (.slice none 0 0)).ownsRow (w.heap.size + 3) 5 1 (.slice none 0 0) 0 ((([] : List Int)).map (Value.int .u8)) := World.ownsRow_nil _ _ _ _
  have z2 : Box (((w2.setCell ⟨w.heap.size, 1, none⟩ (.slice qa n qc)).setCell ⟨w.heap.size, 0, none⟩ (.bool true)).setCell ⟨w.heap.size, 1, none⟩ (.slice none 0 0)) w.heap.size 24 #[.bool true, .slice none 0 0] := (((y2.set 1 (.slice qa n qc)).set 0 (.bool true)).set 1 (.slice none 0 0))
  have z3 : Box (((w2.setCell ⟨w.heap.size, 1, none⟩ (.slice qa n qc)).setCell ⟨w.heap.size, 0, none⟩ (.bool true)).setCell ⟨w.heap.size, 1, none⟩ (.slice none 0 0)) (w.heap.size + 1) 27 #[.int .i64 s, .int .i64 m, .slice b k bc] := (((y3.other (p := ⟨w.heap.size, 1, none⟩) (by simp only; omega) (.slice qa n qc)).other (p := ⟨w.heap.size, 0, none⟩) (by simp only; omega) (.bool true)).other (p := ⟨w.heap.size, 1, none⟩) (by simp only; omega) (.slice none 0 0))
  have z4 : Box (((w2.setCell ⟨w.heap.size, 1, none⟩ (.slice qa n qc)).setCell ⟨w.heap.size, 0, none⟩ (.bool true)).setCell ⟨w.heap.size, 1, none⟩ (.slice none 0 0)) (w.heap.size + 2) 24 #[.bool false, .slice none 0 0] := (((y4.other (p := ⟨w.heap.size, 1, none⟩) (by simp only; omega) (.slice qa n qc)).other (p := ⟨w.heap.size, 0, none⟩) (by simp only; omega) (.bool true)).other (p := ⟨w.heap.size, 1, none⟩) (by simp only; omega) (.slice none 0 0))
  have hbX : Holds .u8 w.heap.size (((w2.setCell ⟨w.heap.size, 1, none⟩ (.slice qa n qc)).setCell ⟨w.heap.size, 0, none⟩ (.bool true)).setCell ⟨w.heap.size, 1, none⟩ (.slice none 0 0)) (.slice b k bc) xs := hb.below bX
  obtain ⟨v5, w5, hr5, ho5, hg5⟩ := run_append_u8 (.slice none 0 0) (.slice b k bc) 0 (w.heap.size + 3) _ (([] : List Int)) xs 22 _ oX hbX (by rw [hsX]; omega) (by omega) (by rw [HK.out]; omega)
  have b5 : Below (w.heap.size + 3) (((w2.setCell ⟨w.heap.size, 1, none⟩ (.slice qa n qc)).setCell ⟨w.heap.size, 0, none⟩ (.bool true)).setCell ⟨w.heap.size, 1, none⟩ (.slice none 0 0)) w5 := (Below.refl _ _).grown hg5 (by rw [hsX]; omega) (fun q e => (oX.lt q e).1)
  replace z2 := z2.below b5 (by omega)
  replace z3 := z3.below b5 (by omega)
  replace z4 := z4.below b5 (by omega)
  have bE := bX.trans (b5.mono (by omega))
  have HR : Hid _ := hr5
  obtain ⟨va, vc, hv5⟩ := (holds_of_row ho5).shape
  rw [HK.out] at ho5
  have hln : xs.length = k := HK.out
  rw [List.nil_append, hln] at hv5
  subst hv5
  rw [Nat.zero_add, List.nil_append] at ho5
  have HLN : Hid _ := hln
  clear hln
  have e20 := z2.cell 0 _ rfl
  have e21 := z2.cell 1 _ rfl
  have h21 := z2.free 1
  have h20 := z2.free 0
  have e31 := z3.cell 1 _ rfl
  have e40 := z4.cell 0 _ rfl
  have e41 := z4.cell 1 _ rfl
  have h40 := z4.free 0
  have h41 := z4.free 1
  have l2 := z2.lt
  have l4 := z4.lt
  clear hr5 oX hg5 b5 bX hbX hsX z3 y2 y3 y4 z2 z4
  go_wp2_with (at_builtin; refine wpList_append_k rfl _ _ 22 rfl _ _ rfl rfl _ _ HR.out ?_)
  have bF := ((((((bE).setCell (p := ⟨w.heap.size, 1, none⟩) (by simp only; omega) (.slice va (k) vc))).setCell (p := ⟨w.heap.size + 1 + 1, 0, none⟩) (by simp only; omega) (.bool true))).setCell (p := ⟨w.heap.size + 1 + 1, 1, none⟩) (by simp only; omega) (.slice va (k) vc))
  have oF := rowK_base (ownsRow_setCell_below ((ownsRow_setCell_below ((ownsRow_setCell_below (ho5) (a := ⟨w.heap.size, 1, none⟩) (by simp only; omega) (.slice va (k) vc))) (a := ⟨w.heap.size + 1 + 1, 0, none⟩) (by simp only; omega) (.bool true))) (a := ⟨w.heap.size + 1 + 1, 1, none⟩) (by simp only; omega) (.slice va (k) vc)) (show w.heap.size ≤ _ by omega)
  exact bodyPost_ret (v := .tuple #[.agg #[.bool true, .slice va (k) vc], .slice none 0 0, .bool false, .int .i64 0]) (by simp [results, Try.results11, go_sem, e40, e41]) rfl ⟨_, _, rfl, oF, bF⟩

set_option maxRecDepth 100000 in
set_option maxHeartbeats 4000000 in
theorem refJoin_aflf (a : Option Addr) (n cap : Nat) (s m : Int) (b : Option Addr) (k bc : Nat) (h1 : n = 0) (hm0 : 0 ≤ m) (hm1 : m ≤ 3) (h2 : k ≤ 16) (hf : firstM m = true) (hl : lastM m = true) (t xs : List Int) (hn : t.length = n) (hk : xs.length = k) (w : World) (ha : Holds .u8 w.heap.size w (.slice a n cap) t) (hb : Holds .u8 w.heap.size w (.slice b k bc) xs) :
    Calls Try.prog 11 #[.agg #[.bool false, .slice a n cap], .agg #[.int .i64 s, .int .i64 m, .slice b k bc]] w fun e W' => ∃ va vc, e = .returned (.tuple #[.agg #[.bool false, .slice none 0 0], .slice va (k) vc, .bool true, .int .i64 0]) ∧ W'.ownsRow w.heap.size 5 1 (.slice va (k) vc) (k) ((xs).map (Value.int .u8)) ∧ Below w.heap.size w W' := by
  have b1 := (((Below.refl w.heap.size w).alloc (Nat.le_refl _) (.cells #[.bool false, .slice a n cap] 24)).alloc (by simp) (.cells #[.int .i64 s, .int .i64 m, .slice b k bc] 27)).alloc (by simp; omega) (.cells #[.bool false, .slice none 0 0] 24)
  have x2 := ((Box.new w 24 #[.bool false, .slice a n cap]).alloc (.cells #[.int .i64 s, .int .i64 m, .slice b k bc] 27)).alloc (.cells #[.bool false, .slice none 0 0] 24)
  have x3 := (Box.new (w.alloc (.cells #[.bool false, .slice a n cap] 24)) 27 #[.int .i64 s, .int .i64 m, .slice b k bc]).alloc (.cells #[.bool false, .slice none 0 0] 24)
  have x4 := Box.new ((w.alloc (.cells #[.bool false, .slice a n cap] 24)).alloc (.cells #[.int .i64 s, .int .i64 m, .slice b k bc] 27)) 24 #[.bool false, .slice none 0 0]
  rw [show (w.alloc (.cells #[.bool false, .slice a n cap] 24)).heap.size = w.heap.size + 1 by simp] at x3
  rw [show ((w.alloc (.cells #[.bool false, .slice a n cap] 24)).alloc (.cells #[.int .i64 s, .int .i64 m, .slice b k bc] 27)).heap.size = w.heap.size + 2 by simp] at x4
  have d1 : decide (4096 < n) = false := decide_eq_false (by omega)
  have d1i : decide (4096 < (n : Int)) = false := decide_eq_false (by omega)
  have d2 : decide (0 < n) = false := decide_eq_false (by omega)
  have d2i : decide (0 < (n : Int)) = false := decide_eq_false (by omega)
  have d3 : decide (m < 0) = false := decide_eq_false (by omega)
  have d4 : decide (3 < m) = false := decide_eq_false (by omega)
  have d5 : decide (16 < k) = false := decide_eq_false (by omega)
  have d5i : decide (16 < (k : Int)) = false := decide_eq_false (by omega)
  have f1 : (bits .and .i64 m 1 != 0) = true := (and1_first hm0 hm1).trans hf
  have f2 : (bits .and .i64 m 2 != 0) = true := (and2_last hm0 hm1).trans hl
  have ht4 : n ≤ 4096 := by omega
  have hk16 : k ≤ 16 := h2
  have H1 : Hid (n = 0) := h1
  have HN : Hid (t.length = n) := hn
  have HK : Hid (xs.length = k) := hk
  clear h1 h2 hf hn hk hl
  have ha1 := ha.next b1
  have hb1 := hb.next b1
  have HT := twin_any (.slice a n cap) t _ (by rw [HN.out]; omega) _ ha1
  go_enter Try.func11, Try.ntmps11
  go_wp2_with fail
  refine HT.mono ?_
  rintro e w2 ⟨q, rfl, o2, b2⟩
  rw [HN.out, show (((w.alloc (.cells #[.bool false, .slice a n cap] 24)).alloc (.cells #[.int .i64 s, .int .i64 m, .slice b k bc] 27)).alloc (.cells #[.bool false, .slice none 0 0] 24)).heap.size = w.heap.size + 3 by simp] at o2
  obtain ⟨qa, qc, rfl⟩ : ∃ qa qc, q = .slice qa n qc := by obtain ⟨_, qa, qc, e, _⟩ := kept_of_row (kd := .u8) (zs := t) o2; rw [HN.out] at e; exact ⟨qa, qc, e⟩
  have y2 := x2.next b2
  have y3 := x3.next b2
  have y4 := x4.next b2
  have hb2 := hb1.next b2
  have bb := b1.trans (b2.mono b1.size)
  have hsz : w.heap.size + 3 ≤ w2.heap.size := by have := b2.size; simp at this; omega
  have c20 := y2.cell 0 _ rfl
  have c21 := y2.cell 1 _ rfl
  have g20 := y2.free 0
  have g21 := y2.free 1
  have c30 := y3.cell 0 _ rfl
  have c31 := y3.cell 1 _ rfl
  have c32 := y3.cell 2 _ rfl
  have c40 := y4.cell 0 _ rfl
  have c41 := y4.cell 1 _ rfl
  have g40 := y4.free 0
  have g41 := y4.free 1
  clear HT x2 x3 x4 b1 ha1 hb1
  have d6 : decide (4096 < (k : Int)) = false := decide_eq_false (by omega)
  have d6n : decide (4096 < k) = false := decide_eq_false (by omega)
  have bX : Below w.heap.size w (((w2.setCell ⟨w.heap.size, 1, none⟩ (.slice qa n qc)).setCell ⟨w.heap.size, 0, none⟩ (.bool true)).setCell ⟨w.heap.size, 1, none⟩ (.slice none 0 0)) := ((((((bb).setCell (p := ⟨w.heap.size, 1, none⟩) (by simp only; omega) (.slice qa n qc))).setCell (p := ⟨w.heap.size, 0, none⟩) (by simp only; omega) (.bool true))).setCell (p := ⟨w.heap.size, 1, none⟩) (by simp only; omega) (.slice none 0 0))
  have hsX : (((w2.setCell ⟨w.heap.size, 1, none⟩ (.slice qa n qc)).setCell ⟨w.heap.size, 0, none⟩ (.bool true)).setCell ⟨w.heap.size, 1, none⟩ (.slice none 0 0)).heap.size = w2.heap.size := by simp [World.setCell]
  have oX : (((w2.setCell ⟨w.heap.size, 1, none⟩ (.slice qa n qc)).setCell ⟨w.heap.size, 0, none⟩ (.bool true)).setCell ⟨w.heap.size, 1, none⟩ (.slice none 0 0)).ownsRow (w.heap.size + 3) 5 1 (.slice none 0 0) 0 ((([] : List Int)).map (Value.int .u8)) := World.ownsRow_nil _ _ _ _
  have z2 : Box (((w2.setCell ⟨w.heap.size, 1, none⟩ (.slice qa n qc)).setCell ⟨w.heap.size, 0, none⟩ (.bool true)).setCell ⟨w.heap.size, 1, none⟩ (.slice none 0 0)) w.heap.size 24 #[.bool true, .slice none 0 0] := (((y2.set 1 (.slice qa n qc)).set 0 (.bool true)).set 1 (.slice none 0 0))
  have z3 : Box (((w2.setCell ⟨w.heap.size, 1, none⟩ (.slice qa n qc)).setCell ⟨w.heap.size, 0, none⟩ (.bool true)).setCell ⟨w.heap.size, 1, none⟩ (.slice none 0 0)) (w.heap.size + 1) 27 #[.int .i64 s, .int .i64 m, .slice b k bc] := (((y3.other (p := ⟨w.heap.size, 1, none⟩) (by simp only; omega) (.slice qa n qc)).other (p := ⟨w.heap.size, 0, none⟩) (by simp only; omega) (.bool true)).other (p := ⟨w.heap.size, 1, none⟩) (by simp only; omega) (.slice none 0 0))
  have z4 : Box (((w2.setCell ⟨w.heap.size, 1, none⟩ (.slice qa n qc)).setCell ⟨w.heap.size, 0, none⟩ (.bool true)).setCell ⟨w.heap.size, 1, none⟩ (.slice none 0 0)) (w.heap.size + 2) 24 #[.bool false, .slice none 0 0] := (((y4.other (p := ⟨w.heap.size, 1, none⟩) (by simp only; omega) (.slice qa n qc)).other (p := ⟨w.heap.size, 0, none⟩) (by simp only; omega) (.bool true)).other (p := ⟨w.heap.size, 1, none⟩) (by simp only; omega) (.slice none 0 0))
  have hbX : Holds .u8 w.heap.size (((w2.setCell ⟨w.heap.size, 1, none⟩ (.slice qa n qc)).setCell ⟨w.heap.size, 0, none⟩ (.bool true)).setCell ⟨w.heap.size, 1, none⟩ (.slice none 0 0)) (.slice b k bc) xs := hb.below bX
  obtain ⟨v5, w5, hr5, ho5, hg5⟩ := run_append_u8 (.slice none 0 0) (.slice b k bc) 0 (w.heap.size + 3) _ (([] : List Int)) xs 22 _ oX hbX (by rw [hsX]; omega) (by omega) (by rw [HK.out]; omega)
  have b5 : Below (w.heap.size + 3) (((w2.setCell ⟨w.heap.size, 1, none⟩ (.slice qa n qc)).setCell ⟨w.heap.size, 0, none⟩ (.bool true)).setCell ⟨w.heap.size, 1, none⟩ (.slice none 0 0)) w5 := (Below.refl _ _).grown hg5 (by rw [hsX]; omega) (fun q e => (oX.lt q e).1)
  replace z2 := z2.below b5 (by omega)
  replace z3 := z3.below b5 (by omega)
  replace z4 := z4.below b5 (by omega)
  have bE := bX.trans (b5.mono (by omega))
  have HR : Hid _ := hr5
  obtain ⟨va, vc, hv5⟩ := (holds_of_row ho5).shape
  rw [HK.out] at ho5
  have hln : xs.length = k := HK.out
  rw [List.nil_append, hln] at hv5
  subst hv5
  rw [Nat.zero_add, List.nil_append] at ho5
  have HLN : Hid _ := hln
  clear hln
  have e20 := z2.cell 0 _ rfl
  have e21 := z2.cell 1 _ rfl
  have h21 := z2.free 1
  have h20 := z2.free 0
  have e31 := z3.cell 1 _ rfl
  have e40 := z4.cell 0 _ rfl
  have e41 := z4.cell 1 _ rfl
  have h40 := z4.free 0
  have h41 := z4.free 1
  have l2 := z2.lt
  have l4 := z4.lt
  clear hr5 oX hg5 b5 bX hbX hsX z3 y2 y3 y4
  go_wp2_with (at_builtin; refine wpList_append_k rfl _ _ 22 rfl _ _ rfl rfl _ _ HR.out ?_)
  have bF := ((bE).setCell (p := ⟨w.heap.size, 1, none⟩) (by simp only; omega) (.slice va (k) vc))
  have oF := (ownsRow_setCell_below (ho5) (a := ⟨w.heap.size, 1, none⟩) (by simp only; omega) (.slice va (k) vc))
  have q2 := z2.set 1 (.slice va (k) vc)
  have q4 := z4.other (p := ⟨w.heap.size, 1, none⟩) (by simp only; omega) (.slice va (k) vc)
  generalize w5.setCell ⟨w.heap.size, 1, none⟩ (.slice va (k) vc) = w6 at *
  clear e20 e21 h20 h21 e31 e40 e41 h40 h41 l2 l4 c20 c21 g20 g21 c30 c31 c32 c40 c41 g40 g41
  have e21 := q2.cell 1 _ rfl
  have e40 := q4.cell 0 _ rfl
  have e41 := q4.cell 1 _ rfl
  have h40 := q4.free 0
  have h41 := q4.free 1
  have l2 := q2.lt
  have l4 := q4.lt
  have bG := ((((bF).setCell (p := ⟨w.heap.size + 1 + 1, 0, none⟩) (by simp only; omega) (.bool false))).setCell (p := ⟨w.heap.size + 1 + 1, 1, none⟩) (by simp only; omega) (.slice none 0 0))
  have oG := rowK_base (ownsRow_setCell_below ((ownsRow_setCell_below (oF) (a := ⟨w.heap.size + 1 + 1, 0, none⟩) (by simp only; omega) (.bool false))) (a := ⟨w.heap.size + 1 + 1, 1, none⟩) (by simp only; omega) (.slice none 0 0)) (show w.heap.size ≤ _ by omega)
  go_region
  go_wp2
  exact bodyPost_ret (v := .tuple #[.agg #[.bool false, .slice none 0 0], .slice va (k) vc, .bool true, .int .i64 0]) (by simp [results, Try.results11, go_sem, e40, e41]) rfl ⟨_, _, rfl, oG.drew, bG.drew⟩

set_option maxRecDepth 100000 in
set_option maxHeartbeats 4000000 in
theorem refJoin_afmf (a : Option Addr) (n cap : Nat) (s m : Int) (b : Option Addr) (k bc : Nat) (h1 : n = 0) (hm0 : 0 ≤ m) (hm1 : m ≤ 3) (h2 : k ≤ 16) (hf : firstM m = true) (hl : lastM m = false) (t xs : List Int) (hn : t.length = n) (hk : xs.length = k) (w : World) (ha : Holds .u8 w.heap.size w (.slice a n cap) t) (hb : Holds .u8 w.heap.size w (.slice b k bc) xs) :
    Calls Try.prog 11 #[.agg #[.bool false, .slice a n cap], .agg #[.int .i64 s, .int .i64 m, .slice b k bc]] w fun e W' => ∃ va vc, e = .returned (.tuple #[.agg #[.bool true, .slice va (k) vc], .slice none 0 0, .bool false, .int .i64 0]) ∧ W'.ownsRow w.heap.size 5 1 (.slice va (k) vc) (k) ((xs).map (Value.int .u8)) ∧ Below w.heap.size w W' := by
  have b1 := (((Below.refl w.heap.size w).alloc (Nat.le_refl _) (.cells #[.bool false, .slice a n cap] 24)).alloc (by simp) (.cells #[.int .i64 s, .int .i64 m, .slice b k bc] 27)).alloc (by simp; omega) (.cells #[.bool false, .slice none 0 0] 24)
  have x2 := ((Box.new w 24 #[.bool false, .slice a n cap]).alloc (.cells #[.int .i64 s, .int .i64 m, .slice b k bc] 27)).alloc (.cells #[.bool false, .slice none 0 0] 24)
  have x3 := (Box.new (w.alloc (.cells #[.bool false, .slice a n cap] 24)) 27 #[.int .i64 s, .int .i64 m, .slice b k bc]).alloc (.cells #[.bool false, .slice none 0 0] 24)
  have x4 := Box.new ((w.alloc (.cells #[.bool false, .slice a n cap] 24)).alloc (.cells #[.int .i64 s, .int .i64 m, .slice b k bc] 27)) 24 #[.bool false, .slice none 0 0]
  rw [show (w.alloc (.cells #[.bool false, .slice a n cap] 24)).heap.size = w.heap.size + 1 by simp] at x3
  rw [show ((w.alloc (.cells #[.bool false, .slice a n cap] 24)).alloc (.cells #[.int .i64 s, .int .i64 m, .slice b k bc] 27)).heap.size = w.heap.size + 2 by simp] at x4
  have d1 : decide (4096 < n) = false := decide_eq_false (by omega)
  have d1i : decide (4096 < (n : Int)) = false := decide_eq_false (by omega)
  have d2 : decide (0 < n) = false := decide_eq_false (by omega)
  have d2i : decide (0 < (n : Int)) = false := decide_eq_false (by omega)
  have d3 : decide (m < 0) = false := decide_eq_false (by omega)
  have d4 : decide (3 < m) = false := decide_eq_false (by omega)
  have d5 : decide (16 < k) = false := decide_eq_false (by omega)
  have d5i : decide (16 < (k : Int)) = false := decide_eq_false (by omega)
  have f1 : (bits .and .i64 m 1 != 0) = true := (and1_first hm0 hm1).trans hf
  have f2 : (bits .and .i64 m 2 != 0) = false := (and2_last hm0 hm1).trans hl
  have ht4 : n ≤ 4096 := by omega
  have hk16 : k ≤ 16 := h2
  have H1 : Hid (n = 0) := h1
  have HN : Hid (t.length = n) := hn
  have HK : Hid (xs.length = k) := hk
  clear h1 h2 hf hn hk hl
  have ha1 := ha.next b1
  have hb1 := hb.next b1
  have HT := twin_any (.slice a n cap) t _ (by rw [HN.out]; omega) _ ha1
  go_enter Try.func11, Try.ntmps11
  go_wp2_with fail
  refine HT.mono ?_
  rintro e w2 ⟨q, rfl, o2, b2⟩
  rw [HN.out, show (((w.alloc (.cells #[.bool false, .slice a n cap] 24)).alloc (.cells #[.int .i64 s, .int .i64 m, .slice b k bc] 27)).alloc (.cells #[.bool false, .slice none 0 0] 24)).heap.size = w.heap.size + 3 by simp] at o2
  obtain ⟨qa, qc, rfl⟩ : ∃ qa qc, q = .slice qa n qc := by obtain ⟨_, qa, qc, e, _⟩ := kept_of_row (kd := .u8) (zs := t) o2; rw [HN.out] at e; exact ⟨qa, qc, e⟩
  have y2 := x2.next b2
  have y3 := x3.next b2
  have y4 := x4.next b2
  have hb2 := hb1.next b2
  have bb := b1.trans (b2.mono b1.size)
  have hsz : w.heap.size + 3 ≤ w2.heap.size := by have := b2.size; simp at this; omega
  have c20 := y2.cell 0 _ rfl
  have c21 := y2.cell 1 _ rfl
  have g20 := y2.free 0
  have g21 := y2.free 1
  have c30 := y3.cell 0 _ rfl
  have c31 := y3.cell 1 _ rfl
  have c32 := y3.cell 2 _ rfl
  have c40 := y4.cell 0 _ rfl
  have c41 := y4.cell 1 _ rfl
  have g40 := y4.free 0
  have g41 := y4.free 1
  clear HT x2 x3 x4 b1 ha1 hb1
  have d6 : decide (4096 < (k : Int)) = false := decide_eq_false (by omega)
  have d6n : decide (4096 < k) = false := decide_eq_false (by omega)
  have bX : Below w.heap.size w (((w2.setCell ⟨w.heap.size, 1, none⟩ (.slice qa n qc)).setCell ⟨w.heap.size, 0, none⟩ (.bool true)).setCell ⟨w.heap.size, 1, none⟩ (.slice none 0 0)) := ((((((bb).setCell (p := ⟨w.heap.size, 1, none⟩) (by simp only; omega) (.slice qa n qc))).setCell (p := ⟨w.heap.size, 0, none⟩) (by simp only; omega) (.bool true))).setCell (p := ⟨w.heap.size, 1, none⟩) (by simp only; omega) (.slice none 0 0))
  have hsX : (((w2.setCell ⟨w.heap.size, 1, none⟩ (.slice qa n qc)).setCell ⟨w.heap.size, 0, none⟩ (.bool true)).setCell ⟨w.heap.size, 1, none⟩ (.slice none 0 0)).heap.size = w2.heap.size := by simp [World.setCell]
  have oX : (((w2.setCell ⟨w.heap.size, 1, none⟩ (.slice qa n qc)).setCell ⟨w.heap.size, 0, none⟩ (.bool true)).setCell ⟨w.heap.size, 1, none⟩ (.slice none 0 0)).ownsRow (w.heap.size + 3) 5 1 (.slice none 0 0) 0 ((([] : List Int)).map (Value.int .u8)) := World.ownsRow_nil _ _ _ _
  have z2 : Box (((w2.setCell ⟨w.heap.size, 1, none⟩ (.slice qa n qc)).setCell ⟨w.heap.size, 0, none⟩ (.bool true)).setCell ⟨w.heap.size, 1, none⟩ (.slice none 0 0)) w.heap.size 24 #[.bool true, .slice none 0 0] := (((y2.set 1 (.slice qa n qc)).set 0 (.bool true)).set 1 (.slice none 0 0))
  have z3 : Box (((w2.setCell ⟨w.heap.size, 1, none⟩ (.slice qa n qc)).setCell ⟨w.heap.size, 0, none⟩ (.bool true)).setCell ⟨w.heap.size, 1, none⟩ (.slice none 0 0)) (w.heap.size + 1) 27 #[.int .i64 s, .int .i64 m, .slice b k bc] := (((y3.other (p := ⟨w.heap.size, 1, none⟩) (by simp only; omega) (.slice qa n qc)).other (p := ⟨w.heap.size, 0, none⟩) (by simp only; omega) (.bool true)).other (p := ⟨w.heap.size, 1, none⟩) (by simp only; omega) (.slice none 0 0))
  have z4 : Box (((w2.setCell ⟨w.heap.size, 1, none⟩ (.slice qa n qc)).setCell ⟨w.heap.size, 0, none⟩ (.bool true)).setCell ⟨w.heap.size, 1, none⟩ (.slice none 0 0)) (w.heap.size + 2) 24 #[.bool false, .slice none 0 0] := (((y4.other (p := ⟨w.heap.size, 1, none⟩) (by simp only; omega) (.slice qa n qc)).other (p := ⟨w.heap.size, 0, none⟩) (by simp only; omega) (.bool true)).other (p := ⟨w.heap.size, 1, none⟩) (by simp only; omega) (.slice none 0 0))
  have hbX : Holds .u8 w.heap.size (((w2.setCell ⟨w.heap.size, 1, none⟩ (.slice qa n qc)).setCell ⟨w.heap.size, 0, none⟩ (.bool true)).setCell ⟨w.heap.size, 1, none⟩ (.slice none 0 0)) (.slice b k bc) xs := hb.below bX
  obtain ⟨v5, w5, hr5, ho5, hg5⟩ := run_append_u8 (.slice none 0 0) (.slice b k bc) 0 (w.heap.size + 3) _ (([] : List Int)) xs 22 _ oX hbX (by rw [hsX]; omega) (by omega) (by rw [HK.out]; omega)
  have b5 : Below (w.heap.size + 3) (((w2.setCell ⟨w.heap.size, 1, none⟩ (.slice qa n qc)).setCell ⟨w.heap.size, 0, none⟩ (.bool true)).setCell ⟨w.heap.size, 1, none⟩ (.slice none 0 0)) w5 := (Below.refl _ _).grown hg5 (by rw [hsX]; omega) (fun q e => (oX.lt q e).1)
  replace z2 := z2.below b5 (by omega)
  replace z3 := z3.below b5 (by omega)
  replace z4 := z4.below b5 (by omega)
  have bE := bX.trans (b5.mono (by omega))
  have HR : Hid _ := hr5
  obtain ⟨va, vc, hv5⟩ := (holds_of_row ho5).shape
  rw [HK.out] at ho5
  have hln : xs.length = k := HK.out
  rw [List.nil_append, hln] at hv5
  subst hv5
  rw [Nat.zero_add, List.nil_append] at ho5
  have HLN : Hid _ := hln
  clear hln
  have e20 := z2.cell 0 _ rfl
  have e21 := z2.cell 1 _ rfl
  have h21 := z2.free 1
  have h20 := z2.free 0
  have e31 := z3.cell 1 _ rfl
  have e40 := z4.cell 0 _ rfl
  have e41 := z4.cell 1 _ rfl
  have h40 := z4.free 0
  have h41 := z4.free 1
  have l2 := z2.lt
  have l4 := z4.lt
  clear hr5 oX hg5 b5 bX hbX hsX z3 y2 y3 y4 z2 z4
  go_wp2_with (at_builtin; refine wpList_append_k rfl _ _ 22 rfl _ _ rfl rfl _ _ HR.out ?_)
  have bF := ((((((bE).setCell (p := ⟨w.heap.size, 1, none⟩) (by simp only; omega) (.slice va (k) vc))).setCell (p := ⟨w.heap.size + 1 + 1, 0, none⟩) (by simp only; omega) (.bool true))).setCell (p := ⟨w.heap.size + 1 + 1, 1, none⟩) (by simp only; omega) (.slice va (k) vc))
  have oF := rowK_base (ownsRow_setCell_below ((ownsRow_setCell_below ((ownsRow_setCell_below (ho5) (a := ⟨w.heap.size, 1, none⟩) (by simp only; omega) (.slice va (k) vc))) (a := ⟨w.heap.size + 1 + 1, 0, none⟩) (by simp only; omega) (.bool true))) (a := ⟨w.heap.size + 1 + 1, 1, none⟩) (by simp only; omega) (.slice va (k) vc)) (show w.heap.size ≤ _ by omega)
  exact bodyPost_ret (v := .tuple #[.agg #[.bool true, .slice va (k) vc], .slice none 0 0, .bool false, .int .i64 0]) (by simp [results, Try.results11, go_sem, e40, e41]) rfl ⟨_, _, rfl, oF, bF⟩

theorem refJoin_any (o : Bool) (a : Option Addr) (n cap : Nat) (s m : Int) (b : Option Addr) (k bc : Nat) (t xs : List Int) (hn : t.length = n) (hk : xs.length = k) (w : World) (ha : Holds .u8 w.heap.size w (.slice a n cap) t) (hb : Holds .u8 w.heap.size w (.slice b k bc) xs) :
    Calls Try.prog 11 #[.agg #[.bool o, .slice a n cap], .agg #[.int .i64 s, .int .i64 m, .slice b k bc]] w fun e W' => ∃ ta tc ua uc, e = .returned (.tuple #[.agg #[.bool (takeJ (o, t) m xs).1.1, .slice ta (takeJ (o, t) m xs).1.2.length tc], .slice ua (takeJ (o, t) m xs).2.1.length uc, .bool (takeJ (o, t) m xs).2.2, .int .i64 (errJ (o, t) m xs)]) ∧ W'.ownsRow w.heap.size 5 1 (.slice ta (takeJ (o, t) m xs).1.2.length tc) (takeJ (o, t) m xs).1.2.length ((takeJ (o, t) m xs).1.2.map (Value.int .u8)) ∧ W'.ownsRow w.heap.size 5 1 (.slice ua (takeJ (o, t) m xs).2.1.length uc) (takeJ (o, t) m xs).2.1.length ((takeJ (o, t) m xs).2.1.map (Value.int .u8)) ∧ Apart (.slice ta (takeJ (o, t) m xs).1.2.length tc) (.slice ua (takeJ (o, t) m xs).2.1.length uc) ∧ Below w.heap.size w W' := by
  rcases takeJ_cases (o, t) m xs with ⟨h1, h2, h3⟩ | ⟨h1, h2, h3, h4⟩ | ⟨h1, h2, h3, h4, h5⟩ | ⟨h1, h2, h3, h4, h5, h6⟩ | ⟨h1, h2, h3, h4, h5, h6⟩
  · rw [h2, h3]
    exact (refJoin_arg o a n cap s m b k bc t hn h1 w).mono fun e W' ⟨h, b⟩ => h ▸ ⟨_, _, _, _, rfl, World.ownsRow_nil _ _ _ _, World.ownsRow_nil _ _ _ _, .inl rfl, b⟩
  · rw [h3, h4]
    obtain ⟨g1, g2, g3, g4⟩ := (argJ_iff _ _).1 h1
    rw [hk] at h2
    cases o with
    | true => exact (refJoin_len_t a n cap s m b k bc (by simpa [hn] using g1) g3 g4 h2 w).mono fun e W' ⟨h, b⟩ => h ▸ ⟨_, _, _, _, rfl, World.ownsRow_nil _ _ _ _, World.ownsRow_nil _ _ _ _, .inl rfl, b⟩
    | false => exact (refJoin_len_f a n cap s m b k bc (by simpa [hn] using g2) g3 g4 h2 w).mono fun e W' ⟨h, b⟩ => h ▸ ⟨_, _, _, _, rfl, World.ownsRow_nil _ _ _ _, World.ownsRow_nil _ _ _ _, .inl rfl, b⟩
  · rw [h4, h5]
    obtain ⟨g1, g2, g3, g4⟩ := (argJ_iff _ _).1 h1
    rw [hk] at h2
    have hf : firstM m = false := by
      cases hf : firstM m with
      | false => rfl
      | true => unfold openJ at h3; rw [hf] at h3; simp at h3
    have ho : o = false := by unfold openJ at h3; rw [hf] at h3; simpa using h3
    subst ho
    have hn0 : n = 0 := by simpa [hn] using g2
    refine (refJoin_shut a n cap s m b k bc hn0 g3 g4 h2 hf t xs hn hk w ha hb).mono ?_
    rintro e W' ⟨qa, qc, rfl, oq, b⟩
    exact ⟨qa, qc, _, _, rfl, oq, World.ownsRow_nil _ _ _ _, apart_nil _, b⟩
  · rw [h5, h6]
    obtain ⟨g1, g2, g3, g4⟩ := (argJ_iff _ _).1 h1
    rw [hk] at h2 h4
    have hf : firstM m = false := by
      cases hf : firstM m with
      | false => rfl
      | true => unfold openJ at h4; rw [hf] at h4; simp at h4; omega
    have ho : openJ (o, t) m = (o, t) := by unfold openJ; rw [hf]; rfl
    rw [ho] at h3 h4
    simp only at h3 h4
    subst h3
    rw [hn] at h4
    exact (refJoin_full a n cap s m b k bc (by simpa [hn] using g1) g3 g4 h2 hf h4 t xs hn hk w ha hb).mono fun e W' ⟨h, b⟩ => h ▸ ⟨_, _, _, _, rfl, World.ownsRow_nil _ _ _ _, World.ownsRow_nil _ _ _ _, .inl rfl, b⟩
  · rw [h5, h6]
    obtain ⟨g1, g2, g3, g4⟩ := (argJ_iff _ _).1 h1
    rw [hk] at h2 h4
    cases hf : firstM m with
    | true =>
      have ho : openJ (o, t) m = (true, []) := by unfold openJ; rw [hf]; rfl
      rw [ho]
      cases hl : lastM m with
      | true =>
        cases o with
        | true =>
          refine (refJoin_aflt a n cap s m b k bc (by simpa [hn] using g1) g3 g4 h2 hf hl t xs hn hk w ha hb).mono ?_
          rintro e W' ⟨va, vc, rfl, ov, b⟩
          exact ⟨_, _, va, vc, by rw [← hk]; rfl, World.ownsRow_nil _ _ _ _, by rw [← hk] at ov; exact ov, .inl rfl, b⟩
        | false =>
          refine (refJoin_aflf a n cap s m b k bc (by simpa [hn] using g2) g3 g4 h2 hf hl t xs hn hk w ha hb).mono ?_
          rintro e W' ⟨va, vc, rfl, ov, b⟩
          exact ⟨_, _, va, vc, by rw [← hk]; rfl, World.ownsRow_nil _ _ _ _, by rw [← hk] at ov; exact ov, .inl rfl, b⟩
      | false =>
        cases o with
        | true =>
          refine (refJoin_afmt a n cap s m b k bc (by simpa [hn] using g1) g3 g4 h2 hf hl t xs hn hk w ha hb).mono ?_
          rintro e W' ⟨va, vc, rfl, ov, b⟩
          exact ⟨va, vc, _, _, by rw [← hk]; rfl, by rw [← hk] at ov; exact ov, World.ownsRow_nil _ _ _ _, apart_nil _, b⟩
        | false =>
          refine (refJoin_afmf a n cap s m b k bc (by simpa [hn] using g2) g3 g4 h2 hf hl t xs hn hk w ha hb).mono ?_
          rintro e W' ⟨va, vc, rfl, ov, b⟩
          exact ⟨va, vc, _, _, by rw [← hk]; rfl, by rw [← hk] at ov; exact ov, World.ownsRow_nil _ _ _ _, apart_nil _, b⟩
    | false =>
      have ho : openJ (o, t) m = (o, t) := by unfold openJ; rw [hf]; rfl
      rw [ho] at h3 h4 ⊢
      simp only at h3 h4
      subst h3
      rw [hn] at h4
      have e : (t ++ xs).length = n + k := by rw [List.length_append, hn, hk]
      cases hl : lastM m with
      | true =>
        refine (refJoin_aolt a n cap s m b k bc (by simpa [hn] using g1) g3 g4 h2 hf hl h4 t xs hn hk w ha hb).mono ?_
        rintro e' W' ⟨va, vc, rfl, ov, b⟩
        exact ⟨_, _, va, vc, by rw [← e]; rfl, World.ownsRow_nil _ _ _ _, by rw [← e] at ov; exact ov, .inl rfl, b⟩
      | false =>
        refine (refJoin_aomt a n cap s m b k bc (by simpa [hn] using g1) g3 g4 h2 hf hl h4 t xs hn hk w ha hb).mono ?_
        rintro e' W' ⟨va, vc, rfl, ov, b⟩
        exact ⟨va, vc, _, _, by rw [← e]; rfl, by rw [← e] at ov; exact ov, World.ownsRow_nil _ _ _ _, apart_nil _, b⟩


end Go.Proofs.Ytklmiapieaogdaa
