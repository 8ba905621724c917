/-
  What bit.Bits and bit.Nibbles answer, for every text in memory: the bits, the nibbles of its bytes, in new memory; a text of more than 4096 bytes is refused.
-/
import Derived.Test.YtmjidhnlofpliaaDoorM01
import Derived.Test.YtmjidhnlofpliaaDoorM04
namespace Go.Proofs.YtmjidhnlofpliaaDoor
open Go.RowKit Go.Shelf
attribute [local go_sem] Oper.semAt_some

theorem grown_drew' (w : World) (row : Option Nat) : w.grownBy w.drew row := ⟨rfl, rfl, rfl, Nat.le_refl _, fun _ _ _ => rfl⟩

/-- A block that an append in place and the store back do not touch. -/
theorem app_keep {W w5 : World} {tmp : Obj} {g B k : Nat} {v' : Value} (hgrow : (W.alloc tmp).grownBy w5 (some g)) (hk : k < W.heap.size) (h1 : k ≠ g) (h2 : k ≠ B) : (w5.setCell ⟨B, 0, none⟩ v').heap[k]? = W.heap[k]? := by
  rw [Below.heap_setCell _ _ _ _ h2]
  exact (hgrow.block k (by simp; omega) (by simpa using h1)).trans (Below.heap_alloc W tmp k hk)

set_option maxHeartbeats 400000 in
theorem isLong_in (n : Nat) (a : Option Addr) (len cap : Nat) (w : World) (h : len ≤ 4611686018427387904) :
    CallsIn Fence.wide n Tryd.prog 96 #[.slice a len cap] w fun e w' => e = .returned (.bool (decide (4096 < len))) ∧ w = w' := by
  refine callsIn_of_wp Tryd.func96 rfl trivial ?_ rfl
  simp only [Tryd.ntmps96, List.size_toArray, List.length_cons, List.length_nil, Nat.reduceAdd, Nat.reduceSub, Array.replicate_succ, Array.replicate_zero, List.push_toArray, List.append_toArray, List.nil_append, List.cons_append]
  gi_wp2
  go_ret
  refine ⟨?_, rfl⟩
  simp
  omega

theorem isLong_no (n : Nat) (a : Option Addr) (len cap : Nat) (w : World) (h2 : len ≤ 4096) :
    CallsIn Fence.wide n Tryd.prog 96 #[.slice a len cap] w fun e w' => e = .returned (.bool false) ∧ w = w' := by
  have e := isLong_in n a len cap w (by omega)
  rw [decide_eq_false (by omega)] at e
  exact e

theorem infoInt : (Tryd.prog.info? 3).map (fun i => (i.zero, i.size, i.bytes)) = some (some (.int .i64 0), 1, 8) := by kernel_rfl

set_option maxRecDepth 100000 in
set_option maxHeartbeats 1000000 in
/-- At a slice of length 0: no round. -/
theorem nil1_in (n : Nat) (l Bb Bw Bm : Nat) (a : Option Addr) (cap : Nat) (J : List Int → World → Prop) (W : World) (hBb : W.cell? ⟨Bb, 0, none⟩ = some (.slice a 0 cap)) (h0 : J [] W) :
    CallsIn Fence.wide n Tryd.prog 99 #[.func (.yield l) #[] #[], .pointer (some ⟨Bb, 0, none⟩), .pointer (some ⟨Bw, 0, none⟩), .pointer (some ⟨Bm, 0, none⟩)] W fun e W' => (∃ v, e = .returned v) ∧ J [] W' := by
  refine callsIn_of_wp Tryd.func99 rfl trivial ?_ rfl
  simp only [Tryd.ntmps99, List.size_toArray, List.length_cons, List.length_nil, Nat.reduceAdd, Nat.reduceSub, Array.replicate_succ, Array.replicate_zero, List.push_toArray, List.append_toArray, List.nil_append, List.cons_append]
  gi_wp2
  gi_loopw [10] (fun i wr => i = .int .i64 0 ∧ J [] wr) (fun _ _ => 0)
  case atStart => exact ⟨rfl, h0⟩
  case round =>
    obtain ⟨rfl, hJs⟩ := hrel
    gi_wp2
    go_end0
    exact ⟨⟨_, rfl⟩, hJs⟩

set_option maxHeartbeats 1000000 in
theorem pieces4_in (n : Nat) (a : Option Addr) (len cap : Nat) (w : World) :
    CallsIn Fence.wide n Tryd.prog 97 #[.slice a len cap, .int .i64 4] w fun e w' => e = .returned (.func (.func 99) #[] #[.pointer (some ⟨w.heap.size, 0, none⟩), .pointer (some ⟨w.heap.size + 1, 0, none⟩), .pointer (some ⟨w.heap.size + 2, 0, none⟩)]) ∧
      w' = ((w.alloc (.cells #[.slice a len cap] 35)).alloc (.cells #[.int .i64 4] 3)).alloc (.cells #[.int .i64 15] 3) := by
  refine callsIn_of_wp Tryd.func97 rfl trivial ?_ rfl
  simp only [Tryd.ntmps97, List.size_toArray, List.length_cons, List.length_nil, Nat.reduceAdd, Nat.reduceSub, Array.replicate_succ, Array.replicate_zero, List.push_toArray, List.append_toArray, List.nil_append, List.cons_append]
  gi_wp2
  go_ret
  exact ⟨rfl, rfl⟩

theorem nibs_stops (n : Nat) (hn : 1 ≤ n) (Bb Bw Bm n₀ : Nat) (v : Value) (zs : List Int) (hl : zs.length ≤ 4097) (hz : ∀ z ∈ zs, 0 ≤ z ∧ z ≤ 255) (w : World) (hBb : Bb < w.heap.size) (hBw : Bw < w.heap.size) (hBm : Bm < w.heap.size) (hn₀ : n₀ ≤ w.heap.size)
    (hcb : w.cell? ⟨Bb, 0, none⟩ = some v) (hcw : w.cell? ⟨Bw, 0, none⟩ = some (.int .i64 4)) (hcm : w.cell? ⟨Bm, 0, none⟩ = some (.int .i64 15)) (hI : Holds .u8 n₀ w v zs) :
    SeqStopsK Fence.wide n Tryd.prog 99 #[.pointer (some ⟨Bb, 0, none⟩), .pointer (some ⟨Bw, 0, none⟩), .pointer (some ⟨Bm, 0, none⟩)] (fun x : Int => #[Value.int .i64 x]) (KpP n₀ Bw Bm) (fun ys => ys = zs.flatMap nibsOf) (fun pre => pre <+: zs.flatMap nibsOf) (2 * zs.length) w := fun l J Jx W hW hJ _ hY h0 => by
  have hb' := (hW.cell (p := ⟨Bb, 0, none⟩) hBb).trans hcb
  have hw' := (hW.cell (p := ⟨Bw, 0, none⟩) hBw).trans hcw
  have hm' := (hW.cell (p := ⟨Bm, 0, none⟩) hBm).trans hcm
  rcases hI.below (hW.mono hn₀) with ⟨⟨a, cap, rfl, _⟩, rfl⟩ | ⟨b, off, cap, rfl, hb, hcs⟩
  · exact (nil1_in n l Bb Bw Bm a cap J W hb' h0).mono fun e W' ⟨he, hj⟩ => ⟨he, .inl ⟨_, rfl, hj⟩⟩
  · exact nibs1_in n hn l Bb Bw Bm n₀ b off zs.length cap zs rfl hl hz hb J Jx (fun pre A hA => hJ pre A A.drew none hA (grown_drew' A none) (fun r e => by cases e)) hY W hb' hw' hm' hcs h0

set_option maxRecDepth 100000 in
set_option maxHeartbeats 4000000 in
theorem takeNibs_in (n : Nat) (hn : 3 ≤ n) (v : Value) (zs : List Int) (hl : zs.length ≤ 4096) (hz : ∀ z ∈ zs, 0 ≤ z ∧ z ≤ 255) (w : World) (hH : Holds .u8 w.heap.size w v zs) :
    CallsIn Fence.wide n Tryd.prog 91 #[v, .int .i64 4] w fun e W' => ∃ r, e = .returned (.tuple #[r, .int .i64 0]) ∧ W'.ownsRow w.heap.size 3 1 r (2 * zs.length) ((zs.flatMap nibsOf).map (Value.int .i64)) ∧ Below w.heap.size w W' := by
  have h1 : 1 ≤ n := by omega
  obtain ⟨a, cap, rfl⟩ := hH.shape
  obtain ⟨i0, hi, hz0, hz1, hz2⟩ := info_parts infoInt
  have hflat : (zs.flatMap nibsOf).length = 2 * zs.length := by have := flat_len nibsOf 2 (fun _ => rfl) zs zs.length (Nat.le_refl _); rwa [List.take_length] at this
  have HF : Hid ((zs.flatMap nibsOf).length = 2 * zs.length) := hflat
  clear hflat
  refine callsIn_of_wp_marks Tryd.func91 rfl trivial ?_ rfl
  simp only [Tryd.ntmps91, List.size_toArray, List.length_cons, List.length_nil, Nat.reduceAdd, Nat.reduceSub, Array.replicate_succ, Array.replicate_zero, List.push_toArray, List.append_toArray, List.nil_append, List.cons_append]
  have f1 : Fence.wide.fn 96 := trivial
  have f2 : Fence.wide.fn 97 := trivial
  gi_wp2_with (first | (gi_at_call 96; refine (isLong_no (n - 1) _ _ _ _ hl).mono ?_; rintro e w' ⟨rfl, rfl⟩) | (gi_at_make; refine wpListIn_make_own _ rfl _ _ 27 rfl w.heap.size 3 i0 (.int .i64 0) 1 Tryd.underlying27 hi hz0 hz1 .i64 .i64 _ (2 * zs.length) rfl rfl (by omega) (by rw [hz2]; omega) (by unfold maxLen; omega) (Nat.le_refl _) ?_; intro w1 hown1 hgrow1) | (gi_at_call 97; refine (pieces4_in (n - 1) _ _ _ _).mono ?_; rintro e w' ⟨rfl, rfl⟩))
  have hg0 : w.heap.size < w1.heap.size := (hown1.lt w.heap.size rfl).2
  have bO := (((Boxed.new w1 27 (.slice (some ⟨w.heap.size, 0, none⟩) 0 (2 * zs.length))).alloc (.cells #[.slice a zs.length cap] 35)).alloc (.cells #[.int .i64 4] 3)).alloc (.cells #[.int .i64 15] 3)
  have bB := ((Boxed.new (w1.alloc (.cells #[.slice (some ⟨w.heap.size, 0, none⟩) 0 (2 * zs.length)] 27)) 35 (.slice a zs.length cap)).alloc (.cells #[.int .i64 4] 3)).alloc (.cells #[.int .i64 15] 3)
  have bW := (Boxed.new ((w1.alloc (.cells #[.slice (some ⟨w.heap.size, 0, none⟩) 0 (2 * zs.length)] 27)).alloc (.cells #[.slice a zs.length cap] 35)) 3 (.int .i64 4)).alloc (.cells #[.int .i64 15] 3)
  have bM := Boxed.new (((w1.alloc (.cells #[.slice (some ⟨w.heap.size, 0, none⟩) 0 (2 * zs.length)] 27)).alloc (.cells #[.slice a zs.length cap] 35)).alloc (.cells #[.int .i64 4] 3)) 3 (.int .i64 15)
  have hrow4 := (((hown1.alloc (.cells #[.slice (some ⟨w.heap.size, 0, none⟩) 0 (2 * zs.length)] 27)).alloc (.cells #[.slice a zs.length cap] 35)).alloc (.cells #[.int .i64 4] 3)).alloc (.cells #[.int .i64 15] 3)
  have hB01 : Below w.heap.size w w1 := (Below.refl _ w).grown hgrow1 (Nat.le_refl _) (fun k e => by cases e)
  have hB04 := ((((hB01.alloc (by omega) (.cells #[.slice (some ⟨w.heap.size, 0, none⟩) 0 (2 * zs.length)] 27)).alloc (by simp; omega) (.cells #[.slice a zs.length cap] 35)).alloc (by simp; omega) (.cells #[.int .i64 4] 3)).alloc (by simp; omega) (.cells #[.int .i64 15] 3))
  simp only [World.size_alloc] at bB bW bM
  obtain ⟨w4, hw4⟩ : ∃ w4, ((((w1.alloc (.cells #[.slice (some ⟨w.heap.size, 0, none⟩) 0 (2 * zs.length)] 27)).alloc (.cells #[.slice a zs.length cap] 35)).alloc (.cells #[.int .i64 4] 3)).alloc (.cells #[.int .i64 15] 3)) = w4 := ⟨_, rfl⟩
  have hsz : w4.heap.size = w1.heap.size + 1 + 1 + 1 + 1 := by rw [← hw4]; simp
  rw [hw4] at bO bB bW bM hrow4 hB04 ⊢
  clear hw4 hown1 hgrow1 hB01
  have hsz4 : w1.heap.size + 4 ≤ w4.heap.size := by omega
  have HS : Hid (w4.heap.size = w1.heap.size + 1 + 1 + 1 + 1) := hsz
  clear hsz
  refine wpIn_rangeFunc_ownG rfl h1 (gf := 99) (lb := #[.pointer (some ⟨w1.heap.size + 1, 0, none⟩), .pointer (some ⟨w1.heap.size + 1 + 1, 0, none⟩), .pointer (some ⟨w1.heap.size + 1 + 2, 0, none⟩)]) rfl trivial (enters_of Tryd.func99 (by kernel_rfl) rfl)
    (nibs_stops (n - 1) (by omega) (w1.heap.size + 1) (w1.heap.size + 1 + 1) (w1.heap.size + 1 + 2) w.heap.size _ zs (by omega) hz w4 (by omega) (by omega) (by omega) (by omega) bB.cell bW.cell bM.cell (hH.below hB04))
    (fun h k => h.trans k) (fun W l o o' hl ho hc hw => ⟨belowK_b (w := w4) (by omega) W l o o' hl ho hc hw, World.putObj_heap_other (by omega), World.putObj_heap_other (by omega)⟩) (Below.refl _ _) (fun _ => rfl)
    (fun pre W => (∃ v, Boxed W w1.heap.size 27 v ∧ W.ownsRow w.heap.size 3 1 v pre.length (pre.map (Value.int .i64)) ∧ v = .slice (some ⟨w.heap.size, 0, none⟩) pre.length (2 * zs.length)) ∧ Below w.heap.size w4 W)
    (fun _ _ _ => False)
    (OwnFrom.and (Own.from (holdsRow_own w.heap.size w1.heap.size 27 3 1 (fun pre : List Int => pre.length) (fun pre : List Int => pre.map (Value.int .i64)) (fun (pre : List Int) v => v = .slice (some ⟨w.heap.size, 0, none⟩) pre.length (2 * zs.length))) _) (ownFrom_below (by omega) (by omega)))
    (fun _ _ _ _ _ hs _ _ => hs)
    ⟨⟨_, bO, hrow4, rfl⟩, Below.refl _ _⟩
    (fun x => { tmps := #[.slice a zs.length cap, .int .i64 4, undef, undef, .slice none 0 0, .int .i64 0, .pointer (some ⟨w1.heap.size, 0, none⟩), .int .i64 x, .slice a zs.length cap, .bool false, .slice a zs.length cap, .int .i64 zs.length, .int .i64 (zs.length * 8), .int .i64 4, .int .i64 (zs.length * 8 / 4), .slice (some ⟨w.heap.size, 0, none⟩) 0 (2 * zs.length), .slice a zs.length cap, .int .i64 4,
      .func (.func 99) #[] #[.pointer (some ⟨w1.heap.size + 1, 0, none⟩), .pointer (some ⟨w1.heap.size + 1 + 1, 0, none⟩), .pointer (some ⟨w1.heap.size + 1 + 2, 0, none⟩)], .int .i64 x, undef, undef, undef, undef, undef], defers := [] }) ?assign ?body ?done ?stop
  case assign =>
    intro l x W K hK
    gi_wp2
    exact hK
  case body =>
    rintro l pre x W ⟨⟨v, hv, hrow, rfl⟩, hB⟩ hlt
    have hc := hv.cell
    have hs := hB.size
    gi_wp2_with (gi_at_builtin; refine wpListIn_append_fits _ rfl _ _ 27 rfl w.heap.size 3 i0 1 Tryd.underlying27 hi hz1 w.heap.size pre.length (2 * zs.length) (pre.map (Value.int .i64)) rfl (hrow.alloc _) ⟨W.heap.size, 0, none⟩ 1 1 [.int .i64 x] rfl rfl (cell_one_new _ _ _) (by simp [Value.oneCell']) (by omega) ?_; intro w5 hown' hgrow; obtain ⟨hv1, hv2, hr2, hk2, hb2⟩ := hv.appended (by decide) hrow (by omega) (by omega) hown' hgrow; have hc1 := hv1.cell; have hf1 := hv1.frozen)
    refine ⟨hk2.from _, ⟨hb2, app_keep hgrow (by omega) (by omega) (by omega), app_keep hgrow (by omega) (by omega) (by omega)⟩, ⟨_, hv2, ?_, ?_⟩, hB.trans hb2⟩
    · simpa using hr2
    · simp
  case done =>
    rintro D ys W hD hys ⟨⟨v, hv, hrow, hveq⟩, hB⟩ hK
    have hrow' : W.ownsRow w.heap.size 3 1 v (2 * zs.length) ((zs.flatMap nibsOf).map (Value.int .i64)) := by rw [← HF.out, ← hys]; exact hrow
    have hc := hv.cell
    clear hys hrow hveq
    gi_wp2
    refine ⟨by simp, .inl ⟨_, _, rfl, run_takeDeferred hK, ?_⟩⟩
    refine ⟨_, results_tmp2 rfl _ _ _, _, rfl, ?_, (hB04.trans hB).trans (belowK_b (w := w4) (by omega) W D _ _ hD hK rfl rfl)⟩
    exact ownsRow_putObj hrow' _ hK rfl
  case stop =>
    rintro D c pre W _ _ h _
    exact h.elim

set_option maxHeartbeats 400000 in
/-- bit.Nibbles, of a text that may be. -/
theorem nibs_any (v : Value) (zs : List Int) (hl : zs.length ≤ 4096) (hz : ∀ z ∈ zs, 0 ≤ z ∧ z ≤ 255) (w : World) (hH : Holds .u8 w.heap.size w v zs) :
    Calls Tryd.prog 86 #[v] w fun e W' => ∃ r, e = .returned (.tuple #[r, .int .i64 0]) ∧ W'.ownsRow w.heap.size 3 1 r (2 * zs.length) ((zs.flatMap nibsOf).map (Value.int .i64)) ∧ Below w.heap.size w W' := by
  go_enter Tryd.func86, Tryd.ntmps86
  go_wp2_with (go_at_call 91; refine (callsIn_wide.1 (takeNibs_in 3 (Nat.le_refl _) v zs hl hz w hH)).mono ?_; rintro e w' ⟨r, rfl, hr, hb⟩)
  go_ret2
  exact ⟨r, rfl, hr, hb⟩

end Go.Proofs.YtmjidhnlofpliaaDoor
