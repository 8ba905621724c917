/-
  What the statements' own Bits (of any numbers 0 and 1 alone) and wakes (true) answer.
-/
import Derived.Test.YtecfniimpedlkaaGfDiv
namespace Go.Proofs.Ytecfniimpedlkaa
open Go.RowKit

theorem and1_bin (z : Int) : bits .and .i64 z 1 = 0 ∨ bits .and .i64 z 1 = 1 := by
  have e : (BitVec.ofInt 64 z &&& BitVec.ofInt 64 1).toNat = (BitVec.ofInt 64 z).toNat % 2 := by
    rw [BitVec.toNat_and, show (BitVec.ofInt 64 1).toNat = 1 by decide, Nat.and_one_is_mod]
  show IntKind.i64.wrap ((BitVec.ofInt 64 z &&& BitVec.ofInt 64 1).toNat : Int) = 0 ∨ IntKind.i64.wrap ((BitVec.ofInt 64 z &&& BitVec.ofInt 64 1).toNat : Int) = 1
  rw [e]
  rcases Nat.mod_two_eq_zero_or_one (BitVec.ofInt 64 z).toNat with h | h
  · rw [h]; left; decide
  · rw [h]; right; decide

theorem row_has {w : World} {base n : Nat} {v : Value} {ys : List Int} (h : w.ownsRow base 3 1 v n (ys.map (Value.int .i64))) : Has w v ys := by
  have hl : ys.length = n := by have := h.1; simpa using this
  refine ⟨holds_of_row h, ?_⟩
  rcases h.2 with ⟨rfl, _⟩ | ⟨g, c, cur, rfl, _, _, h1, h2, _⟩
  · exact ⟨_, _, _, rfl, Nat.le_refl _, by omega⟩
  · exact ⟨_, _, _, rfl, h1, by unfold maxLen at h2; omega⟩

set_option maxRecDepth 100000 in
set_option maxHeartbeats 2000000 in
theorem bits_any (v : Value) (zs : List Int) (hl : zs.length ≤ 4294967296) (w : World) (hH : Has w v zs) :
    Calls Try.prog 20 #[v] w fun e W' => ∃ r ys, e = .returned r ∧ Has W' r ys ∧ Bin ys ∧ ys.length = zs.length ∧ Below w.heap.size w W' := by
  obtain ⟨i0, hi, hz0, hz1, hz2⟩ := info_parts infoI64
  obtain ⟨a, cap, rfl⟩ := hH.1.shape
  have ha := hH.1
  clear hH
  go_enter Try.func20, Try.ntmps20
  go_wp2
  go_loopw [3, 4] (fun v i wr => ∃ k : Nat, k ≤ zs.length ∧ i = .int .i64 k ∧ (∃ ys : List Int, Bin ys ∧ wr.ownsRow w.heap.size 3 1 v k (ys.map (Value.int .i64))) ∧ Below w.heap.size w wr) (fun _ i _ => zs.length - (intOf i).toNat)
  case atStart => exact ⟨0, Nat.zero_le _, rfl, ⟨[], Bin.nil, World.ownsRow_nil _ _ _ _⟩, Below.refl _ _⟩
  case round =>
    obtain ⟨k, hk, rfl, ⟨ys, hys, ho⟩, hbw⟩ := hrel
    by_cases hlt : k < zs.length
    · obtain ⟨z, hzk⟩ : ∃ z, zs[k]? = some z := ⟨zs[k], by simp⟩
      rcases ha with ⟨_, e⟩ | ⟨b, off, cap', e, hb, hcs⟩
      · rw [e] at hlt; exact absurd hlt (by simp)
      · cases e
        have c1 : wr.cell? ⟨b, off + k, none⟩ = some (.int .i64 z) := (hbw.cell (p := ⟨b, off + k, none⟩) hb).trans ((hcs k hlt).trans (by rw [hzk]; rfl))
        have HY : Hid (Bin (ys ++ [bits .and .i64 z 1])) := hys.append (fun x hx => by simp at hx; subst hx; exact and1_bin z)
        obtain ⟨x, hx⟩ : ∃ x, bits .and .i64 z 1 = x := ⟨_, rfl⟩
        rw [hx] at HY
        clear hcs hzk hys
        go_wp2_with (at_builtin; refine wpList_append_own _ rfl _ _ 22 rfl w.heap.size 3 i0 (.int .i64 0) 1 8 Try.underlying22 hi hz0 hz1 hz2 rfl (by decide) _ k _ rfl (ho.alloc _) ⟨wr.heap.size, 0, none⟩ 1 1 [.int .i64 x] rfl rfl (cell_one_new _ _ _) (by simp [Value.oneCell']) (by unfold maxLen; omega) (by omega) (by have := hbw.size; simp; omega) ?_; intro v3 w3 hown3 hgrow3 _)
        have b3 : Below w.heap.size w w3 := (hbw.alloc hbw.size _).trans ((Below.refl _ _).grown hgrow3 (by have := hbw.size; simp; omega) (fun q e => (ho.lt q e).1))
        refine ⟨⟨k + 1, by omega, by go_num, ⟨_, HY.out, ?_⟩, b3⟩, by simp [intOf]; omega⟩
        simpa using hown3
    · obtain rfl : k = zs.length := by omega
      clear ha
      go_wp2
      go_ret
      exact ⟨_, ys, rfl, row_has ho, hys, by have := ho.1; simpa using this, hbw⟩

theorem val_101 : val [1, 0, 1] = 5 := by decide
theorem val_11 : val [1, 1] = 3 := by decide
theorem cl_3_3 : cl 3 3 = 5 := by
  have := cl_push 1 3 1 (by decide)
  rw [cl_one] at this
  exact this.trans (by decide)

set_option maxRecDepth 100000 in
set_option maxHeartbeats 2000000 in
theorem wakes_any (w : World) :
    Calls Try.prog 16 #[] w fun e w' => e = .returned (.bool true) ∧ Below w.heap.size w w' := by
  go_enter Try.func16, Try.ntmps16
  go_wp2_with fail
  have b1 : Below w.heap.size w ((w.alloc (.cells #[.int .i64 1, .int .i64 0, .int .i64 1] 3)).alloc (.cells #[.int .i64 1, .int .i64 1] 3)) := ((Below.refl _ w).alloc (Nat.le_refl _) _).alloc (by simp) _
  have hA : Has ((w.alloc (.cells #[.int .i64 1, .int .i64 0, .int .i64 1] 3)).alloc (.cells #[.int .i64 1, .int .i64 1] 3)) (.slice (some ⟨w.heap.size, 0, none⟩) 3 3) [1, 0, 1] := by
    refine ⟨.inr ⟨w.heap.size, 0, 3, rfl, by simp; omega, fun j hj => ?_⟩, _, _, _, rfl, by omega, by omega⟩
    have hj3 : j < 3 := hj
    match j, hj3 with
    | 0, _ => simp [go_sem]
    | 1, _ => simp [go_sem]
    | 2, _ => simp [go_sem]
  have hB : Has ((w.alloc (.cells #[.int .i64 1, .int .i64 0, .int .i64 1] 3)).alloc (.cells #[.int .i64 1, .int .i64 1] 3)) (.slice (some ⟨w.heap.size + 1, 0, none⟩) 2 2) [1, 1] := by
    refine ⟨.inr ⟨w.heap.size + 1, 0, 2, rfl, by simp, fun j hj => ?_⟩, _, _, _, rfl, by omega, by omega⟩
    have hj2 : j < 2 := hj
    match j, hj2 with
    | 0, _ => simp [go_sem]
    | 1, _ => simp [go_sem]
  have t11 : Tr [1, 1] := ⟨fun x hx => by simp at hx; exact .inr hx, by simp⟩
  refine (div_ok _ _ [1, 0, 1] [1, 1] (by decide) (by decide) (fun x hx => by simp at hx; omega) t11.1 (by rw [val_11]; decide) _ hA hB).mono ?_
  rintro e w1 ⟨vq, vr, qs, rs, ms, rfl, hq, hr, tq, tr, tm, em, es, hlow, bw⟩
  obtain rfl := tm.inj t11 em
  rw [val_101, val_11, show ([1, 1] : List Int).length - 1 = 1 from rfl] at *
  have hone := rest_once (m := 3) (d := 1) (q := 3) (r := 0) (q' := val qs) (r' := val rs) (by decide) (by decide) (by decide) hlow (by rw [← es, cl_3_3]; decide)
  obtain rfl := tq.inj t11 hone.1.symm
  obtain rfl := tr.eq_nil hone.2.symm
  have b2 := b1.trans (bw.mono (by simp; omega))
  obtain ⟨aq, cq, rfl⟩ := hq.1.shape
  obtain ⟨ar, cr, rfl⟩ := hr.1.shape
  have h1' := (hq.next ((Below.refl _ w1).alloc (Nat.le_refl _) (.cells #[.int .i64 1, .int .i64 1] 3))).1
  have h2 : Holds .i64 (w1.heap.size + 1) (w1.alloc (.cells #[.int .i64 1, .int .i64 1] 3)) (.slice (some ⟨w1.heap.size, 0, none⟩) 2 2) [1, 1] := by
    refine .inr ⟨w1.heap.size, 0, 2, rfl, by omega, fun j hj => ?_⟩
    have hj2 : j < 2 := hj
    match j, hj2 with
    | 0, _ => simp [go_sem]
    | 1, _ => simp [go_sem]
  clear hA hB hq hr tq tr tm em es hlow bw hone t11 b1
  go_wp2_with fail
  refine (ints_any _ _ [1, 1] [1, 1] _ _ _ (by decide) h1' h2).mono ?_
  rintro e w2 ⟨rfl, q, rfl⟩
  clear h1' h2
  go_wp2
  go_ret
  refine ⟨rfl, ?_⟩
  exact b2.trans ((below_drewN ((Below.refl _ w1).alloc (Nat.le_refl _) _) _).mono b2.size)

end Go.Proofs.Ytecfniimpedlkaa
