/-
  What bit.pieces tells, range by range: of each byte its bits, or its nibbles, the highest first; and what bit.takeApart makes of it: for every text in memory.
-/
import Derived.Test.YtmjidhnlofpliaaDoorM03
import Derived.LoopIn
import Derived.LoopNIn
import Derived.Maps.AppendAt
import Derived.OwnWalkIn
import Derived.RangeFuncBound
import Derived.RangeFuncBox
import Derived.RangeFuncCalls
import Derived.RangeFuncLeaves
import Derived.RangeFuncNested
import Derived.Shelf.Abstract
import Derived.Shelf.RegionOpen
import Derived.TacticsInMore
import Derived.Test.YtmjidhnlofpliaaDoorRows
import Derived.WalkKit
namespace Go.Proofs.YtmjidhnlofpliaaDoor
open Go.RowKit Go.Shelf
attribute [local go_sem] Oper.semAt_some

/-- The nibbles of a byte. -/
def nibsOf (x : Int) : List Int := [x / 16 % 16, x % 16]
/-- What the body of a range over pieces must keep: all below n₀, and the boxes of width and mask. -/
def KpP (n₀ Bw Bm : Nat) (W W' : World) : Prop := Below n₀ W W' ∧ W'.heap[Bw]? = W.heap[Bw]? ∧ W'.heap[Bm]? = W.heap[Bm]?

theorem KpP.cellw {n₀ Bw Bm : Nat} {W W' : World} (h : KpP n₀ Bw Bm W W') : W'.cell? ⟨Bw, 0, none⟩ = W.cell? ⟨Bw, 0, none⟩ := by simp [World.cell?, h.2.1]
theorem KpP.cellm {n₀ Bw Bm : Nat} {W W' : World} (h : KpP n₀ Bw Bm W W') : W'.cell? ⟨Bm, 0, none⟩ = W.cell? ⟨Bm, 0, none⟩ := by simp [World.cell?, h.2.2]

theorem KpP.trans {n₀ Bw Bm : Nat} {A B C : World} (h : KpP n₀ Bw Bm A B) (k : KpP n₀ Bw Bm B C) : KpP n₀ Bw Bm A C := ⟨h.1.trans k.1, k.2.1.trans h.2.1, k.2.2.trans h.2.2⟩
theorem KpP.of_drew {n₀ Bw Bm : Nat} {W W' : World} (h : KpP n₀ Bw Bm W.drew W') : KpP n₀ Bw Bm W W' := ⟨((Below.refl n₀ W).drew).trans h.1, h.2.1, h.2.2⟩

theorem yieldBool {A B : World → Prop} {C : World → Prop} (e : Ending) (W' : World) (h : (e = .returned (.bool true) ∧ A W' ∧ B W') ∨ (e = .returned (.bool false) ∧ C W')) :
    ∃ bv, e = .returned (.bool bv) ∧ ((bv = true ∧ A W' ∧ B W') ∨ (bv = false ∧ C W')) := by
  rcases h with ⟨rfl, h1, h2⟩ | ⟨rfl, h1⟩
  · exact ⟨true, rfl, .inl ⟨rfl, h1, h2⟩⟩
  · exact ⟨false, rfl, .inr ⟨rfl, h1⟩⟩

theorem flat_succ (f : Int → List Int) {zs : List Int} {k : Nat} {z : Int} (h : zs[k]? = some z) : (zs.take (k + 1)).flatMap f = (zs.take k).flatMap f ++ f z := by
  rw [List.take_add_one, h]; simp

theorem flat_len (f : Int → List Int) (c : Nat) (hf : ∀ x, (f x).length = c) (zs : List Int) (k : Nat) (h : k ≤ zs.length) : ((zs.take k).flatMap f).length = c * k := by
  induction k with
  | zero => simp
  | succ k ih =>
    have hk : zs[k]? = some zs[k] := by simp
    rw [flat_succ f hk, List.length_append, ih (by omega), hf, Nat.mul_succ]

theorem flat_prefix (f : Int → List Int) {zs : List Int} {k : Nat} {z : Int} (h : zs[k]? = some z) {p : List Int} (hp : p <+: f z) : (zs.take k).flatMap f ++ p <+: zs.flatMap f := by
  obtain ⟨q, hq⟩ := hp
  have e : zs = zs.take (k + 1) ++ zs.drop (k + 1) := (List.take_append_drop _ _).symm
  refine ⟨q ++ (zs.drop (k + 1)).flatMap f, ?_⟩
  rw [List.append_assoc, ← List.append_assoc p, hq, ← List.append_assoc, ← flat_succ f h, ← List.flatMap_append, ← e]


set_option maxRecDepth 100000 in
set_option maxHeartbeats 4000000 in
theorem nibs1_in (n : Nat) (hn : 1 ≤ n) (l Bb Bw Bm n₀ b off len cap : Nat) (zs : List Int) (hlen : zs.length = len) (hmax : len ≤ 4097) (hz : ∀ z ∈ zs, 0 ≤ z ∧ z ≤ 255) (hb : b < n₀) (J Jx : List Int → World → Prop) (hJd : ∀ pre W, J pre W → J pre W.drew)
    (hY : ∀ pre x W, J pre W → pre.length < 2 * len → YieldAt Fence.wide (n - 1) Tryd.prog l #[.int .i64 x] W fun e W' =>
      (e = .returned (.bool true) ∧ J (pre ++ [x]) W' ∧ KpP n₀ Bw Bm W W') ∨ (e = .returned (.bool false) ∧ Jx (pre ++ [x]) W'))
    (W : World) (hBb : W.cell? ⟨Bb, 0, none⟩ = some (.slice (some ⟨b, off, none⟩) len cap)) (hBw : W.cell? ⟨Bw, 0, none⟩ = some (.int .i64 4)) (hBm : W.cell? ⟨Bm, 0, none⟩ = some (.int .i64 15))
    (hc : ∀ j, j < len → W.cell? ⟨b, off + j, none⟩ = some (.int .u8 (zs[j]?.getD 0))) (h0 : J [] W) :
    CallsIn Fence.wide n Tryd.prog 99 #[.func (.yield l) #[] #[], .pointer (some ⟨Bb, 0, none⟩), .pointer (some ⟨Bw, 0, none⟩), .pointer (some ⟨Bm, 0, none⟩)] W fun e W' => (∃ v, e = .returned v) ∧
      ((∃ ys, ys = zs.flatMap nibsOf ∧ J ys W') ∨ (∃ pre, pre <+: zs.flatMap nibsOf ∧ Jx pre W')) := by
  have hmix : Tryd.prog.follows .mixedOrders = true := by kernel_rfl
  refine callsIn_of_wp Tryd.func99 rfl trivial ?_ rfl
  simp only [Tryd.ntmps99, List.size_toArray, List.length_cons, List.length_nil, Nat.reduceAdd, Nat.reduceSub, Array.replicate_succ, Array.replicate_zero, List.push_toArray, List.append_toArray, List.nil_append, List.cons_append]
  gi_wp2
  gi_loopw [10] (fun i wr => ∃ k : Nat, k ≤ len ∧ i = .int .i64 k ∧ J ((zs.take k).flatMap nibsOf) wr ∧ KpP n₀ Bw Bm W wr)
    (fun i _ => len - (intOf i).toNat)
  case atStart => exact ⟨0, Nat.zero_le _, rfl, h0, Below.refl _ _, rfl, rfl⟩
  case round =>
    obtain ⟨k, hk, rfl, hJs, hkp⟩ := hrel
    have hw' := hkp.cellw.trans hBw
    by_cases hlt : k < len
    · obtain ⟨z, hzk, hz0, hz1⟩ : ∃ z, zs[k]? = some z ∧ 0 ≤ z ∧ z ≤ 255 := ⟨zs[k], by simp, (hz _ (List.getElem_mem _)).1, (hz _ (List.getElem_mem _)).2⟩
      have hcx' : wr.cell? ⟨b, off + k, none⟩ = some (.int .u8 z) := (hkp.1.cell (p := ⟨b, off + k, none⟩) hb).trans ((hc k hlt).trans (by rw [hzk]; rfl))
      have HZ : Hid (zs[k]? = some z) := hzk
      have HL : Hid (((zs.take k).flatMap nibsOf).length = 2 * k) := flat_len nibsOf 2 (fun _ => rfl) zs k (by omega)
      have hwz : IntKind.i64.wrap z = z := by rw [IntKind.wrap_i64]; omega
      clear hzk hc
      gi_wp2
      gi_loopw [7] (fun lf w2 => ∃ j : Nat, j ≤ 2 ∧ lf = .int .i64 (4 - 4 * (j : Int)) ∧ J ((zs.take k).flatMap nibsOf ++ (nibsOf z).take j) w2 ∧ KpP n₀ Bw Bm W w2)
        (fun lf _ => (intOf lf + 4).toNat)
      case atStart => exact ⟨0, by omega, rfl, by simpa using hJs, hkp⟩
      case round =>
        obtain ⟨j, hj, rfl, hJ2, hkp2⟩ := hrel
        have hw2 := hkp2.cellw.trans hBw
        have hm2 := hkp2.cellm.trans hBm
        match j, hj with
        | 0, _ =>
          have e1 : bits .and .i64 (z / 16) 15 = z / 16 % 16 := i64_and15 _ (by omega) (by omega)
          have hpl : ((zs.take k).flatMap nibsOf ++ (nibsOf z).take 0).length < 2 * len := by rw [List.length_append, HL.out]; simp [nibsOf]; omega
          have ex : (zs.take k).flatMap nibsOf ++ (nibsOf z).take 0 ++ [z / 16 % 16] = (zs.take k).flatMap nibsOf ++ (nibsOf z).take 1 := by simp [nibsOf]
          obtain ⟨fn, tmps, assign, body, hy, hR⟩ := hY _ (z / 16 % 16) wr.drew (hJd _ _ hJ2) hpl
          rw [ex] at hR
          have hR' := hR.mono (fun e W' h => yieldBool (A := J ((zs.take k).flatMap nibsOf ++ (nibsOf z).take 1)) (B := KpP n₀ Bw Bm wr.drew) (C := Jx ((zs.take k).flatMap nibsOf ++ (nibsOf z).take 1)) e W' h)
          clear hR ex
          gi_wp2
          gi_region_with_o (with_reducible refine RoundIn.mono hR' ?_; rintro e W3 ⟨bv, rfl, hor⟩)
          rcases hor with ⟨rfl, hJ3, hk3⟩ | ⟨rfl, hJx3⟩
          · have hw3 : W3.cell? ⟨Bw, 0, none⟩ = some (.int .i64 4) := hk3.cellw.trans hw2
            gi_wp2
            go_roundw
            case rel => exact ⟨1, by omega, rfl, hJ3, hkp2.trans (hk3.of_drew)⟩
            case measure => simp [intOf]
          · gi_wp2
            refine bodyPost_ret (results_none rfl _ _ _) rfl ?_
            exact ⟨⟨_, rfl⟩, .inr ⟨_, flat_prefix nibsOf HZ.out (List.take_prefix _ _), hJx3⟩⟩
        | 1, _ =>
          have e1 : bits .and .i64 (z) 15 = z % 16 := i64_and15 _ (by omega) (by omega)
          have hpl : ((zs.take k).flatMap nibsOf ++ (nibsOf z).take 1).length < 2 * len := by rw [List.length_append, HL.out]; simp [nibsOf]; omega
          have ex : (zs.take k).flatMap nibsOf ++ (nibsOf z).take 1 ++ [z % 16] = (zs.take k).flatMap nibsOf ++ (nibsOf z).take 2 := by simp [nibsOf]
          obtain ⟨fn, tmps, assign, body, hy, hR⟩ := hY _ (z % 16) wr.drew (hJd _ _ hJ2) hpl
          rw [ex] at hR
          have hR' := hR.mono (fun e W' h => yieldBool (A := J ((zs.take k).flatMap nibsOf ++ (nibsOf z).take 2)) (B := KpP n₀ Bw Bm wr.drew) (C := Jx ((zs.take k).flatMap nibsOf ++ (nibsOf z).take 2)) e W' h)
          clear hR ex
          gi_wp2
          gi_region_with_o (with_reducible refine RoundIn.mono hR' ?_; rintro e W3 ⟨bv, rfl, hor⟩)
          rcases hor with ⟨rfl, hJ3, hk3⟩ | ⟨rfl, hJx3⟩
          · have hw3 : W3.cell? ⟨Bw, 0, none⟩ = some (.int .i64 4) := hk3.cellw.trans hw2
            gi_wp2
            go_roundw
            case rel => exact ⟨2, by omega, rfl, hJ3, hkp2.trans (hk3.of_drew)⟩
            case measure => simp [intOf]
          · gi_wp2
            refine bodyPost_ret (results_none rfl _ _ _) rfl ?_
            exact ⟨⟨_, rfl⟩, .inr ⟨_, flat_prefix nibsOf HZ.out (List.take_prefix _ _), hJx3⟩⟩
        | 2, _ =>
          have ef : (zs.take k).flatMap nibsOf ++ (nibsOf z).take 2 = (zs.take (k + 1)).flatMap nibsOf := by rw [flat_succ nibsOf HZ.out]; rfl
          rw [ef] at hJ2
          gi_wp2
          go_roundw
          case rel => exact ⟨k + 1, by omega, by go_num, hJ2, hkp2⟩
          case measure => simp [intOf]; omega
    · obtain rfl : k = len := by omega
      gi_wp2
      go_end0
      exact ⟨⟨_, rfl⟩, .inl ⟨_, by rw [List.take_of_length_le (by omega)], hJs⟩⟩

end Go.Proofs.YtmjidhnlofpliaaDoor
