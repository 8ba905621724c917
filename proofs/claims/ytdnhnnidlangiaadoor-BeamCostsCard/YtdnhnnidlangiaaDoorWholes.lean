/-
  What bit.wholes tells, range by range: the bytes that pieces of four bits, or of one bit, are put together to.
-/
import Derived.RangeFuncNested
import Derived.RangeFuncBound
import Derived.RangeFuncCalls
import Derived.RangeFuncLeaves
import Derived.RangeFuncBox
import Derived.Shelf.Abstract
import Derived.Shelf.RegionOpen
import Derived.WalkKit
import Derived.OwnWalkIn
import Derived.TacticsInMore
import Derived.LoopNIn
import Derived.LoopIn
import Derived.Maps.AppendAt
import Derived.Test.YtdnhnnidlangiaaDoorMem
import Derived.Test.YtdnhnnidlangiaaDoorApart
namespace Go.Proofs.YtdnhnnidlangiaaDoor
open Go.RowKit Go.Shelf
attribute [local go_sem] Oper.semAt_some

/-- The number that pieces of width wd make, the highest first. -/
def joinW (wd : Nat) (l : List Int) : Int := l.foldl (fun acc x => acc * 2 ^ wd + x) 0

/-- The bytes of a row, c pieces of width wd a byte, k of them. -/
def wholesOf (wd c : Nat) (ls : List Int) (k : Nat) : List Int := (List.range k).map (fun i => joinW wd ((ls.drop (c * i)).take c))

theorem wholesOf_succ (wd c : Nat) (ls : List Int) (k : Nat) : wholesOf wd c ls (k + 1) = wholesOf wd c ls k ++ [joinW wd ((ls.drop (c * k)).take c)] := by simp [wholesOf, List.range_succ]
theorem wholesOf_len (wd c : Nat) (ls : List Int) (k : Nat) : (wholesOf wd c ls k).length = k := by simp [wholesOf]

theorem joinW_snoc (wd : Nat) (l : List Int) (x : Int) : joinW wd (l ++ [x]) = joinW wd l * 2 ^ wd + x := by simp [joinW]

/-- What the body of a range over wholes must keep: all below n₀, and the three boxes. -/
def KpP3 (n₀ B1 B2 B3 : Nat) (W W' : World) : Prop := Below n₀ W W' ∧ W'.heap[B1]? = W.heap[B1]? ∧ W'.heap[B2]? = W.heap[B2]? ∧ W'.heap[B3]? = W.heap[B3]?

theorem KpP3.c1 {n₀ B1 B2 B3 : Nat} {W W' : World} (h : KpP3 n₀ B1 B2 B3 W W') : W'.cell? ⟨B1, 0, none⟩ = W.cell? ⟨B1, 0, none⟩ := by simp [World.cell?, h.2.1]
theorem KpP3.c2 {n₀ B1 B2 B3 : Nat} {W W' : World} (h : KpP3 n₀ B1 B2 B3 W W') : W'.cell? ⟨B2, 0, none⟩ = W.cell? ⟨B2, 0, none⟩ := by simp [World.cell?, h.2.2.1]
theorem KpP3.c3 {n₀ B1 B2 B3 : Nat} {W W' : World} (h : KpP3 n₀ B1 B2 B3 W W') : W'.cell? ⟨B3, 0, none⟩ = W.cell? ⟨B3, 0, none⟩ := by simp [World.cell?, h.2.2.2]
theorem KpP3.trans {n₀ B1 B2 B3 : Nat} {A B C : World} (h : KpP3 n₀ B1 B2 B3 A B) (k : KpP3 n₀ B1 B2 B3 B C) : KpP3 n₀ B1 B2 B3 A C := ⟨h.1.trans k.1, k.2.1.trans h.2.1, k.2.2.1.trans h.2.2.1, k.2.2.2.trans h.2.2.2⟩

theorem wholesOf_prefix (wd c : Nat) (ls : List Int) (k m : Nat) (h : k ≤ m) : wholesOf wd c ls k <+: wholesOf wd c ls m := by
  have e : wholesOf wd c ls k = (wholesOf wd c ls m).take k := by
    unfold wholesOf
    rw [← List.map_take, List.take_range]
    congr 2
    omega
  rw [e]; exact List.take_prefix _ _

theorem joinW_bd (wd : Nat) (md : Int) (hmd : md = 2 ^ wd) (ls : List Int) (hz : ∀ z ∈ ls, 0 ≤ z ∧ z < md) (t j : Nat) : 0 ≤ joinW wd ((ls.drop t).take j) ∧ joinW wd ((ls.drop t).take j) < md ^ j := by
  have hp : 0 < md := by rw [hmd]; exact Int.pow_pos (by decide)
  induction j with
  | zero => simp [joinW]
  | succ j ih =>
    rw [List.take_add_one]
    cases hq : (ls.drop t)[j]? with
    | none =>
      simp only [Option.toList_none, List.append_nil]
      refine ⟨ih.1, Int.lt_of_lt_of_le ih.2 ?_⟩
      rw [Int.pow_succ]
      have h1 : 0 ≤ md ^ j := Int.le_of_lt (Int.pow_pos hp)
      have := Int.mul_le_mul_of_nonneg_left (show 1 ≤ md by omega) h1
      simpa using this
    | some z =>
      have hzb := hz z (List.mem_of_mem_drop (List.mem_of_getElem? hq))
      simp only [Option.toList_some]
      rw [joinW_snoc, ← hmd, Int.pow_succ]
      constructor
      · have := Int.mul_nonneg ih.1 (Int.le_of_lt hp)
        omega
      · have h2 : (joinW wd ((ls.drop t).take j) + 1) * md ≤ md ^ j * md := Int.mul_le_mul_of_nonneg_right (by omega) (Int.le_of_lt hp)
        rw [Int.add_mul] at h2
        omega


theorem or_join4 (acc x : Int) (h0 : 0 ≤ acc) (h1 : acc ≤ 255) (hx : 0 ≤ x) (hx' : x < 16) : bits .or .i64 (acc * 16) x = acc * 16 + x := by
  have e63 : (2 : Int) ^ 63 = 9223372036854775808 := by decide
  exact bits_join .i64 63 (by decide) wraps_i64 4 (acc * 16) x (by omega) (by simp) (by rw [e63]; omega) hx (by simpa using hx') (by rw [e63]; omega)

set_option maxRecDepth 100000 in
set_option maxHeartbeats 4000000 in
theorem wholes41_in (n : Nat) (hn : 1 ≤ n) (l Bl Be Bw n₀ b off len cap : Nat) (ls : List Int) (hlen : ls.length = len) (kk : Nat) (hkk : len = 2 * kk) (hcap : len ≤ cap) (hmax : len ≤ 32768) (hz : ∀ z ∈ ls, 0 ≤ z ∧ z < 16) (hb : b < n₀) (J Jx : List Int → World → Prop)
    (hY : ∀ pre x W, J pre W → pre.length < kk → YieldAt Fence.wide (n - 1) Tryd.prog l #[.int .u8 x] W fun e W' =>
      (e = .returned (.bool true) ∧ J (pre ++ [x]) W' ∧ KpP3 n₀ Bl Be Bw W W') ∨ (e = .returned (.bool false) ∧ Jx (pre ++ [x]) W'))
    (W : World) (hBl : W.cell? ⟨Bl, 0, none⟩ = some (.slice (some ⟨b, off, none⟩) len cap)) (hBe : W.cell? ⟨Be, 0, none⟩ = some (.int .i64 2)) (hBw : W.cell? ⟨Bw, 0, none⟩ = some (.int .i64 4))
    (hc : ∀ j, j < len → W.cell? ⟨b, off + j, none⟩ = some (.int .i64 (ls[j]?.getD 0))) (h0 : J [] W) :
    CallsIn Fence.wide n Tryd.prog 97 #[.func (.yield l) #[] #[], .pointer (some ⟨Bl, 0, none⟩), .pointer (some ⟨Be, 0, none⟩), .pointer (some ⟨Bw, 0, none⟩)] W fun e W' => (∃ v, e = .returned v) ∧
      ((∃ ys, ys = wholesOf 4 2 ls kk ∧ J ys W') ∨ (∃ pre, pre <+: wholesOf 4 2 ls kk ∧ Jx pre W')) := by
  have hk0 : 2 * kk ≤ len := by omega
  have hk1 : len ≤ 2 * kk := by omega
  clear hkk
  refine callsIn_of_wp Tryd.func97 rfl trivial ?_ rfl
  simp only [Tryd.ntmps97, List.size_toArray, List.length_cons, List.length_nil, Nat.reduceAdd, Nat.reduceSub, Array.replicate_succ, Array.replicate_zero, List.push_toArray, List.append_toArray, List.nil_append, List.cons_append]
  gi_wp2
  gi_loopw [5] (fun i wr => ∃ k : Nat, k ≤ kk ∧ i = .int .i64 (2 * (k : Int)) ∧ J (wholesOf 4 2 ls k) wr ∧ KpP3 n₀ Bl Be Bw W wr)
    (fun i _ => (2 * kk - (intOf i)).toNat)
  case atStart => exact ⟨0, Nat.zero_le _, rfl, h0, Below.refl _ _, rfl, rfl, rfl⟩
  case round =>
    obtain ⟨k, hk, rfl, hJs, hkp⟩ := hrel
    have c1 := hkp.c1.trans hBl
    have c2 := hkp.c2.trans hBe
    have c3 := hkp.c3.trans hBw
    by_cases hlt : k < kk
    · have hcw : ∀ j, j < 2 → ∃ z, ls[2 * k + j]? = some z ∧ 0 ≤ z ∧ z < 16 ∧ wr.cell? ⟨b, off + 2 * k + j, none⟩ = some (.int .i64 z) := fun j hj => by
        have hin : 2 * k + j < ls.length := by omega
        have hm := hz _ (List.getElem_mem hin)
        refine ⟨ls[2 * k + j], by simp, hm.1, hm.2, ?_⟩
        rw [Nat.add_assoc]
        refine (hkp.1.cell (p := ⟨b, off + (2 * k + j), none⟩) hb).trans ((hc (2 * k + j) (by omega)).trans ?_)
        simp [hin]
      have HCW : Hid (∀ j, j < 2 → ∃ z, ls[2 * k + j]? = some z ∧ 0 ≤ z ∧ z < 16 ∧ wr.cell? ⟨b, off + 2 * k + j, none⟩ = some (.int .i64 z)) := hcw
      have hbd : ∀ j, j ≤ 2 → 0 ≤ joinW 4 ((ls.drop (2 * k)).take j) ∧ joinW 4 ((ls.drop (2 * k)).take j) < 16 ^ j := fun j hj =>
        joinW_bd 4 16 rfl ls (fun z h => hz z h) (2 * k) j
      have HBD : Hid (∀ j, j ≤ 2 → 0 ≤ joinW 4 ((ls.drop (2 * k)).take j) ∧ joinW 4 ((ls.drop (2 * k)).take j) < 16 ^ j) := hbd
      clear hcw hc hbd hz
      have hlk : 2 * k + 2 ≤ len := by omega
      gi_wp2
      gi_loop [6, 23] (fun v i => ∃ j : Nat, j ≤ 2 ∧ i = .int .i64 j ∧ v = .int .i64 (joinW 4 ((ls.drop (2 * k)).take j))) (fun _ i => 2 - (intOf i).toNat)
      case atStart => exact ⟨0, by omega, rfl, rfl⟩
      case round =>
        obtain ⟨j, hj, rfl, rfl⟩ := hrel
        by_cases hjc : j < 2
        · obtain ⟨z, hzk, hz0, hz1, hcz⟩ := HCW.out j hjc
          have h1 : 0 ≤ joinW 4 ((ls.drop (2 * k)).take j) ∧ joinW 4 ((ls.drop (2 * k)).take j) ≤ 255 := by
            have := HBD.out j hj
            have e : (16 : Int) ^ j ≤ 256 := by
              match j, hjc with
              | 0, _ => decide
              | 1, _ => decide
            omega
          have HS : Hid (joinW 4 ((ls.drop (2 * k)).take (j + 1)) = joinW 4 ((ls.drop (2 * k)).take j) * 16 + z) := by
            show joinW 4 ((ls.drop (2 * k)).take (j + 1)) = joinW 4 ((ls.drop (2 * k)).take j) * 16 + z
            rw [List.take_add_one, List.getElem?_drop, hzk]
            exact joinW_snoc 4 _ z
          obtain ⟨acc, hacc⟩ : ∃ acc, joinW 4 ((ls.drop (2 * k)).take j) = acc := ⟨_, rfl⟩
          rw [hacc] at h1 HS ⊢
          obtain ⟨ha0, ha1⟩ := h1
          have hor := or_join4 acc z ha0 ha1 hz0 hz1
          clear hzk hacc
          gi_wp2
          exact ⟨⟨j + 1, by omega, by go_num, by rw [HS.out]⟩, by simp [intOf]; omega⟩
        · obtain rfl : j = 2 := by omega
          have hfin := HBD.out 2 (Nat.le_refl _)
          have hsucc := wholesOf_succ 4 2 ls k
          obtain ⟨acc, hacc⟩ : ∃ acc, joinW 4 ((ls.drop (2 * k)).take 2) = acc := ⟨_, rfl⟩
          rw [hacc] at hfin hsucc ⊢
          have ha0 : 0 ≤ acc := hfin.1
          have ha1 : acc ≤ 255 := by have := hfin.2; omega
          have hmod : acc % 256 = acc := by omega
          have hpl : (wholesOf 4 2 ls k).length < kk := by rw [wholesOf_len]; exact hlt
          obtain ⟨fn, tmps, assign, body, hy, hR⟩ := hY _ acc wr hJs hpl
          rw [← hsucc] at hR
          clear hfin hsucc hacc HCW HBD
          gi_wp2
          refine hR.mono ?_
          rintro e W3 (⟨rfl, hJ3, hk3⟩ | ⟨rfl, hJx3⟩)
          · have d1 := hk3.c1.trans c1
            have d2 := hk3.c2.trans c2
            gi_wp2
            go_roundw
            case rel => exact ⟨k + 1, by omega, by go_num, hJ3, hkp.trans hk3⟩
            case measure => simp [intOf]; omega
          · gi_wp2
            refine bodyPost_ret (results_none rfl _ _ _) rfl ?_
            exact ⟨⟨_, rfl⟩, .inr ⟨_, wholesOf_prefix 4 2 ls (k + 1) kk hlt, hJx3⟩⟩
    · obtain rfl : k = kk := by omega
      gi_wp2
      go_end0
      exact ⟨⟨_, rfl⟩, .inl ⟨_, rfl, hJs⟩⟩

theorem or_join1 (acc x : Int) (h0 : 0 ≤ acc) (h1 : acc ≤ 255) (hx : 0 ≤ x) (hx' : x < 2) : bits .or .i64 (acc * 2) x = acc * 2 + x := by
  have e63 : (2 : Int) ^ 63 = 9223372036854775808 := by decide
  exact bits_join .i64 63 (by decide) wraps_i64 1 (acc * 2) x (by omega) (by simp) (by rw [e63]; omega) hx (by simpa using hx') (by rw [e63]; omega)

set_option maxRecDepth 100000 in
set_option maxHeartbeats 4000000 in
theorem wholes11_in (n : Nat) (hn : 1 ≤ n) (l Bl Be Bw n₀ b off len cap : Nat) (ls : List Int) (hlen : ls.length = len) (kk : Nat) (hkk : len = 8 * kk) (hcap : len ≤ cap) (hmax : len ≤ 32768) (hz : ∀ z ∈ ls, 0 ≤ z ∧ z < 2) (hb : b < n₀) (J Jx : List Int → World → Prop)
    (hY : ∀ pre x W, J pre W → pre.length < kk → YieldAt Fence.wide (n - 1) Tryd.prog l #[.int .u8 x] W fun e W' =>
      (e = .returned (.bool true) ∧ J (pre ++ [x]) W' ∧ KpP3 n₀ Bl Be Bw W W') ∨ (e = .returned (.bool false) ∧ Jx (pre ++ [x]) W'))
    (W : World) (hBl : W.cell? ⟨Bl, 0, none⟩ = some (.slice (some ⟨b, off, none⟩) len cap)) (hBe : W.cell? ⟨Be, 0, none⟩ = some (.int .i64 8)) (hBw : W.cell? ⟨Bw, 0, none⟩ = some (.int .i64 1))
    (hc : ∀ j, j < len → W.cell? ⟨b, off + j, none⟩ = some (.int .i64 (ls[j]?.getD 0))) (h0 : J [] W) :
    CallsIn Fence.wide n Tryd.prog 97 #[.func (.yield l) #[] #[], .pointer (some ⟨Bl, 0, none⟩), .pointer (some ⟨Be, 0, none⟩), .pointer (some ⟨Bw, 0, none⟩)] W fun e W' => (∃ v, e = .returned v) ∧
      ((∃ ys, ys = wholesOf 1 8 ls kk ∧ J ys W') ∨ (∃ pre, pre <+: wholesOf 1 8 ls kk ∧ Jx pre W')) := by
  have hk0 : 8 * kk ≤ len := by omega
  have hk1 : len ≤ 8 * kk := by omega
  clear hkk
  refine callsIn_of_wp Tryd.func97 rfl trivial ?_ rfl
  simp only [Tryd.ntmps97, List.size_toArray, List.length_cons, List.length_nil, Nat.reduceAdd, Nat.reduceSub, Array.replicate_succ, Array.replicate_zero, List.push_toArray, List.append_toArray, List.nil_append, List.cons_append]
  gi_wp2
  gi_loopw [5] (fun i wr => ∃ k : Nat, k ≤ kk ∧ i = .int .i64 (8 * (k : Int)) ∧ J (wholesOf 1 8 ls k) wr ∧ KpP3 n₀ Bl Be Bw W wr)
    (fun i _ => (8 * kk - (intOf i)).toNat)
  case atStart => exact ⟨0, Nat.zero_le _, rfl, h0, Below.refl _ _, rfl, rfl, rfl⟩
  case round =>
    obtain ⟨k, hk, rfl, hJs, hkp⟩ := hrel
    have c1 := hkp.c1.trans hBl
    have c2 := hkp.c2.trans hBe
    have c3 := hkp.c3.trans hBw
    by_cases hlt : k < kk
    · have hcw : ∀ j, j < 8 → ∃ z, ls[8 * k + j]? = some z ∧ 0 ≤ z ∧ z < 2 ∧ wr.cell? ⟨b, off + 8 * k + j, none⟩ = some (.int .i64 z) := fun j hj => by
        have hin : 8 * k + j < ls.length := by omega
        have hm := hz _ (List.getElem_mem hin)
        refine ⟨ls[8 * k + j], by simp, hm.1, hm.2, ?_⟩
        rw [Nat.add_assoc]
        refine (hkp.1.cell (p := ⟨b, off + (8 * k + j), none⟩) hb).trans ((hc (8 * k + j) (by omega)).trans ?_)
        simp [hin]
      have HCW : Hid (∀ j, j < 8 → ∃ z, ls[8 * k + j]? = some z ∧ 0 ≤ z ∧ z < 2 ∧ wr.cell? ⟨b, off + 8 * k + j, none⟩ = some (.int .i64 z)) := hcw
      have hbd : ∀ j, j ≤ 8 → 0 ≤ joinW 1 ((ls.drop (8 * k)).take j) ∧ joinW 1 ((ls.drop (8 * k)).take j) < 2 ^ j := fun j hj =>
        joinW_bd 1 2 rfl ls (fun z h => hz z h) (8 * k) j
      have HBD : Hid (∀ j, j ≤ 8 → 0 ≤ joinW 1 ((ls.drop (8 * k)).take j) ∧ joinW 1 ((ls.drop (8 * k)).take j) < 2 ^ j) := hbd
      clear hcw hc hbd hz
      have hlk : 8 * k + 8 ≤ len := by omega
      gi_wp2
      gi_loop [6, 23] (fun v i => ∃ j : Nat, j ≤ 8 ∧ i = .int .i64 j ∧ v = .int .i64 (joinW 1 ((ls.drop (8 * k)).take j))) (fun _ i => 8 - (intOf i).toNat)
      case atStart => exact ⟨0, by omega, rfl, rfl⟩
      case round =>
        obtain ⟨j, hj, rfl, rfl⟩ := hrel
        by_cases hjc : j < 8
        · obtain ⟨z, hzk, hz0, hz1, hcz⟩ := HCW.out j hjc
          have h1 : 0 ≤ joinW 1 ((ls.drop (8 * k)).take j) ∧ joinW 1 ((ls.drop (8 * k)).take j) ≤ 255 := by
            have := HBD.out j hj
            have e : (2 : Int) ^ j ≤ 256 := by
              match j, hjc with
              | 0, _ => decide
              | 1, _ => decide
              | 2, _ => decide
              | 3, _ => decide
              | 4, _ => decide
              | 5, _ => decide
              | 6, _ => decide
              | 7, _ => decide
            omega
          have HS : Hid (joinW 1 ((ls.drop (8 * k)).take (j + 1)) = joinW 1 ((ls.drop (8 * k)).take j) * 2 + z) := by
            show joinW 1 ((ls.drop (8 * k)).take (j + 1)) = joinW 1 ((ls.drop (8 * k)).take j) * 2 + z
            rw [List.take_add_one, List.getElem?_drop, hzk]
            exact joinW_snoc 1 _ z
          obtain ⟨acc, hacc⟩ : ∃ acc, joinW 1 ((ls.drop (8 * k)).take j) = acc := ⟨_, rfl⟩
          rw [hacc] at h1 HS ⊢
          obtain ⟨ha0, ha1⟩ := h1
          have hor := or_join1 acc z ha0 ha1 hz0 hz1
          clear hzk hacc
          gi_wp2
          exact ⟨⟨j + 1, by omega, by go_num, by rw [HS.out]⟩, by simp [intOf]; omega⟩
        · obtain rfl : j = 8 := by omega
          have hfin := HBD.out 8 (Nat.le_refl _)
          have hsucc := wholesOf_succ 1 8 ls k
          obtain ⟨acc, hacc⟩ : ∃ acc, joinW 1 ((ls.drop (8 * k)).take 8) = acc := ⟨_, rfl⟩
          rw [hacc] at hfin hsucc ⊢
          have ha0 : 0 ≤ acc := hfin.1
          have ha1 : acc ≤ 255 := by have := hfin.2; omega
          have hmod : acc % 256 = acc := by omega
          have hpl : (wholesOf 1 8 ls k).length < kk := by rw [wholesOf_len]; exact hlt
          obtain ⟨fn, tmps, assign, body, hy, hR⟩ := hY _ acc wr hJs hpl
          rw [← hsucc] at hR
          clear hfin hsucc hacc HCW HBD
          gi_wp2
          refine hR.mono ?_
          rintro e W3 (⟨rfl, hJ3, hk3⟩ | ⟨rfl, hJx3⟩)
          · have d1 := hk3.c1.trans c1
            have d2 := hk3.c2.trans c2
            gi_wp2
            go_roundw
            case rel => exact ⟨k + 1, by omega, by go_num, hJ3, hkp.trans hk3⟩
            case measure => simp [intOf]; omega
          · gi_wp2
            refine bodyPost_ret (results_none rfl _ _ _) rfl ?_
            exact ⟨⟨_, rfl⟩, .inr ⟨_, wholesOf_prefix 1 8 ls (k + 1) kk hlt, hJx3⟩⟩
    · obtain rfl : k = kk := by omega
      gi_wp2
      go_end0
      exact ⟨⟨_, rfl⟩, .inl ⟨_, rfl, hJs⟩⟩

end Go.Proofs.YtdnhnnidlangiaaDoor
