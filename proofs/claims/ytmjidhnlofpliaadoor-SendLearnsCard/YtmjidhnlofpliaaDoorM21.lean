/-
  The segment at a place, as a number. No program is spoken of.
-/
import Derived.Test.YtmjidhnlofpliaaDoorM01
import Derived.Test.YtmjidhnlofpliaaDoorM02
import Derived.Test.YtmjidhnlofpliaaDoorM04
import Derived.Test.YtmjidhnlofpliaaDoorM05
import Derived.Test.YtmjidhnlofpliaaDoorM09
import Derived.Test.YtmjidhnlofpliaaDoorM13
import Derived.Test.YtmjidhnlofpliaaDoorM18
import Derived.Test.YtmjidhnlofpliaaDoorM20
import Derived.LoopIn
import Derived.LoopNIn
import Derived.Maps.AppendAt
import Derived.OwnWalkIn
import Derived.RangeFuncBound
import Derived.RangeFuncBox
import Derived.RangeFuncCalls
import Derived.RangeFuncLeaves
import Derived.RangeFuncNested
import Derived.Shelf.Abstract
import Derived.Shelf.RegionOpen
import Derived.TacticsInMore
import Derived.WalkKit
namespace Go.Proofs.YtmjidhnlofpliaaDoor

/-- The segment at a place. -/
def segN (n k : Nat) : Nat := (orderN n)[k % n]?.getD 0
theorem segN_get {n : Nat} (h1 : 1 ≤ n) (hn : n < 65) (k : Nat) : (orderN n)[k % n]? = some (segN n k) ∧ segN n k < n := by
  obtain ⟨x, hx, hxn⟩ := orderN_get hn (Nat.mod_lt k (show 0 < n by omega))
  have e : segN n k = x := by unfold segN; rw [hx]; rfl
  rw [e]
  exact ⟨hx, hxn⟩
end Go.Proofs.YtmjidhnlofpliaaDoor

/-
  What bit.wholes tells, range by range: the bytes that pieces of four bits, or of one bit, are put together to.
-/
namespace Go.Proofs.YtmjidhnlofpliaaDoor
open Go.RowKit Go.Shelf
attribute [local go_sem] Oper.semAt_some

/-- What the body of a range over wholes must keep: all below n₀, and the three boxes. -/
def KpP3 (n₀ B1 B2 B3 : Nat) (W W' : World) : Prop := Below n₀ W W' ∧ W'.heap[B1]? = W.heap[B1]? ∧ W'.heap[B2]? = W.heap[B2]? ∧ W'.heap[B3]? = W.heap[B3]?

theorem KpP3.c1 {n₀ B1 B2 B3 : Nat} {W W' : World} (h : KpP3 n₀ B1 B2 B3 W W') : W'.cell? ⟨B1, 0, none⟩ = W.cell? ⟨B1, 0, none⟩ := by simp [World.cell?, h.2.1]
theorem KpP3.c2 {n₀ B1 B2 B3 : Nat} {W W' : World} (h : KpP3 n₀ B1 B2 B3 W W') : W'.cell? ⟨B2, 0, none⟩ = W.cell? ⟨B2, 0, none⟩ := by simp [World.cell?, h.2.2.1]
theorem KpP3.c3 {n₀ B1 B2 B3 : Nat} {W W' : World} (h : KpP3 n₀ B1 B2 B3 W W') : W'.cell? ⟨B3, 0, none⟩ = W.cell? ⟨B3, 0, none⟩ := by simp [World.cell?, h.2.2.2]
theorem KpP3.trans {n₀ B1 B2 B3 : Nat} {A B C : World} (h : KpP3 n₀ B1 B2 B3 A B) (k : KpP3 n₀ B1 B2 B3 B C) : KpP3 n₀ B1 B2 B3 A C := ⟨h.1.trans k.1, k.2.1.trans h.2.1, k.2.2.1.trans h.2.2.1, k.2.2.2.trans h.2.2.2⟩

end Go.Proofs.YtmjidhnlofpliaaDoor

/-
  Plain facts for what is taken apart and put together again: lists and numbers alone.
-/
namespace Go.Proofs.YtmjidhnlofpliaaDoor
open Go.RowKit

theorem flat_all_len' (f : Int → List Int) (c : Nat) (hf : ∀ x, (f x).length = c) (zs : List Int) : (zs.flatMap f).length = c * zs.length := by
  have := flat_len f c hf zs zs.length (Nat.le_refl _); rwa [List.take_length] at this

theorem nibs_bd (zs : List Int) : ∀ z ∈ zs.flatMap nibsOf, 0 ≤ z ∧ z < 16 := by
  intro z hz
  obtain ⟨y, _, hy⟩ := List.mem_flatMap.1 hz
  simp [nibsOf] at hy
  omega

end Go.Proofs.YtmjidhnlofpliaaDoor

/-
  A block's symbols as numbers. No program is spoken of.
-/
namespace Go.Proofs.YtmjidhnlofpliaaDoor

/-- The nibbles of bytes. -/
def nibs (zs : List Int) : List Int := zs.flatMap nibsOf
theorem nibs_len (zs : List Int) : (nibs zs).length = 2 * zs.length := flat_all_len' nibsOf 2 (fun _ => rfl) zs
theorem nibs_path (zs : List Int) : Path (nibs zs) := fun z hz => by have := nibs_bd zs z hz; omega
theorem nibs_get {zs : List Int} {s : Nat} (h : s < 2 * zs.length) : ∃ n : Nat, (nibs zs)[s]? = some (n : Int) ∧ n < 16 := by
  have hl : s < (nibs zs).length := by rw [nibs_len]; exact h
  have hp := nibs_path zs _ (List.getElem_mem hl)
  exact ⟨(nibs zs)[s].toNat, by rw [List.getElem?_eq_getElem hl]; congr 1; omega, by omega⟩

/-- The state behind a segment. -/
def stN (zs : List Int) (s : Nat) : Nat := lastOf beginN ((nibs zs).take (s + 1))
theorem begin_lt : beginN < 4294967296 := by decide
theorem stN_lt (zs : List Int) (s : Nat) : stN zs s < 4294967296 := lastOf_lt _ begin_lt
theorem stN_step {zs : List Int} {s n : Nat} (hn : (nibs zs)[s]? = some (n : Int)) : stN zs s = stepN (lastOf beginN ((nibs zs).take s)) n := by
  have := lastOf_take (s := beginN) hn
  rwa [Int.toNat_natCast] at this
theorem stN_get {zs : List Int} {s : Nat} (h : s < 2 * zs.length) : (statesOf beginN (nibs zs))[s]? = some ((stN zs s : Nat) : Int) := by
  obtain ⟨n, hn, _⟩ := nibs_get h
  have := statesOf_get (s := beginN) hn
  rw [Int.toNat_natCast, ← stN_step hn] at this
  exact this
theorem states_len (zs : List Int) : (statesOf beginN (nibs zs)).length = 2 * zs.length := by rw [statesOf_len, nibs_len]

/-- The symbol at a place; a row of them. -/
def codeN (zs : List Int) (k : Nat) : Nat := symN (stN zs (segN (2 * zs.length) k)) (k / (2 * zs.length))
theorem codeN_lt (zs : List Int) (k : Nat) : codeN zs k < 256 := symN_lt _ _
def codeL (zs : List Int) (f c : Nat) : List Int := (List.range c).map fun j => ((codeN zs (f + j) : Nat) : Int)
theorem codeL_len (zs : List Int) (f c : Nat) : (codeL zs f c).length = c := by simp [codeL]
theorem codeL_next (zs : List Int) (f c : Nat) : codeL zs f (c + 1) = codeL zs f c ++ [((codeN zs (f + c) : Nat) : Int)] := by simp [codeL, List.range_succ]
theorem codeL_bd (zs : List Int) (f c : Nat) : ∀ z ∈ codeL zs f c, 0 ≤ z ∧ z ≤ 255 := fun z hz => by
  obtain ⟨j, _, rfl⟩ := List.mem_map.1 hz
  have := codeN_lt zs (f + j)
  omega
end Go.Proofs.YtmjidhnlofpliaaDoor

/-
  What code.Segs and code.Encode answer, as long as sched's table reads as it was laid.
-/
namespace Go.Proofs.YtmjidhnlofpliaaDoor
open Go.RowKit

theorem infoCodeByte : (Tryd.prog.info? 5).map (fun i => (i.zero, i.size, i.bytes)) = some (some (.int .u8 0), 1, 1) := by kernel_rfl

set_option maxHeartbeats 1000000 in
theorem Segs_any (k : Int) (w : World) : Calls Tryd.prog 77 #[.int .i64 k] w fun e w' => e = .returned (.int .i64 (if 0 ≤ k ∧ k ≤ 32 then 2 * k else 0)) ∧ w = w' := by
  by_cases h0 : k < 0
  · rw [if_neg (by omega)]
    have d0 : decide (k < 0) = true := decide_eq_true h0
    go_enter Tryd.func77, Tryd.ntmps77
    go_wp2
    go_ret
    exact ⟨rfl, rfl⟩
  · have d0 : decide (k < 0) = false := decide_eq_false h0
    by_cases h1 : 32 < k
    · rw [if_neg (by omega)]
      have d1 : decide (32 < k) = true := decide_eq_true h1
      go_enter Tryd.func77, Tryd.ntmps77
      go_wp2
      go_ret
      exact ⟨rfl, rfl⟩
    · rw [if_pos (by omega)]
      have d1 : decide (32 < k) = false := decide_eq_false h1
      have h2 : 0 ≤ k := by omega
      have h3 : k ≤ 32 := by omega
      go_enter Tryd.func77, Tryd.ntmps77
      go_wp2
      go_ret
      exact ⟨rfl, rfl⟩

theorem Segs_num (n : Nat) (hn : n ≤ 32) (w : World) : Calls Tryd.prog 77 #[.int .i64 (n : Int)] w fun e w' => e = .returned (.int .i64 ((2 * n : Nat) : Int)) ∧ w = w' := by
  have := Segs_any (n : Int) w
  rw [if_pos (by omega)] at this
  exact this
set_option maxHeartbeats 1000000 in
theorem isPart_yes (L f c : Nat) (h : f + c ≤ L) (hL : L ≤ 1024) (w : World) : Calls Tryd.prog 78 #[.int .i64 (L : Int), .int .i64 (f : Int), .int .i64 (c : Int)] w fun e w' => e = .returned (.bool true) ∧ w = w' := by
  have d0 : decide (0 ≤ (f : Int)) = true := decide_eq_true (by omega)
  have d1 : decide (0 ≤ (c : Int)) = true := decide_eq_true (by omega)
  have d2 : decide ((c : Int) ≤ (L : Int) - (f : Int)) = true := decide_eq_true (by omega)
  have hf : f ≤ 1024 := by omega
  clear h
  go_enter Tryd.func78, Tryd.ntmps78
  go_wp2
  go_ret
  exact ⟨rfl, rfl⟩

set_option maxRecDepth 100000 in
set_option maxHeartbeats 2000000 in
theorem statesOf_ok (a : Option Addr) (cap : Nat) (zs : List Int) (hn : zs.length ≤ 32) (bz : ∀ z ∈ zs, 0 ≤ z ∧ z ≤ 255) (w : World) (ha : Holds .u8 w.heap.size w (.slice a zs.length cap) zs) :
    Calls Tryd.prog 79 #[.slice a zs.length cap] w fun e W' => ∃ r, e = .returned (.tuple #[r, .int .i64 0]) ∧ Kept .u32 W' r (statesOf beginN (nibs zs)) ∧ Below w.heap.size w W' := by
  have HB : Hid (∀ z ∈ zs, 0 ≤ z ∧ z ≤ 255) := bz
  clear bz
  go_enter Tryd.func79, Tryd.ntmps79
  go_wp2_with fail
  refine (nibs_any _ zs (by omega) HB.out w ha).mono ?_
  rintro e w1 ⟨r1, rfl, o1, b1⟩
  have h1 : Holds .i64 w1.heap.size w1 r1 (nibs zs) := holds_of_row o1
  obtain ⟨a1, c1, rfl⟩ := h1.shape
  have HNL : Hid ((nibs zs).length = 2 * zs.length) := nibs_len zs
  clear o1 ha
  go_wp2_with fail
  refine (States_ok a1 c1 (nibs zs) (by rw [HNL.out]; omega) (nibs_path zs) w1 h1).mono ?_
  rintro e w2 ⟨r2, rfl, k2, b2⟩
  go_wp2
  go_ret2
  exact ⟨r2, rfl, k2, b1.trans (b2.mono b1.size)⟩

set_option maxRecDepth 100000 in
set_option maxHeartbeats 2000000 in
theorem symbolAt_ok (a : Option Addr) (n cap : Nat) (zs : List Int) (hne : 2 * zs.length = n) (h1 : 1 ≤ n) (hn : n < 65) (k : Nat) (hk : k < n * 16) (w : World) (hF : Firsts w) (ha : Holds .u32 w.heap.size w (.slice a n cap) (statesOf beginN (nibs zs))) :
    Calls Tryd.prog 80 #[.slice a n cap, .int .i64 (k : Int)] w fun e W' => e = .returned (.tuple #[.int .i64 ((codeN zs k : Nat) : Int), .int .i64 0]) ∧ Below w.heap.size w W' := by
  have hs := segN_get h1 hn k
  have hsn := hs.2
  have HSL : Hid ((statesOf beginN (nibs zs)).length = n) := (states_len zs).trans hne
  have hst : ∃ b off, a = some ⟨b, off, none⟩ ∧ b < w.heap.size ∧ w.cell? ⟨b, off + segN n k, none⟩ = some (.int .u32 ((stN zs (segN n k) : Nat) : Int)) := by
    rcases ha with ⟨_, e⟩ | ⟨b, off, c', e, hbl, hcell⟩
    · have := HSL.out; rw [e] at this; simp at this; omega
    · cases e
      exact ⟨b, off, rfl, hbl, (hcell _ (by rw [HSL.out]; exact hsn)).trans (by rw [stN_get (by omega)]; rfl)⟩
  obtain ⟨b, off, rfl, hb, hc⟩ := hst
  have HCN : Hid (symN (stN zs (segN n k)) (k / n) = codeN zs k) := by
    show _ = codeN zs k
    unfold codeN
    rw [hne]
  have hstl := stN_lt zs (segN n k)
  have hd16 : k / n < 16 := Nat.div_lt_of_lt_mul hk
  have HA := At_ok n k _ h1 hn hk hs.1 w hF
  clear ha hs HSL
  obtain ⟨x, hxe⟩ : ∃ x, segN n k = x := ⟨_, rfl⟩
  rw [hxe] at hc HCN hstl HA hsn
  obtain ⟨s, hse⟩ : ∃ s, stN zs x = s := ⟨_, rfl⟩
  rw [hse] at hc HCN hstl
  obtain ⟨d, hde⟩ : ∃ d, k / n = d := ⟨_, rfl⟩
  rw [hde] at HCN hd16 HA
  clear hxe hse hde
  go_enter Tryd.func80, Tryd.ntmps80
  go_wp2_with fail
  refine HA.mono ?_
  rintro e w1 ⟨rfl, b1⟩
  have c1 := (b1.cell (p := ⟨b, off + x, none⟩) hb).trans hc
  clear hc HA
  go_wp2_with fail
  refine (Of_ok s d hstl (by omega) w1).mono ?_
  rw [HCN.out]
  rintro e w2 ⟨rfl, rfl⟩
  go_wp2
  go_ret2
  exact ⟨rfl, b1⟩

set_option maxRecDepth 100000 in
set_option maxHeartbeats 4000000 in
theorem Encode_row (a : Option Addr) (n cap : Nat) (zs : List Int) (hz : zs.length = n) (h1 : 1 ≤ n) (hn : n ≤ 32) (bz : ∀ z ∈ zs, 0 ≤ z ∧ z ≤ 255) (f c : Nat) (h : f + c ≤ 32 * n) (w : World) (hF : Firsts w) (ha : Holds .u8 w.heap.size w (.slice a n cap) zs) :
    Calls Tryd.prog 62 #[.slice a n cap, .int .i64 f, .int .i64 c] w fun e W' => ∃ r, e = .returned (.tuple #[r, .int .i64 0]) ∧ W'.ownsRow w.heap.size 5 1 r c ((codeL zs f c).map (Value.int .u8)) ∧ Below w.heap.size w W' := by
  subst hz
  obtain ⟨i0, hi, hz0, hz1, hz2⟩ := info_parts infoCodeByte
  have HS := Segs_num zs.length hn w
  have HP := isPart_yes (2 * zs.length * 16) f c (by omega) (by omega) w
  have HST := statesOf_ok a cap zs hn bz w ha
  have HSL : Hid ((statesOf beginN (nibs zs)).length = 2 * zs.length) := states_len zs
  obtain ⟨N, hN⟩ : ∃ N, 2 * zs.length = N := ⟨_, rfl⟩
  have HN : Hid (2 * zs.length = N) := hN
  rw [hN] at HS HP HSL
  have e1 : (N : Int) * 16 = ((N * 16 : Nat) : Int) := by omega
  have HFC : Hid (f + c ≤ N * 16) := by
    show f + c ≤ N * 16
    omega
  obtain ⟨M, hM⟩ : ∃ M, N * 16 = M := ⟨_, rfl⟩
  rw [hM] at HP e1
  have N1 : 1 ≤ N := by omega
  have hq : ((N : Int) == 0) = false := by rw [beq_eq_false_iff_ne]; omega
  have N65 : N < 65 := by omega
  have hc1 : f + c ≤ 1024 := by omega
  clear hM hN h bz ha
  go_enter Tryd.func62, Tryd.ntmps62
  go_wp2_with fail
  refine HS.mono ?_
  rintro e w1 ⟨rfl, rfl⟩
  go_wp2_with fail
  refine HP.mono ?_
  rintro e w1 ⟨rfl, rfl⟩
  go_wp2_with fail
  refine HST.mono ?_
  rintro e w1 ⟨r1, rfl, ⟨hr1, ar, cr, rfl, _⟩, b1⟩
  rw [HSL.out] at hr1 ⊢
  have hF1 := hF.next b1
  clear HS HP HST hF
  go_wp2_with (at_make; refine wpList_make_own _ rfl _ _ 35 rfl w1.heap.size 5 i0 (.int .u8 0) 1 Tryd.underlying35 hi hz0 hz1 .i64 .i64 _ c rfl rfl (by omega) (by rw [hz2]; omega) (by unfold maxLen; omega) (Nat.le_refl _) ?_; intro w2 hown2 hgrow2)
  have b2 : Below w1.heap.size w1 w2 := (Below.refl _ w1).grown hgrow2 (Nat.le_refl _) (fun k e => by cases e)
  clear hgrow2
  go_wp2
  go_loopw [11, 37] (fun v i wr => ∃ k : Nat, k ≤ c ∧ i = .int .i64 k ∧ wr.ownsRow w1.heap.size 5 1 v k ((codeL zs f k).map (Value.int .u8)) ∧ Below w1.heap.size w1 wr) (fun _ i _ => c - (intOf i).toNat)
  case atStart => exact ⟨0, Nat.zero_le _, rfl, hown2, b2⟩
  case round =>
    clear hown2 b2
    obtain ⟨k, hk, rfl, ho, hbw⟩ := hrel
    by_cases hlt : k < c
    · have HX := symbolAt_ok ar N cr zs HN.out N1 N65 (f + k) (by have := HFC.out; omega) wr (hF1.next hbw) (hr1.next hbw)
      have HNX : Hid (codeL zs f (k + 1) = codeL zs f k ++ [((codeN zs (f + k) : Nat) : Int)]) := codeL_next zs f k
      have hxl := codeN_lt zs (f + k)
      obtain ⟨x, hxe⟩ : ∃ x, codeN zs (f + k) = x := ⟨_, rfl⟩
      rw [hxe] at HX HNX hxl
      have e2 : (f : Int) + (k : Int) = ((f + k : Nat) : Int) := by omega
      obtain ⟨K, hKe⟩ : ∃ K, f + k = K := ⟨_, rfl⟩
      rw [hKe] at HX e2
      have ew : IntKind.u8.wrap (x : Int) = (x : Int) := by rw [IntKind.wrap_u8]; omega
      clear hxe hKe
      go_wp2_with fail
      refine HX.mono ?_
      rintro e w3 ⟨rfl, b3⟩
      have ho3 : w3.ownsRow w1.heap.size 5 1 u11 k ((codeL zs f k).map (Value.int .u8)) := row_below ho b3 (Nat.le_refl _)
      have b13 := hbw.trans (b3.mono hbw.size)
      clear ho HX
      go_wp2_with (at_builtin; refine wpList_append_own _ rfl _ _ 35 rfl w1.heap.size 5 i0 (.int .u8 0) 1 1 Tryd.underlying35 hi hz0 hz1 hz2 rfl (by decide) _ k _ rfl (ho3.alloc _) ⟨w3.heap.size, 0, none⟩ 1 1 [.int .u8 x] rfl rfl (cell_one_new _ _ _) (by simp [Value.oneCell']) (by unfold maxLen; omega) (by omega) (by have := b13.size; simp; omega) ?_; intro v4 w4 hown4 hgrow4 _)
      have b4 : Below w1.heap.size w1 w4 := (b13.alloc b13.size _).trans ((Below.refl _ _).grown hgrow4 (by have := b13.size; simp; omega) (fun q e => (ho3.lt q e).1))
      refine ⟨⟨k + 1, by omega, by go_num, ?_, b4⟩, by simp [intOf]; omega⟩
      rw [HNX.out, List.map_append]
      exact hown4
    · obtain rfl : k = c := by omega
      clear hr1
      go_wp2
      go_ret2
      exact ⟨_, rfl, row_base ho b1.size, b1.trans (hbw.mono b1.size)⟩

end Go.Proofs.YtmjidhnlofpliaaDoor
