/-
  CostExact: the walk: whatever the state and the symbols, the law answers true, and nothing that lay has turned. (Written by tpl_costexact.py.)
-/
import Derived.Test.YtjnmdjejihliiaaCostWakes
import Derived.Test.YtjnmdjejihliiaaRefCost
import Derived.Test.YtjnmdjejihliiaaKeepSyms
namespace Go.Proofs.Ytjnmdjejihliiaa
open Go.RowKit

theorem costOk_snoc {l : List (Int × Int)} {k : Nat} {x : Int × Int} (h : CostOk (l.take k)) (hx : l[k]? = some x) (h01 : 0 ≤ x.1 ∧ x.1 ≤ 255 ∧ 0 ≤ x.2 ∧ x.2 ≤ 255) : CostOk (l.take (k + 1)) := by
  rw [take_snoc_cost hx]
  intro y hy
  rcases List.mem_append.1 hy with h' | h'
  · exact h y h'
  · simp at h'; subst h'; exact h01

set_option maxRecDepth 100000 in
set_option maxHeartbeats 2000000 in
theorem costExact_far (s : Nat) (a : Option Addr) (n cap : Nat) (h : 60 < n) (w : World) :
    Calls Try.prog 3 #[.int .u32 s, .slice a n cap] w fun e w' => e = .returned (.bool true) ∧ Below w.heap.size w w' := by
  go_enter Try.func3, Try.ntmps3
  go_wp2
  go_ret
  exact ⟨rfl, Below.refl _ _⟩

set_option maxRecDepth 100000 in
set_option maxHeartbeats 4000000 in
theorem costExact_many (s : Nat) (_hs : s < 4294967296) (a : Option Addr) (cap : Nat) (l : List (Int × Int)) (h16 : 16 < l.length) (h60 : l.length ≤ 60) (w : World) (ha : Syms w.heap.size w (.slice a l.length cap) l) :
    Calls Try.prog 3 #[.int .u32 s, .slice a l.length cap] w fun e w' => e = .returned (.bool true) ∧ Below w.heap.size w w' := by
  have bb := Below.refl w.heap.size w
  go_enter Try.func3, Try.ntmps3
  go_wp2_with fail
  refine (twinSyms_any _ l _ (by omega) w ha).mono ?_
  rintro e w2 ⟨r1, rfl, o1, b1⟩
  replace ha := ha.next b1
  replace bb := bb.trans (b1.mono bb.size)
  clear b1
  obtain ⟨a1, c1, rfl⟩ := (syms_of_row o1).shape
  go_wp2_with fail
  refine (CostOf_len s a1 l.length c1 h16 w2).mono ?_
  rintro e w4 ⟨rfl, b3⟩
  replace ha := ha.next b3
  replace o1 := symRow_below o1 b3 (Nat.le_refl _)
  replace bb := bb.trans (b3.mono bb.size)
  clear b3
  go_wp2_with fail
  refine (syms_any _ _ l l _ _ w4 (by omega) (syms_of_row o1) ha).mono ?_
  rw [decide_eq_true rfl]
  rintro e wz ⟨rfl, q5, rfl⟩
  have b6 : Below w4.heap.size w4 (w4.drewN q5) := below_drewN (Below.refl _ _) q5
  replace ha := ha.next b6
  replace o1 := symRow_below o1 b6 (Nat.le_refl _)
  replace bb := bb.trans (b6.mono bb.size)
  obtain ⟨w7, hw7⟩ : ∃ W, w4.drewN q5 = W := ⟨_, rfl⟩
  rw [hw7] at ha o1 bb ⊢
  clear hw7 b6
  go_wp2_with fail
  refine (costWakes_any w7).mono ?_
  rintro e w9 ⟨rfl, b8⟩
  replace ha := ha.next b8
  replace o1 := symRow_below o1 b8 (Nat.le_refl _)
  replace bb := bb.trans (b8.mono bb.size)
  clear b8
  go_wp2
  go_ret
  exact ⟨rfl, bb⟩

set_option maxRecDepth 100000 in
set_option maxHeartbeats 4000000 in
theorem costExact_arg (s : Nat) (hs : s < 4294967296) (a : Option Addr) (cap : Nat) (l : List (Int × Int)) (h16 : l.length ≤ 16) (hin : SymsIn l) (hc : ¬ CostOk l) (w : World) (ha : Syms w.heap.size w (.slice a l.length cap) l) :
    Calls Try.prog 3 #[.int .u32 s, .slice a l.length cap] w fun e w' => e = .returned (.bool true) ∧ Below w.heap.size w w' := by
  have HC : Hid (¬ CostOk l) := hc
  have HIN : Hid (SymsIn l) := hin
  clear hc hin
  have bb := Below.refl w.heap.size w
  go_enter Try.func3, Try.ntmps3
  go_wp2_with fail
  refine (twinSyms_any _ l _ (by omega) w ha).mono ?_
  rintro e w2 ⟨r1, rfl, o1, b1⟩
  replace ha := ha.next b1
  replace bb := bb.trans (b1.mono bb.size)
  clear b1
  obtain ⟨a1, c1, rfl⟩ := (syms_of_row o1).shape
  go_wp2_with fail
  refine (CostOf_arg s hs a1 c1 l h16 HIN.out HC.out w2 (syms_of_row o1)).mono ?_
  rintro e w4 ⟨rfl, b3⟩
  replace ha := ha.next b3
  replace o1 := symRow_below o1 b3 (Nat.le_refl _)
  replace bb := bb.trans (b3.mono bb.size)
  clear b3
  go_wp2_with fail
  refine (syms_any _ _ l l _ _ w4 (by omega) (syms_of_row o1) ha).mono ?_
  rw [decide_eq_true rfl]
  rintro e wz ⟨rfl, q5, rfl⟩
  have b6 : Below w4.heap.size w4 (w4.drewN q5) := below_drewN (Below.refl _ _) q5
  replace ha := ha.next b6
  replace o1 := symRow_below o1 b6 (Nat.le_refl _)
  replace bb := bb.trans (b6.mono bb.size)
  obtain ⟨w7, hw7⟩ : ∃ W, w4.drewN q5 = W := ⟨_, rfl⟩
  rw [hw7] at ha o1 bb ⊢
  clear hw7 b6
  go_wp2
  go_loop [8] (fun i => ∃ k : Nat, k ≤ l.length ∧ i = .int .i64 k ∧ Hid (CostOk (l.take k))) (fun i => l.length - (intOf i).toNat)
  case atStart => exact ⟨0, Nat.zero_le _, rfl, fun x hx => by simp at hx⟩
  case round =>
    obtain ⟨k, hk, rfl, HS⟩ := hrel
    by_cases hlt : k < l.length
    · obtain ⟨⟨at_, val⟩, hx⟩ : ∃ x, l[k]? = some x := ⟨l[k], by simp⟩
      obtain ⟨b, off, rfl, hb, hcell⟩ := syms_at ha rfl (by omega)
      obtain ⟨c1', c2'⟩ := hcell k _ hx
      have HX : Hid (l[k]? = some (at_, val)) := hx
      clear hcell hx
      by_cases h1 : at_ < 0
      · have d1 : decide (at_ < 0) = true := decide_eq_true h1
        clear h1 HS
        go_wp2_with fail
        refine (costWakes_any _).mono ?_
        rintro e wz ⟨rfl, bz⟩
        go_wp2
        go_ret
        exact ⟨rfl, bb.trans (bz.mono bb.size)⟩
      have d1 : decide (at_ < 0) = false := decide_eq_false h1
      by_cases h2 : 255 < at_
      · have d2 : decide (255 < at_) = true := decide_eq_true h2
        clear h1 h2 HS
        go_wp2_with fail
        refine (costWakes_any _).mono ?_
        rintro e wz ⟨rfl, bz⟩
        go_wp2
        go_ret
        exact ⟨rfl, bb.trans (bz.mono bb.size)⟩
      have d2 : decide (255 < at_) = false := decide_eq_false h2
      by_cases h3 : val < 0
      · have d3 : decide (val < 0) = true := decide_eq_true h3
        clear h1 h2 h3 HS
        go_wp2_with fail
        refine (costWakes_any _).mono ?_
        rintro e wz ⟨rfl, bz⟩
        go_wp2
        go_ret
        exact ⟨rfl, bb.trans (bz.mono bb.size)⟩
      have d3 : decide (val < 0) = false := decide_eq_false h3
      by_cases h4 : 255 < val
      · have d4 : decide (255 < val) = true := decide_eq_true h4
        clear h1 h2 h3 h4 HS
        go_wp2_with fail
        refine (costWakes_any _).mono ?_
        rintro e wz ⟨rfl, bz⟩
        go_wp2
        go_ret
        exact ⟨rfl, bb.trans (bz.mono bb.size)⟩
      have d4 : decide (255 < val) = false := decide_eq_false h4
      have HS' : Hid (CostOk (l.take (k + 1))) := costOk_snoc HS.out HX.out ⟨by simp; omega, by simp; omega, by simp; omega, by simp; omega⟩
      clear h1 h2 h3 h4 HS
      go_wp2
      go_round
      case rel => exact ⟨k + 1, by omega, by go_num, HS'⟩
      case measure => simp [intOf]; omega
    · exfalso
      obtain rfl : k = l.length := by omega
      have := HS.out
      rw [List.take_length] at this
      exact HC.out this

set_option maxRecDepth 100000 in
set_option maxHeartbeats 4000000 in
theorem costExact_ok (s : Nat) (hs : s < 4294967296) (a : Option Addr) (cap : Nat) (l : List (Int × Int)) (h16 : l.length ≤ 16) (hc : CostOk l) (w : World) (ha : Syms w.heap.size w (.slice a l.length cap) l) :
    Calls Try.prog 3 #[.int .u32 s, .slice a l.length cap] w fun e w' => e = .returned (.bool true) ∧ Below w.heap.size w w' := by
  have HC : Hid (CostOk l) := hc
  clear hc
  have hle := costN_le (s := s) HC.out
  obtain ⟨C, hCe⟩ : ∃ C, costN s l = C := ⟨_, rfl⟩
  have HCE : Hid (costN s l = C) := hCe
  have dC : ((C : Int) == (C : Int)) = true := by simp
  clear hCe hle
  have bb := Below.refl w.heap.size w
  go_enter Try.func3, Try.ntmps3
  go_wp2_with fail
  refine (twinSyms_any _ l _ (by omega) w ha).mono ?_
  rintro e w2 ⟨r1, rfl, o1, b1⟩
  replace ha := ha.next b1
  replace bb := bb.trans (b1.mono bb.size)
  clear b1
  obtain ⟨a1, c1, rfl⟩ := (syms_of_row o1).shape
  go_wp2_with fail
  refine (CostOf_ok s hs a1 c1 l h16 HC.out w2 (syms_of_row o1)).mono ?_
  rw [HCE.out]
  rintro e w4 ⟨rfl, b3⟩
  replace ha := ha.next b3
  replace o1 := symRow_below o1 b3 (Nat.le_refl _)
  replace bb := bb.trans (b3.mono bb.size)
  clear b3
  go_wp2_with fail
  refine (syms_any _ _ l l _ _ w4 (by omega) (syms_of_row o1) ha).mono ?_
  rw [decide_eq_true rfl]
  rintro e wz ⟨rfl, q5, rfl⟩
  have b6 : Below w4.heap.size w4 (w4.drewN q5) := below_drewN (Below.refl _ _) q5
  replace ha := ha.next b6
  replace o1 := symRow_below o1 b6 (Nat.le_refl _)
  replace bb := bb.trans (b6.mono bb.size)
  obtain ⟨w7, hw7⟩ : ∃ W, w4.drewN q5 = W := ⟨_, rfl⟩
  rw [hw7] at ha o1 bb ⊢
  clear hw7 b6
  go_wp2
  go_loop [8] (fun i => ∃ k : Nat, k ≤ l.length ∧ i = .int .i64 k ) (fun i => l.length - (intOf i).toNat)
  case atStart => exact ⟨0, Nat.zero_le _, rfl⟩
  case round =>
    obtain ⟨k, hk, rfl⟩ := hrel
    by_cases hlt : k < l.length
    · obtain ⟨⟨at_, val⟩, hx⟩ : ∃ x, l[k]? = some x := ⟨l[k], by simp⟩
      obtain ⟨b, off, rfl, hb, hcell⟩ := syms_at ha rfl (by omega)
      obtain ⟨c1', c2'⟩ := hcell k _ hx
      have HX : Hid (l[k]? = some (at_, val)) := hx
      clear hcell hx
      have hok := HC.out _ (List.mem_of_getElem? HX.out)
      simp only at hok
      have d1 : decide (at_ < 0) = false := decide_eq_false (by omega)
      have d2 : decide (255 < at_) = false := decide_eq_false (by omega)
      have d3 : decide (val < 0) = false := decide_eq_false (by omega)
      have d4 : decide (255 < val) = false := decide_eq_false (by omega)
      clear hok
      go_wp2
      go_round
      case rel => exact ⟨k + 1, by omega, by go_num⟩
      case measure => simp [intOf]; omega
    · obtain rfl : k = l.length := by omega
      clear hlt hk
      go_wp2_with fail
      refine (refCost_any s hs a cap l (by omega) HC.out w7 _ ha).mono ?_
      rw [HCE.out]
      rintro e wz ⟨rfl, q101, rfl⟩
      have b102 : Below w7.heap.size w7 (w7.drewN q101) := below_drewN (Below.refl _ _) q101
      replace ha := ha.next b102
      replace bb := bb.trans (b102.mono bb.size)
      obtain ⟨w103, hw103⟩ : ∃ W, w7.drewN q101 = W := ⟨_, rfl⟩
      rw [hw103] at ha bb ⊢
      clear hw103 b102
      go_wp2_with fail
      refine (costWakes_any w103).mono ?_
      rintro e w105 ⟨rfl, b104⟩
      replace ha := ha.next b104
      replace bb := bb.trans (b104.mono bb.size)
      clear b104
      go_wp2
      go_ret
      exact ⟨rfl, bb⟩

/-- The law, of whatever state and symbols. -/
theorem costExact_walk (x : Int) (a : Option Addr) (len cap : Nat) (l : List (Int × Int)) (w : World) (hx : (Lit.int .u32 x).wf = true) (h0 : IsSyms w a len cap l) :
    Calls Try.prog 3 #[.int .u32 x, .slice a len cap] w fun e w' => e = .returned (.bool true) ∧ Below w.heap.size w w' := by
  obtain ⟨rfl, _, _, ha, hin⟩ := h0
  have hb := bounds_u32 hx
  obtain ⟨s, rfl⟩ := Int.eq_ofNat_of_zero_le (a := x) hb.1
  have hs : s < 4294967296 := by omega
  by_cases h60 : 60 < l.length
  · exact costExact_far s a _ cap h60 w
  by_cases h16 : 16 < l.length
  · exact costExact_many s hs a cap l h16 (by omega) w ha
  by_cases hc : CostOk l
  · exact costExact_ok s hs a cap l (by omega) hc w ha
  · exact costExact_arg s hs a cap l (by omega) hin hc w ha

end Go.Proofs.Ytjnmdjejihliiaa
