/-
  What spine.Begin, Step, States, Nibble answer.
-/
import Derived.Test.YtmjidhnlofpliaaDoorM02
import Derived.Test.YtmjidhnlofpliaaDoorM13
import Derived.OwnWalk
namespace Go.Proofs.YtmjidhnlofpliaaDoor
open Go.RowKit

theorem infoWord : (Tryd.prog.info? 36).map (fun i => (i.zero, i.size, i.bytes)) = some (some (.int .u32 0), 1, 4) := by kernel_rfl

set_option maxRecDepth 100000 in
set_option maxHeartbeats 1000000 in
theorem Step_ok (s n : Nat) (hs : s < 4294967296) (hn : n < 16) (w : World) : Calls Tryd.prog 92 #[.int .u32 s, .int .i64 n] w fun e w' => e = .returned (.tuple #[.int .u32 ((stepN s n : Nat) : Int), .int .i64 0]) ∧ w = w' := by
  have e1 : IntKind.u32.wrap (n : Int) = (n : Int) := by rw [IntKind.wrap_u32]; omega
  have e2 : bits .xor .u32 (s : Int) (n : Int) = ((s ^^^ n : Nat) : Int) := zu32_xor s n hs (by omega)
  have h3 : s ^^^ n < 4294967296 := xorlt32 hs (by omega)
  have HR : Hid (mixN (s ^^^ n) = stepN s n) := rfl
  have d0 : decide ((n : Int) < 0) = false := decide_eq_false (by omega)
  have d1 : decide (16 ≤ (n : Int)) = false := decide_eq_false (by omega)
  obtain ⟨x, hx⟩ : ∃ x, s ^^^ n = x := ⟨_, rfl⟩
  rw [hx] at e2 h3 HR
  clear hx
  go_enter Tryd.func92, Tryd.ntmps92
  go_wp2_with fail
  refine (Mix_any x h3 w).mono ?_
  rw [HR.out]
  rintro e w1 ⟨rfl, rfl⟩
  go_wp2
  go_ret2
  exact ⟨rfl, rfl⟩

set_option maxRecDepth 100000 in
set_option maxHeartbeats 1000000 in
theorem Step_arg (s : Nat) (n : Int) (h : n < 0 ∨ 15 < n) (w : World) : Calls Tryd.prog 92 #[.int .u32 s, .int .i64 n] w fun e w' => e = .returned (.tuple #[.int .u32 0, .int .i64 1]) ∧ w = w' := by
  by_cases h0 : n < 0
  · clear h
    go_enter Tryd.func92, Tryd.ntmps92
    go_wp2
    go_ret2
    exact ⟨rfl, rfl⟩
  · have h1 : 16 ≤ n := by omega
    clear h
    go_enter Tryd.func92, Tryd.ntmps92
    go_wp2
    go_ret2
    exact ⟨rfl, rfl⟩

set_option maxRecDepth 100000 in
set_option maxHeartbeats 2000000 in
/-- States, of nibbles or not. -/
theorem States_any (a : Option Addr) (cap : Nat) (zs : List Int) (hl : zs.length ≤ 64) (w : World) (ha : Holds .i64 w.heap.size w (.slice a zs.length cap) zs) :
    Calls Tryd.prog 87 #[.slice a zs.length cap] w fun e W' => (Path zs ∧ (∃ r, e = .returned (.tuple #[r, .int .i64 0]) ∧ Kept .u32 W' r (statesOf beginN zs)) ∨ ¬ Path zs ∧ e = .returned (.tuple #[.slice none 0 0, .int .i64 1])) ∧ Below w.heap.size w W' := by
  obtain ⟨i0, hi, hz0, hz1, hz2⟩ := info_parts infoWord
  go_enter Tryd.func87, Tryd.ntmps87
  go_wp2_with (at_make; refine wpList_make_own _ rfl _ _ 112 rfl w.heap.size 36 i0 (.int .u32 0) 1 Tryd.underlying112 hi hz0 hz1 .i64 .i64 _ zs.length rfl rfl (by omega) (by rw [hz2]; omega) (by unfold maxLen; omega) (Nat.le_refl _) ?_; intro w1 hown1 hgrow1)
  have b1 : Below w.heap.size w w1 := (Below.refl _ w).grown hgrow1 (Nat.le_refl _) (fun k e => by cases e)
  clear hgrow1
  go_wp2
  go_loopw [4, 5, 18] (fun v s i wr => ∃ k : Nat, k ≤ zs.length ∧ i = .int .i64 k ∧ s = .int .u32 ((lastOf beginN (zs.take k) : Nat) : Int) ∧ wr.ownsRow w.heap.size 36 1 v k ((statesOf beginN (zs.take k)).map (Value.int .u32)) ∧ Below w.heap.size w wr ∧ Hid (Path (zs.take k))) (fun _ _ i _ => zs.length - (intOf i).toNat)
  case atStart => exact ⟨0, Nat.zero_le _, rfl, rfl, hown1, b1, fun x hx => by simp at hx⟩
  case round =>
    clear hown1 b1
    obtain ⟨k, hk, rfl, rfl, ho, hbw, HP⟩ := hrel
    by_cases hlt : k < zs.length
    · obtain ⟨z, hzk⟩ : ∃ z, zs[k]? = some z := ⟨zs[k], by simp⟩
      rcases ha with ⟨_, e⟩ | ⟨b, off, cap', e, hb, hcs⟩
      · rw [e] at hlt; exact absurd hlt (by simp)
      cases e
      have c1 : wr.cell? ⟨b, off + k, none⟩ = some (.int .i64 z) := (hbw.cell (p := ⟨b, off + k, none⟩) hb).trans ((hcs k hlt).trans (by rw [hzk]; rfl))
      have hs := lastOf_lt (s := beginN) (zs.take k) (by decide)
      by_cases hz : z < 0 ∨ 15 < z
      · have HN : Hid (¬ Path zs) := fun h => by have := h.get hzk; omega
        obtain ⟨s, hse⟩ : ∃ s, lastOf beginN (zs.take k) = s := ⟨_, rfl⟩
        rw [hse] at hs ⊢
        clear hcs hzk hse HP
        go_wp2_with fail
        refine (Step_arg s z hz wr).mono ?_
        rintro e w2 ⟨rfl, rfl⟩
        clear hz
        go_wp2
        go_ret2
        exact ⟨.inr ⟨HN.out, rfl⟩, hbw⟩
      · obtain ⟨n, rfl⟩ := Int.eq_ofNat_of_zero_le (a := z) (by omega)
        have hn : n < 16 := by omega
        have HL : Hid (lastOf beginN (zs.take (k + 1)) = stepN (lastOf beginN (zs.take k)) n) := by
          have := lastOf_take (s := beginN) hzk
          rw [Int.toNat_natCast] at this
          exact this
        have HS : Hid (statesOf beginN (zs.take (k + 1)) = statesOf beginN (zs.take k) ++ [((stepN (lastOf beginN (zs.take k)) n : Nat) : Int)]) := by
          have := statesOf_snoc beginN (zs.take k) (n : Int)
          rw [← take_snoc hzk, Int.toNat_natCast] at this
          exact this
        have HP' : Hid (Path (zs.take (k + 1))) := by
          have e := take_snoc hzk
          show Path (zs.take (k + 1))
          rw [e]
          intro y hy
          rcases List.mem_append.1 hy with h' | h'
          · exact HP.out y h'
          · simp at h'; subst h'; omega
        obtain ⟨s, hse⟩ : ∃ s, lastOf beginN (zs.take k) = s := ⟨_, rfl⟩
        rw [hse] at hs HL HS ⊢
        clear hcs hzk hse HP hz
        go_wp2_with fail
        refine (Step_ok s n hs hn wr).mono ?_
        rintro e w2 ⟨rfl, rfl⟩
        obtain ⟨t, hte⟩ : ∃ t, stepN s n = t := ⟨_, rfl⟩
        rw [hte] at HL HS ⊢
        clear hte
        go_wp2_with (at_builtin; refine wpList_append_own _ rfl _ _ 112 rfl w.heap.size 36 i0 (.int .u32 0) 1 4 Tryd.underlying112 hi hz0 hz1 hz2 rfl (by decide) _ k _ rfl (ho.alloc _) ⟨wr.heap.size, 0, none⟩ 1 1 [.int .u32 t] rfl rfl (cell_one_new _ _ _) (by simp [Value.oneCell']) (by unfold maxLen; omega) (by omega) (by have := hbw.size; simp; omega) ?_; intro v3 w3 hown3 hgrow3 _)
        have b3 : Below w.heap.size w w3 := (hbw.alloc hbw.size _).trans ((Below.refl _ _).grown hgrow3 (by have := hbw.size; simp; omega) (fun q e => (ho.lt q e).1))
        refine ⟨⟨k + 1, by omega, by go_num, by rw [HL.out], ?_, b3, HP'⟩, by simp [intOf]; omega⟩
        rw [HS.out, List.map_append]
        exact hown3
    · obtain rfl : k = zs.length := by omega
      have HT : Hid (zs.take zs.length = zs) := List.take_length
      rw [HT.out] at ho HP ⊢
      clear ha
      go_wp2
      go_ret2
      exact ⟨.inl ⟨HP.out, _, rfl, kept_of_row ho⟩, hbw⟩

theorem States_ok (a : Option Addr) (cap : Nat) (zs : List Int) (hl : zs.length ≤ 64) (hP : Path zs) (w : World) (ha : Holds .i64 w.heap.size w (.slice a zs.length cap) zs) :
    Calls Tryd.prog 87 #[.slice a zs.length cap] w fun e W' => ∃ r, e = .returned (.tuple #[r, .int .i64 0]) ∧ Kept .u32 W' r (statesOf beginN zs) ∧ Below w.heap.size w W' := by
  refine (States_any a cap zs hl w ha).mono ?_
  rintro e W' ⟨⟨_, r, rfl, hr⟩ | ⟨h, _⟩, hb⟩
  · exact ⟨r, rfl, hr, hb⟩
  · exact absurd hP h
end Go.Proofs.YtmjidhnlofpliaaDoor
