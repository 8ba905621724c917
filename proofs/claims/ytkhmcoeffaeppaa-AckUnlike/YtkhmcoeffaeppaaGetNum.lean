/-
  What bit.Get and the page's Get answer, for every text and every argument.
-/
import Derived.Test.YtkhmcoeffaeppaaPutGet
namespace Go.Proofs.Ytkhmcoeffaeppaa
open Go.RowKit

/-- The number that bytes make, the highest first. -/
def beNum (l : List Int) : Int := l.foldl (fun acc x => acc * 256 + x) 0

theorem beNum_snoc (l : List Int) (x : Int) : beNum (l ++ [x]) = beNum l * 256 + x := by simp [beNum]

theorem beNum_bd (l : List Int) (h : ∀ z ∈ l, 0 ≤ z ∧ z ≤ 255) : 0 ≤ beNum l ∧ beNum l < 256 ^ l.length := by
  have key : ∀ (k : Nat) (l : List Int), l.length = k → (∀ z ∈ l, 0 ≤ z ∧ z ≤ 255) → 0 ≤ beNum l ∧ beNum l < 256 ^ l.length := by
    intro k
    induction k with
    | zero =>
      intro l hl _
      rw [List.length_eq_zero_iff.1 hl]
      simp [beNum]
    | succ k ih =>
      intro l hl hb
      have hne : l ≠ [] := fun e => by rw [e] at hl; simp at hl
      rw [← List.dropLast_concat_getLast hne] at hb ⊢
      have h1 := ih l.dropLast (by simp [hl]) (fun z hz => hb z (List.mem_append_left _ hz))
      have h2 := hb (l.getLast hne) (by simp)
      rw [beNum_snoc, List.length_append, List.length_singleton, Int.pow_succ]
      omega
  exact key _ l rfl h

theorem or_join (acc x : Int) (h0 : 0 ≤ acc) (h1 : acc < 4294967296) (hx : 0 ≤ x) (hx' : x ≤ 255) : bits .or .i64 (acc * 256) x = acc * 256 + x := by
  have e63 : (2 : Int) ^ 63 = 9223372036854775808 := by decide
  exact bits_join .i64 63 (by decide) wraps_i64 8 (acc * 256) x (by omega) (by simp) (by rw [e63]; omega) hx (by simp; omega) (by rw [e63]; omega)

theorem take_drop_succ {zs : List Int} {t j : Nat} {z : Int} (h : zs[t + j]? = some z) : (zs.drop t).take (j + 1) = (zs.drop t).take j ++ [z] := by
  rw [List.take_add_one, List.getElem?_drop, h]; rfl

theorem take_bd (zs : List Int) (hz : ∀ z ∈ zs, 0 ≤ z ∧ z ≤ 255) (t j k : Nat) (hj : j ≤ k) : 0 ≤ beNum ((zs.drop t).take j) ∧ beNum ((zs.drop t).take j) < 256 ^ k := by
  have h := beNum_bd ((zs.drop t).take j) (fun z h => hz z (List.mem_of_mem_drop (List.mem_of_mem_take h)))
  have hl : ((zs.drop t).take j).length ≤ k := Nat.le_trans (List.length_take_le _ _) hj
  refine ⟨h.1, Int.lt_of_lt_of_le h.2 ?_⟩
  have h' := Int.ofNat_le.2 (Nat.pow_le_pow_right (n := 256) (by decide) hl)
  rw [Int.natCast_pow, Int.natCast_pow] at h'
  exact h'

/-- What Get refuses for its arguments. -/
def badGet (len : Nat) (at' size : Int) : Prop := size < 1 ∨ 4 < size ∨ at' < 0 ∨ (len : Int) < at'

set_option maxRecDepth 100000 in
set_option maxHeartbeats 1000000 in
theorem get_arg (a : Option Addr) (len cap : Nat) (p size : Int) (w : World) (h : badGet len p size) :
    Calls Try.prog 33 #[.slice a len cap, .int .i64 p, .int .i64 size] w fun e w' => e = .returned (.tuple #[.int .i64 0, .int .i64 1]) ∧ w = w' := by
  by_cases g : size < 1 ∨ 4 < size
  · go_enter Try.func33, Try.ntmps33
    go_wp2_with (go_at_call 27; refine (isSize_no _ _ g).mono ?_; rintro e w' ⟨rfl, rfl⟩)
    go_ret2
    exact ⟨rfl, rfl⟩
  · have g1 : 1 ≤ size := by omega
    have g2 : size ≤ 4 := by omega
    have h' : p < 0 ∨ (len : Int) < p := by unfold badGet at h; omega
    clear g h
    by_cases g3 : p < 0
    · clear h'
      go_enter Try.func33, Try.ntmps33
      go_wp2_with (go_at_call 27; refine (isSize_yes _ _ g1 g2).mono ?_; rintro e w' ⟨rfl, rfl⟩)
      go_ret2
      exact ⟨rfl, rfl⟩
    · have g4 : (len : Int) < p := by omega
      clear h'
      go_enter Try.func33, Try.ntmps33
      go_wp2_with (go_at_call 27; refine (isSize_yes _ _ g1 g2).mono ?_; rintro e w' ⟨rfl, rfl⟩)
      go_ret2
      exact ⟨rfl, rfl⟩

set_option maxRecDepth 100000 in
set_option maxHeartbeats 1000000 in
theorem get_few (a : Option Addr) (len cap : Nat) (p size : Int) (w : World) (g1 : 1 ≤ size) (g2 : size ≤ 4) (g3 : 0 ≤ p) (g4 : p ≤ len) (g5 : (len : Int) - p < size) :
    Calls Try.prog 33 #[.slice a len cap, .int .i64 p, .int .i64 size] w fun e w' => e = .returned (.tuple #[.int .i64 0, .int .i64 3]) ∧ w = w' := by
  go_enter Try.func33, Try.ntmps33
  go_wp2_with (go_at_call 27; refine (isSize_yes _ _ g1 g2).mono ?_; rintro e w' ⟨rfl, rfl⟩)
  go_ret2
  exact ⟨rfl, rfl⟩

set_option maxRecDepth 100000 in
set_option maxHeartbeats 2000000 in
theorem get_ok (b off cap : Nat) (zs : List Int) (t s : Nat) (w : World) (h1 : 1 ≤ s) (h2 : s ≤ 4) (h3 : t + s ≤ zs.length) (hcap : zs.length ≤ cap) (hl : zs.length ≤ 4294967296) (hz : ∀ z ∈ zs, 0 ≤ z ∧ z ≤ 255)
    (hc : ∀ j, j < zs.length → w.cell? ⟨b, off + j, none⟩ = some (.int .u8 (zs[j]?.getD 0))) :
    Calls Try.prog 33 #[.slice (some ⟨b, off, none⟩) zs.length cap, .int .i64 t, .int .i64 s] w fun e w' => e = .returned (.tuple #[.int .i64 (beNum ((zs.drop t).take s)), .int .i64 0]) ∧ w = w' := by
  have d1 : decide ((t : Int) < 0) = false := by simp
  have d2 : decide (zs.length < t) = false := by simp; omega
  have d3 : decide ((zs.length : Int) - (t : Int) < (s : Int)) = false := by simp; omega
  go_enter Try.func33, Try.ntmps33
  go_wp2_with (go_at_call 27; refine (isSize_yes _ _ (by omega) (by omega)).mono ?_; rintro e w' ⟨rfl, rfl⟩)
  go_loop [8, 37] (fun n i => ∃ j : Nat, j ≤ s ∧ i = .int .i64 j ∧ n = .int .i64 (beNum ((zs.drop t).take j))) (fun _ i => s - (intOf i).toNat)
  case atStart => exact ⟨0, Nat.zero_le _, rfl, rfl⟩
  case round =>
    obtain ⟨j, hj, rfl, rfl⟩ := hrel
    have hbd := take_bd zs hz t j 3
    by_cases hlt : j < s
    · obtain ⟨z, hzk, hz0, hz1⟩ : ∃ z, zs[t + j]? = some z ∧ 0 ≤ z ∧ z ≤ 255 := ⟨zs[t + j], by simp, (hz _ (List.getElem_mem _)).1, (hz _ (List.getElem_mem _)).2⟩
      have hcx : w.cell? ⟨b, off + t + j, none⟩ = some (.int .u8 z) := by rw [Nat.add_assoc]; exact (hc (t + j) (by omega)).trans (by rw [hzk]; rfl)
      obtain ⟨h0, h1'⟩ := hbd (by omega)
      have HS : Hid (beNum ((zs.drop t).take (j + 1)) = beNum ((zs.drop t).take j) * 256 + z) := by
        show beNum ((zs.drop t).take (j + 1)) = beNum ((zs.drop t).take j) * 256 + z
        rw [take_drop_succ hzk, beNum_snoc]
      obtain ⟨acc, hacc⟩ : ∃ acc, beNum ((zs.drop t).take j) = acc := ⟨_, rfl⟩
      rw [hacc] at h0 h1' HS ⊢
      have hor := or_join acc z h0 (by omega) hz0 hz1
      have hwz : IntKind.i64.wrap z = z := by rw [IntKind.wrap_i64]; omega
      clear hzk hacc hc hbd hz
      go_wp2
      exact ⟨⟨j + 1, by omega, by go_num, by rw [HS.out]⟩, by simp [intOf]; omega⟩
    · obtain rfl : j = s := by omega
      go_wp2
      go_ret2
      exact ⟨rfl, rfl⟩

end Go.Proofs.Ytkhmcoeffaeppaa
