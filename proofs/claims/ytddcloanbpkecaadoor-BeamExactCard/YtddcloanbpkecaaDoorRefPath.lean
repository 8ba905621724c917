/-
  What the page's Path answers, for every row in memory: are they nibbles alone?
-/
import Derived.Test.YtddcloanbpkecaaDoorSpineNums
import Derived.Test.YtddcloanbpkecaaDoorSteps
import Derived.Laws.BitsAllLaws
import Derived.WalkSpells
import Derived.WalkLawsBesides
namespace Go.Proofs.YtddcloanbpkecaaDoor
open Go.RowKit

theorem path_snoc {zs : List Int} {k : Nat} {x : Int} (h : Path (zs.take k)) (hx : zs[k]? = some x) (h01 : 0 ≤ x ∧ x ≤ 15) : Path (zs.take (k + 1)) := by
  rw [take_snoc hx]
  intro y hy
  rcases List.mem_append.1 hy with h' | h'
  · exact h y h'
  · simp at h'; subst h'; exact h01

set_option maxRecDepth 100000 in
set_option maxHeartbeats 1000000 in
theorem refPath_any (a : Option Addr) (cap : Nat) (zs : List Int) (hl : zs.length ≤ 4294967296) (w : World) (n₀ : Nat) (ha : Holds .i64 n₀ w (.slice a zs.length cap) zs) :
    Calls Tryd.prog 15 #[.slice a zs.length cap] w fun e w' => (e = .returned (.bool true) ∧ Path zs ∨ e = .returned (.bool false) ∧ ¬ Path zs) ∧ w = w' := by
  go_enter Tryd.func15, Tryd.ntmps15
  go_wp2
  go_loop [3] (fun i => ∃ k : Nat, k ≤ zs.length ∧ i = .int .i64 k ∧ Path (zs.take k)) (fun i => zs.length - (intOf i).toNat)
  case atStart => exact ⟨0, Nat.zero_le _, rfl, fun x hx => by simp at hx⟩
  case round =>
    obtain ⟨k, hk, rfl, hP⟩ := hrel
    by_cases hlt : k < zs.length
    · obtain ⟨x, hxk⟩ : ∃ x, zs[k]? = some x := ⟨zs[k], by simp⟩
      rcases ha with ⟨_, e⟩ | ⟨b, off, cap', e, hb, hcs⟩
      · rw [e] at hlt; exact absurd hlt (by simp)
      cases e
      have c1 : w.cell? ⟨b, off + k, none⟩ = some (.int .i64 x) := (hcs k hlt).trans (by rw [hxk]; rfl)
      have HX : Hid (zs[k]? = some x) := hxk
      have HP : Hid (Path (zs.take k)) := hP
      clear hcs hxk hP
      by_cases h0 : x < 0
      · have HN : Hid (¬ Path zs) := fun h => by have := h.get HX.out; omega
        go_wp2
        go_ret
        exact ⟨.inr ⟨rfl, HN.out⟩, rfl⟩
      · by_cases h1 : 15 < x
        · have HN : Hid (¬ Path zs) := fun h => by have := h.get HX.out; omega
          go_wp2
          go_ret
          exact ⟨.inr ⟨rfl, HN.out⟩, rfl⟩
        · have d0 : decide (x < 0) = false := decide_eq_false h0
          have d1 : decide (15 < x) = false := decide_eq_false h1
          go_wp2
          go_round
          case rel => exact ⟨k + 1, by omega, by go_num, path_snoc HP.out HX.out (by omega)⟩
          case measure => simp [intOf]; omega
    · obtain rfl : k = zs.length := by omega
      have HP : Hid (Path zs) := by
        have : zs.take zs.length = zs := List.take_length
        rw [this] at hP; exact hP
      clear hP
      go_wp2
      go_ret
      exact ⟨.inl ⟨rfl, HP.out⟩, rfl⟩

theorem refPath_yes (a : Option Addr) (cap : Nat) (zs : List Int) (hl : zs.length ≤ 4294967296) (hP : Path zs) (w : World) (n₀ : Nat) (ha : Holds .i64 n₀ w (.slice a zs.length cap) zs) :
    Calls Tryd.prog 15 #[.slice a zs.length cap] w fun e w' => e = .returned (.bool true) ∧ w = w' := by
  refine (refPath_any a cap zs hl w n₀ ha).mono ?_
  rintro e w' ⟨⟨rfl, _⟩ | ⟨_, h⟩, rfl⟩
  · exact ⟨rfl, rfl⟩
  · exact absurd hP h
theorem refPath_no (a : Option Addr) (cap : Nat) (zs : List Int) (hl : zs.length ≤ 4294967296) (hP : ¬ Path zs) (w : World) (n₀ : Nat) (ha : Holds .i64 n₀ w (.slice a zs.length cap) zs) :
    Calls Tryd.prog 15 #[.slice a zs.length cap] w fun e w' => e = .returned (.bool false) ∧ w = w' := by
  refine (refPath_any a cap zs hl w n₀ ha).mono ?_
  rintro e w' ⟨⟨_, h⟩ | ⟨rfl, _⟩, rfl⟩
  · exact absurd h hP
  · exact ⟨rfl, rfl⟩

end Go.Proofs.YtddcloanbpkecaaDoor
