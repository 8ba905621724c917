/-
  What volutekeep.Twin, TwinInts answer (the same numbers in new memory), and what SpoilBytes, SpoilInts do (they write over the list that they are handed, and nothing else).
-/
import Derived.Test.YtdnhnnidlangiaaDoorM04
import Derived.Test.YtdnhnnidlangiaaDoorM05
import Derived.BigQuiet
import Derived.Deep.QuietTactic
import Derived.Laws.AppendOwnNone
import Derived.Maps.AppendAt
import Derived.OwnWalk
import Derived.WalkLawsBesides
import Derived.WalkSpells
namespace Go.Proofs.YtdnhnnidlangiaaDoor
open Go.RowKit

theorem infoU8 : (Tryd.prog.info? 5).map (fun i => (i.zero, i.size, i.bytes)) = some (some (.int .u8 0), 1, 1) := by kernel_rfl
/-- append, onto a row of the call's own, from whatever list. -/
theorem run_append_u8 (v src : Value) (n base n₀ : Nat) (xs ys : List Int) (ty : TypeId) (w : World) (hown : w.ownsRow base 5 1 v n (xs.map (Value.int .u8))) (hH : Holds .u8 n₀ w src ys) (hb : base ≤ w.heap.size) (h1 : n ≤ 4294967296) (h2 : ys.length ≤ 4294967296) :
    ∃ v' w', (Builtin.append_ #[55, 55] ty #[v, src]).run Tryd.prog w = .ok v' w' ∧ w'.ownsRow base 5 1 v' (n + ys.length) ((xs ++ ys).map (Value.int .u8)) ∧ w.grownBy w' v.ownBlock := by
  obtain ⟨i0, hi, hz0, hz1, hz2⟩ := info_parts infoU8
  rcases hH with ⟨⟨a, cap, rfl, ha⟩, rfl⟩ | ⟨b, off, cap, rfl, _, hcs⟩
  · cases a with
    | none =>
      obtain rfl := ha rfl
      exact ⟨v, w, run_append_owned_none w base 55 ty 5 i0 1 Tryd.underlying55 hi v n _ hown, by simpa using hown, World.grownBy.refl _ _⟩
    | some ad =>
      obtain ⟨v', w', hr, ho, hg, _⟩ := run_append_own (P := Tryd.prog) w base 55 ty 5 i0 (.int .u8 0) 1 1 Tryd.underlying55 hi hz0 hz1 hz2 rfl (by decide) v n _ hown ad 0 cap [] rfl (by simp) (by simp) (by unfold maxLen; omega) (by omega) hb
      exact ⟨v', w', hr, by simpa using ho, hg⟩
  · obtain ⟨v', w', hr, ho, hg, _⟩ := run_append_own (P := Tryd.prog) w base 55 ty 5 i0 (.int .u8 0) 1 1 Tryd.underlying55 hi hz0 hz1 hz2 rfl (by decide) v n _ hown ⟨b, off, none⟩ ys.length cap (ys.map (Value.int .u8)) (by simp) (holds_cells hcs) (oneCells _ _) (by unfold maxLen; omega) (by omega) hb
    exact ⟨v', w', hr, by simpa using ho, hg⟩

end Go.Proofs.YtdnhnnidlangiaaDoor

/-
  What bit.isSize, bit.fits, bit.Put, bit.Get answer, for every argument.
-/
namespace Go.Proofs.YtdnhnnidlangiaaDoor
open Go.RowKit

set_option maxHeartbeats 400000 in
theorem fits_neg (n k : Int) (w : World) (h : n < 0) :
    Calls Tryd.prog 77 #[.int .i64 n, .int .i64 k] w fun e w' => e = .returned (.bool false) ∧ w = w' := by
  go_enter Tryd.func77, Tryd.ntmps77
  go_wp2
  go_ret
  exact ⟨rfl, rfl⟩

set_option maxHeartbeats 400000 in
theorem fits_pos (n k : Int) (w : World) (h : 0 ≤ n) (h0 : 0 ≤ k) (hk : k ≤ 32) :
    Calls Tryd.prog 77 #[.int .i64 n, .int .i64 k] w fun e w' => e = .returned (.bool (n / 2 ^ k.toNat == 0)) ∧ w = w' := by
  obtain ⟨m, rfl⟩ := Int.eq_ofNat_of_zero_le h0
  rw [Int.toNat_natCast]
  go_enter Tryd.func77, Tryd.ntmps77
  go_wp2
  go_ret
  exact ⟨rfl, rfl⟩

theorem fits_no (n k : Int) (w : World) (h0 : 0 ≤ k) (hk : k ≤ 32) (hn : n < 0 ∨ ¬ n / 2 ^ k.toNat = 0) :
    Calls Tryd.prog 77 #[.int .i64 n, .int .i64 k] w fun e w' => e = .returned (.bool false) ∧ w = w' := by
  by_cases h : n < 0
  · exact fits_neg n k w h
  · have e := fits_pos n k w (by omega) h0 hk
    rw [beq_eq_false_iff_ne.2 (by omega)] at e
    exact e

theorem fits_yes (n k : Int) (w : World) (h : 0 ≤ n) (h0 : 0 ≤ k) (hk : k ≤ 32) (hn : n / 2 ^ k.toNat = 0) :
    Calls Tryd.prog 77 #[.int .i64 n, .int .i64 k] w fun e w' => e = .returned (.bool true) ∧ w = w' := by
  have e := fits_pos n k w h h0 hk
  rw [beq_iff_eq.2 hn] at e
  exact e

/-- A number in so many bytes, the highest first. -/
def beBytes (s : Nat) (n : Int) : List Int := (List.range s).map (fun i => n / 2 ^ (8 * (s - 1 - i)) % 256)

theorem beBytes_len (s : Nat) (n : Int) : (beBytes s n).length = s := by simp [beBytes]

theorem beBytes_next (s m : Nat) (n : Int) (h : m < s) : (beBytes s n).take (s - m) = (beBytes s n).take (s - (m + 1)) ++ [n / 2 ^ (8 * m) % 256] := by
  have e : s - m = s - (m + 1) + 1 := by omega
  rw [e, List.take_add_one]
  have hi : s - (m + 1) < s := by omega
  have : (beBytes s n)[s - (m + 1)]? = some (n / 2 ^ (8 * m) % 256) := by
    simp only [beBytes, List.getElem?_map, List.getElem?_range hi, Option.map_some]
    rw [show s - 1 - (s - (m + 1)) = m from by omega]
  rw [this]; rfl

/-- What Put refuses for its arguments. -/
def badPut (n size : Int) : Prop := (size < 1 ∨ 4 < size) ∨ (1 ≤ size ∧ size ≤ 4 ∧ (n < 0 ∨ ¬ n / 2 ^ (8 * size).toNat = 0))

theorem below_grown' {w w' : World} {base e n g cap : Nat} {xs : List Value} (hown : w.ownsRow base e 1 (.slice (some ⟨g, 0, none⟩) n cap) n xs) (hg : w.grownBy w' (some g)) (hb : base ≤ w.heap.size) : Below base w w' :=
  (Below.refl _ w).grown hg hb (fun k e => by cases e; exact (hown.lt g rfl).1)

theorem holds_hc {kd : IntKind} {n₀ : Nat} {W : World} {a : Option Addr} {cap : Nat} {zs : List Int} (h : Holds kd n₀ W (.slice a zs.length cap) zs) :
    (a = none → zs.length = 0 ∧ cap = 0) ∧ ∀ ad, a = some ad → ∀ j u, (zs.map (Value.int kd))[j]? = some u → W.cell? (ad.add j) = some u := by
  rcases h with ⟨⟨a', cap', e, hc⟩, rfl⟩ | ⟨b, off, cap', e, _, hcs⟩
  · cases e
    exact ⟨fun e => ⟨rfl, hc e⟩, by simp⟩
  · cases e
    exact ⟨fun e => (by cases e), fun ad e => by cases e; exact holds_cells hcs⟩

end Go.Proofs.YtdnhnnidlangiaaDoor
