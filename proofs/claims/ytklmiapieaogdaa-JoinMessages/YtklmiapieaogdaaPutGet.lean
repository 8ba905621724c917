/-
  What bit.isSize, bit.fits, bit.Put, bit.Get answer, for every argument.
-/
import Derived.Test.YtklmiapieaogdaaTwins
import Derived.Test.YtklmiapieaogdaaNums
import Derived.Deep.QuietTactic
import Derived.BigQuiet
import Derived.Maps.AppendAt
namespace Go.Proofs.Ytklmiapieaogdaa
open Go.RowKit

/-- A number in so many bytes, the highest first. -/
def beBytes (s : Nat) (n : Int) : List Int := (List.range s).map (fun i => n / 2 ^ (8 * (s - 1 - i)) % 256)

theorem beBytes_len (s : Nat) (n : Int) : (beBytes s n).length = s := by simp [beBytes]

theorem beBytes_next (s m : Nat) (n : Int) (h : m < s) : (beBytes s n).take (s - m) = (beBytes s n).take (s - (m + 1)) ++ [n / 2 ^ (8 * m) % 256] := by
  have e : s - m = s - (m + 1) + 1 := by omega
  rw [e, List.take_add_one]
  have hi : s - (m + 1) < s := by omega
  have : (beBytes s n)[s - (m + 1)]? = some (n / 2 ^ (8 * m) % 256) := by
    simp only [beBytes, List.getElem?_map, List.getElem?_range hi, Option.map_some]
    rw [show s - 1 - (s - (m + 1)) = m from by omega]
  rw [this]; rfl

/-- What Put refuses for its arguments. -/
def badPut (n size : Int) : Prop := (size < 1 ∨ 4 < size) ∨ (1 ≤ size ∧ size ≤ 4 ∧ (n < 0 ∨ ¬ n / 2 ^ (8 * size).toNat = 0))

theorem below_grown' {w w' : World} {base e n g cap : Nat} {xs : List Value} (hown : w.ownsRow base e 1 (.slice (some ⟨g, 0, none⟩) n cap) n xs) (hg : w.grownBy w' (some g)) (hb : base ≤ w.heap.size) : Below base w w' :=
  (Below.refl _ w).grown hg hb (fun k e => by cases e; exact (hown.lt g rfl).1)

theorem holds_hc {kd : IntKind} {n₀ : Nat} {W : World} {a : Option Addr} {cap : Nat} {zs : List Int} (h : Holds kd n₀ W (.slice a zs.length cap) zs) :
    (a = none → zs.length = 0 ∧ cap = 0) ∧ ∀ ad, a = some ad → ∀ j u, (zs.map (Value.int kd))[j]? = some u → W.cell? (ad.add j) = some u := by
  rcases h with ⟨⟨a', cap', e, hc⟩, rfl⟩ | ⟨b, off, cap', e, _, hcs⟩
  · cases e
    exact ⟨fun e => ⟨rfl, hc e⟩, by simp⟩
  · cases e
    exact ⟨fun e => (by cases e), fun ad e => by cases e; exact holds_cells hcs⟩

end Go.Proofs.Ytklmiapieaogdaa
