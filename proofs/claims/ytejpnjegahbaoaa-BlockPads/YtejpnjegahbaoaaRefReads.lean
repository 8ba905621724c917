/-
  What the page's Read answers, in two contracts: bytes that are no block, bytes that are one.
-/
import Derived.Test.YtejpnjegahbaoaaRefRead
namespace Go.Proofs.Ytejpnjegahbaoaa
open Go.RowKit

theorem rdX_len {Z : Nat} {zs : List Int} (hl : zs.length = Z + 10) (h : rdN zs ≤ Z) : (rdX zs).length = rdN zs := by
  unfold rdX; rw [List.length_take, List.length_drop]; omega

theorem refRead_no (z : Int) (a : Option Addr) (cap : Nat) (zs : List Int) (hc : zs.length ≤ cap) (bz : ∀ z ∈ zs, 0 ≤ z ∧ z ≤ 255) (e : Int) (h : badB z zs e) (w : World) (ha : Holds .u8 w.heap.size w (.slice a zs.length cap) zs) :
    Calls Try.prog 17 #[.int .i64 z, .slice a zs.length cap] w fun r w' => r = .returned (.tuple #[.agg #[.int .i64 0, .int .i64 0, .slice none 0 0], .int .i64 e]) ∧ Below w.heap.size w w' := by
  rcases h with ⟨h1, rfl⟩ | ⟨h1, h2, rfl⟩ | ⟨h1, h2, h3, rfl⟩ | ⟨h1, h2, h3, h4, rfl⟩
  · exact refRead_arg z h1 _ w
  · exact refRead_len z h1 a _ cap h2 w
  · have hz := (bSize_iff z).1 h1
    obtain ⟨Z, rfl⟩ := Int.eq_ofNat_of_zero_le (show 0 ≤ z by omega)
    exact refRead_sum Z (by omega) (by omega) a cap zs (by omega) hc bz h3 w ha
  · have hz := (bSize_iff z).1 h1
    obtain ⟨Z, rfl⟩ := Int.eq_ofNat_of_zero_le (show 0 ≤ z by omega)
    have hl : zs.length = Z + 10 := by omega
    rw [show (Z : Int).toNat = Z from rfl] at h4
    by_cases hn : rdN zs ≤ Z
    · have hx := rdX_len hl hn
      by_cases hE : errB Z (rdS zs) (rdM zs) (rdN zs) = 0
      · have hR : Right Z (rdS zs) (rdM zs) (rdX zs) := (right_iff _ _ _ _).1 (by rw [hx]; exact hE)
        exact refRead_pad Z (by omega) (by omega) a cap zs hl hc bz h3 hn hR (fun hq => h4 ⟨hn, hR, hq⟩) w ha
      · exact refRead_bad Z (by omega) (by omega) a cap zs hl hc bz h3 hn hE w ha
    · exact refRead_big Z (by omega) (by omega) a cap zs hl hc bz h3 (by omega) w ha

theorem refRead_yes (Z : Nat) (hZ1 : 1 ≤ Z) (hZ2 : Z ≤ 16) (a : Option Addr) (cap : Nat) (zs : List Int) (hl : zs.length = Z + 10) (hc : zs.length ≤ cap) (bz : ∀ z ∈ zs, 0 ≤ z ∧ z ≤ 255) (hs : isSealed zs = true) (h : readOk Z zs) (w : World) (ha : Holds .u8 w.heap.size w (.slice a zs.length cap) zs) :
    Calls Try.prog 17 #[.int .i64 Z, .slice a zs.length cap] w fun e W' => ∃ ra rc, e = .returned (.tuple #[.agg #[.int .i64 (rdS zs), .int .i64 (rdM zs), .slice ra (rdX zs).length rc], .int .i64 0]) ∧ Holds .u8 W'.heap.size W' (.slice ra (rdX zs).length rc) (rdX zs) ∧ Below w.heap.size w W' :=
  refRead_ok Z hZ1 hZ2 a cap zs hl hc bz hs h.1 h.2.1 h.2.2 w ha

/-- Bytes are no block, for a reason that has its number, or they are one. -/
theorem read_cases (z : Int) (zs : List Int) : (∃ e, 0 < e ∧ badB z zs e) ∨ ∃ Z : Nat, z = (Z : Int) ∧ 1 ≤ Z ∧ Z ≤ 16 ∧ zs.length = Z + 10 ∧ isSealed zs = true ∧ readOk Z zs := by
  cases h1 : bSize z with
  | false => exact .inl ⟨1, by decide, .inl ⟨h1, rfl⟩⟩
  | true =>
    have hz := (bSize_iff z).1 h1
    obtain ⟨Z, rfl⟩ := Int.eq_ofNat_of_zero_le (show 0 ≤ z by omega)
    by_cases h2 : (zs.length : Int) = (Z : Int) + 10
    · cases h3 : isSealed zs with
      | false => exact .inl ⟨4, by decide, .inr (.inr (.inl ⟨h1, h2, h3, rfl⟩))⟩
      | true =>
        by_cases h4 : readOk Z zs
        · exact .inr ⟨Z, rfl, by omega, by omega, by omega, rfl, h4⟩
        · exact .inl ⟨3, by decide, .inr (.inr (.inr ⟨h1, h2, h3, h4, rfl⟩))⟩
    · exact .inl ⟨2, by decide, .inr (.inl ⟨h1, h2, rfl⟩)⟩

end Go.Proofs.Ytejpnjegahbaoaa
