/-
  What gf2.addTo does: from a place on a row is xor the other; nothing else turns.
-/
import Derived.Test.YtplobmkfmflkaaaG3Trim
namespace Go.Proofs.Ytplobmkfmflkaaa
open Go.RowKit

theorem bits_xor_bin {x y : Int} (hx : x = 0 ∨ x = 1) (hy : y = 0 ∨ y = 1) : (bits .xor .i64 x y = 0 ∨ bits .xor .i64 x y = 1) ∧ (bits .xor .i64 x y).toNat = x.toNat ^^^ y.toNat := by
  rcases hx with rfl | rfl <;> rcases hy with rfl | rfl <;> decide

/-- The row behind k rounds. -/
def Added (P ys : List Int) (o k : Nat) (R : List Int) : Prop := Bin R ∧ R.length = P.length ∧ val R = val P ^^^ val (ys.take k) * 2 ^ (P.length - o - k) ∧ ∀ j, o + k ≤ j → R[j]? = P[j]?

theorem Added.start {P ys : List Int} (hP : Bin P) (o : Nat) : Added P ys o 0 P := ⟨hP, rfl, by simp [val_nil], fun _ _ => rfl⟩

theorem Added.stepz {P ys R : List Int} {o k : Nat} (h : Added P ys o k R) {x y z : Int} (hx : P[o + k]? = some x) (hb : Bin ys) (hy : ys[k]? = some y) (e1 : z = 0 ∨ z = 1) (e2 : z.toNat = x.toNat ^^^ y.toNat) : R[o + k]? = some x ∧ Added P ys o (k + 1) (R.set (o + k) z) := by
  obtain ⟨h1, h2, h3, h4⟩ := h
  have hlt : o + k < P.length := (List.getElem?_eq_some_iff.1 hx).1
  have hRx : R[o + k]? = some x := (h4 _ (Nat.le_refl _)).trans hx
  refine ⟨hRx, h1.set _ e1, by simp [h2], ?_, fun j hj => ?_⟩
  · rw [val_set h1 hRx (hb.get hy) _ e2, h3, h2, List.take_add_one, hy, Option.toList_some, val_snoc, Nat.xor_assoc]
    congr 1
    obtain ⟨s, hs⟩ : ∃ s, P.length - o - k = s + 1 := ⟨P.length - o - k - 1, by omega⟩
    have e3 : P.length - 1 - (o + k) = s := by omega
    have e4 : P.length - o - (k + 1) = s := by omega
    rw [hs, e3, e4, Nat.pow_succ]
    have e5 : 2 * val (ys.take k) + y.toNat = 2 * val (ys.take k) ^^^ y.toNat := by
      have := push_xor (val (ys.take k)) 0 y.toNat (by omega) (by rcases hb.get hy with rfl | rfl <;> decide)
      simpa using this
    rw [e5, mul_pow_xor]
    congr 1
    rw [Nat.mul_comm (2 ^ s), ← Nat.mul_assoc, Nat.mul_comm 2]
  · rw [List.getElem?_set_ne (by omega)]
    exact h4 j (by omega)

theorem Added.step {P ys R : List Int} {o k : Nat} (h : Added P ys o k R) {x y : Int} (hP : Bin P) (hx : P[o + k]? = some x) (hb : Bin ys) (hy : ys[k]? = some y) : R[o + k]? = some x ∧ Added P ys o (k + 1) (R.set (o + k) (bits .xor .i64 x y)) :=
  h.stepz hx hb hy (bits_xor_bin (hP.get hx) (hb.get hy)).1 (bits_xor_bin (hP.get hx) (hb.get hy)).2

theorem mod_xor_bin {x y : Int} (hx : x = 0 ∨ x = 1) (hy : y = 0 ∨ y = 1) : ((x + y).tmod 2 = 0 ∨ (x + y).tmod 2 = 1) ∧ ((x + y).tmod 2).toNat = x.toNat ^^^ y.toNat := by
  rcases hx with rfl | rfl <;> rcases hy with rfl | rfl <;> decide

set_option maxRecDepth 100000 in
set_option maxHeartbeats 2000000 in
theorem addTo_none (v : Value) (b : Option Addr) (cap : Nat) (w : World) :
    Calls Try.prog 37 #[v, .slice b 0 cap] w fun e w' => e = .returned (.tuple #[]) ∧ w = w' := by
  go_enter Try.func37, Try.ntmps37
  go_wp2
  go_loop [8] (fun i => i = .int .i64 0) (fun _ => 0)
  case atStart => rfl
  case round =>
    obtain rfl := hrel
    go_wp2
    go_end0
    exact ⟨rfl, rfl⟩

set_option maxRecDepth 100000 in
set_option maxHeartbeats 2000000 in
theorem addTo_some (g o cap b off cap' la : Nat) (P ys : List Int) (hP : Bin P) (hy : Bin ys) (hla : la = P.length - o) (hfit : o + ys.length ≤ P.length) (hl : P.length ≤ 4294967296) (hbg : b < g) (w : World) (hrow : Row w g P)
    (hc : ∀ j, j < ys.length → w.cell? ⟨b, off + j, none⟩ = some (.int .i64 (ys[j]?.getD 0))) :
    Calls Try.prog 37 #[.slice (some ⟨g, o, none⟩) la cap, .slice (some ⟨b, off, none⟩) ys.length cap'] w fun e w' => e = .returned (.tuple #[]) ∧ (∃ R, Row w' g R ∧ Added P ys o ys.length R) ∧ Only g w w' := by
  have HLA : Hid (la = P.length - o) := hla
  have hla2 : ys.length ≤ la := by omega
  have hla3 : la ≤ 4294967296 := by omega
  have HFIT : Hid (o + ys.length ≤ P.length) := hfit
  clear hla hfit
  go_enter Try.func37, Try.ntmps37
  go_wp2
  go_loopw [8] (fun i wr => ∃ k : Nat, k ≤ ys.length ∧ i = .int .i64 k ∧ (∃ R, Row wr g R ∧ Added P ys o k R) ∧ Only g w wr) (fun i _ => ys.length - (intOf i).toNat)
  case atStart => exact ⟨0, Nat.zero_le _, rfl, ⟨P, hrow, Added.start hP o⟩, Only.refl _ _⟩
  case round =>
    obtain ⟨k, hk, rfl, ⟨R, hR, hA⟩, hO⟩ := hrel
    by_cases hlt : k < ys.length
    · obtain ⟨y, hyk⟩ : ∃ y, ys[k]? = some y := ⟨ys[k], by simp⟩
      have hf := HFIT.out
      obtain ⟨x, hxk⟩ : ∃ x, P[o + k]? = some x := ⟨P[o + k]'(by omega), by simp⟩
      obtain ⟨hRx, hA2⟩ := hA.step hP hxk hy hyk
      have c1 : wr.cell? ⟨g, o + k, none⟩ = some (.int .i64 x) := hR.cell _ hRx
      have c2 : wr.cell? ⟨b, off + k, none⟩ = some (.int .i64 y) := (hO.1.cell (p := ⟨b, off + k, none⟩) hbg).trans ((hc k hlt).trans (by rw [hyk]; rfl))
      have f1 := hR.frozen (o + k)
      have HR : Hid (Row (wr.setCell ⟨g, o + k, none⟩ (.int .i64 (bits .xor .i64 x y))) g (R.set (o + k) (bits .xor .i64 x y)) ∧ Only g w (wr.setCell ⟨g, o + k, none⟩ (.int .i64 (bits .xor .i64 x y)))) := ⟨hR.set _ _, hO.set _ _⟩
      have HA : Hid (Added P ys o (k + 1) (R.set (o + k) (bits .xor .i64 x y))) := hA2
      have HB : Hid (Bin P ∧ Bin ys) := ⟨hP, hy⟩
      clear hA hA2 hxk hyk hRx hR hO hc hrow hP hy hf
      go_wp2
      go_roundw
      case rel => exact ⟨k + 1, by omega, by go_num, ⟨_, HR.out.1, HA.out⟩, HR.out.2⟩
      case measure => simp [intOf]; omega
    · obtain rfl : k = ys.length := by omega
      have HA : Hid (Added P ys o ys.length R) := hA
      clear hA hc hrow
      go_wp2
      go_end0
      exact ⟨rfl, ⟨R, hR, HA.out⟩, hO⟩

/-- gf2.addTo. -/
theorem addTo_any (g o n₀ : Nat) (va vb : Value) (P ys : List Int) (hP : Bin P) (hy : Bin ys) (hfit : o + ys.length ≤ P.length) (hl : P.length ≤ 4294967296) (hng : n₀ ≤ g) (w : World) (hrow : Row w g P)
    (hva : ys ≠ [] → ∃ cap, va = .slice (some ⟨g, o, none⟩) (P.length - o) cap) (hb : Holds .i64 n₀ w vb ys) :
    Calls Try.prog 37 #[va, vb] w fun e w' => e = .returned (.tuple #[]) ∧ (∃ R, Row w' g R ∧ Bin R ∧ R.length = P.length ∧ val R = val P ^^^ val ys * 2 ^ (P.length - o - ys.length)) ∧ Only g w w' := by
  rcases hb with ⟨⟨b, cap, rfl, _⟩, rfl⟩ | ⟨b, off, cap', rfl, hlt, hc⟩
  · refine (addTo_none va b cap w).mono ?_
    rintro e w' ⟨rfl, rfl⟩
    exact ⟨rfl, ⟨P, hrow, hP, rfl, by simp [val_nil]⟩, Only.refl _ _⟩
  · by_cases h0 : ys = []
    · subst h0
      refine (addTo_none va _ cap' w).mono ?_
      rintro e w' ⟨rfl, rfl⟩
      exact ⟨rfl, ⟨P, hrow, hP, rfl, by simp [val_nil]⟩, Only.refl _ _⟩
    · obtain ⟨cap, rfl⟩ := hva h0
      refine (addTo_some g o cap b off cap' _ P ys hP hy rfl hfit hl (by omega) w hrow hc).mono ?_
      rintro e w' ⟨rfl, ⟨R, hR, h1, h2, h3, _⟩, hO⟩
      exact ⟨rfl, ⟨R, hR, h1, h2, by rw [List.take_length] at h3; exact h3⟩, hO⟩

end Go.Proofs.Ytplobmkfmflkaaa
