/-
  What gf2.trimmed answers: the piece of a row behind its first noughts.
-/
import Derived.Test.YtplobmkfmflkaaaG3Parts
namespace Go.Proofs.Ytplobmkfmflkaaa
open Go.RowKit

set_option maxRecDepth 100000 in
set_option maxHeartbeats 2000000 in
theorem trimmed_none (a : Option Addr) (cap : Nat) (w : World) :
    Calls Try.prog 35 #[.slice a 0 cap] w fun e w' => e = .returned (.slice a 0 cap) ∧ ∃ n, w' = w.drewN n := by
  go_enter Try.func35, Try.ntmps35
  go_wp2
  go_loopw [0] (fun i wr => i = .slice a 0 cap ∧ ∃ n, wr = w.drewN n) (fun _ _ => 0)
  case atStart => exact ⟨rfl, 0, rfl⟩
  case round =>
    obtain ⟨rfl, n, rfl⟩ := hrel
    go_wp2
    go_ret
    exact ⟨rfl, _, rfl⟩

set_option maxRecDepth 100000 in
set_option maxHeartbeats 2000000 in
theorem trimmed_some (b off cap len : Nat) (xs : List Int) (hx : xs.length = len) (hcap : len ≤ cap) (hcap2 : cap ≤ 9223372036854775807) (w : World)
    (hcx : ∀ j, j < len → w.cell? ⟨b, off + j, none⟩ = some (.int .i64 (xs[j]?.getD 0))) :
    Calls Try.prog 35 #[.slice (some ⟨b, off, none⟩) len cap] w fun e w' => (∃ k ao, k ≤ len ∧ e = .returned (.slice ao (len - k) (cap - k)) ∧ (k < len → ao = some ⟨b, off + k, none⟩) ∧ (ao = none → cap - k = 0) ∧ xs.take k = List.replicate k 0 ∧ xs[k]? ≠ some 0) ∧ ∃ n, w' = w.drewN n := by
  go_enter Try.func35, Try.ntmps35
  go_wp2
  go_loopw [0] (fun i wr => (∃ k ao, k ≤ len ∧ i = .slice ao (len - k) (cap - k) ∧ (k < len → ao = some ⟨b, off + k, none⟩) ∧ (ao = none → cap - k = 0) ∧ xs.take k = List.replicate k 0) ∧ ∃ n, wr = w.drewN n) (fun i _ => match i with | .slice _ n _ => n | _ => 0)
  case atStart => exact ⟨⟨0, _, Nat.zero_le _, rfl, fun _ => rfl, fun e => by simp at e, rfl⟩, 0, rfl⟩
  case round =>
    obtain ⟨⟨k, ao, hk, rfl, hao, hn, htk⟩, nd, rfl⟩ := hrel
    by_cases hlt : k < len
    · obtain rfl := hao hlt
      obtain ⟨x, hxk⟩ : ∃ x, xs[k]? = some x := ⟨xs[k], by simp⟩
      have c1 : ∀ q, (w.drewN q).cell? ⟨b, off + k, none⟩ = some (.int .i64 x) := fun q => (hcx k hlt).trans (by rw [hxk]; rfl)
      have hd : 0 < len - k := by omega
      have hcl : len - k ≤ cap - k := by omega
      have hbd : cap - k ≤ 9223372036854775807 := by omega
      have HK : Hid (k < len) := hlt
      have HX : Hid (xs[k]? = some x) := hxk
      have HT : Hid (xs.take k = List.replicate k 0) := htk
      obtain ⟨l, hle⟩ : ∃ l, l = len - k := ⟨_, rfl⟩
      obtain ⟨c, hce⟩ : ∃ c, c = cap - k := ⟨_, rfl⟩
      rw [← hle] at hd hcl
      rw [← hce] at hbd hcl
      have HL : Hid (l = len - k) := hle
      have HC : Hid (c = cap - k) := hce
      rw [← hle, ← hce]
      clear hlt hxk htk hle hce hcx hao hn hk
      by_cases hx0 : x = 0
      · subst hx0
        go_wp2
        have h1 := HL.out
        have h2 := HC.out
        have h3 := HK.out
        refine ⟨⟨⟨k + 1, _, by omega, by rw [show l - 1 = len - (k + 1) by omega, show c - 1 = cap - (k + 1) by omega], fun h => ?_, fun h => ?_, ?_⟩, nd, rfl⟩, ?_⟩
        · rw [if_neg (by omega), Nat.add_assoc]
        · split at h <;> simp at h
        · rw [List.take_add_one, HX.out, HT.out, List.replicate_succ']; rfl
        · show l - 1 < l
          omega
      · have HX0 : Hid (x ≠ 0) := hx0
        have hq : (x == 0) = false := by simp [hx0]
        clear hx0
        go_wp2
        go_ret
        have h1 := HL.out
        have h2 := HC.out
        have h3 := HK.out
        exact ⟨⟨k, _, by omega, by rw [h1, h2]; rfl, fun _ => rfl, fun h => by simp at h, HT.out, by rw [HX.out]; simpa using HX0.out⟩, nd, rfl⟩
    · have hke : k = len := by omega
      have hz : len - k = 0 := by omega
      have HK : Hid (k = len) := hke
      have HT : Hid (xs.take k = List.replicate k 0) := htk
      have HN : Hid (ao = none → cap - k = 0) := hn
      rw [hz]
      clear hke hz htk hn hao hcx hlt
      go_wp2
      go_ret
      have h1 := HK.out
      exact ⟨⟨k, ao, by omega, by rw [h1, Nat.sub_self]; rfl, fun h => by omega, HN.out, HT.out, by rw [List.getElem?_eq_none (by omega)]; simp⟩, nd, rfl⟩

/-- A slice with room for what it holds. -/
def Room (v : Value) : Prop := ∃ a l c, v = .slice a l c ∧ l ≤ c ∧ c ≤ 9223372036854775807

/-- gf2.trimmed: the piece behind the noughts. -/
theorem trimmed_any (v : Value) (zs : List Int) (n₀ : Nat) (hl : zs.length ≤ 4294967296) (w : World) (hH : Holds .i64 n₀ w v zs) (hr : Room v) :
    Calls Try.prog 35 #[v] w fun e w' => (∃ r k, e = .returned r ∧ Holds .i64 n₀ w r (zs.drop k) ∧ Room r ∧ zs.take k = List.replicate k 0 ∧ (zs.drop k).head? ≠ some 0 ∧ k ≤ zs.length) ∧ ∃ n, w' = w.drewN n := by
  rcases hH with ⟨⟨a, cap, rfl, ha⟩, rfl⟩ | ⟨b, off, cap, rfl, hb, hc⟩
  · refine (trimmed_none a cap w).mono ?_
    rintro e w' ⟨rfl, n, rfl⟩
    exact ⟨⟨_, 0, rfl, .inl ⟨⟨a, cap, rfl, ha⟩, rfl⟩, hr, rfl, by simp, Nat.le_refl _⟩, n, rfl⟩
  · obtain ⟨a', l', c', e', h1, h2⟩ := hr
    cases e'
    refine (trimmed_some b off cap zs.length zs rfl h1 h2 w hc).mono ?_
    rintro e w' ⟨⟨k, ao, hk, rfl, hao, hn, ht, hx⟩, hw⟩
    refine ⟨⟨_, k, rfl, ?_, ⟨_, _, _, rfl, by omega, by omega⟩, ht, ?_, hk⟩, hw⟩
    · by_cases hlt : k < zs.length
      · obtain rfl := hao hlt
        refine .inr ⟨b, off + k, cap - k, by rw [List.length_drop], hb, fun j hj => ?_⟩
        rw [List.length_drop] at hj
        rw [Nat.add_assoc, hc (k + j) (by omega), List.getElem?_drop]
      · have e0 : zs.length - k = 0 := by omega
        rw [e0]
        exact .inl ⟨⟨ao, cap - k, rfl, hn⟩, List.drop_of_length_le (by omega)⟩
    · rw [List.head?_drop]; exact hx

/-- Of a row of 0 and 1 it is trimmed, and spells the same number. -/
theorem trim_val {zs : List Int} {k : Nat} (hb : Bin zs) (h1 : zs.take k = List.replicate k 0) (h2 : (zs.drop k).head? ≠ some 0) : Tr (zs.drop k) ∧ val (zs.drop k) = val zs := by
  refine ⟨⟨hb.drop k, h2⟩, ?_⟩
  conv => rhs; rw [← List.take_append_drop k zs, val_append, h1, val_noughts]
  simp

theorem trimmed_bin (v : Value) (zs : List Int) (n₀ : Nat) (hl : zs.length ≤ 4294967296) (w : World) (hH : Holds .i64 n₀ w v zs) (hr : Room v) (hb : Bin zs) :
    Calls Try.prog 35 #[v] w fun e w' => (∃ r ys, e = .returned r ∧ Holds .i64 n₀ w' r ys ∧ Room r ∧ Tr ys ∧ val ys = val zs ∧ ys.length ≤ zs.length) ∧ ∃ n, w' = w.drewN n := by
  refine (trimmed_any v zs n₀ hl w hH hr).mono ?_
  rintro e w' ⟨⟨r, k, rfl, h1, h2, h3, h4, h5⟩, n, rfl⟩
  obtain ⟨t1, t2⟩ := trim_val hb h3 h4
  exact ⟨⟨r, _, rfl, h1, h2, t1, t2, by simp⟩, n, rfl⟩

end Go.Proofs.Ytplobmkfmflkaaa
