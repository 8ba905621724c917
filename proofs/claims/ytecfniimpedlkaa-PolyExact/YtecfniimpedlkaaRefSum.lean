/-
  What the page's Add answers of rows of 0 and 1.
-/
import Derived.Test.YtecfniimpedlkaaRefPoly
import Derived.Lib.MinMax
namespace Go.Proofs.Ytecfniimpedlkaa
open Go.RowKit

theorem atL_bit {l : List Int} (hb : Bin l) (k : Nat) : (atL l k = 0 ∨ atL l k = 1) ∧ (atL l k).toNat = val l / 2 ^ k % 2 := by
  unfold atL
  by_cases h : k < l.length
  · rw [if_pos h]
    obtain ⟨x, hx⟩ : ∃ x, l[l.length - 1 - k]? = some x := ⟨l[l.length - 1 - k]'(by omega), by simp⟩
    have := val_bit hb hx
    rw [show l.length - 1 - (l.length - 1 - k) = k by omega] at this
    rw [hx]
    exact ⟨hb.get hx, this⟩
  · rw [if_neg h]
    refine ⟨.inl rfl, ?_⟩
    have h1 := val_lt hb
    have h2 : 2 ^ l.length ≤ 2 ^ k := Nat.pow_le_pow_right (by omega) (by omega)
    rw [Nat.div_eq_of_lt (by omega)]
    rfl

/-- Both coefficients of a power, added modulo 2. -/
theorem sum_bit {a b : List Int} (ha : Bin a) (hb : Bin b) (k : Nat) :
    ((atL a k + atL b k).tmod 2 = 0 ∨ (atL a k + atL b k).tmod 2 = 1) ∧ ((atL a k + atL b k).tmod 2).toNat = (val a ^^^ val b) / 2 ^ k % 2 := by
  obtain ⟨a1, a2⟩ := atL_bit ha k
  obtain ⟨b1, b2⟩ := atL_bit hb k
  rw [xor_div_pow, parity_xor]
  generalize val a / 2 ^ k = p at a2 ⊢
  generalize val b / 2 ^ k = q at b2 ⊢
  rcases a1 with e | e <;> rcases b1 with f | f <;> rw [e] at a2 <;> rw [f] at b2 <;> rw [e, f] <;> simp at a2 b2 ⊢ <;> omega

theorem val_next {ys : List Int} {X n j : Nat} {x : Int} (hj : j < n) (h : val ys = X / 2 ^ (n - j)) (hx : x.toNat = X / 2 ^ (n - 1 - j) % 2) : val (ys ++ [x]) = X / 2 ^ (n - (j + 1)) := by
  obtain ⟨s, hs⟩ : ∃ s, n - j = s + 1 := ⟨n - j - 1, by omega⟩
  rw [val_snoc, h, hx, show n - 1 - j = s by omega, show n - (j + 1) = s by omega, hs, Nat.pow_succ, ← Nat.div_div_eq_div_mul]
  omega

set_option maxRecDepth 100000 in
set_option maxHeartbeats 2000000 in
theorem refAdd_any (v v' : Value) (zs zs' : List Int) (hl : zs.length ≤ 32768) (hl' : zs'.length ≤ 32768) (hb : Bin zs) (hb' : Bin zs') (w : World) (hH : Has w v zs) (hH' : Has w v' zs') :
    Calls Try.prog 17 #[v, v'] w fun e W' => ∃ r ys, e = .returned r ∧ Has W' r ys ∧ Tr ys ∧ val ys = val zs ^^^ val zs' ∧ Below w.heap.size w W' := by
  obtain ⟨i0, hi, hz0, hz1, hz2⟩ := info_parts infoI64
  obtain ⟨a, cap, rfl⟩ := hH.1.shape
  obtain ⟨a', cap', rfl⟩ := hH'.1.shape
  obtain ⟨n, hn⟩ : ∃ n, n = max zs.length zs'.length := ⟨_, rfl⟩
  have hn1 : n ≤ 32768 := by omega
  have hmax : max (zs.length : Int) (zs'.length : Int) = (n : Int) := by omega
  have hX : val zs ^^^ val zs' < 2 ^ n := xor_lt (Nat.lt_of_lt_of_le (val_lt hb) (Nat.pow_le_pow_right (by omega) (by omega))) (Nat.lt_of_lt_of_le (val_lt hb') (Nat.pow_le_pow_right (by omega) (by omega)))
  have HX : Hid (val zs ^^^ val zs' < 2 ^ n) := hX
  have HB : Hid (Bin zs ∧ Bin zs') := ⟨hb, hb'⟩
  clear hn hX hb hb'
  go_enter Try.func17, Try.ntmps17
  go_wp2
  go_loopw [6, 7] (fun v i wr => ∃ j : Nat, j ≤ n ∧ i = .int .i64 ((n : Int) - 1 - j) ∧ (∃ ys : List Int, Bin ys ∧ val ys = (val zs ^^^ val zs') / 2 ^ (n - j) ∧ wr.ownsRow w.heap.size 3 1 v j (ys.map (Value.int .i64))) ∧ Below w.heap.size w wr) (fun _ i _ => (intOf i + 1).toNat)
  case atStart => exact ⟨0, Nat.zero_le _, by simp, ⟨[], Bin.nil, by rw [Nat.sub_zero, Nat.div_eq_of_lt HX.out]; rfl, World.ownsRow_nil _ _ _ _⟩, Below.refl _ _⟩
  case round =>
    obtain ⟨j, hj, rfl, ⟨ys, hys, hv, ho⟩, hbw⟩ := hrel
    have HY : Hid (Bin ys ∧ val ys = (val zs ^^^ val zs') / 2 ^ (n - j)) := ⟨hys, hv⟩
    clear hys hv
    by_cases hlt : j < n
    · obtain ⟨m, hm⟩ : ∃ m : Nat, n - 1 - j = m := ⟨_, rfl⟩
      have hmi : (n : Int) - 1 - (j : Int) = (m : Int) := by omega
      have hml : m < n := by omega
      have hmj : m + j + 1 = n := by omega
      have HM : Hid (n - 1 - j = m) := hm
      have h1 := hH.next hbw
      have h1' := hH'.next hbw
      obtain ⟨e1, e2⟩ := sum_bit HB.out.1 HB.out.2 m
      obtain ⟨s1, s2⟩ := (atL_bit HB.out.1 m).1.elim (fun e => (⟨by omega, by omega⟩ : 0 ≤ atL zs m ∧ atL zs m ≤ 1)) (fun e => ⟨by omega, by omega⟩)
      obtain ⟨s3, s4⟩ := (atL_bit HB.out.2 m).1.elim (fun e => (⟨by omega, by omega⟩ : 0 ≤ atL zs' m ∧ atL zs' m ≤ 1)) (fun e => ⟨by omega, by omega⟩)
      obtain ⟨x, hx⟩ : ∃ x, (atL zs m + atL zs' m).tmod 2 = x := ⟨_, rfl⟩
      rw [hx] at e1 e2
      have HN : Hid (Bin (ys ++ [x]) ∧ val (ys ++ [x]) = (val zs ^^^ val zs') / 2 ^ (n - (j + 1))) :=
        ⟨HY.out.1.append (fun y hy => by simp at hy; subst hy; exact e1), val_next hlt HY.out.2 (by rw [HM.out]; exact e2)⟩
      rw [hmi]
      clear hm hmi e1 e2
      go_wp2_with fail
      refine (at_any _ zs (by omega) m (by omega) wr h1).mono ?_
      rintro e w' ⟨rfl, rfl⟩
      go_wp2_with fail
      refine (at_any _ zs' (by omega) m (by omega) wr h1').mono ?_
      rintro e w' ⟨rfl, rfl⟩
      clear h1 h1'
      go_wp2_with (at_builtin; refine wpList_append_own _ rfl _ _ 22 rfl w.heap.size 3 i0 (.int .i64 0) 1 8 Try.underlying22 hi hz0 hz1 hz2 rfl (by decide) _ j _ rfl (ho.alloc _) ⟨wr.heap.size, 0, none⟩ 1 1 [.int .i64 x] rfl rfl (cell_one_new _ _ _) (by simp [Value.oneCell']) (by unfold maxLen; omega) (by omega) (by have := hbw.size; simp; omega) ?_; intro v3 w3 hown3 hgrow3 _)
      have b3 : Below w.heap.size w w3 := (hbw.alloc hbw.size _).trans ((Below.refl _ _).grown hgrow3 (by have := hbw.size; simp; omega) (fun q e => (ho.lt q e).1))
      refine ⟨⟨j + 1, by omega, by congr 1; omega, ⟨_, HN.out.1, HN.out.2, ?_⟩, b3⟩, by simp [intOf]⟩
      simpa using hown3
    · obtain rfl : j = n := by omega
      have hji : (j : Int) - 1 - (j : Int) = -1 := by omega
      have hL : ys.length = j := by have := ho.1; simpa using this
      rw [hji]
      clear hlt hji
      go_wp2_with fail
      refine (refTrim_any _ ys (by omega) HY.out.1 wr (row_has ho)).mono ?_
      rintro e w3 ⟨r, us, rfl, g1, g2, g3, b3⟩
      have b4 := hbw.trans (b3.mono hbw.size)
      have HV : Hid (val us = val zs ^^^ val zs') := by
        have h1 := HY.out.2
        rw [Nat.sub_self, Nat.pow_zero, Nat.div_one] at h1
        exact g3.trans h1
      clear ho b3 g3
      go_wp2
      go_ret
      exact ⟨_, us, rfl, g1, g2, HV.out, b4⟩

end Go.Proofs.Ytecfniimpedlkaa
