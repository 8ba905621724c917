/-
  xor, and, or of the machine's unsigned numbers as those of natural numbers. No program is spoken of.
-/
import Derived.Test.YtmjidhnlofpliaaDoorM01
import Derived.Test.YtmjidhnlofpliaaDoorM07
import Derived.Laws.BitsAllLaws
import Derived.WalkLawsBesides
import Derived.WalkSpells
namespace Go.Proofs.YtmjidhnlofpliaaDoor

theorem zu32_wrap (n : Int) (h0 : 0 ≤ n) (h1 : n < 2 ^ 32) : IntKind.u32.wrap n = n := by
  have e : (2 : Int) ^ 32 = 4294967296 := by decide
  rw [e] at h1; rw [IntKind.wrap_u32]; omega
theorem zu8_wrap (n : Int) (h0 : 0 ≤ n) (h1 : n < 2 ^ 8) : IntKind.u8.wrap n = n := by
  have e : (2 : Int) ^ 8 = 256 := by decide
  rw [e] at h1; rw [IntKind.wrap_u8]; omega
theorem zu32_mod (n : Nat) : IntKind.u32.wrap (n : Int) = ((n % 4294967296 : Nat) : Int) := by rw [IntKind.wrap_u32]; omega

theorem zu32_xor (a b : Nat) (ha : a < 4294967296) (hb : b < 4294967296) : bits .xor .u32 (a : Int) (b : Int) = ((a ^^^ b : Nat) : Int) := by
  have e : ∀ n : Nat, n < 4294967296 → (BitVec.ofInt 32 (n : Int)).toNat = n := fun n h => by
    rw [BitVec.ofInt_natCast, BitVec.toNat_ofNat]; exact Nat.mod_eq_of_lt (by omega)
  have hx : a ^^^ b < 2 ^ 32 := Nat.xor_lt_two_pow ha hb
  show IntKind.u32.wrap ((BitVec.ofInt 32 (a : Int) ^^^ BitVec.ofInt 32 (b : Int)).toNat : Int) = _
  rw [BitVec.toNat_xor, e a ha, e b hb]
  exact zu32_wrap _ (by omega) (by exact_mod_cast hx)
theorem xorlt32 {a b : Nat} (ha : a < 4294967296) (hb : b < 4294967296) : a ^^^ b < 4294967296 := Nat.xor_lt_two_pow (n := 32) ha hb

end Go.Proofs.YtmjidhnlofpliaaDoor

/-
  The mixer as numbers: what is mixed is turned back. No program is spoken of.
-/
namespace Go.Proofs.YtmjidhnlofpliaaDoor

def xs16 (x : Nat) : Nat := x ^^^ x / 65536
def xs15 (x : Nat) : Nat := x ^^^ x / 32768
def mul32 (k x : Nat) : Nat := x * k % 4294967296

/-- Mixed; turned back. -/
def mixN (x : Nat) : Nat := xs16 (mul32 2221713035 (xs15 (mul32 2146121005 (xs16 x))))
theorem div_small {x k : Nat} (hx : x < 4294967296) : x / k < 4294967296 := Nat.lt_of_le_of_lt (Nat.div_le_self _ _) hx
theorem xs16_lt {x : Nat} (hx : x < 4294967296) : xs16 x < 4294967296 := xorlt32 hx (div_small hx)
theorem xs15_lt {x : Nat} (hx : x < 4294967296) : xs15 x < 4294967296 := xorlt32 hx (div_small hx)
theorem mul32_lt (k x : Nat) : mul32 k x < 4294967296 := Nat.mod_lt _ (by decide)
theorem mixN_lt (x : Nat) : mixN x < 4294967296 := xs16_lt (mul32_lt _ _)
end Go.Proofs.YtmjidhnlofpliaaDoor

/-
  States behind nibbles as numbers. No program is spoken of.
-/
namespace Go.Proofs.YtmjidhnlofpliaaDoor

/-- The state at first; one step. -/
def beginN : Nat := 2654435769
def stepN (s n : Nat) : Nat := mixN (s ^^^ n)
theorem stepN_lt (s n : Nat) : stepN s n < 4294967296 := mixN_lt _

/-- Nibbles alone. -/
def Path (zs : List Int) : Prop := ∀ z ∈ zs, 0 ≤ z ∧ z ≤ 15
theorem Path.tail {z : Int} {zs : List Int} (h : Path (z :: zs)) : Path zs := fun x hx => h x (List.mem_cons_of_mem _ hx)
theorem Path.head {z : Int} {zs : List Int} (h : Path (z :: zs)) : 0 ≤ z ∧ z ≤ 15 := h z List.mem_cons_self
theorem Path.take {zs : List Int} (h : Path zs) (k : Nat) : Path (zs.take k) := fun x hx => h x (List.mem_of_mem_take hx)
theorem Path.get {zs : List Int} (h : Path zs) {k : Nat} {z : Int} (e : zs[k]? = some z) : 0 ≤ z ∧ z ≤ 15 := h z (List.mem_of_getElem? e)

/-- The states behind nibbles, from a state on; the last of them. -/
def statesOf (s : Nat) : List Int → List Int
  | [] => []
  | z :: zs => ((stepN s z.toNat : Nat) : Int) :: statesOf (stepN s z.toNat) zs
def lastOf (s : Nat) : List Int → Nat
  | [] => s
  | z :: zs => lastOf (stepN s z.toNat) zs

theorem statesOf_len : ∀ (s : Nat) (zs : List Int), (statesOf s zs).length = zs.length
  | _, [] => rfl
  | s, z :: zs => by rw [statesOf, List.length_cons, List.length_cons, statesOf_len]
theorem lastOf_lt : ∀ {s : Nat} (zs : List Int), s < 4294967296 → lastOf s zs < 4294967296
  | _, [], h => h
  | s, z :: zs, _ => lastOf_lt zs (stepN_lt s z.toNat)
theorem statesOf_append : ∀ (s : Nat) (xs ys : List Int), statesOf s (xs ++ ys) = statesOf s xs ++ statesOf (lastOf s xs) ys
  | _, [], _ => rfl
  | s, z :: xs, ys => by rw [List.cons_append, statesOf, statesOf, statesOf_append, List.cons_append, lastOf]
theorem lastOf_append : ∀ (s : Nat) (xs ys : List Int), lastOf s (xs ++ ys) = lastOf (lastOf s xs) ys
  | _, [], _ => rfl
  | s, z :: xs, ys => by rw [List.cons_append, lastOf, lastOf, lastOf_append]
theorem statesOf_snoc (s : Nat) (xs : List Int) (z : Int) : statesOf s (xs ++ [z]) = statesOf s xs ++ [((stepN (lastOf s xs) z.toNat : Nat) : Int)] := by rw [statesOf_append]; rfl
theorem lastOf_snoc (s : Nat) (xs : List Int) (z : Int) : lastOf s (xs ++ [z]) = stepN (lastOf s xs) z.toNat := by rw [lastOf_append]; rfl
theorem take_snoc {zs : List Int} {k : Nat} {z : Int} (hz : zs[k]? = some z) : zs.take (k + 1) = zs.take k ++ [z] := by rw [List.take_add_one, hz]; rfl
theorem statesOf_take : ∀ (s : Nat) (zs : List Int) (k : Nat), statesOf s (zs.take k) = (statesOf s zs).take k
  | _, [], k => by simp [statesOf]
  | _, _ :: _, 0 => rfl
  | s, z :: zs, k + 1 => by rw [List.take_succ_cons, statesOf, statesOf, List.take_succ_cons, statesOf_take]
/-- The state behind k nibbles and one more. -/
theorem statesOf_get {s : Nat} {zs : List Int} {k : Nat} {z : Int} (hz : zs[k]? = some z) : (statesOf s zs)[k]? = some ((stepN (lastOf s (zs.take k)) z.toNat : Nat) : Int) := by
  have hk := (List.getElem?_eq_some_iff.1 hz).1
  have h := statesOf_take s zs (k + 1)
  rw [take_snoc hz, statesOf_snoc] at h
  have hl : (statesOf s (zs.take k)).length = k := by rw [statesOf_len, List.length_take]; omega
  have h2 : (statesOf s (zs.take k) ++ [((stepN (lastOf s (zs.take k)) z.toNat : Nat) : Int)])[k]? = ((statesOf s zs).take (k + 1))[k]? := by rw [h]
  rw [List.getElem?_append_right (by omega), hl, Nat.sub_self] at h2
  rw [List.getElem?_take, if_pos (by omega)] at h2
  exact h2.symm
/-- The state that a round begins with is the one behind the round ahead. -/
theorem lastOf_take {s : Nat} {zs : List Int} {k : Nat} {z : Int} (hz : zs[k]? = some z) : lastOf s (zs.take (k + 1)) = stepN (lastOf s (zs.take k)) z.toNat := by
  rw [take_snoc hz, lastOf_snoc]
end Go.Proofs.YtmjidhnlofpliaaDoor

/-
  Symbols of states as numbers. No program is spoken of.
-/
namespace Go.Proofs.YtmjidhnlofpliaaDoor

/-- The symbol of an index. -/
def symN (s i : Nat) : Nat := if i < 4 then s / 2 ^ (8 * i) % 256 else mixN ((s + i * 2654435769) % 4294967296) % 256
theorem symN_lt (s i : Nat) : symN s i < 256 := by
  unfold symN
  split <;> exact Nat.mod_lt _ (by decide)
theorem symN_low {s i : Nat} (h : i < 4) : symN s i = s / 2 ^ (8 * i) % 256 := if_pos h
theorem symN_high {s i : Nat} (h : ¬ i < 4) : symN s i = mixN ((s + i * 2654435769) % 4294967296) % 256 := if_neg h

end Go.Proofs.YtmjidhnlofpliaaDoor

/-
  What the page's Shift16, Shift32 answer.
-/
namespace Go.Proofs.YtmjidhnlofpliaaDoor
open Go.RowKit

set_option maxRecDepth 100000 in
set_option maxHeartbeats 1000000 in
theorem refShift32_any (r b : Nat) (hr : r < 4294967296) (hb : b < 2) (w : World) :
    Calls Tryd.prog 83 #[.int .i64 r, .int .i64 b] w fun e w' => e = .returned (.int .i64 ((m32 (r ^^^ b) : Nat) : Int)) ∧ w = w' := by
  have HN : Hid (m32 (r ^^^ b) = r / 2 ^^^ (if r % 2 = b then 0 else 3988292384)) := shift32_num r b hb
  have ha : bits .and .i64 (r : Int) 1 = ((r % 2 : Nat) : Int) := zi_and1 r (by omega)
  have hd : (r : Int) / 2 = ((r / 2 : Nat) : Int) := by omega
  have hx : bits .xor .i64 ((r / 2 : Nat) : Int) 3988292384 = ((r / 2 ^^^ 3988292384 : Nat) : Int) := zi_xor _ 3988292384 (by omega) (by decide)
  obtain ⟨c, hc⟩ : ∃ c : Nat, r / 2 = c := ⟨_, rfl⟩
  rw [hc] at hd hx HN
  obtain ⟨d, hd2⟩ : ∃ d : Nat, r % 2 = d := ⟨_, rfl⟩
  rw [hd2] at ha HN
  clear hc hd2
  by_cases h : d = b
  · subst h
    have hq : ((d : Int) != (d : Int)) = false := by simp
    go_enter Tryd.func83, Tryd.ntmps83
    go_wp2
    go_ret
    refine ⟨?_, rfl⟩
    rw [HN.out, if_pos trivial, Nat.xor_zero]
    rfl
  · have HR : Hid (¬ d = b) := h
    have hq : ((d : Int) != (b : Int)) = true := by rw [bne_iff_ne]; omega
    clear h
    go_enter Tryd.func83, Tryd.ntmps83
    go_wp2
    go_ret
    refine ⟨?_, rfl⟩
    rw [HN.out, if_neg HR.out]
    rfl

end Go.Proofs.YtmjidhnlofpliaaDoor

/-
  What mix.Mix and mix.Back answer.
-/
namespace Go.Proofs.YtmjidhnlofpliaaDoor
open Go.RowKit

set_option maxRecDepth 100000 in
set_option maxHeartbeats 1000000 in
theorem Mix_any (x : Nat) (hx : x < 4294967296) (w : World) :
    Calls Tryd.prog 95 #[.int .u32 x] w fun e w' => e = .returned (.int .u32 ((mixN x : Nat) : Int)) ∧ w = w' := by
  have d0 : (x : Int) / 65536 = ((x / 65536 : Nat) : Int) := by simp
  have e0 : bits .xor .u32 (x : Int) ((x / 65536 : Nat) : Int) = ((xs16 x : Nat) : Int) := zu32_xor _ _ hx (div_small hx)
  have hy0 := xs16_lt hx
  obtain ⟨q0, hq0⟩ : ∃ q, x / 65536 = q := ⟨_, rfl⟩
  obtain ⟨y0, g0⟩ : ∃ y, xs16 x = y := ⟨_, rfl⟩
  rw [hq0] at d0 e0
  rw [g0] at e0 hy0
  clear hq0
  have e1 : IntKind.u32.wrap ((y0 : Int) * 2146121005) = ((mul32 2146121005 y0 : Nat) : Int) := by
    have := zu32_mod (y0 * 2146121005)
    rwa [show ((y0 * 2146121005 : Nat) : Int) = (y0 : Int) * 2146121005 by omega] at this
  have hy1 := mul32_lt 2146121005 y0
  obtain ⟨y1, g1⟩ : ∃ y, mul32 2146121005 y0 = y := ⟨_, rfl⟩
  rw [g1] at e1 hy1
  have d2 : (y1 : Int) / 32768 = ((y1 / 32768 : Nat) : Int) := by simp
  have e2 : bits .xor .u32 (y1 : Int) ((y1 / 32768 : Nat) : Int) = ((xs15 y1 : Nat) : Int) := zu32_xor _ _ hy1 (div_small hy1)
  have hy2 := xs15_lt hy1
  obtain ⟨q2, hq2⟩ : ∃ q, y1 / 32768 = q := ⟨_, rfl⟩
  obtain ⟨y2, g2⟩ : ∃ y, xs15 y1 = y := ⟨_, rfl⟩
  rw [hq2] at d2 e2
  rw [g2] at e2 hy2
  clear hq2
  have e3 : IntKind.u32.wrap ((y2 : Int) * 2221713035) = ((mul32 2221713035 y2 : Nat) : Int) := by
    have := zu32_mod (y2 * 2221713035)
    rwa [show ((y2 * 2221713035 : Nat) : Int) = (y2 : Int) * 2221713035 by omega] at this
  have hy3 := mul32_lt 2221713035 y2
  obtain ⟨y3, g3⟩ : ∃ y, mul32 2221713035 y2 = y := ⟨_, rfl⟩
  rw [g3] at e3 hy3
  have d4 : (y3 : Int) / 65536 = ((y3 / 65536 : Nat) : Int) := by simp
  have e4 : bits .xor .u32 (y3 : Int) ((y3 / 65536 : Nat) : Int) = ((xs16 y3 : Nat) : Int) := zu32_xor _ _ hy3 (div_small hy3)
  have hy4 := xs16_lt hy3
  obtain ⟨q4, hq4⟩ : ∃ q, y3 / 65536 = q := ⟨_, rfl⟩
  obtain ⟨y4, g4⟩ : ∃ y, xs16 y3 = y := ⟨_, rfl⟩
  rw [hq4] at d4 e4
  rw [g4] at e4 hy4
  clear hq4
  have HR : Hid (mixN x = y4) := by
    show mixN x = y4
    unfold mixN
    rw [g0, g1, g2, g3, g4]
  clear g0 g1 g2 g3 g4
  go_enter Tryd.func95, Tryd.ntmps95
  go_wp2
  go_ret
  exact ⟨by rw [HR.out]; rfl, rfl⟩

end Go.Proofs.YtmjidhnlofpliaaDoor

/-
  What symbol.Of and State answer.
-/
namespace Go.Proofs.YtmjidhnlofpliaaDoor
open Go.RowKit

set_option maxRecDepth 100000 in
set_option maxHeartbeats 1000000 in
theorem Of_ok (s i : Nat) (_ : s < 4294967296) (hi : i ≤ 255) (w : World) : Calls Tryd.prog 89 #[.int .u32 s, .int .i64 i] w fun e w' => e = .returned (.tuple #[.int .i64 ((symN s i : Nat) : Int), .int .i64 0]) ∧ w = w' := by
  have g0 : decide ((i : Int) < 0) = false := decide_eq_false (by omega)
  have g1 : decide (255 < (i : Int)) = false := decide_eq_false (by omega)
  by_cases h : i < 4
  · have HR : Hid (symN s i = s / 2 ^ (8 * i) % 256) := symN_low h
    have ed : (s : Int) / 2 ^ (8 * i) = ((s / 2 ^ (8 * i) : Nat) : Int) := by simp
    have hle : s / 2 ^ (8 * i) ≤ s := Nat.div_le_self _ _
    obtain ⟨y, hy⟩ : ∃ y, s / 2 ^ (8 * i) = y := ⟨_, rfl⟩
    rw [hy] at ed hle HR
    clear hy
    go_enter Tryd.func89, Tryd.ntmps89
    go_wp2
    go_ret2
    exact ⟨by rw [HR.out]; rfl, rfl⟩
  · have HR : Hid (symN s i = mixN ((s + i * 2654435769) % 4294967296) % 256) := symN_high h
    have e1 : IntKind.u32.wrap (i : Int) = (i : Int) := by rw [IntKind.wrap_u32]; omega
    have e2 : IntKind.u32.wrap ((i : Int) * 2654435769) = ((i * 2654435769 % 4294967296 : Nat) : Int) := by
      have := zu32_mod (i * 2654435769)
      rwa [show ((i * 2654435769 : Nat) : Int) = (i : Int) * 2654435769 by omega] at this
    have e3 : IntKind.u32.wrap ((s : Int) + ((i * 2654435769 % 4294967296 : Nat) : Int)) = (((s + i * 2654435769) % 4294967296 : Nat) : Int) := by rw [IntKind.wrap_u32]; omega
    obtain ⟨x, hx⟩ : ∃ x, (s + i * 2654435769) % 4294967296 = x := ⟨_, rfl⟩
    have hxl : x < 4294967296 := by omega
    rw [hx] at e3 HR
    obtain ⟨y, hy⟩ : ∃ y, i * 2654435769 % 4294967296 = y := ⟨_, rfl⟩
    have hyl : y < 4294967296 := by omega
    rw [hy] at e2 e3
    have hm := mixN_lt x
    have HM := Mix_any x hxl w
    obtain ⟨y', hy'⟩ : ∃ y', mixN x = y' := ⟨_, rfl⟩
    rw [hy'] at hm HR HM
    clear hx hy hy'
    go_enter Tryd.func89, Tryd.ntmps89
    go_wp2_with fail
    refine HM.mono ?_
    rintro e w1 ⟨rfl, rfl⟩
    go_wp2
    go_ret2
    exact ⟨by rw [HR.out]; rfl, rfl⟩

end Go.Proofs.YtmjidhnlofpliaaDoor
