/-
  Symbols of states as numbers. No program is spoken of.
-/
import Derived.Test.YtokejgoplalkhabGreatDoorM01
import Derived.Test.YtokejgoplalkhabGreatDoorM14
import Derived.Laws.BitsAllLaws
import Derived.WalkLawsBesides
import Derived.WalkSpells
namespace Go.Proofs.YtokejgoplalkhabGreatDoor

/-- The symbol of an index. -/
def symN (s i : Nat) : Nat := if i < 4 then s / 2 ^ (8 * i) % 256 else mixN ((s + i * 2654435769) % 4294967296) % 256
theorem symN_lt (s i : Nat) : symN s i < 256 := by
  unfold symN
  split <;> exact Nat.mod_lt _ (by decide)
theorem symN_low {s i : Nat} (h : i < 4) : symN s i = s / 2 ^ (8 * i) % 256 := if_pos h
theorem symN_high {s i : Nat} (h : ¬ i < 4) : symN s i = mixN ((s + i * 2654435769) % 4294967296) % 256 := if_neg h

/-- Bytes alone. -/
def Bytes4 (zs : List Int) : Prop := ∀ z ∈ zs, 0 ≤ z ∧ z ≤ 255

/-- The number that bytes spell, the lowest first. -/
def spellN : List Int → Nat
  | [] => 0
  | z :: zs => z.toNat + 256 * spellN zs
theorem spellN_lt : ∀ {zs : List Int}, Bytes4 zs → spellN zs < 256 ^ zs.length
  | [], _ => by simp [spellN]
  | z :: zs, h => by
    have h1 := spellN_lt (zs := zs) (fun x hx => h x (List.mem_cons_of_mem _ hx))
    have h2 := h z List.mem_cons_self
    rw [spellN, List.length_cons, Nat.pow_succ]
    omega
theorem spellN_get : ∀ {zs : List Int}, Bytes4 zs → ∀ {i : Nat} {z : Int}, zs[i]? = some z → spellN zs / 2 ^ (8 * i) % 256 = z.toNat
  | [], _, i, z, h => by simp at h
  | x :: zs, hb, 0, z, h => by
    simp at h; subst h
    have h2 := hb x List.mem_cons_self
    rw [spellN, Nat.mul_zero, Nat.pow_zero, Nat.div_one]
    omega
  | x :: zs, hb, i + 1, z, h => by
    have h2 := hb x List.mem_cons_self
    have ih := spellN_get (zs := zs) (fun x hx => hb x (List.mem_cons_of_mem _ hx)) (i := i) (z := z) (by simpa using h)
    rw [spellN, show 8 * (i + 1) = 8 + 8 * i by omega, Nat.pow_add, ← Nat.div_div_eq_div_mul, show (2 : Nat) ^ 8 = 256 by rfl, show (x.toNat + 256 * spellN zs) / 256 = spellN zs by omega]
    exact ih
theorem spellN_append (xs : List Int) (z : Int) : spellN (xs ++ [z]) = spellN xs + 2 ^ (8 * xs.length) * z.toNat := by
  induction xs with
  | nil => simp [spellN]
  | cons x xs ih =>
    rw [List.cons_append, spellN, ih, spellN, List.length_cons, show 8 * (xs.length + 1) = 8 + 8 * xs.length by omega, Nat.pow_add, show (2 : Nat) ^ 8 = 256 by rfl, Nat.mul_add, Nat.mul_assoc, Nat.add_assoc]

/-- The first four symbols. -/
def fourOf (s k : Nat) : List Int := (List.range k).map fun i => ((symN s i : Nat) : Int)
theorem fourOf_len (s k : Nat) : (fourOf s k).length = k := by simp [fourOf]
theorem fourOf_next (s k : Nat) : fourOf s (k + 1) = fourOf s k ++ [((symN s k : Nat) : Int)] := by simp [fourOf, List.range_succ]
theorem fourOf_bytes (s k : Nat) : Bytes4 (fourOf s k) := fun z hz => by
  obtain ⟨i, _, rfl⟩ := List.mem_map.1 hz
  have := symN_lt s i
  omega
theorem bytes_sum (s a b c d : Nat) (hs : s < 4294967296) (h0 : a = s % 256) (h1 : b = s / 256 % 256) (h2 : c = s / 65536 % 256) (h3 : d = s / 16777216 % 256) : a + 256 * (b + 256 * (c + 256 * d)) = s := by omega
theorem spell_of {s : Nat} (hs : s < 4294967296) (f : Nat → Nat) (h0 : f 0 = s % 256) (h1 : f 1 = s / 256 % 256) (h2 : f 2 = s / 65536 % 256) (h3 : f 3 = s / 16777216 % 256) : spellN ((List.range 4).map fun i => ((f i : Nat) : Int)) = s := by
  have e : ((List.range 4).map fun i => ((f i : Nat) : Int)) = [((f 0 : Nat) : Int), ((f 1 : Nat) : Int), ((f 2 : Nat) : Int), ((f 3 : Nat) : Int)] := rfl
  rw [e]
  have h := bytes_sum s (f 0) (f 1) (f 2) (f 3) hs h0 h1 h2 h3
  simpa [spellN] using h
theorem spell_four {s : Nat} (hs : s < 4294967296) : spellN (fourOf s 4) = s :=
  spell_of hs (symN s) (by rw [symN_low (by decide), Nat.mul_zero, Nat.pow_zero, Nat.div_one]) (symN_low (by decide)) (symN_low (by decide)) (symN_low (by decide))
theorem four_inj {s t : Nat} (hs : s < 4294967296) (ht : t < 4294967296) (h : ∀ i, i < 4 → symN s i = symN t i) : s = t := by
  have e : fourOf s 4 = fourOf t 4 := by
    unfold fourOf
    apply List.map_congr_left
    intro i hi
    rw [h i (by simpa using hi)]
  exact (spell_four hs).symm.trans ((congrArg spellN e).trans (spell_four ht))

end Go.Proofs.YtokejgoplalkhabGreatDoor

/-
  States behind nibbles as numbers. No program is spoken of.
-/
namespace Go.Proofs.YtokejgoplalkhabGreatDoor

/-- The state at first; one step. -/
def beginN : Nat := 2654435769
def stepN (s n : Nat) : Nat := mixN (s ^^^ n)
theorem stepN_lt (s n : Nat) : stepN s n < 4294967296 := mixN_lt _

theorem xor_right_inj {a b c : Nat} (h : a ^^^ c = b ^^^ c) : a = b := by
  have := congrArg (· ^^^ c) h
  simpa [Nat.xor_assoc] using this
theorem xor_left_inj {a b c : Nat} (h : c ^^^ a = c ^^^ b) : a = b := xor_right_inj (c := c) (by rw [Nat.xor_comm a c, Nat.xor_comm b c]; exact h)

theorem step_nib {s n m : Nat} (hs : s < 4294967296) (hn : n < 16) (hm : m < 16) : stepN s n = stepN s m ↔ n = m :=
  ⟨fun h => xor_left_inj (mix_inj (xorlt32 hs (by omega)) (xorlt32 hs (by omega)) h), fun h => by rw [h]⟩
theorem step_state {s t n : Nat} (hs : s < 4294967296) (ht : t < 4294967296) (hn : n < 16) : stepN s n = stepN t n ↔ s = t :=
  ⟨fun h => xor_right_inj (mix_inj (xorlt32 hs (by omega)) (xorlt32 ht (by omega)) h), fun h => by rw [h]⟩

/-- The nibble whose step is next, if there is one. -/
def nibN (s next : Nat) : Nat × Bool := if backN next ^^^ s < 16 then (backN next ^^^ s, true) else (0, false)

theorem nib_some {s n next : Nat} (hs : s < 4294967296) (hn : n < 16) (h : stepN s n = next) : nibN s next = (n, true) := by
  have e : backN next ^^^ s = n := by
    rw [← h]
    unfold stepN
    rw [back_mix (xorlt32 hs (by omega)), Nat.xor_comm s, Nat.xor_assoc, Nat.xor_self, Nat.xor_zero]
  unfold nibN
  rw [e, if_pos hn]
theorem nib_none {s next : Nat} (hx : next < 4294967296) (h : ∀ n, n < 16 → stepN s n ≠ next) : nibN s next = (0, false) := by
  unfold nibN
  rw [if_neg]
  intro hlt
  apply h _ hlt
  unfold stepN
  rw [← Nat.xor_assoc, Nat.xor_comm s, Nat.xor_assoc, Nat.xor_comm s, ← Nat.xor_assoc (backN next), Nat.xor_assoc (backN next), Nat.xor_self, Nat.xor_zero, mix_back hx]

/-- Nibbles alone. -/
def Path (zs : List Int) : Prop := ∀ z ∈ zs, 0 ≤ z ∧ z ≤ 15
theorem Path.tail {z : Int} {zs : List Int} (h : Path (z :: zs)) : Path zs := fun x hx => h x (List.mem_cons_of_mem _ hx)
theorem Path.head {z : Int} {zs : List Int} (h : Path (z :: zs)) : 0 ≤ z ∧ z ≤ 15 := h z List.mem_cons_self
theorem Path.take {zs : List Int} (h : Path zs) (k : Nat) : Path (zs.take k) := fun x hx => h x (List.mem_of_mem_take hx)
theorem Path.get {zs : List Int} (h : Path zs) {k : Nat} {z : Int} (e : zs[k]? = some z) : 0 ≤ z ∧ z ≤ 15 := h z (List.mem_of_getElem? e)

/-- The states behind nibbles, from a state on; the last of them. -/
def statesOf (s : Nat) : List Int → List Int
  | [] => []
  | z :: zs => ((stepN s z.toNat : Nat) : Int) :: statesOf (stepN s z.toNat) zs
def lastOf (s : Nat) : List Int → Nat
  | [] => s
  | z :: zs => lastOf (stepN s z.toNat) zs

theorem statesOf_len : ∀ (s : Nat) (zs : List Int), (statesOf s zs).length = zs.length
  | _, [] => rfl
  | s, z :: zs => by rw [statesOf, List.length_cons, List.length_cons, statesOf_len]
theorem lastOf_lt : ∀ {s : Nat} (zs : List Int), s < 4294967296 → lastOf s zs < 4294967296
  | _, [], h => h
  | s, z :: zs, _ => lastOf_lt zs (stepN_lt s z.toNat)
theorem statesOf_append : ∀ (s : Nat) (xs ys : List Int), statesOf s (xs ++ ys) = statesOf s xs ++ statesOf (lastOf s xs) ys
  | _, [], _ => rfl
  | s, z :: xs, ys => by rw [List.cons_append, statesOf, statesOf, statesOf_append, List.cons_append, lastOf]
theorem lastOf_append : ∀ (s : Nat) (xs ys : List Int), lastOf s (xs ++ ys) = lastOf (lastOf s xs) ys
  | _, [], _ => rfl
  | s, z :: xs, ys => by rw [List.cons_append, lastOf, lastOf, lastOf_append]
theorem statesOf_snoc (s : Nat) (xs : List Int) (z : Int) : statesOf s (xs ++ [z]) = statesOf s xs ++ [((stepN (lastOf s xs) z.toNat : Nat) : Int)] := by rw [statesOf_append]; rfl
theorem lastOf_snoc (s : Nat) (xs : List Int) (z : Int) : lastOf s (xs ++ [z]) = stepN (lastOf s xs) z.toNat := by rw [lastOf_append]; rfl
theorem take_snoc {zs : List Int} {k : Nat} {z : Int} (hz : zs[k]? = some z) : zs.take (k + 1) = zs.take k ++ [z] := by rw [List.take_add_one, hz]; rfl
theorem statesOf_take : ∀ (s : Nat) (zs : List Int) (k : Nat), statesOf s (zs.take k) = (statesOf s zs).take k
  | _, [], k => by simp [statesOf]
  | _, _ :: _, 0 => rfl
  | s, z :: zs, k + 1 => by rw [List.take_succ_cons, statesOf, statesOf, List.take_succ_cons, statesOf_take]
/-- The state behind k nibbles and one more. -/
theorem statesOf_get {s : Nat} {zs : List Int} {k : Nat} {z : Int} (hz : zs[k]? = some z) : (statesOf s zs)[k]? = some ((stepN (lastOf s (zs.take k)) z.toNat : Nat) : Int) := by
  have hk := (List.getElem?_eq_some_iff.1 hz).1
  have h := statesOf_take s zs (k + 1)
  rw [take_snoc hz, statesOf_snoc] at h
  have hl : (statesOf s (zs.take k)).length = k := by rw [statesOf_len, List.length_take]; omega
  have h2 : (statesOf s (zs.take k) ++ [((stepN (lastOf s (zs.take k)) z.toNat : Nat) : Int)])[k]? = ((statesOf s zs).take (k + 1))[k]? := by rw [h]
  rw [List.getElem?_append_right (by omega), hl, Nat.sub_self] at h2
  rw [List.getElem?_take, if_pos (by omega)] at h2
  exact h2.symm
/-- The state that a round begins with is the one behind the round ahead. -/
theorem lastOf_take {s : Nat} {zs : List Int} {k : Nat} {z : Int} (hz : zs[k]? = some z) : lastOf s (zs.take (k + 1)) = stepN (lastOf s (zs.take k)) z.toNat := by
  rw [take_snoc hz, lastOf_snoc]
theorem statesOf_bd : ∀ (s : Nat) (zs : List Int), ∀ x ∈ statesOf s zs, 0 ≤ x ∧ x ≤ 4294967295
  | _, [], x, hx => by simp [statesOf] at hx
  | s, z :: zs, x, hx => by
    rw [statesOf] at hx
    rcases List.mem_cons.1 hx with rfl | hx
    · have := stepN_lt s z.toNat; omega
    · exact statesOf_bd _ zs x hx

/-- Unlike rows of nibbles have unlike rows of states. -/
theorem statesOf_inj : ∀ {s : Nat} {xs ys : List Int}, s < 4294967296 → Path xs → Path ys → statesOf s xs = statesOf s ys → xs = ys
  | _, [], [], _, _, _, _ => rfl
  | _, [], _ :: _, _, _, _, h => by simp [statesOf] at h
  | _, _ :: _, [], _, _, _, h => by simp [statesOf] at h
  | s, x :: xs, y :: ys, hs, hx, hy, h => by
    simp only [statesOf, List.cons.injEq] at h
    have h1 : stepN s x.toNat = stepN s y.toNat := by omega
    have hxh := hx.head
    have hyh := hy.head
    have e := (step_nib hs (by omega) (by omega)).1 h1
    have e2 : x = y := by omega
    subst e2
    rw [statesOf_inj (stepN_lt _ _) hx.tail hy.tail h.2]

end Go.Proofs.YtokejgoplalkhabGreatDoor

/-
  What mix.Mix and mix.Back answer.
-/
namespace Go.Proofs.YtokejgoplalkhabGreatDoor
open Go.RowKit

set_option maxRecDepth 100000 in
set_option maxHeartbeats 1000000 in
theorem Mix_any (x : Nat) (hx : x < 4294967296) (w : World) :
    Calls Tryz.prog 89 #[.int .u32 x] w fun e w' => e = .returned (.int .u32 ((mixN x : Nat) : Int)) ∧ w = w' := by
  have d0 : (x : Int) / 65536 = ((x / 65536 : Nat) : Int) := by simp
  have e0 : bits .xor .u32 (x : Int) ((x / 65536 : Nat) : Int) = ((xs16 x : Nat) : Int) := zu32_xor _ _ hx (div_small hx)
  have hy0 := xs16_lt hx
  obtain ⟨q0, hq0⟩ : ∃ q, x / 65536 = q := ⟨_, rfl⟩
  obtain ⟨y0, g0⟩ : ∃ y, xs16 x = y := ⟨_, rfl⟩
  rw [hq0] at d0 e0
  rw [g0] at e0 hy0
  clear hq0
  have e1 : IntKind.u32.wrap ((y0 : Int) * 2146121005) = ((mul32 2146121005 y0 : Nat) : Int) := by
    have := zu32_mod (y0 * 2146121005)
    rwa [show ((y0 * 2146121005 : Nat) : Int) = (y0 : Int) * 2146121005 by omega] at this
  have hy1 := mul32_lt 2146121005 y0
  obtain ⟨y1, g1⟩ : ∃ y, mul32 2146121005 y0 = y := ⟨_, rfl⟩
  rw [g1] at e1 hy1
  have d2 : (y1 : Int) / 32768 = ((y1 / 32768 : Nat) : Int) := by simp
  have e2 : bits .xor .u32 (y1 : Int) ((y1 / 32768 : Nat) : Int) = ((xs15 y1 : Nat) : Int) := zu32_xor _ _ hy1 (div_small hy1)
  have hy2 := xs15_lt hy1
  obtain ⟨q2, hq2⟩ : ∃ q, y1 / 32768 = q := ⟨_, rfl⟩
  obtain ⟨y2, g2⟩ : ∃ y, xs15 y1 = y := ⟨_, rfl⟩
  rw [hq2] at d2 e2
  rw [g2] at e2 hy2
  clear hq2
  have e3 : IntKind.u32.wrap ((y2 : Int) * 2221713035) = ((mul32 2221713035 y2 : Nat) : Int) := by
    have := zu32_mod (y2 * 2221713035)
    rwa [show ((y2 * 2221713035 : Nat) : Int) = (y2 : Int) * 2221713035 by omega] at this
  have hy3 := mul32_lt 2221713035 y2
  obtain ⟨y3, g3⟩ : ∃ y, mul32 2221713035 y2 = y := ⟨_, rfl⟩
  rw [g3] at e3 hy3
  have d4 : (y3 : Int) / 65536 = ((y3 / 65536 : Nat) : Int) := by simp
  have e4 : bits .xor .u32 (y3 : Int) ((y3 / 65536 : Nat) : Int) = ((xs16 y3 : Nat) : Int) := zu32_xor _ _ hy3 (div_small hy3)
  have hy4 := xs16_lt hy3
  obtain ⟨q4, hq4⟩ : ∃ q, y3 / 65536 = q := ⟨_, rfl⟩
  obtain ⟨y4, g4⟩ : ∃ y, xs16 y3 = y := ⟨_, rfl⟩
  rw [hq4] at d4 e4
  rw [g4] at e4 hy4
  clear hq4
  have HR : Hid (mixN x = y4) := by
    show mixN x = y4
    unfold mixN
    rw [g0, g1, g2, g3, g4]
  clear g0 g1 g2 g3 g4
  go_enter Tryz.func89, Tryz.ntmps89
  go_wp2
  go_ret
  exact ⟨by rw [HR.out]; rfl, rfl⟩

end Go.Proofs.YtokejgoplalkhabGreatDoor

/-
  What symbol.Of and State answer.
-/
namespace Go.Proofs.YtokejgoplalkhabGreatDoor
open Go.RowKit

set_option maxRecDepth 100000 in
set_option maxHeartbeats 1000000 in
theorem Of_ok (s i : Nat) (_ : s < 4294967296) (hi : i ≤ 255) (w : World) : Calls Tryz.prog 73 #[.int .u32 s, .int .i64 i] w fun e w' => e = .returned (.tuple #[.int .i64 ((symN s i : Nat) : Int), .int .i64 0]) ∧ w = w' := by
  have g0 : decide ((i : Int) < 0) = false := decide_eq_false (by omega)
  have g1 : decide (255 < (i : Int)) = false := decide_eq_false (by omega)
  by_cases h : i < 4
  · have HR : Hid (symN s i = s / 2 ^ (8 * i) % 256) := symN_low h
    have ed : (s : Int) / 2 ^ (8 * i) = ((s / 2 ^ (8 * i) : Nat) : Int) := by simp
    have hle : s / 2 ^ (8 * i) ≤ s := Nat.div_le_self _ _
    obtain ⟨y, hy⟩ : ∃ y, s / 2 ^ (8 * i) = y := ⟨_, rfl⟩
    rw [hy] at ed hle HR
    clear hy
    go_enter Tryz.func73, Tryz.ntmps73
    go_wp2
    go_ret2
    exact ⟨by rw [HR.out]; rfl, rfl⟩
  · have HR : Hid (symN s i = mixN ((s + i * 2654435769) % 4294967296) % 256) := symN_high h
    have e1 : IntKind.u32.wrap (i : Int) = (i : Int) := by rw [IntKind.wrap_u32]; omega
    have e2 : IntKind.u32.wrap ((i : Int) * 2654435769) = ((i * 2654435769 % 4294967296 : Nat) : Int) := by
      have := zu32_mod (i * 2654435769)
      rwa [show ((i * 2654435769 : Nat) : Int) = (i : Int) * 2654435769 by omega] at this
    have e3 : IntKind.u32.wrap ((s : Int) + ((i * 2654435769 % 4294967296 : Nat) : Int)) = (((s + i * 2654435769) % 4294967296 : Nat) : Int) := by rw [IntKind.wrap_u32]; omega
    obtain ⟨x, hx⟩ : ∃ x, (s + i * 2654435769) % 4294967296 = x := ⟨_, rfl⟩
    have hxl : x < 4294967296 := by omega
    rw [hx] at e3 HR
    obtain ⟨y, hy⟩ : ∃ y, i * 2654435769 % 4294967296 = y := ⟨_, rfl⟩
    have hyl : y < 4294967296 := by omega
    rw [hy] at e2 e3
    have hm := mixN_lt x
    have HM := Mix_any x hxl w
    obtain ⟨y', hy'⟩ : ∃ y', mixN x = y' := ⟨_, rfl⟩
    rw [hy'] at hm HR HM
    clear hx hy hy'
    go_enter Tryz.func73, Tryz.ntmps73
    go_wp2_with fail
    refine HM.mono ?_
    rintro e w1 ⟨rfl, rfl⟩
    go_wp2
    go_ret2
    exact ⟨by rw [HR.out]; rfl, rfl⟩

set_option maxRecDepth 100000 in
set_option maxHeartbeats 1000000 in
theorem Of_arg (s : Nat) (i : Int) (h : i < 0 ∨ 255 < i) (w : World) : Calls Tryz.prog 73 #[.int .u32 s, .int .i64 i] w fun e w' => e = .returned (.tuple #[.int .i64 0, .int .i64 1]) ∧ w = w' := by
  by_cases h0 : i < 0
  · clear h
    go_enter Tryz.func73, Tryz.ntmps73
    go_wp2
    go_ret2
    exact ⟨rfl, rfl⟩
  · have h1 : 255 < i := by omega
    clear h
    go_enter Tryz.func73, Tryz.ntmps73
    go_wp2
    go_ret2
    exact ⟨rfl, rfl⟩

theorem or_shift (a z k : Nat) (ha : a < 2 ^ k) : a ||| 2 ^ k * z = a + 2 ^ k * z := by
  rw [Nat.add_comm, Nat.or_comm]
  exact (Nat.two_pow_add_eq_or_of_lt ha z).symm

end Go.Proofs.YtokejgoplalkhabGreatDoor
