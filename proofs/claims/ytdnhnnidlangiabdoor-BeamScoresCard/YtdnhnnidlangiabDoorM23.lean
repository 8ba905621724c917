/-
  What a state costs, as a number. No program is spoken of.
-/
import Derived.Test.YtdnhnnidlangiabDoorM01
import Derived.Test.YtdnhnnidlangiabDoorM03
import Derived.Test.YtdnhnnidlangiabDoorM04
import Derived.Test.YtdnhnnidlangiabDoorM10
import Derived.Test.YtdnhnnidlangiabDoorM11
import Derived.Test.YtdnhnnidlangiabDoorM21
import Derived.BigQuiet
import Derived.Deep.QuietTactic
import Derived.Laws.BitsAllLaws
import Derived.WalkLawsBesides
import Derived.WalkSpells
namespace Go.Proofs.YtdnhnnidlangiabDoor

/-- A symbol that may be asked. -/
def CostOk (l : List (Int × Int)) : Prop := ∀ x ∈ l, 0 ≤ x.1 ∧ x.1 ≤ 255 ∧ 0 ≤ x.2 ∧ x.2 ≤ 255
/-- What one symbol costs; what all do. -/
def oneCost (s : Nat) (x : Int × Int) : Nat := pcTo 32 (symN s x.1.toNat ^^^ x.2.toNat)
def costN (s : Nat) : List (Int × Int) → Nat
  | [] => 0
  | x :: l => oneCost s x + costN s l
theorem costN_append (s : Nat) : ∀ l m, costN s (l ++ m) = costN s l + costN s m
  | [], m => by simp [costN]
  | x :: l, m => by rw [List.cons_append, costN, costN, costN_append, Nat.add_assoc]
theorem costN_snoc (s : Nat) (l : List (Int × Int)) (x : Int × Int) : costN s (l ++ [x]) = costN s l + oneCost s x := by rw [costN_append]; simp [costN]
theorem xor_byte {a b : Nat} (ha : a < 256) (hb : b < 256) : a ^^^ b < 256 := Nat.xor_lt_two_pow (n := 8) ha hb
/-- Of a byte no more than eight. -/
theorem pc_byte {x : Nat} (h : x < 256) : pcTo 32 x = pcTo 8 x := by
  rw [show (32 : Nat) = 8 + 24 by rfl, pcTo_add]
  have e : x >>> 8 = 0 := by rw [Nat.shiftRight_eq_div_pow]; exact Nat.div_eq_of_lt (by simpa using h)
  rw [e]
  have : pcTo 24 0 = 0 := by decide
  omega
theorem oneCost_le {s : Nat} {x : Int × Int} (h : 0 ≤ x.2 ∧ x.2 ≤ 255) : oneCost s x ≤ 8 := by
  unfold oneCost
  rw [pc_byte (xor_byte (symN_lt _ _) (by omega))]
  exact pcTo_le _ _
theorem costN_le {s : Nat} : ∀ {l : List (Int × Int)}, CostOk l → costN s l ≤ 8 * l.length
  | [], _ => by simp [costN]
  | x :: l, h => by
    have h1 := costN_le (s := s) (l := l) fun y hy => h y (List.mem_cons_of_mem _ hy)
    have h2 := oneCost_le (s := s) (x := x) (h x List.mem_cons_self).2.2
    rw [costN, List.length_cons]
    omega
theorem CostOk.take {l : List (Int × Int)} (h : CostOk l) (k : Nat) : CostOk (l.take k) := fun x hx => h x (List.mem_of_mem_take hx)
theorem CostOk.drop {l : List (Int × Int)} (h : CostOk l) (k : Nat) : CostOk (l.drop k) := fun x hx => h x (List.mem_of_mem_drop hx)

end Go.Proofs.YtdnhnnidlangiabDoor

/-
  What cost.Of answers.
-/
namespace Go.Proofs.YtdnhnnidlangiabDoor
open Go.RowKit

set_option maxHeartbeats 1000000 in
theorem costValue_yes (u : Int) (h0 : 0 ≤ u) (h1 : u ≤ 255) (w : World) : Calls Tryd.prog 70 #[.int .i64 u] w fun e w' => e = .returned (.bool true) ∧ w = w' := by
  have d0 : decide (0 ≤ u) = true := decide_eq_true h0
  have d1 : decide (u ≤ 255) = true := decide_eq_true h1
  clear h0 h1
  go_enter Tryd.func70, Tryd.ntmps70
  go_wp2
  go_ret
  exact ⟨rfl, rfl⟩

set_option maxHeartbeats 1000000 in
theorem costValue_no (u : Int) (h : u < 0 ∨ 255 < u) (w : World) : Calls Tryd.prog 70 #[.int .i64 u] w fun e w' => e = .returned (.bool false) ∧ w = w' := by
  by_cases h0 : u < 0
  · have d0 : decide (0 ≤ u) = false := decide_eq_false (by omega)
    clear h h0
    go_enter Tryd.func70, Tryd.ntmps70
    go_wp2
    go_ret
    exact ⟨rfl, rfl⟩
  · have d0 : decide (0 ≤ u) = true := decide_eq_true (by omega)
    have d1 : decide (u ≤ 255) = false := decide_eq_false (by omega)
    clear h h0
    go_enter Tryd.func70, Tryd.ntmps70
    go_wp2
    go_ret
    exact ⟨rfl, rfl⟩

theorem CostOf_len (s : Nat) (a : Option Addr) (n cap : Nat) (h : 16 < n) (w : World) : Calls Tryd.prog 57 #[.int .u32 s, .slice a n cap] w fun e w' => e = .returned (.tuple #[.int .i64 0, .int .i64 2]) ∧ Below w.heap.size w w' := by
  have d0 : decide ((16 : Int) < (n : Int)) = true := decide_eq_true (by omega)
  have d1 : decide (16 < n) = true := decide_eq_true h
  go_enter Tryd.func57, Tryd.ntmps57
  go_wp2
  go_ret2
  exact ⟨rfl, Below.refl _ _⟩

theorem costOnes_byte (x : Nat) : onesZ (x : Int) = pcTo 32 x := by
  unfold onesZ
  rw [if_neg (by omega), Int.toNat_natCast]

set_option maxRecDepth 100000 in
set_option maxHeartbeats 2000000 in
/-- Of, of no more symbols than may be. -/
theorem CostOf_any (s : Nat) (hs : s < 4294967296) (a : Option Addr) (cap : Nat) (l : List (Int × Int)) (hl : l.length ≤ 16) (w : World) (ha : Syms w.heap.size w (.slice a l.length cap) l) :
    Calls Tryd.prog 57 #[.int .u32 s, .slice a l.length cap] w fun e w' => (CostOk l ∧ e = .returned (.tuple #[.int .i64 ((costN s l : Nat) : Int), .int .i64 0]) ∨ ¬ CostOk l ∧ e = .returned (.tuple #[.int .i64 0, .int .i64 1])) ∧ Below w.heap.size w w' := by
  have d0 : decide ((16 : Int) < (l.length : Int)) = false := decide_eq_false (by omega)
  have d1 : decide (16 < l.length) = false := decide_eq_false (by omega)
  have d2 : l.length ≤ 4294967296 := by omega
  clear hl
  go_enter Tryd.func57, Tryd.ntmps57
  go_wp2
  go_loopw [6, 16] (fun v i wr => ∃ k : Nat, k ≤ l.length ∧ i = .int .i64 k ∧ v = .int .i64 ((costN s (l.take k) : Nat) : Int) ∧ Hid (CostOk (l.take k)) ∧ Below w.heap.size w wr) (fun _ i _ => l.length - (intOf i).toNat)
  case atStart => exact ⟨0, Nat.zero_le _, rfl, rfl, fun x hx => by simp at hx, Below.refl _ _⟩
  case round =>
    obtain ⟨k, hk, rfl, rfl, HK, hbw⟩ := hrel
    by_cases hlt : k < l.length
    · obtain ⟨⟨at_, val⟩, hx⟩ : ∃ x, l[k]? = some x := ⟨l[k], by simp⟩
      obtain ⟨b, off, rfl, hb, hcell⟩ := syms_at (ha.next hbw) rfl (by omega)
      obtain ⟨c1, c2⟩ := hcell k _ hx
      simp only at c1 c2
      have HM : Hid ((at_, val) ∈ l) := List.mem_of_getElem? hx
      have HT : Hid (l.take (k + 1) = l.take k ++ [(at_, val)]) := by
        show l.take (k + 1) = l.take k ++ [(at_, val)]
        rw [List.take_add_one, hx]; rfl
      have bV : Below w.heap.size w (wr.alloc (.cells #[.int .i64 at_, .int .i64 val] 60)) := hbw.alloc hbw.size _
      have xS := Box.new wr 60 #[.int .i64 at_, .int .i64 val]
      by_cases h1 : at_ < 0 ∨ 255 < at_
      · have HNO : Hid (¬ CostOk l) := fun h => by have := h _ HM.out; simp only at this; omega
        have HA := fun W => Of_arg s at_ h1 W
        clear hcell hx
        go_wp2_with fail
        refine (HA _).mono ?_
        rintro e w1 ⟨rfl, rfl⟩
        go_wp2
        go_ret2
        exact ⟨.inr ⟨HNO.out, rfl⟩, bV⟩
      obtain ⟨A, rfl⟩ := Int.eq_ofNat_of_zero_le (a := at_) (by omega)
      have hA : A ≤ 255 := by omega
      have hsy := symN_lt s A
      by_cases h2 : val < 0 ∨ 255 < val
      · have HNO : Hid (¬ CostOk l) := fun h => by have := h _ HM.out; simp only at this; omega
        have HA := fun W => Of_ok s A hs hA W
        obtain ⟨y, hy⟩ : ∃ y, symN s A = y := ⟨_, rfl⟩
        rw [hy] at HA hsy
        have HB := fun W => costValue_no val h2 W
        have KB : Hid _ := HB
        clear hcell hx hy h1 h2 HB
        go_wp2_with fail
        refine (HA _).mono ?_
        rintro e w1 ⟨rfl, rfl⟩
        obtain ⟨V, hV⟩ : ∃ V, wr.alloc (.cells #[.int .i64 (A : Int), .int .i64 val] 60) = V := ⟨_, rfl⟩
        have v0 := xS.cell 0 _ rfl
        have v1 := xS.cell 1 _ rfl
        rw [hV] at v0 v1 bV ⊢
        clear hV HA xS
        go_wp2_with fail
        refine (KB.out _).mono ?_
        rintro e w2 ⟨rfl, rfl⟩
        go_wp2
        go_ret2
        exact ⟨.inr ⟨HNO.out, rfl⟩, bV⟩
      obtain ⟨U, rfl⟩ := Int.eq_ofNat_of_zero_le (a := val) (by omega)
      have hU : U ≤ 255 := by omega
      have HK' : Hid (CostOk (l.take (k + 1))) := by
        show CostOk (l.take (k + 1))
        rw [HT.out]
        intro x hx
        rcases List.mem_append.1 hx with h' | h'
        · exact HK.out x h'
        · rw [List.mem_singleton.1 h']; simp only; omega
      have HA := fun W => Of_ok s A hs hA W
      have HB := fun W => costValue_yes (U : Int) (by omega) (by omega) W
      have hxl : symN s A ^^^ U < 256 := xor_byte hsy (by omega)
      have ex : bits .xor .i64 ((symN s A : Nat) : Int) (U : Int) = ((symN s A ^^^ U : Nat) : Int) := zi_xor _ _ (by omega) (by omega)
      have hle := costN_le (s := s) HK.out
      have HNX : Hid (costN s (l.take (k + 1)) = costN s (l.take k) + pcTo 32 (symN s A ^^^ U)) := by
        show costN s (l.take (k + 1)) = _
        rw [HT.out, costN_snoc]
        rfl
      have hlk : (l.take k).length ≤ 4294967296 := by rw [List.length_take]; omega
      obtain ⟨y, hy⟩ : ∃ y, symN s A = y := ⟨_, rfl⟩
      rw [hy] at ex hxl HNX hsy HA
      obtain ⟨x, hxe⟩ : ∃ x, y ^^^ U = x := ⟨_, rfl⟩
      rw [hxe] at ex hxl HNX
      have HO : Hid (onesZ (x : Int) = pcTo 32 x) := costOnes_byte x
      have hp32 := pcTo_le 32 x
      obtain ⟨t, hte⟩ : ∃ t, pcTo 32 x = t := ⟨_, rfl⟩
      rw [hte] at HO HNX hp32
      obtain ⟨C, hCe⟩ : ∃ C, costN s (l.take k) = C := ⟨_, rfl⟩
      rw [hCe] at HNX hle ⊢
      have ew : IntKind.i64.wrap ((C : Int) + (t : Int)) = ((C + t : Nat) : Int) := by rw [IntKind.wrap_i64]; omega
      have HN : ∀ W : World, Calls Tryd.prog 71 #[.int .i64 x] W fun e w' => e = .returned (.int .i64 (t : Int)) ∧ ∃ n, w' = W.drewN n := fun W => by
        have := ones_any (x : Int) W
        rwa [HO.out] at this
      have KB : Hid _ := HB
      have KN : Hid _ := HN
      clear hcell hx hy h1 h2 HB HN hxe hte hCe
      go_wp2_with fail
      refine (HA _).mono ?_
      rintro e w1 ⟨rfl, rfl⟩
      obtain ⟨V, hV⟩ : ∃ V, wr.alloc (.cells #[.int .i64 (A : Int), .int .i64 (U : Int)] 60) = V := ⟨_, rfl⟩
      have v0 := xS.cell 0 _ rfl
      have v1 := xS.cell 1 _ rfl
      rw [hV] at v0 v1 bV ⊢
      clear hV HA xS
      go_wp2_with fail
      refine (KB.out _).mono ?_
      rintro e w2 ⟨rfl, rfl⟩
      go_wp2_with fail
      refine (KN.out _).mono ?_
      rintro e w3 ⟨rfl, nd, rfl⟩
      go_wp2
      exact ⟨⟨k + 1, by omega, by go_num, by rw [HNX.out]; simp, HK', below_drewN bV _⟩, by simp [intOf]; omega⟩
    · obtain rfl : k = l.length := by omega
      have HT : Hid (l.take l.length = l) := List.take_length
      rw [HT.out] at HK ⊢
      obtain ⟨C, hCe⟩ : ∃ C, costN s l = C := ⟨_, rfl⟩
      have HCE : Hid (costN s l = C) := hCe
      rw [hCe]
      clear hCe
      go_wp2
      go_ret2
      exact ⟨.inl ⟨HK.out, by rw [HCE.out]; rfl⟩, hbw⟩

theorem CostOf_arg (s : Nat) (hs : s < 4294967296) (a : Option Addr) (cap : Nat) (l : List (Int × Int)) (hl : l.length ≤ 16) (_ : SymsIn l) (hc : ¬ CostOk l) (w : World) (ha : Syms w.heap.size w (.slice a l.length cap) l) :
    Calls Tryd.prog 57 #[.int .u32 s, .slice a l.length cap] w fun e w' => e = .returned (.tuple #[.int .i64 0, .int .i64 1]) ∧ Below w.heap.size w w' := by
  refine (CostOf_any s hs a cap l hl w ha).mono ?_
  rintro e w' ⟨h | h, b⟩
  · exact absurd h.1 hc
  · exact ⟨h.2, b⟩

theorem CostOf_ok (s : Nat) (hs : s < 4294967296) (a : Option Addr) (cap : Nat) (l : List (Int × Int)) (hl : l.length ≤ 16) (hc : CostOk l) (w : World) (ha : Syms w.heap.size w (.slice a l.length cap) l) :
    Calls Tryd.prog 57 #[.int .u32 s, .slice a l.length cap] w fun e w' => e = .returned (.tuple #[.int .i64 ((costN s l : Nat) : Int), .int .i64 0]) ∧ Below w.heap.size w w' := by
  refine (CostOf_any s hs a cap l hl w ha).mono ?_
  rintro e w' ⟨h | h, b⟩
  · exact ⟨h.2, b⟩
  · exact absurd hc h.1

end Go.Proofs.YtdnhnnidlangiabDoor

/-
  Texts of bytes and their sums as numbers: bits, sums, seals. No function of the program is spoken of.
-/
namespace Go.Proofs.YtdnhnnidlangiabDoor
open Go.RowKit

theorem shift16_num (r b : Nat) (hr : r < 65536) (hb : b < 2) : n16 (r ^^^ b * 32768) = 2 * r % 65536 ^^^ (if r / 32768 = b then 0 else 4129) := by
  have e : n16 (b * 32768) = if b = 1 then 4129 else 0 := by
    obtain rfl | rfl : b = 0 ∨ b = 1 := by omega
    · decide
    · decide
  rw [n16_xor, e]
  unfold n16
  rw [Nat.xor_assoc]
  congr 1
  have h2 : r / 32768 < 2 := by omega
  generalize r / 32768 = t at h2
  obtain rfl | rfl : t = 0 ∨ t = 1 := by omega
  all_goals obtain rfl | rfl : b = 0 ∨ b = 1 := by omega
  all_goals simp

theorem shift32_num (r b : Nat) (hb : b < 2) : m32 (r ^^^ b) = r / 2 ^^^ (if r % 2 = b then 0 else 3988292384) := by
  unfold m32
  rw [half_xor, parity_xor, show b / 2 = 0 by omega, Nat.xor_zero]
  congr 1
  have h2 := Nat.mod_two_eq_zero_or_one r
  by_cases h : r % 2 = b
  · rw [if_pos h, if_neg (by omega)]
  · rw [if_neg h, if_pos (by omega)]

/-- A text's bits, of each byte the highest first; the lowest first. -/
def textHigh (xs : List Int) : List Nat := xs.flatMap fun z => highs z.toNat
def textLow (xs : List Int) : List Nat := xs.flatMap fun z => lows z.toNat

theorem textHigh_01 (xs : List Int) : Bits01 (textHigh xs) := fun b hb => by
  obtain ⟨z, _, h⟩ := List.mem_flatMap.1 hb
  exact highs_01 _ b h
theorem textLow_01 (xs : List Int) : Bits01 (textLow xs) := fun b hb => by
  obtain ⟨z, _, h⟩ := List.mem_flatMap.1 hb
  exact lows_01 _ b h
theorem textHigh_len (xs : List Int) : (textHigh xs).length = 8 * xs.length := by
  induction xs with
  | nil => rfl
  | cons z xs ih => rw [textHigh, List.flatMap_cons, List.length_append]; unfold textHigh at ih; rw [ih]; simp [highs]; omega

theorem highs_get (b j : Nat) (hj : j < 8) : (highs b)[j]? = some (b / 2 ^ (7 - j) % 2) := by
  match j, hj with
  | 0, _ => rfl
  | 1, _ => rfl
  | 2, _ => rfl
  | 3, _ => rfl
  | 4, _ => rfl
  | 5, _ => rfl
  | 6, _ => rfl
  | 7, _ => simp [highs]

theorem lows_get (b j : Nat) (hj : j < 8) : (lows b)[j]? = some (b / 2 ^ j % 2) := by
  match j, hj with
  | 0, _ => simp [lows]
  | 1, _ => rfl
  | 2, _ => rfl
  | 3, _ => rfl
  | 4, _ => rfl
  | 5, _ => rfl
  | 6, _ => rfl
  | 7, _ => rfl

theorem textHigh_get {xs : List Int} {k : Nat} {z : Int} (hz : xs[k / 8]? = some z) : (textHigh xs)[k]? = some (z.toNat / 2 ^ (7 - k % 8) % 2) := by
  have hlt : k / 8 < xs.length := (List.getElem?_eq_some_iff.1 hz).1
  have e : xs = xs.take (k / 8) ++ z :: xs.drop (k / 8 + 1) := by
    have : xs[k / 8] = z := (List.getElem?_eq_some_iff.1 hz).2
    rw [← this, ← List.drop_eq_getElem_cons hlt, List.take_append_drop]
  have hl : (textHigh (xs.take (k / 8))).length = 8 * (k / 8) := by rw [textHigh_len, List.length_take]; omega
  have e2 : textHigh xs = textHigh (xs.take (k / 8)) ++ (highs z.toNat ++ textHigh (xs.drop (k / 8 + 1))) := by
    conv => lhs; rw [e]
    unfold textHigh
    rw [List.flatMap_append, List.flatMap_cons]
  rw [e2, List.getElem?_append_right (by omega), hl, show k - 8 * (k / 8) = k % 8 by omega, List.getElem?_append_left (by show k % 8 < 8; omega)]
  exact highs_get _ _ (by omega)

theorem textHigh_next {xs : List Int} {k : Nat} {z : Int} (hz : xs[k / 8]? = some z) : (textHigh xs).take (k + 1) = (textHigh xs).take k ++ [z.toNat / 2 ^ (7 - k % 8) % 2] := by
  rw [List.take_add_one, textHigh_get hz]; rfl

def cellN (n : Nat) : Value := .int .i64 (n : Int)

theorem and1_of (z : Int) (j : Nat) (h0 : 0 ≤ z) (h1 : z ≤ 255) : bits .and .i64 (z / 2 ^ j) 1 = ((z.toNat / 2 ^ j % 2 : Nat) : Int) := by
  obtain ⟨n, rfl⟩ := Int.eq_ofNat_of_zero_le h0
  have e : ((n : Nat) : Int) / 2 ^ j = ((n / 2 ^ j : Nat) : Int) := by simp
  have hle : n / 2 ^ j ≤ n := Nat.div_le_self _ _
  rw [e, zi_and1 _ (by omega)]
  rfl

theorem feed16_snoc (r : Nat) (l : List Nat) (b : Nat) : feed16 r (l ++ [b]) = n16 (feed16 r l ^^^ b * 32768) := by rw [feed16_append]; rfl
theorem feed32_snoc (r : Nat) (l : List Nat) (b : Nat) : feed32 r (l ++ [b]) = m32 (feed32 r l ^^^ b) := by rw [feed32_append]; rfl

/-- The sums of a text. -/
def sum16 (xs : List Int) : Nat := feed16 65535 (textHigh xs)
def reg32 (xs : List Int) : Nat := feed32 4294967295 (textLow xs)
def sum32 (xs : List Int) : Nat := reg32 xs ^^^ 4294967295

theorem sum16_lt (xs : List Int) : sum16 xs < 65536 := feed16_lt _ (by decide)
theorem reg32_lt (xs : List Int) : reg32 xs < 4294967296 := feed32_lt _ (by decide) (textLow_01 xs)
theorem sum32_lt (xs : List Int) : sum32 xs < 4294967296 := xor_lt (k := 32) (reg32_lt xs) (by decide)

theorem textLow_next {xs : List Int} {k : Nat} {z : Int} (hz : xs[k]? = some z) : textLow (xs.take (k + 1)) = textLow (xs.take k) ++ lows z.toNat := by
  rw [List.take_add_one, hz, Option.toList_some]
  unfold textLow
  rw [List.flatMap_append]
  simp

/-- A number's four bytes, the lowest first; a text, sealed. -/
def four (s : Nat) : List Int := [((s % 256 : Nat) : Int), ((s / 256 % 256 : Nat) : Int), ((s / 65536 % 256 : Nat) : Int), ((s / 16777216 % 256 : Nat) : Int)]
def sealL (xs : List Int) : List Int := xs ++ four (sum32 xs)

theorem four_bd (s : Nat) : ∀ z ∈ four s, 0 ≤ z ∧ z ≤ 255 := fun z hz => by
  simp [four] at hz
  omega

/-- Is it sealed? -/
def isSealed (xs : List Int) : Bool := decide (4 ≤ xs.length) && decide (sealL (xs.take (xs.length - 4)) = xs)

theorem holds_takeB {kd : IntKind} {n₀ cap : Nat} {w : World} {a : Option Addr} {zs : List Int} (h : Holds kd n₀ w (.slice a zs.length cap) zs) (k : Nat) (hk : k ≤ zs.length) : Holds kd n₀ w (.slice a (zs.take k).length cap) (zs.take k) := by
  rcases h with ⟨⟨a', c', e, ha⟩, hz⟩ | ⟨b, off, c', e, hb, hc⟩
  · subst hz
    cases e
    exact .inl ⟨⟨_, _, by simp, ha⟩, by simp⟩
  · cases e
    refine .inr ⟨b, off, cap, rfl, hb, fun j hj => ?_⟩
    rw [List.length_take] at hj
    rw [hc j (by omega), List.getElem?_take, if_pos (by omega)]

end Go.Proofs.YtdnhnnidlangiabDoor

/-
  What crc.behind16, behind32, isLong, sum32, Sum16, Sum32 answer, for every text in memory.
-/
namespace Go.Proofs.YtdnhnnidlangiabDoor
open Go.RowKit

theorem zu16_wrap (n : Int) (h0 : 0 ≤ n) (h1 : n < 2 ^ 16) : IntKind.u16.wrap n = n := by
  have e : (2 : Int) ^ 16 = 65536 := by decide
  rw [e] at h1; rw [IntKind.wrap_u16]; omega
theorem zu16_xor (a b : Nat) (ha : a < 65536) (hb : b < 65536) : bits .xor .u16 (a : Int) (b : Int) = ((a ^^^ b : Nat) : Int) := by
  have e : ∀ n : Nat, n < 65536 → (BitVec.ofInt 16 (n : Int)).toNat = n := fun n h => by
    rw [BitVec.ofInt_natCast, BitVec.toNat_ofNat]; exact Nat.mod_eq_of_lt (by omega)
  have hx : a ^^^ b < 2 ^ 16 := Nat.xor_lt_two_pow ha hb
  show IntKind.u16.wrap ((BitVec.ofInt 16 (a : Int) ^^^ BitVec.ofInt 16 (b : Int)).toNat : Int) = _
  rw [BitVec.toNat_xor, e a ha, e b hb]
  exact zu16_wrap _ (by omega) (by exact_mod_cast hx)
theorem zu8_and1 (a : Nat) (ha : a < 256) : bits .and .u8 (a : Int) 1 = ((a % 2 : Nat) : Int) := by
  have h1 : (a : Int) < 2 ^ 8 := by exact_mod_cast ha
  have := bits_mask .u8 8 (by decide) zu8_wrap 1 (by omega) a (by omega) h1
  simpa using this
theorem zu32_and1 (a : Nat) (ha : a < 4294967296) : bits .and .u32 (a : Int) 1 = ((a % 2 : Nat) : Int) := by
  have h1 : (a : Int) < 2 ^ 32 := by exact_mod_cast ha
  have := bits_mask .u32 32 (by decide) zu32_wrap 1 (by omega) a (by omega) h1
  simpa using this

theorem highs_next (x k : Nat) (hk : k < 8) : (highs x).take (k + 1) = (highs x).take k ++ [x / 2 ^ (7 - k) % 2] := by
  rw [List.take_add_one, highs_get x k hk]; rfl
theorem lows_next (x k : Nat) (hk : k < 8) : (lows x).take (k + 1) = (lows x).take k ++ [x / 2 ^ k % 2] := by
  rw [List.take_add_one, lows_get x k hk]; rfl

theorem textHigh_next1 {xs : List Int} {k : Nat} {z : Int} (hz : xs[k]? = some z) : textHigh (xs.take (k + 1)) = textHigh (xs.take k) ++ highs z.toNat := by
  rw [List.take_add_one, hz, Option.toList_some]
  unfold textHigh
  rw [List.flatMap_append]
  simp

end Go.Proofs.YtdnhnnidlangiabDoor
