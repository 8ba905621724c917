/-
  What the page's Has, Ack and ReadAck and volutekeep.Ack answer. (Written by tpl_refack.py.)
-/
import Derived.Test.YtkhmcoeffaeppaaAckNums
import Derived.Test.YtkhmcoeffaeppaaRefBlock
import Derived.Test.YtkhmcoeffaeppaaRefSeal
import Derived.Test.YtkhmcoeffaeppaaRefSealed
import Derived.Test.YtkhmcoeffaeppaaIntRow
import Derived.Test.YtkhmcoeffaeppaaRegionHand
import Derived.Test.YtkhmcoeffaeppaaCrcCode
namespace Go.Proofs.Ytkhmcoeffaeppaa
open Go.RowKit

theorem row_shapeA {W : World} {base k : Nat} {e : TypeId} {v : Value} {xs : List Value} (h : W.ownsRow base e 1 v k xs) : ∃ a c, v = .slice a k c := by
  rcases h.2 with ⟨e, e0⟩ | ⟨g, c, cur, e, _⟩
  · exact ⟨_, _, by rw [e, e0]⟩
  · exact ⟨_, _, e⟩
theorem row_boxA {W : World} {B base : Nat} {x : Int} (h : Box W B 5 #[.int .u8 x]) (hb : base ≤ B) : W.ownsRow base 5 1 (.slice (some ⟨B, 0, none⟩) 1 1) 1 ([x].map (Value.int .u8)) :=
  ⟨rfl, .inr ⟨B, 1, #[.int .u8 x], rfl, hb, h, Nat.le_refl _, by unfold maxLen; omega, rfl, rfl⟩⟩
theorem below_set2 {W V : World} {n : Nat} (h : Below n W V) {D : Nat} (hD : n ≤ D) (x y : Value) : Below n W ((V.setCell ⟨D, 0, none⟩ x).setCell ⟨D, 1, none⟩ y) := (h.setCell (p := ⟨D, 0, none⟩) hD x).setCell (p := ⟨D, 1, none⟩) hD y
theorem num_partA (b off : Nat) (zs : List Int) (bz : ∀ z ∈ zs, 0 ≤ z ∧ z ≤ 255) (i k c : Nat) (hk : k ≤ 4) (hik : i + k ≤ zs.length) (w : World) (hc : ∀ j, j < zs.length → w.cell? ⟨b, off + j, none⟩ = some (.int .u8 (zs[j]?.getD 0))) :
    Calls Try.prog 26 #[.slice (some ⟨b, off + i, none⟩) k c] w fun e w' => e = .returned (.int .i64 (beNum ((zs.drop i).take k))) ∧ w = w' := by
  have hl : ((zs.drop i).take k).length = k := by rw [List.length_take, List.length_drop]; omega
  have := refNum_any b (off + i) c ((zs.drop i).take k) (by omega) (fun z hz => bz z (List.mem_of_mem_drop (List.mem_of_mem_take hz))) w (fun j hj => by
    rw [hl] at hj
    rw [Nat.add_assoc, hc (i + j) (by omega), List.getElem?_take_of_lt hj, List.getElem?_drop])
  rw [hl] at this
  exact this

set_option maxRecDepth 100000 in
set_option maxHeartbeats 1000000 in
/-- voluteref13.Has. -/
theorem refHas_any (n : Int) (b : Nat) (q : Int) (hq : q ≤ 9223372036854775807) (hb : b < 4294967296) (w : World) :
    Calls Try.prog 10 #[.agg #[.int .i64 n, .int .u32 (b : Int)], .int .i64 q] w fun e w' => e = .returned (.bool (hasA n b q)) ∧ Below w.heap.size w w' := by
  have b1 : Below w.heap.size w (w.alloc (.cells #[.int .i64 n, .int .u32 (b : Int)] 24)) := (Below.refl w.heap.size w).alloc (Nat.le_refl _) _
  by_cases h0 : q < 0
  · have d0 : decide (q < 0) = true := decide_eq_true h0
    have d1 : decide (0 ≤ q) = false := decide_eq_false (by omega)
    rw [hasA_neg h0]
    clear h0
    go_enter Try.func10, Try.ntmps10
    go_wp2
    go_ret
    exact ⟨rfl, b1⟩
  have d0 : decide (q < 0) = false := decide_eq_false h0
  have d1 : decide (0 ≤ q) = true := decide_eq_true (by omega)
  by_cases h1 : q < n
  · have d2 : decide (q < n) = true := decide_eq_true h1
    rw [hasA_low (by omega) h1]
    clear h0 h1
    go_enter Try.func10, Try.ntmps10
    go_wp2
    go_ret
    exact ⟨rfl, b1⟩
  have d2 : decide (q < n) = false := decide_eq_false h1
  by_cases h2 : n < 0
  · rw [hasA_none (by omega) h1 h2]
    have d3 : decide (0 ≤ n) = false := decide_eq_false (by omega)
    obtain ⟨I, hI⟩ : ∃ I, IntKind.i64.wrap (q - n) = I := ⟨_, rfl⟩
    by_cases h3 : 0 ≤ I
    · have d4 : decide (0 ≤ I) = true := decide_eq_true h3
      by_cases h4 : I < 32
      · have d5 : decide (I < 32) = true := decide_eq_true h4
        clear h0 h1 h2 h3 h4 hq
        go_enter Try.func10, Try.ntmps10
        go_wp2
        go_ret
        exact ⟨rfl, b1⟩
      · have d5 : decide (I < 32) = false := decide_eq_false h4
        clear h0 h1 h2 h3 h4 hq
        go_enter Try.func10, Try.ntmps10
        go_wp2
        go_ret
        exact ⟨rfl, b1⟩
    · have d4 : decide (0 ≤ I) = false := decide_eq_false h3
      clear h0 h1 h2 h3 hq
      go_enter Try.func10, Try.ntmps10
      go_wp2
      go_ret
      exact ⟨rfl, b1⟩
  obtain ⟨i, rfl⟩ : ∃ i : Nat, q = n + i := ⟨(q - n).toNat, by omega⟩
  have d3 : decide (0 ≤ n) = true := decide_eq_true (by omega)
  have eI : n + (i : Int) - n = (i : Int) := by omega
  have ewi : wrap64 (i : Int) = (i : Int) := by unfold wrap64; omega
  have d4 : decide (0 ≤ (i : Int)) = true := decide_eq_true (by omega)
  by_cases h4 : i < 32
  · rw [hasA_bit (by omega) h4]
    have d5 : decide ((i : Int) < 32) = true := decide_eq_true (by omega)
    have d5' : decide (i < 32) = true := decide_eq_true h4
    have hle : b / 2 ^ i ≤ b := Nat.div_le_self _ _
    have ed : (b : Int) / 2 ^ i = ((b / 2 ^ i : Nat) : Int) := by simp
    have ea : bits .and .u32 ((b / 2 ^ i : Nat) : Int) 1 = ((b / 2 ^ i % 2 : Nat) : Int) := zu32_and1 _ (by omega)
    obtain ⟨D, hD⟩ : ∃ D, b / 2 ^ i = D := ⟨_, rfl⟩
    rw [hD] at ed ea hle ⊢
    have HE : Hid ((((D % 2 : Nat) : Int) == 1) = (D % 2 == 1)) := by
      show (((D % 2 : Nat) : Int) == 1) = (D % 2 == 1)
      rcases Nat.mod_two_eq_zero_or_one D with h | h <;> rw [h] <;> rfl
    clear hD h0 h1 h2 hb
    go_enter Try.func10, Try.ntmps10
    go_wp2
    go_ret
    exact ⟨by rw [← HE.out]; rfl, b1⟩
  · rw [hasA_far (by omega) h1 (by omega)]
    have d5 : decide ((i : Int) < 32) = false := decide_eq_false (by omega)
    have d5' : decide (i < 32) = false := decide_eq_false h4
    clear h0 h1 h2 h4
    go_enter Try.func10, Try.ntmps10
    go_wp2
    go_ret
    exact ⟨rfl, b1⟩

set_option maxRecDepth 100000 in
set_option maxHeartbeats 1000000 in
theorem keepAck_any (n n' b b' : Int) (w : World) :
    Calls Try.prog 15 #[.agg #[.int .i64 n, .int .u32 b], .agg #[.int .i64 n', .int .u32 b']] w fun e w' => e = .returned (.bool (decide (n = n' ∧ b = b'))) ∧ Below w.heap.size w w' := by
  have b1 := ((Below.refl w.heap.size w).alloc (Nat.le_refl _) (.cells #[.int .i64 n, .int .u32 b] 24)).alloc (by simp) (.cells #[.int .i64 n', .int .u32 b'] 24)
  by_cases e0 : n = n'
  · subst e0
    have d0 : (n == n) = true := by simp
    by_cases e1 : b = b'
    · subst e1
      have d1 : (b == b) = true := by simp
      rw [decide_eq_true ⟨rfl, rfl⟩]
      go_enter Try.func15, Try.ntmps15
      go_wp2
      go_ret
      exact ⟨rfl, b1⟩
    · have d1 : (b == b') = false := by simp [e1]
      rw [decide_eq_false (fun h => e1 h.2)]
      clear e1
      go_enter Try.func15, Try.ntmps15
      go_wp2
      go_ret
      exact ⟨rfl, b1⟩
  · have d0 : (n == n') = false := by simp [e0]
    rw [decide_eq_false (fun h => e0 h.1)]
    clear e0
    go_enter Try.func15, Try.ntmps15
    go_wp2
    go_ret
    exact ⟨rfl, b1⟩

set_option maxRecDepth 100000 in
set_option maxHeartbeats 2000000 in
theorem refAck_any (n b : Int) (hb0 : 0 ≤ b) (hb1 : b < 4294967296) (w : World) :
    Calls Try.prog 13 #[.agg #[.int .i64 n, .int .u32 b]] w fun e W' => ∃ q, e = .returned q ∧ W'.ownsRow w.heap.size 5 1 q 13 ((packA n b).map (Value.int .u8)) ∧ Below w.heap.size w W' := by
  have ewb : IntKind.i64.wrap b = b := by rw [IntKind.wrap_i64]; omega
  have b1 : Below w.heap.size w (w.alloc (.cells #[.int .i64 n, .int .u32 b] 24)) := (Below.refl w.heap.size w).alloc (Nat.le_refl _) _
  have x1 := Box.new w 24 #[.int .i64 n, .int .u32 b]
  clear hb0 hb1
  go_enter Try.func13, Try.ntmps13
  go_wp2_with fail
  obtain ⟨W1, hW1⟩ : ∃ W, w.alloc (.cells #[.int .i64 n, .int .u32 b] 24) = W := ⟨_, rfl⟩
  have hs1 : W1.heap.size = w.heap.size + 1 := by rw [← hW1]; simp
  rw [hW1] at b1 x1 ⊢
  clear hW1
  obtain ⟨n1, hn1⟩ : ∃ n, w.heap.size + 1 = n := ⟨_, rfl⟩
  rw [hn1] at hs1 ⊢
  have hwn : w.heap.size ≤ n1 := by omega
  have hlt1 : w.heap.size < n1 := by omega
  clear hn1
  refine (refBe_any n 4 (by decide) _).mono ?_
  rintro e w2 ⟨q, rfl, oq, b2⟩
  have xA : Box w2 n1 5 #[.int .u8 65] := hs1 ▸ (Box.new W1 5 #[.int .u8 65]).next b2
  have bA : Below n1 W1 (W1.alloc (.cells #[.int .u8 65] 5)) := (Below.refl _ _).alloc (by omega) _
  have hS : Below n1 W1 w2 := bA.trans (b2.mono (by simp; omega))
  have hn2 : n1 ≤ w2.heap.size := by have := hS.size; omega
  obtain ⟨v3, w3, hr3, o3, hg3⟩ := run_append_u8 _ _ 1 n1 _ _ _ 25 w2 (row_boxA xA (Nat.le_refl _)) (holds_of_row oq) hn2 (by decide) (by simp [beBytes_len])
  replace hS := hS.trans ((Below.refl _ _).grown hg3 hn2 (fun z e => by cases e; exact Nat.le_refl _))
  have hn3 : n1 ≤ w3.heap.size := by have := hS.size; omega
  have k1 := (x1.below hS hlt1).cell 1 _ rfl
  clear xA bA hg3 oq b2 hn2
  go_wp2_with (at_builtin; refine wpList_append_run rfl _ _ 25 rfl _ _ rfl rfl _ _ hr3 ?_)
  clear hr3
  rw [beBytes_len] at o3
  refine (refBe_any b 4 (by decide) _).mono ?_
  rintro e w4 ⟨q4, rfl, oq4, b4⟩
  have o4 := row_below o3 b4 (Nat.le_refl _)
  have hn4 : n1 ≤ w4.heap.size := by have := b4.size; omega
  replace hS := hS.trans (b4.mono hn3)
  obtain ⟨v5, w5, hr5, o5, g5⟩ := run_append_u8 _ _ (1 + 4) n1 _ _ _ 25 w4 o4 (holds_of_row oq4) hn4 (by decide) (by simp [beBytes_len])
  replace hS := hS.trans ((Below.refl _ _).grown g5 hn4 (fun z e => (o4.lt z e).1))
  have hn5 : n1 ≤ w5.heap.size := by have := hS.size; omega
  rw [beBytes_len] at o5
  obtain ⟨va, vc, rfl⟩ := row_shapeA o5
  have o5' : w5.ownsRow n1 5 1 (.slice va 9 vc) 9 ((bodyA n b).map (Value.int .u8)) := o5
  have HS := refSeal_any va vc (bodyA n b) (by rw [bodyA_len]; decide) (bodyA_bd n b) w5 (by rw [bodyA_len]; exact holds_of_row o5')
  rw [bodyA_len] at HS
  clear o3 b4 o4 oq4 g5 o5 o5' k1
  go_wp2_with (at_builtin; refine wpList_append_run rfl _ _ 25 rfl _ _ rfl rfl _ _ hr5 ?_)
  refine HS.mono ?_
  rintro e w6 ⟨q6, rfl, o6, b6⟩
  have o7 : w6.ownsRow w.heap.size 5 1 q6 13 ((packA n b).map (Value.int .u8)) := row_base o6 (by omega)
  have b7 := b1.trans ((hS.trans (b6.mono hn5)).mono hwn)
  clear HS hr5 o6 b6
  go_wp2
  go_ret
  exact ⟨_, rfl, o7, b7⟩

set_option maxRecDepth 100000 in
set_option maxHeartbeats 2000000 in
theorem refReadAck_len (a : Option Addr) (n cap : Nat) (hn : n ≠ 13) (w : World) :
    Calls Try.prog 17 #[.slice a n cap] w fun e w' => e = .returned (.tuple #[.agg #[.int .i64 0, .int .u32 0], .int .i64 2]) ∧ Below w.heap.size w w' := by
  have b0 := (Below.refl w.heap.size w).alloc (Nat.le_refl _) (.cells #[.int .i64 0, .int .u32 0] 24)
  have x0 := Box.new w 24 #[.int .i64 0, .int .u32 0]
  have d1 : ((n : Int) != 13) = true := by rw [bne_iff_ne]; omega
  clear hn
  go_enter Try.func17, Try.ntmps17
  go_wp2
  exact bodyPost_ret (v := .tuple #[.agg #[.int .i64 0, .int .u32 0], .int .i64 2]) (by simp [results, Try.results17, go_sem]) rfl ⟨rfl, b0⟩

set_option maxRecDepth 100000 in
set_option maxHeartbeats 2000000 in
theorem refReadAck_kind (a : Option Addr) (cap : Nat) (zs : List Int) (hl : zs.length = 13) (_hc : 13 ≤ cap) (_bz : ∀ z ∈ zs, 0 ≤ z ∧ z ≤ 255) (h0 : zs[0]?.getD 0 ≠ 65) (w : World) (ha : Holds .u8 w.heap.size w (.slice a 13 cap) zs) :
    Calls Try.prog 17 #[.slice a 13 cap] w fun e w' => e = .returned (.tuple #[.agg #[.int .i64 0, .int .u32 0], .int .i64 12]) ∧ Below w.heap.size w w' := by
  have b0 := (Below.refl w.heap.size w).alloc (Nat.le_refl _) (.cells #[.int .i64 0, .int .u32 0] 24)
  have x0 := Box.new w 24 #[.int .i64 0, .int .u32 0]
  rcases id ha with ⟨⟨_, _, e, _⟩, _⟩ | ⟨b, off, cap', e, hb, hcs⟩
  · cases e
  rw [hl] at e hcs
  cases e
  have HC : Hid (∀ wx : World, Below w.heap.size w wx → ∀ j, j < 13 → wx.cell? ⟨b, off + j, none⟩ = some (.int .u8 (zs[j]?.getD 0))) := fun wx hx j hj => (hx.cell (p := ⟨b, off + j, none⟩) hb).trans (hcs j hj)
  have c0 := HC.out _ b0 0 (by decide)
  rw [Nat.add_zero] at c0
  obtain ⟨x, hx⟩ : ∃ x, zs[0]?.getD 0 = x := ⟨_, rfl⟩
  rw [hx] at c0 h0
  have dx : (x != 65) = true := by rw [bne_iff_ne]; exact h0
  clear hx h0 HC ha hcs hl
  go_enter Try.func17, Try.ntmps17
  go_wp2
  exact bodyPost_ret (v := .tuple #[.agg #[.int .i64 0, .int .u32 0], .int .i64 12]) (by simp [results, Try.results17, go_sem]) rfl ⟨rfl, b0⟩

set_option maxRecDepth 100000 in
set_option maxHeartbeats 4000000 in
theorem refReadAck_sum (a : Option Addr) (cap : Nat) (zs : List Int) (hl : zs.length = 13) (hc : 13 ≤ cap) (bz : ∀ z ∈ zs, 0 ≤ z ∧ z ≤ 255) (h0 : zs[0]?.getD 0 = 65) (hs : isSealed zs = false) (w : World) (ha : Holds .u8 w.heap.size w (.slice a 13 cap) zs) :
    Calls Try.prog 17 #[.slice a 13 cap] w fun e w' => e = .returned (.tuple #[.agg #[.int .i64 0, .int .u32 0], .int .i64 4]) ∧ Below w.heap.size w w' := by
  have b0 := (Below.refl w.heap.size w).alloc (Nat.le_refl _) (.cells #[.int .i64 0, .int .u32 0] 24)
  have x0 := Box.new w 24 #[.int .i64 0, .int .u32 0]
  rcases id ha with ⟨⟨_, _, e, _⟩, _⟩ | ⟨b, off, cap', e, hb, hcs⟩
  · cases e
  rw [hl] at e hcs
  cases e
  have HC : Hid (∀ wx : World, Below w.heap.size w wx → ∀ j, j < 13 → wx.cell? ⟨b, off + j, none⟩ = some (.int .u8 (zs[j]?.getD 0))) := fun wx hx j hj => (hx.cell (p := ⟨b, off + j, none⟩) hb).trans (hcs j hj)
  have c0 : (w.alloc (.cells #[.int .i64 0, .int .u32 0] 24)).cell? ⟨b, off, none⟩ = some (.int .u8 65) := (by have := HC.out _ b0 0 (by decide); rw [Nat.add_zero, h0] at this; exact this)
  have HN : Hid (∀ (i k c : Nat), k ≤ 4 → i + k ≤ 13 → ∀ wx : World, Below w.heap.size w wx → Calls Try.prog 26 #[.slice (some ⟨b, off + i, none⟩) k c] wx fun e w' => e = .returned (.int .i64 (beNum ((zs.drop i).take k))) ∧ wx = w') := fun i k c hk hik wx hx => num_partA b off zs bz i k c hk (by omega) wx (by rw [hl]; exact HC.out wx hx)
  have HSe := refSealed_any (some ⟨b, off, none⟩) cap zs (by omega) (by omega) bz _ (by rw [hl]; exact ha.next b0)
  rw [hs, hl] at HSe
  have hi5 : (5 : Int) ≤ (cap : Int) := by omega
  have hi5' : 5 ≤ cap := by omega
  have hi9 : (9 : Int) ≤ (cap : Int) := by omega
  have hi9' : 9 ≤ cap := by omega
  have hi1e : ¬ cap = 1 := by omega
  have hi5e : ¬ cap = 5 := by omega
  clear hs ha h0 hcs hl HC
  go_enter Try.func17, Try.ntmps17
  go_wp2_with fail
  refine HSe.mono ?_
  rintro e w1 ⟨rfl, b1⟩
  have bb1 := b0.trans (b1.mono (by simp))
  have y1 := x0.next b1
  clear HSe b0 b1 x0 c0
  have z0 := y1.cell 0 _ rfl
  have z1 := y1.cell 1 _ rfl
  have f0 := y1.free 0
  have f1 := y1.free 1
  clear HN bz
  go_wp2
  exact bodyPost_ret (v := .tuple #[.agg #[.int .i64 0, .int .u32 0], .int .i64 4]) (by simp [results, Try.results17, go_sem, z0, z1]) rfl ⟨rfl, below_set2 bb1 (Nat.le_refl _) _ _⟩

set_option maxRecDepth 100000 in
set_option maxHeartbeats 4000000 in
theorem refReadAck_next (a : Option Addr) (cap : Nat) (zs : List Int) (hl : zs.length = 13) (hc : 13 ≤ cap) (bz : ∀ z ∈ zs, 0 ≤ z ∧ z ≤ 255) (h0 : zs[0]?.getD 0 = 65) (hs : isSealed zs = true) (hq : ¬ aN zs ≤ 1073741824) (w : World) (ha : Holds .u8 w.heap.size w (.slice a 13 cap) zs) :
    Calls Try.prog 17 #[.slice a 13 cap] w fun e w' => e = .returned (.tuple #[.agg #[.int .i64 0, .int .u32 0], .int .i64 1]) ∧ Below w.heap.size w w' := by
  have b0 := (Below.refl w.heap.size w).alloc (Nat.le_refl _) (.cells #[.int .i64 0, .int .u32 0] 24)
  have x0 := Box.new w 24 #[.int .i64 0, .int .u32 0]
  rcases id ha with ⟨⟨_, _, e, _⟩, _⟩ | ⟨b, off, cap', e, hb, hcs⟩
  · cases e
  rw [hl] at e hcs
  cases e
  have HC : Hid (∀ wx : World, Below w.heap.size w wx → ∀ j, j < 13 → wx.cell? ⟨b, off + j, none⟩ = some (.int .u8 (zs[j]?.getD 0))) := fun wx hx j hj => (hx.cell (p := ⟨b, off + j, none⟩) hb).trans (hcs j hj)
  have c0 : (w.alloc (.cells #[.int .i64 0, .int .u32 0] 24)).cell? ⟨b, off, none⟩ = some (.int .u8 65) := (by have := HC.out _ b0 0 (by decide); rw [Nat.add_zero, h0] at this; exact this)
  have HN : Hid (∀ (i k c : Nat), k ≤ 4 → i + k ≤ 13 → ∀ wx : World, Below w.heap.size w wx → Calls Try.prog 26 #[.slice (some ⟨b, off + i, none⟩) k c] wx fun e w' => e = .returned (.int .i64 (beNum ((zs.drop i).take k))) ∧ wx = w') := fun i k c hk hik wx hx => num_partA b off zs bz i k c hk (by omega) wx (by rw [hl]; exact HC.out wx hx)
  have HSe := refSealed_any (some ⟨b, off, none⟩) cap zs (by omega) (by omega) bz _ (by rw [hl]; exact ha.next b0)
  rw [hs, hl] at HSe
  have hi5 : (5 : Int) ≤ (cap : Int) := by omega
  have hi5' : 5 ≤ cap := by omega
  have hi9 : (9 : Int) ≤ (cap : Int) := by omega
  have hi9' : 9 ≤ cap := by omega
  have hi1e : ¬ cap = 1 := by omega
  have hi5e : ¬ cap = 5 := by omega
  clear hs ha h0 hcs hl HC
  go_enter Try.func17, Try.ntmps17
  go_wp2_with fail
  refine HSe.mono ?_
  rintro e w1 ⟨rfl, b1⟩
  have bb1 := b0.trans (b1.mono (by simp))
  have y1 := x0.next b1
  clear HSe b0 b1 x0 c0
  have HNS := HN.out 1 4 (cap - 1) (by decide) (by decide) w1 bb1
  obtain ⟨S, hSv⟩ : ∃ x : Int, beNum ((zs.drop 1).take 4) = x := ⟨_, rfl⟩
  rw [hSv] at HNS
  have hSd : aN zs = S := hSv
  have dS1 : decide (1073741824 < S) = true := decide_eq_true (by omega)
  have z0 := y1.cell 0 _ rfl
  have z1 := y1.cell 1 _ rfl
  have f0 := y1.free 0
  have f1 := y1.free 1
  clear HN bz hSv hSd hq
  go_wp2_with fail
  refine HNS.mono ?_
  rintro e w5 ⟨rfl, rfl⟩
  clear HNS
  go_wp2
  exact bodyPost_ret (v := .tuple #[.agg #[.int .i64 0, .int .u32 0], .int .i64 1]) (by simp [results, Try.results17, go_sem, z0, z1]) rfl ⟨rfl, below_set2 bb1 (Nat.le_refl _) _ _⟩

set_option maxRecDepth 100000 in
set_option maxHeartbeats 4000000 in
theorem refReadAck_ok (a : Option Addr) (cap : Nat) (zs : List Int) (hl : zs.length = 13) (hc : 13 ≤ cap) (bz : ∀ z ∈ zs, 0 ≤ z ∧ z ≤ 255) (h0 : zs[0]?.getD 0 = 65) (hs : isSealed zs = true) (hq : aN zs ≤ 1073741824) (w : World) (ha : Holds .u8 w.heap.size w (.slice a 13 cap) zs) :
    Calls Try.prog 17 #[.slice a 13 cap] w fun e W' => e = .returned (.tuple #[.agg #[.int .i64 (aN zs), .int .u32 (aB zs)], .int .i64 0]) ∧ Below w.heap.size w W' := by
  have hR := packA_read bz ⟨hl, h0, hs, hq⟩
  obtain ⟨hBb0, hBb1⟩ := hR.2.1
  clear hR
  have b0 := (Below.refl w.heap.size w).alloc (Nat.le_refl _) (.cells #[.int .i64 0, .int .u32 0] 24)
  have x0 := Box.new w 24 #[.int .i64 0, .int .u32 0]
  rcases id ha with ⟨⟨_, _, e, _⟩, _⟩ | ⟨b, off, cap', e, hb, hcs⟩
  · cases e
  rw [hl] at e hcs
  cases e
  have HC : Hid (∀ wx : World, Below w.heap.size w wx → ∀ j, j < 13 → wx.cell? ⟨b, off + j, none⟩ = some (.int .u8 (zs[j]?.getD 0))) := fun wx hx j hj => (hx.cell (p := ⟨b, off + j, none⟩) hb).trans (hcs j hj)
  have c0 : (w.alloc (.cells #[.int .i64 0, .int .u32 0] 24)).cell? ⟨b, off, none⟩ = some (.int .u8 65) := (by have := HC.out _ b0 0 (by decide); rw [Nat.add_zero, h0] at this; exact this)
  have HN : Hid (∀ (i k c : Nat), k ≤ 4 → i + k ≤ 13 → ∀ wx : World, Below w.heap.size w wx → Calls Try.prog 26 #[.slice (some ⟨b, off + i, none⟩) k c] wx fun e w' => e = .returned (.int .i64 (beNum ((zs.drop i).take k))) ∧ wx = w') := fun i k c hk hik wx hx => num_partA b off zs bz i k c hk (by omega) wx (by rw [hl]; exact HC.out wx hx)
  have HSe := refSealed_any (some ⟨b, off, none⟩) cap zs (by omega) (by omega) bz _ (by rw [hl]; exact ha.next b0)
  rw [hs, hl] at HSe
  have hi5 : (5 : Int) ≤ (cap : Int) := by omega
  have hi5' : 5 ≤ cap := by omega
  have hi9 : (9 : Int) ≤ (cap : Int) := by omega
  have hi9' : 9 ≤ cap := by omega
  have hi1e : ¬ cap = 1 := by omega
  have hi5e : ¬ cap = 5 := by omega
  clear hs ha h0 hcs hl HC
  go_enter Try.func17, Try.ntmps17
  go_wp2_with fail
  refine HSe.mono ?_
  rintro e w1 ⟨rfl, b1⟩
  have bb1 := b0.trans (b1.mono (by simp))
  have y1 := x0.next b1
  clear HSe b0 b1 x0 c0
  have HNS := HN.out 1 4 (cap - 1) (by decide) (by decide) w1 bb1
  obtain ⟨S, hSv⟩ : ∃ x : Int, beNum ((zs.drop 1).take 4) = x := ⟨_, rfl⟩
  rw [hSv] at HNS
  have hSd : aN zs = S := hSv
  have dS1 : decide (1073741824 < S) = false := decide_eq_false (by omega)
  have HN1 : Hid (∀ wx : World, Below w.heap.size w wx → Calls Try.prog 26 #[.slice (some ⟨b, off + 1, none⟩) 4 (cap - 1)] wx fun e w' => e = .returned (.int .i64 S) ∧ wx = w') := fun wx hx => by
    have := HN.out 1 4 (cap - 1) (by decide) (by decide) wx hx
    rw [hSv] at this
    exact this
  obtain ⟨BB, hBB⟩ : ∃ x : Int, aB zs = x := ⟨_, rfl⟩
  have HN5 : Hid (∀ wx : World, Below w.heap.size w wx → Calls Try.prog 26 #[.slice (some ⟨b, off + 5, none⟩) 4 (cap - 5)] wx fun e w' => e = .returned (.int .i64 BB) ∧ wx = w') := fun wx hx => by
    have := HN.out 5 4 (cap - 5) (by decide) (by decide) wx hx
    rw [show beNum ((zs.drop 5).take 4) = BB from hBB] at this
    exact this
  rw [hBB] at hBb0 hBb1
  have ewB : IntKind.u32.wrap BB = BB := by rw [IntKind.wrap_u32]; omega
  have HSd : Hid (aN zs = S) := hSd
  have HBd : Hid (aB zs = BB) := hBB
  clear HN bz hSv hSd hq hBB hBb0 hBb1
  go_wp2_with fail
  refine HNS.mono ?_
  rintro e w5 ⟨rfl, rfl⟩
  clear HNS
  go_wp2
  refine wp_region_held_drew (S := fun w' => Below w.heap.size w w') (by kernel_rfl) (bb1.drew) (fun hHeld => ?_)
  replace y1 : Box w1.drew w.heap.size 24 #[.int .i64 0, .int .u32 0] := y1
  generalize w1.drew = wk0 at *
  refine held_take (i := 0) (d := 22) (v := ?v1) rfl rfl (by kernel_rfl) (by kernel_rfl) (by kernel_rfl) (fun _ _ _ h => h) (Or.inl ⟨by kernel_rfl, ?hy1⟩) hHeld ?rest1
  case hy1 =>
    intro wx hSw
    clear hSw
    go_simp
    with_reducible rfl
  simp only [List.setIfInBounds_toArray, List.set_cons_zero, List.set_cons_succ]
  refine held_take (i := 1) (d := 23) (v := ?v2) rfl rfl (by kernel_rfl) (by kernel_rfl) (by kernel_rfl) (fun _ _ _ h => h) (Or.inl ⟨by kernel_rfl, ?hy2⟩) hHeld ?rest2
  case hy2 =>
    intro wx hSw
    clear hSw
    go_simp
    with_reducible rfl
  simp only [List.setIfInBounds_toArray, List.set_cons_zero, List.set_cons_succ]
  refine held_take (i := 3) (d := 25) (v := ?v3) rfl rfl (by kernel_rfl) (by kernel_rfl) (by kernel_rfl) (fun _ _ _ h => h) (Or.inl ⟨by kernel_rfl, ?hy3⟩) hHeld ?rest3
  case hy3 =>
    intro wx hSw
    clear hSw
    go_simp
    with_reducible rfl
  simp only [List.setIfInBounds_toArray, List.set_cons_zero, List.set_cons_succ]
  refine held_take (i := 4) (d := 26) (v := ?v4) rfl rfl (by kernel_rfl) (by kernel_rfl) (by kernel_rfl) (fun _ _ _ h => h) (Or.inl ⟨by kernel_rfl, ?hy4⟩) hHeld ?rest4
  case hy4 =>
    intro wx hSw
    clear hSw
    go_simp
    with_reducible rfl
  simp only [List.setIfInBounds_toArray, List.set_cons_zero, List.set_cons_succ]
  refine wpAnyH_ready (rs := [2]) (by kernel_rfl) (by simp) ?_
  refine AllReadyH.cons rfl (fun K hK => ?_) AllReadyH.nil
  go_simp
  go_wp2_with (go_at_call 26; refine (HN1.out _ (by exact hHeld)).mono ?_; rintro e wb ⟨rfl, rfl⟩)
  refine hK.out _ _ (hHeld) (fun hHeld => ?_)
  clear hK K
  refine wpAnyH_ready (rs := [5]) (by kernel_rfl) (by simp) ?_
  refine AllReadyH.cons rfl (fun K hK => ?_) AllReadyH.nil
  go_simp
  go_wp2_with (go_at_call 26; refine (HN5.out _ (by exact hHeld)).mono ?_; rintro e wb ⟨rfl, rfl⟩)
  refine hK.out _ _ (hHeld) (fun hHeld => ?_)
  clear hK K
  refine held_take (i := 6) (d := 28) (v := ?v5) rfl rfl (by kernel_rfl) (by kernel_rfl) (by kernel_rfl) (fun _ _ _ h => h) (Or.inl ⟨by kernel_rfl, ?hy5⟩) hHeld ?rest5
  case hy5 =>
    intro wx hSw
    clear hSw
    go_simp
    with_reducible rfl
  simp only [List.setIfInBounds_toArray, List.set_cons_zero, List.set_cons_succ]
  refine held_take (i := 7) (d := 29) (v := ?v6) rfl rfl (by kernel_rfl) (by kernel_rfl) (by kernel_rfl) (fun _ _ _ h => h) (Or.inl ⟨by kernel_rfl, ?hy6⟩) hHeld ?rest6
  case hy6 =>
    intro wx hSw
    clear hSw
    go_simp
    with_reducible rfl
  simp only [List.setIfInBounds_toArray, List.set_cons_zero, List.set_cons_succ]
  refine wpAnyH_ready (rs := [8]) (by kernel_rfl) (by simp) ?_
  refine AllReadyH.cons rfl (fun K hK => ?_) AllReadyH.nil
  have z0 := y1.cell 0 _ rfl
  have z1 := y1.cell 1 _ rfl
  have f0 := y1.free 0
  have f1 := y1.free 1
  go_simp
  refine hK.out _ _ (below_set2 hHeld (Nat.le_refl _) _ _) (fun hHeld => ?_)
  clear hK K
  refine wpAnyH_ready (rs := [9]) (by kernel_rfl) (by simp) ?_
  refine AllReadyH.cons rfl (fun K hK => ?_) AllReadyH.nil
  go_simp
  refine hK.out _ _ hHeld (fun hHeld => ?_)
  clear hK K
  refine wpAnyH_done (by kernel_rfl) ?_ _
  go_wp2
  exact bodyPost_ret (v := .tuple #[.agg #[.int .i64 S, .int .u32 BB], .int .i64 0]) (by simp [results, Try.results17, go_sem, z0, z1]) rfl ⟨by rw [HSd.out, HBd.out], hHeld⟩

theorem refReadAck_no (a : Option Addr) (cap : Nat) (zs : List Int) (hc : zs.length ≤ cap) (bz : ∀ z ∈ zs, 0 ≤ z ∧ z ≤ 255) (E : Int) (h : badA zs E) (w : World) (ha : Holds .u8 w.heap.size w (.slice a zs.length cap) zs) :
    Calls Try.prog 17 #[.slice a zs.length cap] w fun e w' => e = .returned (.tuple #[.agg #[.int .i64 0, .int .u32 0], .int .i64 E]) ∧ Below w.heap.size w w' := by
  rcases h with ⟨h1, rfl⟩ | ⟨h1, h2, rfl⟩ | ⟨h1, h2, h3, rfl⟩ | ⟨h1, h2, h3, h4, rfl⟩
  · exact refReadAck_len a _ cap h1 w
  · rw [h1] at ha hc ⊢; exact refReadAck_kind a cap zs h1 hc bz h2 w ha
  · rw [h1] at ha hc ⊢; exact refReadAck_sum a cap zs h1 hc bz h2 h3 w ha
  · rw [h1] at ha hc ⊢; exact refReadAck_next a cap zs h1 hc bz h2 h3 h4 w ha
theorem refReadAck_yes (a : Option Addr) (cap : Nat) (zs : List Int) (hc : zs.length ≤ cap) (bz : ∀ z ∈ zs, 0 ≤ z ∧ z ≤ 255) (h : okA zs) (w : World) (ha : Holds .u8 w.heap.size w (.slice a zs.length cap) zs) :
    Calls Try.prog 17 #[.slice a zs.length cap] w fun e W' => e = .returned (.tuple #[.agg #[.int .i64 (aN zs), .int .u32 (aB zs)], .int .i64 0]) ∧ Below w.heap.size w W' := by
  rw [h.1] at ha hc ⊢
  exact refReadAck_ok a cap zs h.1 hc bz h.2.1 h.2.2.1 h.2.2.2 w ha

end Go.Proofs.Ytkhmcoeffaeppaa
