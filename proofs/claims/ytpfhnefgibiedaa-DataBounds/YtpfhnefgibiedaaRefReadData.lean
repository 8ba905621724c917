/-
  What the page's ReadData answers, whatever it is asked. (Written by tpl_refdata.py.)
-/
import Derived.Test.YtpfhnefgibiedaaRefPacket
import Derived.Test.YtpfhnefgibiedaaTwins
namespace Go.Proofs.Ytpfhnefgibiedaa
open Go.RowKit

theorem below_set4 {W V : World} {n : Nat} (h : Below n W V) {D : Nat} (hD : n ≤ D) (x y z u : Value) : Below n W ((((V.setCell ⟨D, 0, none⟩ x).setCell ⟨D, 1, none⟩ y).setCell ⟨D, 2, none⟩ z).setCell ⟨D, 3, none⟩ u) := (below_set3 h hD x y z).setCell (p := ⟨D, 3, none⟩) hD u
theorem Box.set4 {W : World} {B : Nat} {t : TypeId} {x y z u : Value} (h : Box W B t #[x, y, z, u]) (x' y' z' u' : Value) : Box ((((W.setCell ⟨B, 0, none⟩ x').setCell ⟨B, 1, none⟩ y').setCell ⟨B, 2, none⟩ z').setCell ⟨B, 3, none⟩ u') B t #[x', y', z', u'] := (((h.set 0 x').set 1 y').set 2 z').set 3 u'
theorem row_set4 {w : World} {base : Nat} {e : TypeId} {size : Nat} {v : Value} {n : Nat} {xs : List Value} (h : w.ownsRow base e size v n xs) {D : Nat} (hD : D < base) (x y z u : Value) : ((((w.setCell ⟨D, 0, none⟩ x).setCell ⟨D, 1, none⟩ y).setCell ⟨D, 2, none⟩ z).setCell ⟨D, 3, none⟩ u).ownsRow base e size v n xs := ownsRow_setCell_below (row_set3 h hD x y z) (a := ⟨D, 3, none⟩) hD u
/-- A part of bytes that lie somewhere is a number. -/
theorem num_part (b off : Nat) (zs : List Int) (bz : ∀ z ∈ zs, 0 ≤ z ∧ z ≤ 255) (i k c : Nat) (hk : k ≤ 4) (hik : i + k ≤ zs.length) (w : World) (hc : ∀ j, j < zs.length → w.cell? ⟨b, off + j, none⟩ = some (.int .u8 (zs[j]?.getD 0))) :
    Calls Try.prog 29 #[.slice (some ⟨b, off + i, none⟩) k c] w fun e w' => e = .returned (.int .i64 (beNum ((zs.drop i).take k))) ∧ w = w' := by
  have hl : ((zs.drop i).take k).length = k := by rw [List.length_take, List.length_drop]; omega
  have := refNum_any b (off + i) c ((zs.drop i).take k) (by omega) (fun z hz => bz z (List.mem_of_mem_drop (List.mem_of_mem_take hz))) w (fun j hj => by
    rw [hl] at hj
    rw [Nat.add_assoc, hc (i + j) (by omega), List.getElem?_take_of_lt hj, List.getElem?_drop])
  rw [hl] at this
  exact this

set_option maxRecDepth 100000 in
set_option maxHeartbeats 2000000 in
theorem refReadData_len (a : Option Addr) (n cap : Nat) (hn : n < 12 ∨ 75 < n) (w : World) :
    Calls Try.prog 17 #[.slice a n cap] w fun e w' => e = .returned (.tuple #[.agg #[.int .i64 0, .int .i64 0, .int .i64 0, .slice none 0 0], .int .i64 2]) ∧ Below w.heap.size w w' := by
  have b0 := (Below.refl w.heap.size w).alloc (Nat.le_refl _) (.cells #[.int .i64 0, .int .i64 0, .int .i64 0, .slice none 0 0] 24)
  have x0 := Box.new w 24 #[.int .i64 0, .int .i64 0, .int .i64 0, .slice none 0 0]
  by_cases h1 : n < 12
  · have d1 : decide ((n : Int) < 12) = true := decide_eq_true (by omega)
    have d1' : decide (n < 12) = true := decide_eq_true h1
    clear hn h1
    go_enter Try.func17, Try.ntmps17
    go_wp2
    exact bodyPost_ret (v := .tuple #[.agg #[.int .i64 0, .int .i64 0, .int .i64 0, .slice none 0 0], .int .i64 2]) (by simp [results, Try.results17, go_sem]) rfl ⟨rfl, b0⟩
  · have d1 : decide ((n : Int) < 12) = false := decide_eq_false (by omega)
    have d1' : decide (n < 12) = false := decide_eq_false h1
    have d2 : decide (75 < (n : Int)) = true := decide_eq_true (by omega)
    have d2' : decide (75 < n) = true := decide_eq_true (by omega)
    clear hn h1
    go_enter Try.func17, Try.ntmps17
    go_wp2
    exact bodyPost_ret (v := .tuple #[.agg #[.int .i64 0, .int .i64 0, .int .i64 0, .slice none 0 0], .int .i64 2]) (by simp [results, Try.results17, go_sem]) rfl ⟨rfl, b0⟩

set_option maxRecDepth 100000 in
set_option maxHeartbeats 2000000 in
theorem refReadData_kind (a : Option Addr) (cap : Nat) (zs : List Int) (hl : dLen zs) (_hc : zs.length ≤ cap) (_bz : ∀ z ∈ zs, 0 ≤ z ∧ z ≤ 255) (h0 : zs[0]?.getD 0 ≠ 68) (w : World) (ha : Holds .u8 w.heap.size w (.slice a zs.length cap) zs) :
    Calls Try.prog 17 #[.slice a zs.length cap] w fun e w' => e = .returned (.tuple #[.agg #[.int .i64 0, .int .i64 0, .int .i64 0, .slice none 0 0], .int .i64 12]) ∧ Below w.heap.size w w' := by
  have b0 := (Below.refl w.heap.size w).alloc (Nat.le_refl _) (.cells #[.int .i64 0, .int .i64 0, .int .i64 0, .slice none 0 0] 24)
  have x0 := Box.new w 24 #[.int .i64 0, .int .i64 0, .int .i64 0, .slice none 0 0]
  obtain ⟨hl1, hl2⟩ := hl
  have d1 : decide ((zs.length : Int) < 12) = false := decide_eq_false (by omega)
  have d1' : decide (zs.length < 12) = false := decide_eq_false (by omega)
  have d2 : decide (75 < (zs.length : Int)) = false := decide_eq_false (by omega)
  have d2' : decide (75 < zs.length) = false := decide_eq_false (by omega)
  rcases id ha with ⟨_, e⟩ | ⟨b, off, cap', e, hb, hcs⟩
  · rw [e] at hl1; simp at hl1
  cases e
  have HC : Hid (∀ wx : World, Below w.heap.size w wx → ∀ j, j < zs.length → wx.cell? ⟨b, off + j, none⟩ = some (.int .u8 (zs[j]?.getD 0))) := fun wx hx j hj => (hx.cell (p := ⟨b, off + j, none⟩) hb).trans (hcs j hj)
  have hi0 : (0 : Int) < (zs.length : Int) := by omega
  have hi0' : 0 < zs.length := by omega
  have c0 := HC.out _ b0 0 hi0'
  rw [Nat.add_zero] at c0
  obtain ⟨x, hx⟩ : ∃ x, zs[0]?.getD 0 = x := ⟨_, rfl⟩
  rw [hx] at c0 h0
  have dx : (x != 68) = true := by rw [bne_iff_ne]; exact h0
  clear hx h0 HC ha hcs
  go_enter Try.func17, Try.ntmps17
  go_wp2
  exact bodyPost_ret (v := .tuple #[.agg #[.int .i64 0, .int .i64 0, .int .i64 0, .slice none 0 0], .int .i64 12]) (by simp [results, Try.results17, go_sem]) rfl ⟨rfl, b0⟩

set_option maxRecDepth 100000 in
set_option maxHeartbeats 4000000 in
theorem refReadData_sum (a : Option Addr) (cap : Nat) (zs : List Int) (hl : dLen zs) (hc : zs.length ≤ cap) (bz : ∀ z ∈ zs, 0 ≤ z ∧ z ≤ 255) (h0 : zs[0]?.getD 0 = 68) (hS : ¬ dSum zs) (w : World) (ha : Holds .u8 w.heap.size w (.slice a zs.length cap) zs) :
    Calls Try.prog 17 #[.slice a zs.length cap] w fun e w' => e = .returned (.tuple #[.agg #[.int .i64 0, .int .i64 0, .int .i64 0, .slice none 0 0], .int .i64 4]) ∧ Below w.heap.size w w' := by
  have b0 := (Below.refl w.heap.size w).alloc (Nat.le_refl _) (.cells #[.int .i64 0, .int .i64 0, .int .i64 0, .slice none 0 0] 24)
  have x0 := Box.new w 24 #[.int .i64 0, .int .i64 0, .int .i64 0, .slice none 0 0]
  obtain ⟨hl1, hl2⟩ := hl
  have d1 : decide ((zs.length : Int) < 12) = false := decide_eq_false (by omega)
  have d1' : decide (zs.length < 12) = false := decide_eq_false (by omega)
  have d2 : decide (75 < (zs.length : Int)) = false := decide_eq_false (by omega)
  have d2' : decide (75 < zs.length) = false := decide_eq_false (by omega)
  rcases id ha with ⟨_, e⟩ | ⟨b, off, cap', e, hb, hcs⟩
  · rw [e] at hl1; simp at hl1
  cases e
  have HC : Hid (∀ wx : World, Below w.heap.size w wx → ∀ j, j < zs.length → wx.cell? ⟨b, off + j, none⟩ = some (.int .u8 (zs[j]?.getD 0))) := fun wx hx j hj => (hx.cell (p := ⟨b, off + j, none⟩) hb).trans (hcs j hj)
  have hi0 : (0 : Int) < (zs.length : Int) := by omega
  have hi0' : 0 < zs.length := by omega
  have c0 : (w.alloc (.cells #[.int .i64 0, .int .i64 0, .int .i64 0, .slice none 0 0] 24)).cell? ⟨b, off, none⟩ = some (.int .u8 68) := (by have := HC.out _ b0 0 hi0'; rw [Nat.add_zero, h0] at this; exact this)
  have hi9 : (9 : Int) ≤ (zs.length : Int) := by omega
  have hi9' : 9 ≤ zs.length := by omega
  have hi9c : (9 : Int) ≤ (cap : Int) := by omega
  have hi9d : 9 ≤ cap := by omega
  have hi9e : ¬ cap = 9 := by omega
  have hi11c : (11 : Int) ≤ (cap : Int) := by omega
  have hi11d : 11 ≤ cap := by omega
  have hi1e : ¬ cap = 1 := by omega
  have hi6e : ¬ cap = 6 := by omega
  have hi5c : (5 : Int) ≤ (cap : Int) := by omega
  have hi5d : 5 ≤ cap := by omega
  have hi8c : (8 : Int) ≤ (cap : Int) := by omega
  have hi8d : 8 ≤ cap := by omega
  have hi8l : (8 : Int) < (zs.length : Int) := by omega
  have hi8m : 8 < zs.length := by omega
  have hi5l : (5 : Int) < (zs.length : Int) := by omega
  have hi5m : 5 < zs.length := by omega
  have hi11l : (11 : Int) ≤ (zs.length : Int) := by omega
  have hi11m : 11 ≤ zs.length := by omega
  have hi11e : ¬ cap = 11 := by omega
  have HZ : Hid (zs.length ≤ 75) := hl2
  have HBZ : Hid (∀ z ∈ zs, 0 ≤ z ∧ z ≤ 255) := bz
  have HSU0 : Hid (∀ wx : World, Below w.heap.size w wx → Calls Try.prog 26 #[.slice (some ⟨b, off, none⟩) 9 cap] wx fun e w' => e = .returned (.int .i64 (sum16 (zs.take 9) : Int)) ∧ Below wx.heap.size wx w') := fun wx hx => by
    have h9 : (zs.take 9).length = 9 := by rw [List.length_take]; omega
    have := refSum16_any (some ⟨b, off, none⟩) cap (zs.take 9) (by omega) (fun z hz => HBZ.out z (List.mem_of_mem_take hz)) wx (holds_takeB ((ha.below hx).mono hx.size) 9 hi9')
    rw [h9] at this
    exact this
  have HN : Hid (∀ (i k c : Nat), k ≤ 4 → i + k ≤ 11 → ∀ wx : World, Below w.heap.size w wx → Calls Try.prog 29 #[.slice (some ⟨b, off + i, none⟩) k c] wx fun e w' => e = .returned (.int .i64 (beNum ((zs.drop i).take k))) ∧ wx = w') := fun i k c hk hik wx hx => num_part b off zs HBZ.out i k c hk (by omega) wx (HC.out wx hx)
  clear bz hcs h0
  go_enter Try.func17, Try.ntmps17
  go_wp2
  obtain ⟨W1, hW1⟩ : ∃ W, w.alloc (.cells #[.int .i64 0, .int .i64 0, .int .i64 0, .slice none 0 0] 24) = W := ⟨_, rfl⟩
  have hs1 : W1.heap.size = w.heap.size + 1 := by rw [← hW1]; simp
  rw [hW1] at b0 x0 c0 ⊢
  clear hW1
  obtain ⟨n1, hn1⟩ : ∃ n, W1.heap.size = n := ⟨_, rfl⟩
  have hwn : w.heap.size ≤ n1 := by omega
  have hlt1 : w.heap.size < n1 := by omega
  have HSU : Hid (∀ wx : World, Below n1 W1 wx → Calls Try.prog 26 #[.slice (some ⟨b, off, none⟩) 9 cap] wx fun e w' => e = .returned (.int .i64 (sum16 (zs.take 9) : Int)) ∧ Below n1 W1 w') := fun wx hx => (HSU0.out wx (b0.trans (hx.mono hwn))).mono (by rintro e w' ⟨rfl, hb'⟩; exact ⟨rfl, hx.trans (hb'.mono (by have := hx.size; omega))⟩)
  have HNC : Hid (∀ wx : World, Below n1 W1 wx → Calls Try.prog 29 #[.slice (some ⟨b, off + 9, none⟩) 2 (cap - 9)] wx fun e w' => e = .returned (.int .i64 (dC zs)) ∧ Below n1 W1 w') := fun wx hx => (HN.out 9 2 (cap - 9) (by decide) (by decide) wx (b0.trans (hx.mono hwn))).mono (by rintro e w' ⟨rfl, rfl⟩; exact ⟨rfl, hx⟩)
  obtain ⟨SS, hSS⟩ : ∃ x : Int, ((sum16 (zs.take 9) : Nat) : Int) = x := ⟨_, rfl⟩
  obtain ⟨CC, hCC⟩ : ∃ x : Int, dC zs = x := ⟨_, rfl⟩
  rw [hSS] at HSU
  rw [hCC] at HNC
  have DS : Hid ((SS != CC) = true) := by
    show (SS != CC) = true
    rw [← hSS, ← hCC]
    rw [bne_iff_ne]; exact hS
  clear hSS hCC
  go_cut [24] (fun v wx => v = .bool true ∧ Below n1 W1 wx)
  case first =>
    refine wp_region_held_drew (S := fun w' => Below n1 W1 w') (by kernel_rfl) ((Below.refl _ _).drew) (fun hHeld => ?_)
    refine held_take (i := 0) (d := 18) (v := ?v11) rfl rfl (by kernel_rfl) (by kernel_rfl) (by kernel_rfl) (fun _ _ _ h => h) (Or.inl ⟨by kernel_rfl, ?hy11⟩) hHeld ?rest11
    case hy11 =>
      intro wx hSw
      clear hSw
      go_simp
      with_reducible rfl
    simp only [List.setIfInBounds_toArray, List.set_cons_zero, List.set_cons_succ]
    refine held_take (i := 1) (d := 19) (v := ?v12) rfl rfl (by kernel_rfl) (by kernel_rfl) (by kernel_rfl) (fun _ _ _ h => h) (Or.inl ⟨by kernel_rfl, ?hy12⟩) hHeld ?rest12
    case hy12 =>
      intro wx hSw
      clear hSw
      go_simp
      with_reducible rfl
    simp only [List.setIfInBounds_toArray, List.set_cons_zero, List.set_cons_succ]
    refine held_take (i := 3) (d := 21) (v := ?v13) rfl rfl (by kernel_rfl) (by kernel_rfl) (by kernel_rfl) (fun _ _ _ h => h) (Or.inl ⟨by kernel_rfl, ?hy13⟩) hHeld ?rest13
    case hy13 =>
      intro wx hSw
      clear hSw
      go_simp
      with_reducible rfl
    simp only [List.setIfInBounds_toArray, List.set_cons_zero, List.set_cons_succ]
    refine held_take (i := 4) (d := 22) (v := ?v14) rfl rfl (by kernel_rfl) (by kernel_rfl) (by kernel_rfl) (fun _ _ _ h => h) (Or.inl ⟨by kernel_rfl, ?hy14⟩) hHeld ?rest14
    case hy14 =>
      intro wx hSw
      clear hSw
      go_simp
      with_reducible rfl
    simp only [List.setIfInBounds_toArray, List.set_cons_zero, List.set_cons_succ]
    refine wpAnyH_ready (rs := [2]) (by kernel_rfl) (by simp) ?_
    refine AllReadyH.cons rfl (fun K hK => ?_) AllReadyH.nil
    go_simp
    go_wp2_with (go_at_call 26; refine (HSU.out _ (by exact hHeld)).mono ?_; rintro e wb ⟨rfl, b8⟩)
    refine hK.out _ _ (b8) (fun hHeld => ?_)
    clear hK K
    refine wpAnyH_ready (rs := [5]) (by kernel_rfl) (by simp) ?_
    refine AllReadyH.cons rfl (fun K hK => ?_) AllReadyH.nil
    go_simp
    go_wp2_with (go_at_call 29; refine (HNC.out _ (by exact hHeld)).mono ?_; rintro e wb ⟨rfl, b8⟩)
    refine hK.out _ _ (b8) (fun hHeld => ?_)
    clear hK K
    refine wpAnyH_ready (rs := [6]) (by kernel_rfl) (by simp) ?_
    refine AllReadyH.cons rfl (fun K hK => ?_) AllReadyH.nil
    go_simp
    refine hK.out _ _ hHeld (fun hHeld => ?_)
    clear hK K
    refine wpAnyH_done (by kernel_rfl) ?_ _
    go_wp2_with fail
    go_meet
    exact ⟨by rw [DS.out], hHeld⟩
  case rest =>
    obtain ⟨rfl, b4⟩ := hcut
    have bb4 := b0.trans (b4.mono hwn)
    have y4 := x0.below b4 hlt1
    clear HSU HNC DS HSU0
    have z0 := y4.cell 0 _ rfl
    have z1 := y4.cell 1 _ rfl
    have z2 := y4.cell 2 _ rfl
    have z3 := y4.cell 3 _ rfl
    have f0 := y4.free 0
    have f1 := y4.free 1
    have f2 := y4.free 2
    have f3 := y4.free 3
    clear HN HC ha
    go_wp2
    exact bodyPost_ret (v := .tuple #[.agg #[.int .i64 0, .int .i64 0, .int .i64 0, .slice none 0 0], .int .i64 4]) (by simp [results, Try.results17, go_sem, z0, z1, z2, z3]) rfl ⟨rfl, below_set4 bb4 (Nat.le_refl _) _ _ _ _⟩

set_option maxRecDepth 100000 in
set_option maxHeartbeats 4000000 in
theorem refReadData_seq (a : Option Addr) (cap : Nat) (zs : List Int) (hl : dLen zs) (hc : zs.length ≤ cap) (bz : ∀ z ∈ zs, 0 ≤ z ∧ z ≤ 255) (h0 : zs[0]?.getD 0 = 68) (hS : dSum zs) (hq : ¬ dS zs < 1073741824) (w : World) (ha : Holds .u8 w.heap.size w (.slice a zs.length cap) zs) :
    Calls Try.prog 17 #[.slice a zs.length cap] w fun e w' => e = .returned (.tuple #[.agg #[.int .i64 0, .int .i64 0, .int .i64 0, .slice none 0 0], .int .i64 1]) ∧ Below w.heap.size w w' := by
  have b0 := (Below.refl w.heap.size w).alloc (Nat.le_refl _) (.cells #[.int .i64 0, .int .i64 0, .int .i64 0, .slice none 0 0] 24)
  have x0 := Box.new w 24 #[.int .i64 0, .int .i64 0, .int .i64 0, .slice none 0 0]
  obtain ⟨hl1, hl2⟩ := hl
  have d1 : decide ((zs.length : Int) < 12) = false := decide_eq_false (by omega)
  have d1' : decide (zs.length < 12) = false := decide_eq_false (by omega)
  have d2 : decide (75 < (zs.length : Int)) = false := decide_eq_false (by omega)
  have d2' : decide (75 < zs.length) = false := decide_eq_false (by omega)
  rcases id ha with ⟨_, e⟩ | ⟨b, off, cap', e, hb, hcs⟩
  · rw [e] at hl1; simp at hl1
  cases e
  have HC : Hid (∀ wx : World, Below w.heap.size w wx → ∀ j, j < zs.length → wx.cell? ⟨b, off + j, none⟩ = some (.int .u8 (zs[j]?.getD 0))) := fun wx hx j hj => (hx.cell (p := ⟨b, off + j, none⟩) hb).trans (hcs j hj)
  have hi0 : (0 : Int) < (zs.length : Int) := by omega
  have hi0' : 0 < zs.length := by omega
  have c0 : (w.alloc (.cells #[.int .i64 0, .int .i64 0, .int .i64 0, .slice none 0 0] 24)).cell? ⟨b, off, none⟩ = some (.int .u8 68) := (by have := HC.out _ b0 0 hi0'; rw [Nat.add_zero, h0] at this; exact this)
  have hi9 : (9 : Int) ≤ (zs.length : Int) := by omega
  have hi9' : 9 ≤ zs.length := by omega
  have hi9c : (9 : Int) ≤ (cap : Int) := by omega
  have hi9d : 9 ≤ cap := by omega
  have hi9e : ¬ cap = 9 := by omega
  have hi11c : (11 : Int) ≤ (cap : Int) := by omega
  have hi11d : 11 ≤ cap := by omega
  have hi1e : ¬ cap = 1 := by omega
  have hi6e : ¬ cap = 6 := by omega
  have hi5c : (5 : Int) ≤ (cap : Int) := by omega
  have hi5d : 5 ≤ cap := by omega
  have hi8c : (8 : Int) ≤ (cap : Int) := by omega
  have hi8d : 8 ≤ cap := by omega
  have hi8l : (8 : Int) < (zs.length : Int) := by omega
  have hi8m : 8 < zs.length := by omega
  have hi5l : (5 : Int) < (zs.length : Int) := by omega
  have hi5m : 5 < zs.length := by omega
  have hi11l : (11 : Int) ≤ (zs.length : Int) := by omega
  have hi11m : 11 ≤ zs.length := by omega
  have hi11e : ¬ cap = 11 := by omega
  have HZ : Hid (zs.length ≤ 75) := hl2
  have HBZ : Hid (∀ z ∈ zs, 0 ≤ z ∧ z ≤ 255) := bz
  have HSU0 : Hid (∀ wx : World, Below w.heap.size w wx → Calls Try.prog 26 #[.slice (some ⟨b, off, none⟩) 9 cap] wx fun e w' => e = .returned (.int .i64 (sum16 (zs.take 9) : Int)) ∧ Below wx.heap.size wx w') := fun wx hx => by
    have h9 : (zs.take 9).length = 9 := by rw [List.length_take]; omega
    have := refSum16_any (some ⟨b, off, none⟩) cap (zs.take 9) (by omega) (fun z hz => HBZ.out z (List.mem_of_mem_take hz)) wx (holds_takeB ((ha.below hx).mono hx.size) 9 hi9')
    rw [h9] at this
    exact this
  have HN : Hid (∀ (i k c : Nat), k ≤ 4 → i + k ≤ 11 → ∀ wx : World, Below w.heap.size w wx → Calls Try.prog 29 #[.slice (some ⟨b, off + i, none⟩) k c] wx fun e w' => e = .returned (.int .i64 (beNum ((zs.drop i).take k))) ∧ wx = w') := fun i k c hk hik wx hx => num_part b off zs HBZ.out i k c hk (by omega) wx (HC.out wx hx)
  clear bz hcs h0
  go_enter Try.func17, Try.ntmps17
  go_wp2
  obtain ⟨W1, hW1⟩ : ∃ W, w.alloc (.cells #[.int .i64 0, .int .i64 0, .int .i64 0, .slice none 0 0] 24) = W := ⟨_, rfl⟩
  have hs1 : W1.heap.size = w.heap.size + 1 := by rw [← hW1]; simp
  rw [hW1] at b0 x0 c0 ⊢
  clear hW1
  obtain ⟨n1, hn1⟩ : ∃ n, W1.heap.size = n := ⟨_, rfl⟩
  have hwn : w.heap.size ≤ n1 := by omega
  have hlt1 : w.heap.size < n1 := by omega
  have HSU : Hid (∀ wx : World, Below n1 W1 wx → Calls Try.prog 26 #[.slice (some ⟨b, off, none⟩) 9 cap] wx fun e w' => e = .returned (.int .i64 (sum16 (zs.take 9) : Int)) ∧ Below n1 W1 w') := fun wx hx => (HSU0.out wx (b0.trans (hx.mono hwn))).mono (by rintro e w' ⟨rfl, hb'⟩; exact ⟨rfl, hx.trans (hb'.mono (by have := hx.size; omega))⟩)
  have HNC : Hid (∀ wx : World, Below n1 W1 wx → Calls Try.prog 29 #[.slice (some ⟨b, off + 9, none⟩) 2 (cap - 9)] wx fun e w' => e = .returned (.int .i64 (dC zs)) ∧ Below n1 W1 w') := fun wx hx => (HN.out 9 2 (cap - 9) (by decide) (by decide) wx (b0.trans (hx.mono hwn))).mono (by rintro e w' ⟨rfl, rfl⟩; exact ⟨rfl, hx⟩)
  obtain ⟨SS, hSS⟩ : ∃ x : Int, ((sum16 (zs.take 9) : Nat) : Int) = x := ⟨_, rfl⟩
  obtain ⟨CC, hCC⟩ : ∃ x : Int, dC zs = x := ⟨_, rfl⟩
  rw [hSS] at HSU
  rw [hCC] at HNC
  have DS : Hid ((SS != CC) = false) := by
    show (SS != CC) = false
    rw [← hSS, ← hCC]
    rw [bne_eq_false_iff_eq]; exact hS
  clear hSS hCC
  go_cut [24] (fun v wx => v = .bool false ∧ Below n1 W1 wx)
  case first =>
    refine wp_region_held_drew (S := fun w' => Below n1 W1 w') (by kernel_rfl) ((Below.refl _ _).drew) (fun hHeld => ?_)
    refine held_take (i := 0) (d := 18) (v := ?v11) rfl rfl (by kernel_rfl) (by kernel_rfl) (by kernel_rfl) (fun _ _ _ h => h) (Or.inl ⟨by kernel_rfl, ?hy11⟩) hHeld ?rest11
    case hy11 =>
      intro wx hSw
      clear hSw
      go_simp
      with_reducible rfl
    simp only [List.setIfInBounds_toArray, List.set_cons_zero, List.set_cons_succ]
    refine held_take (i := 1) (d := 19) (v := ?v12) rfl rfl (by kernel_rfl) (by kernel_rfl) (by kernel_rfl) (fun _ _ _ h => h) (Or.inl ⟨by kernel_rfl, ?hy12⟩) hHeld ?rest12
    case hy12 =>
      intro wx hSw
      clear hSw
      go_simp
      with_reducible rfl
    simp only [List.setIfInBounds_toArray, List.set_cons_zero, List.set_cons_succ]
    refine held_take (i := 3) (d := 21) (v := ?v13) rfl rfl (by kernel_rfl) (by kernel_rfl) (by kernel_rfl) (fun _ _ _ h => h) (Or.inl ⟨by kernel_rfl, ?hy13⟩) hHeld ?rest13
    case hy13 =>
      intro wx hSw
      clear hSw
      go_simp
      with_reducible rfl
    simp only [List.setIfInBounds_toArray, List.set_cons_zero, List.set_cons_succ]
    refine held_take (i := 4) (d := 22) (v := ?v14) rfl rfl (by kernel_rfl) (by kernel_rfl) (by kernel_rfl) (fun _ _ _ h => h) (Or.inl ⟨by kernel_rfl, ?hy14⟩) hHeld ?rest14
    case hy14 =>
      intro wx hSw
      clear hSw
      go_simp
      with_reducible rfl
    simp only [List.setIfInBounds_toArray, List.set_cons_zero, List.set_cons_succ]
    refine wpAnyH_ready (rs := [2]) (by kernel_rfl) (by simp) ?_
    refine AllReadyH.cons rfl (fun K hK => ?_) AllReadyH.nil
    go_simp
    go_wp2_with (go_at_call 26; refine (HSU.out _ (by exact hHeld)).mono ?_; rintro e wb ⟨rfl, b8⟩)
    refine hK.out _ _ (b8) (fun hHeld => ?_)
    clear hK K
    refine wpAnyH_ready (rs := [5]) (by kernel_rfl) (by simp) ?_
    refine AllReadyH.cons rfl (fun K hK => ?_) AllReadyH.nil
    go_simp
    go_wp2_with (go_at_call 29; refine (HNC.out _ (by exact hHeld)).mono ?_; rintro e wb ⟨rfl, b8⟩)
    refine hK.out _ _ (b8) (fun hHeld => ?_)
    clear hK K
    refine wpAnyH_ready (rs := [6]) (by kernel_rfl) (by simp) ?_
    refine AllReadyH.cons rfl (fun K hK => ?_) AllReadyH.nil
    go_simp
    refine hK.out _ _ hHeld (fun hHeld => ?_)
    clear hK K
    refine wpAnyH_done (by kernel_rfl) ?_ _
    go_wp2_with fail
    go_meet
    exact ⟨by rw [DS.out], hHeld⟩
  case rest =>
    obtain ⟨rfl, b4⟩ := hcut
    have bb4 := b0.trans (b4.mono hwn)
    have y4 := x0.below b4 hlt1
    clear HSU HNC DS HSU0
    have HNS := HN.out 1 4 (cap - 1) (by decide) (by decide) wc bb4
    obtain ⟨S, hSv⟩ : ∃ x : Int, beNum ((zs.drop 1).take 4) = x := ⟨_, rfl⟩
    rw [hSv] at HNS
    have hSd : dS zs = S := hSv
    have dS1 : decide (1073741824 ≤ S) = true := decide_eq_true (by omega)
    have z0 := y4.cell 0 _ rfl
    have z1 := y4.cell 1 _ rfl
    have z2 := y4.cell 2 _ rfl
    have z3 := y4.cell 3 _ rfl
    have f0 := y4.free 0
    have f1 := y4.free 1
    have f2 := y4.free 2
    have f3 := y4.free 3
    clear HN HC ha hSv hSd hq
    go_wp2_with fail
    refine HNS.mono ?_
    rintro e w5 ⟨rfl, rfl⟩
    clear HNS
    go_wp2
    exact bodyPost_ret (v := .tuple #[.agg #[.int .i64 0, .int .i64 0, .int .i64 0, .slice none 0 0], .int .i64 1]) (by simp [results, Try.results17, go_sem, z0, z1, z2, z3]) rfl ⟨rfl, below_set4 bb4 (Nat.le_refl _) _ _ _ _⟩

set_option maxRecDepth 100000 in
set_option maxHeartbeats 4000000 in
theorem refReadData_few (a : Option Addr) (cap : Nat) (zs : List Int) (hl : dLen zs) (hc : zs.length ≤ cap) (bz : ∀ z ∈ zs, 0 ≤ z ∧ z ≤ 255) (h0 : zs[0]?.getD 0 = 68) (hS : dSum zs) (hq : dS zs < 1073741824) (hm : dN zs ≠ (zs.length : Int) - 11) (w : World) (ha : Holds .u8 w.heap.size w (.slice a zs.length cap) zs) :
    Calls Try.prog 17 #[.slice a zs.length cap] w fun e w' => e = .returned (.tuple #[.agg #[.int .i64 0, .int .i64 0, .int .i64 0, .slice none 0 0], .int .i64 2]) ∧ Below w.heap.size w w' := by
  have b0 := (Below.refl w.heap.size w).alloc (Nat.le_refl _) (.cells #[.int .i64 0, .int .i64 0, .int .i64 0, .slice none 0 0] 24)
  have x0 := Box.new w 24 #[.int .i64 0, .int .i64 0, .int .i64 0, .slice none 0 0]
  obtain ⟨hl1, hl2⟩ := hl
  have d1 : decide ((zs.length : Int) < 12) = false := decide_eq_false (by omega)
  have d1' : decide (zs.length < 12) = false := decide_eq_false (by omega)
  have d2 : decide (75 < (zs.length : Int)) = false := decide_eq_false (by omega)
  have d2' : decide (75 < zs.length) = false := decide_eq_false (by omega)
  rcases id ha with ⟨_, e⟩ | ⟨b, off, cap', e, hb, hcs⟩
  · rw [e] at hl1; simp at hl1
  cases e
  have HC : Hid (∀ wx : World, Below w.heap.size w wx → ∀ j, j < zs.length → wx.cell? ⟨b, off + j, none⟩ = some (.int .u8 (zs[j]?.getD 0))) := fun wx hx j hj => (hx.cell (p := ⟨b, off + j, none⟩) hb).trans (hcs j hj)
  have hi0 : (0 : Int) < (zs.length : Int) := by omega
  have hi0' : 0 < zs.length := by omega
  have c0 : (w.alloc (.cells #[.int .i64 0, .int .i64 0, .int .i64 0, .slice none 0 0] 24)).cell? ⟨b, off, none⟩ = some (.int .u8 68) := (by have := HC.out _ b0 0 hi0'; rw [Nat.add_zero, h0] at this; exact this)
  have hi9 : (9 : Int) ≤ (zs.length : Int) := by omega
  have hi9' : 9 ≤ zs.length := by omega
  have hi9c : (9 : Int) ≤ (cap : Int) := by omega
  have hi9d : 9 ≤ cap := by omega
  have hi9e : ¬ cap = 9 := by omega
  have hi11c : (11 : Int) ≤ (cap : Int) := by omega
  have hi11d : 11 ≤ cap := by omega
  have hi1e : ¬ cap = 1 := by omega
  have hi6e : ¬ cap = 6 := by omega
  have hi5c : (5 : Int) ≤ (cap : Int) := by omega
  have hi5d : 5 ≤ cap := by omega
  have hi8c : (8 : Int) ≤ (cap : Int) := by omega
  have hi8d : 8 ≤ cap := by omega
  have hi8l : (8 : Int) < (zs.length : Int) := by omega
  have hi8m : 8 < zs.length := by omega
  have hi5l : (5 : Int) < (zs.length : Int) := by omega
  have hi5m : 5 < zs.length := by omega
  have hi11l : (11 : Int) ≤ (zs.length : Int) := by omega
  have hi11m : 11 ≤ zs.length := by omega
  have hi11e : ¬ cap = 11 := by omega
  have HZ : Hid (zs.length ≤ 75) := hl2
  have HBZ : Hid (∀ z ∈ zs, 0 ≤ z ∧ z ≤ 255) := bz
  have HSU0 : Hid (∀ wx : World, Below w.heap.size w wx → Calls Try.prog 26 #[.slice (some ⟨b, off, none⟩) 9 cap] wx fun e w' => e = .returned (.int .i64 (sum16 (zs.take 9) : Int)) ∧ Below wx.heap.size wx w') := fun wx hx => by
    have h9 : (zs.take 9).length = 9 := by rw [List.length_take]; omega
    have := refSum16_any (some ⟨b, off, none⟩) cap (zs.take 9) (by omega) (fun z hz => HBZ.out z (List.mem_of_mem_take hz)) wx (holds_takeB ((ha.below hx).mono hx.size) 9 hi9')
    rw [h9] at this
    exact this
  have HN : Hid (∀ (i k c : Nat), k ≤ 4 → i + k ≤ 11 → ∀ wx : World, Below w.heap.size w wx → Calls Try.prog 29 #[.slice (some ⟨b, off + i, none⟩) k c] wx fun e w' => e = .returned (.int .i64 (beNum ((zs.drop i).take k))) ∧ wx = w') := fun i k c hk hik wx hx => num_part b off zs HBZ.out i k c hk (by omega) wx (HC.out wx hx)
  clear bz hcs h0
  go_enter Try.func17, Try.ntmps17
  go_wp2
  obtain ⟨W1, hW1⟩ : ∃ W, w.alloc (.cells #[.int .i64 0, .int .i64 0, .int .i64 0, .slice none 0 0] 24) = W := ⟨_, rfl⟩
  have hs1 : W1.heap.size = w.heap.size + 1 := by rw [← hW1]; simp
  rw [hW1] at b0 x0 c0 ⊢
  clear hW1
  obtain ⟨n1, hn1⟩ : ∃ n, W1.heap.size = n := ⟨_, rfl⟩
  have hwn : w.heap.size ≤ n1 := by omega
  have hlt1 : w.heap.size < n1 := by omega
  have HSU : Hid (∀ wx : World, Below n1 W1 wx → Calls Try.prog 26 #[.slice (some ⟨b, off, none⟩) 9 cap] wx fun e w' => e = .returned (.int .i64 (sum16 (zs.take 9) : Int)) ∧ Below n1 W1 w') := fun wx hx => (HSU0.out wx (b0.trans (hx.mono hwn))).mono (by rintro e w' ⟨rfl, hb'⟩; exact ⟨rfl, hx.trans (hb'.mono (by have := hx.size; omega))⟩)
  have HNC : Hid (∀ wx : World, Below n1 W1 wx → Calls Try.prog 29 #[.slice (some ⟨b, off + 9, none⟩) 2 (cap - 9)] wx fun e w' => e = .returned (.int .i64 (dC zs)) ∧ Below n1 W1 w') := fun wx hx => (HN.out 9 2 (cap - 9) (by decide) (by decide) wx (b0.trans (hx.mono hwn))).mono (by rintro e w' ⟨rfl, rfl⟩; exact ⟨rfl, hx⟩)
  obtain ⟨SS, hSS⟩ : ∃ x : Int, ((sum16 (zs.take 9) : Nat) : Int) = x := ⟨_, rfl⟩
  obtain ⟨CC, hCC⟩ : ∃ x : Int, dC zs = x := ⟨_, rfl⟩
  rw [hSS] at HSU
  rw [hCC] at HNC
  have DS : Hid ((SS != CC) = false) := by
    show (SS != CC) = false
    rw [← hSS, ← hCC]
    rw [bne_eq_false_iff_eq]; exact hS
  clear hSS hCC
  go_cut [24] (fun v wx => v = .bool false ∧ Below n1 W1 wx)
  case first =>
    refine wp_region_held_drew (S := fun w' => Below n1 W1 w') (by kernel_rfl) ((Below.refl _ _).drew) (fun hHeld => ?_)
    refine held_take (i := 0) (d := 18) (v := ?v11) rfl rfl (by kernel_rfl) (by kernel_rfl) (by kernel_rfl) (fun _ _ _ h => h) (Or.inl ⟨by kernel_rfl, ?hy11⟩) hHeld ?rest11
    case hy11 =>
      intro wx hSw
      clear hSw
      go_simp
      with_reducible rfl
    simp only [List.setIfInBounds_toArray, List.set_cons_zero, List.set_cons_succ]
    refine held_take (i := 1) (d := 19) (v := ?v12) rfl rfl (by kernel_rfl) (by kernel_rfl) (by kernel_rfl) (fun _ _ _ h => h) (Or.inl ⟨by kernel_rfl, ?hy12⟩) hHeld ?rest12
    case hy12 =>
      intro wx hSw
      clear hSw
      go_simp
      with_reducible rfl
    simp only [List.setIfInBounds_toArray, List.set_cons_zero, List.set_cons_succ]
    refine held_take (i := 3) (d := 21) (v := ?v13) rfl rfl (by kernel_rfl) (by kernel_rfl) (by kernel_rfl) (fun _ _ _ h => h) (Or.inl ⟨by kernel_rfl, ?hy13⟩) hHeld ?rest13
    case hy13 =>
      intro wx hSw
      clear hSw
      go_simp
      with_reducible rfl
    simp only [List.setIfInBounds_toArray, List.set_cons_zero, List.set_cons_succ]
    refine held_take (i := 4) (d := 22) (v := ?v14) rfl rfl (by kernel_rfl) (by kernel_rfl) (by kernel_rfl) (fun _ _ _ h => h) (Or.inl ⟨by kernel_rfl, ?hy14⟩) hHeld ?rest14
    case hy14 =>
      intro wx hSw
      clear hSw
      go_simp
      with_reducible rfl
    simp only [List.setIfInBounds_toArray, List.set_cons_zero, List.set_cons_succ]
    refine wpAnyH_ready (rs := [2]) (by kernel_rfl) (by simp) ?_
    refine AllReadyH.cons rfl (fun K hK => ?_) AllReadyH.nil
    go_simp
    go_wp2_with (go_at_call 26; refine (HSU.out _ (by exact hHeld)).mono ?_; rintro e wb ⟨rfl, b8⟩)
    refine hK.out _ _ (b8) (fun hHeld => ?_)
    clear hK K
    refine wpAnyH_ready (rs := [5]) (by kernel_rfl) (by simp) ?_
    refine AllReadyH.cons rfl (fun K hK => ?_) AllReadyH.nil
    go_simp
    go_wp2_with (go_at_call 29; refine (HNC.out _ (by exact hHeld)).mono ?_; rintro e wb ⟨rfl, b8⟩)
    refine hK.out _ _ (b8) (fun hHeld => ?_)
    clear hK K
    refine wpAnyH_ready (rs := [6]) (by kernel_rfl) (by simp) ?_
    refine AllReadyH.cons rfl (fun K hK => ?_) AllReadyH.nil
    go_simp
    refine hK.out _ _ hHeld (fun hHeld => ?_)
    clear hK K
    refine wpAnyH_done (by kernel_rfl) ?_ _
    go_wp2_with fail
    go_meet
    exact ⟨by rw [DS.out], hHeld⟩
  case rest =>
    obtain ⟨rfl, b4⟩ := hcut
    have bb4 := b0.trans (b4.mono hwn)
    have y4 := x0.below b4 hlt1
    clear HSU HNC DS HSU0
    have HNS := HN.out 1 4 (cap - 1) (by decide) (by decide) wc bb4
    obtain ⟨S, hSv⟩ : ∃ x : Int, beNum ((zs.drop 1).take 4) = x := ⟨_, rfl⟩
    rw [hSv] at HNS
    have hSd : dS zs = S := hSv
    have c8 := HC.out wc bb4 8 hi8m
    obtain ⟨nn, hnn⟩ : ∃ x : Int, zs[8]?.getD 0 = x := ⟨_, rfl⟩
    rw [hnn] at c8
    have hNd : dN zs = nn := hnn
    have hn8 : 0 ≤ nn ∧ nn ≤ 255 := by
      rw [← hnn, List.getElem?_eq_getElem hi8m]
      exact HBZ.out _ (List.getElem_mem hi8m)
    have ewn : IntKind.i64.wrap nn = nn := by rw [IntKind.wrap_i64]; omega
    have dS1 : decide (1073741824 ≤ S) = false := decide_eq_false (by omega)
    have dn8 : (nn != (zs.length : Int) - 11) = true := by rw [bne_iff_ne]; omega
    have z0 := y4.cell 0 _ rfl
    have z1 := y4.cell 1 _ rfl
    have z2 := y4.cell 2 _ rfl
    have z3 := y4.cell 3 _ rfl
    have f0 := y4.free 0
    have f1 := y4.free 1
    have f2 := y4.free 2
    have f3 := y4.free 3
    clear HN HC ha hSv hSd hq hm hNd hnn
    go_wp2_with fail
    refine HNS.mono ?_
    rintro e w5 ⟨rfl, rfl⟩
    clear HNS
    go_wp2
    exact bodyPost_ret (v := .tuple #[.agg #[.int .i64 0, .int .i64 0, .int .i64 0, .slice none 0 0], .int .i64 2]) (by simp [results, Try.results17, go_sem, z0, z1, z2, z3]) rfl ⟨rfl, below_set4 bb4 (Nat.le_refl _) _ _ _ _⟩

set_option maxRecDepth 100000 in
set_option maxHeartbeats 4000000 in
theorem refReadData_ok (a : Option Addr) (cap : Nat) (zs : List Int) (hl : dLen zs) (hc : zs.length ≤ cap) (bz : ∀ z ∈ zs, 0 ≤ z ∧ z ≤ 255) (h0 : zs[0]?.getD 0 = 68) (hS : dSum zs) (hq : dS zs < 1073741824) (hm : dN zs = (zs.length : Int) - 11) (w : World) (ha : Holds .u8 w.heap.size w (.slice a zs.length cap) zs) :
    Calls Try.prog 17 #[.slice a zs.length cap] w fun e W' => ∃ ra rc, e = .returned (.tuple #[.agg #[.int .i64 (dS zs), .int .i64 (dR zs), .int .i64 (dF zs), .slice ra (dX zs).length rc], .int .i64 0]) ∧ W'.ownsRow (w.heap.size + 1) 5 1 (.slice ra (dX zs).length rc) (dX zs).length ((dX zs).map (Value.int .u8)) ∧ Below w.heap.size w W' := by
  have HTW0 : Hid (∀ wx : World, Below w.heap.size w wx → Calls Try.prog 9 #[.slice (match a with | some ad => some (ad.add 11) | none => none) (zs.length - 11) (cap - 11)] wx fun e W' => ∃ r, e = .returned r ∧ W'.ownsRow wx.heap.size 5 1 r (dX zs).length ((dX zs).map (Value.int .u8)) ∧ Below wx.heap.size wx W') := fun wx hx => by
    have hX : (dX zs).length = zs.length - 11 := by unfold dX; rw [List.length_drop]
    refine twin_any _ (dX zs) wx.heap.size (by rw [hX]; have := hl.2; omega) wx ?_
    rcases ha with ⟨_, e⟩ | ⟨b, off, cap', e, hb, hcs⟩
    · have := hl.1; rw [e] at this; simp at this
    · cases e
      refine .inr ⟨b, off + 11, cap - 11, by rw [hX]; rfl, by have := hx.size; omega, fun j hj => ?_⟩
      rw [hX] at hj
      rw [Nat.add_assoc, (hx.cell (p := ⟨b, off + (11 + j), none⟩) hb).trans (hcs (11 + j) (by omega))]
      unfold dX
      rw [List.getElem?_drop]
  have HXL : Hid ((dX zs).length = zs.length - 11) := by show (dX zs).length = _; unfold dX; rw [List.length_drop]
  have b0 := (Below.refl w.heap.size w).alloc (Nat.le_refl _) (.cells #[.int .i64 0, .int .i64 0, .int .i64 0, .slice none 0 0] 24)
  have x0 := Box.new w 24 #[.int .i64 0, .int .i64 0, .int .i64 0, .slice none 0 0]
  obtain ⟨hl1, hl2⟩ := hl
  have d1 : decide ((zs.length : Int) < 12) = false := decide_eq_false (by omega)
  have d1' : decide (zs.length < 12) = false := decide_eq_false (by omega)
  have d2 : decide (75 < (zs.length : Int)) = false := decide_eq_false (by omega)
  have d2' : decide (75 < zs.length) = false := decide_eq_false (by omega)
  rcases id ha with ⟨_, e⟩ | ⟨b, off, cap', e, hb, hcs⟩
  · rw [e] at hl1; simp at hl1
  cases e
  have HC : Hid (∀ wx : World, Below w.heap.size w wx → ∀ j, j < zs.length → wx.cell? ⟨b, off + j, none⟩ = some (.int .u8 (zs[j]?.getD 0))) := fun wx hx j hj => (hx.cell (p := ⟨b, off + j, none⟩) hb).trans (hcs j hj)
  have hi0 : (0 : Int) < (zs.length : Int) := by omega
  have hi0' : 0 < zs.length := by omega
  have c0 : (w.alloc (.cells #[.int .i64 0, .int .i64 0, .int .i64 0, .slice none 0 0] 24)).cell? ⟨b, off, none⟩ = some (.int .u8 68) := (by have := HC.out _ b0 0 hi0'; rw [Nat.add_zero, h0] at this; exact this)
  have hi9 : (9 : Int) ≤ (zs.length : Int) := by omega
  have hi9' : 9 ≤ zs.length := by omega
  have hi9c : (9 : Int) ≤ (cap : Int) := by omega
  have hi9d : 9 ≤ cap := by omega
  have hi9e : ¬ cap = 9 := by omega
  have hi11c : (11 : Int) ≤ (cap : Int) := by omega
  have hi11d : 11 ≤ cap := by omega
  have hi1e : ¬ cap = 1 := by omega
  have hi6e : ¬ cap = 6 := by omega
  have hi5c : (5 : Int) ≤ (cap : Int) := by omega
  have hi5d : 5 ≤ cap := by omega
  have hi8c : (8 : Int) ≤ (cap : Int) := by omega
  have hi8d : 8 ≤ cap := by omega
  have hi8l : (8 : Int) < (zs.length : Int) := by omega
  have hi8m : 8 < zs.length := by omega
  have hi5l : (5 : Int) < (zs.length : Int) := by omega
  have hi5m : 5 < zs.length := by omega
  have hi11l : (11 : Int) ≤ (zs.length : Int) := by omega
  have hi11m : 11 ≤ zs.length := by omega
  have hi11e : ¬ cap = 11 := by omega
  have HZ : Hid (zs.length ≤ 75) := hl2
  have HBZ : Hid (∀ z ∈ zs, 0 ≤ z ∧ z ≤ 255) := bz
  have HSU0 : Hid (∀ wx : World, Below w.heap.size w wx → Calls Try.prog 26 #[.slice (some ⟨b, off, none⟩) 9 cap] wx fun e w' => e = .returned (.int .i64 (sum16 (zs.take 9) : Int)) ∧ Below wx.heap.size wx w') := fun wx hx => by
    have h9 : (zs.take 9).length = 9 := by rw [List.length_take]; omega
    have := refSum16_any (some ⟨b, off, none⟩) cap (zs.take 9) (by omega) (fun z hz => HBZ.out z (List.mem_of_mem_take hz)) wx (holds_takeB ((ha.below hx).mono hx.size) 9 hi9')
    rw [h9] at this
    exact this
  have HN : Hid (∀ (i k c : Nat), k ≤ 4 → i + k ≤ 11 → ∀ wx : World, Below w.heap.size w wx → Calls Try.prog 29 #[.slice (some ⟨b, off + i, none⟩) k c] wx fun e w' => e = .returned (.int .i64 (beNum ((zs.drop i).take k))) ∧ wx = w') := fun i k c hk hik wx hx => num_part b off zs HBZ.out i k c hk (by omega) wx (HC.out wx hx)
  clear bz hcs h0
  go_enter Try.func17, Try.ntmps17
  go_wp2
  obtain ⟨W1, hW1⟩ : ∃ W, w.alloc (.cells #[.int .i64 0, .int .i64 0, .int .i64 0, .slice none 0 0] 24) = W := ⟨_, rfl⟩
  have hs1 : W1.heap.size = w.heap.size + 1 := by rw [← hW1]; simp
  rw [hW1] at b0 x0 c0 ⊢
  clear hW1
  obtain ⟨n1, hn1⟩ : ∃ n, W1.heap.size = n := ⟨_, rfl⟩
  have hwn : w.heap.size ≤ n1 := by omega
  have hlt1 : w.heap.size < n1 := by omega
  have HSU : Hid (∀ wx : World, Below n1 W1 wx → Calls Try.prog 26 #[.slice (some ⟨b, off, none⟩) 9 cap] wx fun e w' => e = .returned (.int .i64 (sum16 (zs.take 9) : Int)) ∧ Below n1 W1 w') := fun wx hx => (HSU0.out wx (b0.trans (hx.mono hwn))).mono (by rintro e w' ⟨rfl, hb'⟩; exact ⟨rfl, hx.trans (hb'.mono (by have := hx.size; omega))⟩)
  have HNC : Hid (∀ wx : World, Below n1 W1 wx → Calls Try.prog 29 #[.slice (some ⟨b, off + 9, none⟩) 2 (cap - 9)] wx fun e w' => e = .returned (.int .i64 (dC zs)) ∧ Below n1 W1 w') := fun wx hx => (HN.out 9 2 (cap - 9) (by decide) (by decide) wx (b0.trans (hx.mono hwn))).mono (by rintro e w' ⟨rfl, rfl⟩; exact ⟨rfl, hx⟩)
  obtain ⟨SS, hSS⟩ : ∃ x : Int, ((sum16 (zs.take 9) : Nat) : Int) = x := ⟨_, rfl⟩
  obtain ⟨CC, hCC⟩ : ∃ x : Int, dC zs = x := ⟨_, rfl⟩
  rw [hSS] at HSU
  rw [hCC] at HNC
  have DS : Hid ((SS != CC) = false) := by
    show (SS != CC) = false
    rw [← hSS, ← hCC]
    rw [bne_eq_false_iff_eq]; exact hS
  clear hSS hCC
  go_cut [24] (fun v wx => v = .bool false ∧ Below n1 W1 wx)
  case first =>
    refine wp_region_held_drew (S := fun w' => Below n1 W1 w') (by kernel_rfl) ((Below.refl _ _).drew) (fun hHeld => ?_)
    refine held_take (i := 0) (d := 18) (v := ?v11) rfl rfl (by kernel_rfl) (by kernel_rfl) (by kernel_rfl) (fun _ _ _ h => h) (Or.inl ⟨by kernel_rfl, ?hy11⟩) hHeld ?rest11
    case hy11 =>
      intro wx hSw
      clear hSw
      go_simp
      with_reducible rfl
    simp only [List.setIfInBounds_toArray, List.set_cons_zero, List.set_cons_succ]
    refine held_take (i := 1) (d := 19) (v := ?v12) rfl rfl (by kernel_rfl) (by kernel_rfl) (by kernel_rfl) (fun _ _ _ h => h) (Or.inl ⟨by kernel_rfl, ?hy12⟩) hHeld ?rest12
    case hy12 =>
      intro wx hSw
      clear hSw
      go_simp
      with_reducible rfl
    simp only [List.setIfInBounds_toArray, List.set_cons_zero, List.set_cons_succ]
    refine held_take (i := 3) (d := 21) (v := ?v13) rfl rfl (by kernel_rfl) (by kernel_rfl) (by kernel_rfl) (fun _ _ _ h => h) (Or.inl ⟨by kernel_rfl, ?hy13⟩) hHeld ?rest13
    case hy13 =>
      intro wx hSw
      clear hSw
      go_simp
      with_reducible rfl
    simp only [List.setIfInBounds_toArray, List.set_cons_zero, List.set_cons_succ]
    refine held_take (i := 4) (d := 22) (v := ?v14) rfl rfl (by kernel_rfl) (by kernel_rfl) (by kernel_rfl) (fun _ _ _ h => h) (Or.inl ⟨by kernel_rfl, ?hy14⟩) hHeld ?rest14
    case hy14 =>
      intro wx hSw
      clear hSw
      go_simp
      with_reducible rfl
    simp only [List.setIfInBounds_toArray, List.set_cons_zero, List.set_cons_succ]
    refine wpAnyH_ready (rs := [2]) (by kernel_rfl) (by simp) ?_
    refine AllReadyH.cons rfl (fun K hK => ?_) AllReadyH.nil
    go_simp
    go_wp2_with (go_at_call 26; refine (HSU.out _ (by exact hHeld)).mono ?_; rintro e wb ⟨rfl, b8⟩)
    refine hK.out _ _ (b8) (fun hHeld => ?_)
    clear hK K
    refine wpAnyH_ready (rs := [5]) (by kernel_rfl) (by simp) ?_
    refine AllReadyH.cons rfl (fun K hK => ?_) AllReadyH.nil
    go_simp
    go_wp2_with (go_at_call 29; refine (HNC.out _ (by exact hHeld)).mono ?_; rintro e wb ⟨rfl, b8⟩)
    refine hK.out _ _ (b8) (fun hHeld => ?_)
    clear hK K
    refine wpAnyH_ready (rs := [6]) (by kernel_rfl) (by simp) ?_
    refine AllReadyH.cons rfl (fun K hK => ?_) AllReadyH.nil
    go_simp
    refine hK.out _ _ hHeld (fun hHeld => ?_)
    clear hK K
    refine wpAnyH_done (by kernel_rfl) ?_ _
    go_wp2_with fail
    go_meet
    exact ⟨by rw [DS.out], hHeld⟩
  case rest =>
    obtain ⟨rfl, b4⟩ := hcut
    have bb4 := b0.trans (b4.mono hwn)
    have y4 := x0.below b4 hlt1
    clear HSU HNC DS HSU0
    have HNS := HN.out 1 4 (cap - 1) (by decide) (by decide) wc bb4
    obtain ⟨S, hSv⟩ : ∃ x : Int, beNum ((zs.drop 1).take 4) = x := ⟨_, rfl⟩
    rw [hSv] at HNS
    have hSd : dS zs = S := hSv
    have c8 := HC.out wc bb4 8 hi8m
    obtain ⟨nn, hnn⟩ : ∃ x : Int, zs[8]?.getD 0 = x := ⟨_, rfl⟩
    rw [hnn] at c8
    have hNd : dN zs = nn := hnn
    have hn8 : 0 ≤ nn ∧ nn ≤ 255 := by
      rw [← hnn, List.getElem?_eq_getElem hi8m]
      exact HBZ.out _ (List.getElem_mem hi8m)
    have ewn : IntKind.i64.wrap nn = nn := by rw [IntKind.wrap_i64]; omega
    have dS1 : decide (1073741824 ≤ S) = false := decide_eq_false (by omega)
    have dn8 : (nn != (zs.length : Int) - 11) = false := by rw [bne_eq_false_iff_eq]; omega
    have HN1 : Hid (∀ wx : World, Below w.heap.size w wx → Calls Try.prog 29 #[.slice (some ⟨b, off + 1, none⟩) 4 (cap - 1)] wx fun e w' => e = .returned (.int .i64 S) ∧ wx = w') := fun wx hx => by
      have := HN.out 1 4 (cap - 1) (by decide) (by decide) wx hx
      rw [hSv] at this
      exact this
    obtain ⟨FF, hFF⟩ : ∃ x : Int, dF zs = x := ⟨_, rfl⟩
    have HN6 : Hid (∀ wx : World, Below w.heap.size w wx → Calls Try.prog 29 #[.slice (some ⟨b, off + 6, none⟩) 2 (cap - 6)] wx fun e w' => e = .returned (.int .i64 FF) ∧ wx = w') := fun wx hx => by
      have := HN.out 6 2 (cap - 6) (by decide) (by decide) wx hx
      rw [show beNum ((zs.drop 6).take 2) = FF from hFF] at this
      exact this
    obtain ⟨R, hR⟩ : ∃ x : Int, dR zs = x := ⟨_, rfl⟩
    have HC5 : Hid (∀ wx : World, Below w.heap.size w wx → wx.cell? ⟨b, off + 5, none⟩ = some (.int .u8 R)) := fun wx hx => by
      have := HC.out wx hx 5 hi5m
      rw [show zs[5]?.getD 0 = R from hR] at this
      exact this
    have hR8 : 0 ≤ R ∧ R ≤ 255 := by
      rw [← hR]; unfold dR
      rw [List.getElem?_eq_getElem hi5m]
      exact HBZ.out _ (List.getElem_mem hi5m)
    have ewR : IntKind.i64.wrap R = R := by rw [IntKind.wrap_i64]; omega
    have HTW : Hid (∀ wx : World, Below w.heap.size w wx → Calls Try.prog 9 #[.slice (some ⟨b, off + 11, none⟩) (zs.length - 11) (cap - 11)] wx fun e W' => ∃ r, e = .returned r ∧ W'.ownsRow wx.heap.size 5 1 r (zs.length - 11) ((dX zs).map (Value.int .u8)) ∧ Below wx.heap.size wx W') := by
      have := HTW0.out
      rw [HXL.out] at this
      exact this
    have HSd : Hid (dS zs = S) := hSd
    have HRd : Hid (dR zs = R) := hR
    have HFd : Hid (dF zs = FF) := hFF
    clear HN HC ha hSv hSd hq hm hNd hnn hFF hR HTW0
    go_wp2_with fail
    refine HNS.mono ?_
    rintro e w5 ⟨rfl, rfl⟩
    clear HNS
    go_wp2
    refine wp_region_held_drew (S := fun w' => Below w.heap.size w w') (by kernel_rfl) (bb4.drew) (fun hHeld => ?_)
    replace y4 : Box wc.drew w.heap.size 24 #[.int .i64 0, .int .i64 0, .int .i64 0, .slice none 0 0] := y4
    generalize wc.drew = wk0 at *
    refine held_take (i := 0) (d := 40) (v := ?v15) rfl rfl (by kernel_rfl) (by kernel_rfl) (by kernel_rfl) (fun _ _ _ h => h) (Or.inl ⟨by kernel_rfl, ?hy15⟩) hHeld ?rest15
    case hy15 =>
      intro wx hSw
      clear hSw
      go_simp
      with_reducible rfl
    simp only [List.setIfInBounds_toArray, List.set_cons_zero, List.set_cons_succ]
    refine held_take (i := 1) (d := 41) (v := ?v16) rfl rfl (by kernel_rfl) (by kernel_rfl) (by kernel_rfl) (fun _ _ _ h => h) (Or.inl ⟨by kernel_rfl, ?hy16⟩) hHeld ?rest16
    case hy16 =>
      intro wx hSw
      clear hSw
      go_simp
      with_reducible rfl
    simp only [List.setIfInBounds_toArray, List.set_cons_zero, List.set_cons_succ]
    refine held_take (i := 3) (d := 43) (v := ?v17) rfl rfl (by kernel_rfl) (by kernel_rfl) (by kernel_rfl) (fun _ _ _ h => h) (Or.inl ⟨by kernel_rfl, ?hy17⟩) hHeld ?rest17
    case hy17 =>
      intro wx hSw
      clear hSw
      go_simp
      with_reducible rfl
    simp only [List.setIfInBounds_toArray, List.set_cons_zero, List.set_cons_succ]
    refine held_take (i := 4) (d := 44) (v := ?v18) rfl rfl (by kernel_rfl) (by kernel_rfl) (by kernel_rfl) (fun _ _ _ h => h) (Or.inl ⟨by kernel_rfl, ?hy18⟩) hHeld ?rest18
    case hy18 =>
      intro wx hSw
      clear hSw
      go_simp
      with_reducible rfl
    simp only [List.setIfInBounds_toArray, List.set_cons_zero, List.set_cons_succ]
    refine held_take (i := 5) (d := 45) (v := ?v19) rfl rfl (by kernel_rfl) (by kernel_rfl) (by kernel_rfl) (fun _ _ _ h => h) (Or.inl ⟨by kernel_rfl, ?hy19⟩) hHeld ?rest19
    case hy19 =>
      intro wx hSw
      have q0 := HC5.out wx hSw
      clear hSw
      go_simp
      with_reducible rfl
    simp only [List.setIfInBounds_toArray, List.set_cons_zero, List.set_cons_succ]
    refine held_take (i := 6) (d := 46) (v := ?v20) rfl rfl (by kernel_rfl) (by kernel_rfl) (by kernel_rfl) (fun _ _ _ h => h) (Or.inl ⟨by kernel_rfl, ?hy20⟩) hHeld ?rest20
    case hy20 =>
      intro wx hSw
      clear hSw
      go_simp
      with_reducible rfl
    simp only [List.setIfInBounds_toArray, List.set_cons_zero, List.set_cons_succ]
    refine held_take (i := 7) (d := 47) (v := ?v21) rfl rfl (by kernel_rfl) (by kernel_rfl) (by kernel_rfl) (fun _ _ _ h => h) (Or.inl ⟨by kernel_rfl, ?hy21⟩) hHeld ?rest21
    case hy21 =>
      intro wx hSw
      clear hSw
      go_simp
      with_reducible rfl
    simp only [List.setIfInBounds_toArray, List.set_cons_zero, List.set_cons_succ]
    refine held_take (i := 8) (d := 48) (v := ?v22) rfl rfl (by kernel_rfl) (by kernel_rfl) (by kernel_rfl) (fun _ _ _ h => h) (Or.inl ⟨by kernel_rfl, ?hy22⟩) hHeld ?rest22
    case hy22 =>
      intro wx hSw
      clear hSw
      go_simp
      with_reducible rfl
    simp only [List.setIfInBounds_toArray, List.set_cons_zero, List.set_cons_succ]
    refine held_take (i := 10) (d := 50) (v := ?v23) rfl rfl (by kernel_rfl) (by kernel_rfl) (by kernel_rfl) (fun _ _ _ h => h) (Or.inl ⟨by kernel_rfl, ?hy23⟩) hHeld ?rest23
    case hy23 =>
      intro wx hSw
      clear hSw
      go_simp
      with_reducible rfl
    simp only [List.setIfInBounds_toArray, List.set_cons_zero, List.set_cons_succ]
    refine held_take (i := 11) (d := 51) (v := ?v24) rfl rfl (by kernel_rfl) (by kernel_rfl) (by kernel_rfl) (fun _ _ _ h => h) (Or.inl ⟨by kernel_rfl, ?hy24⟩) hHeld ?rest24
    case hy24 =>
      intro wx hSw
      clear hSw
      go_simp
      with_reducible rfl
    simp only [List.setIfInBounds_toArray, List.set_cons_zero, List.set_cons_succ]
    refine wpAnyH_ready (rs := [2]) (by kernel_rfl) (by simp) ?_
    refine AllReadyH.cons rfl (fun K hK => ?_) AllReadyH.nil
    go_simp
    go_wp2_with (go_at_call 29; refine (HN1.out _ (by exact hHeld)).mono ?_; rintro e wb ⟨rfl, rfl⟩)
    refine hK.out _ _ (hHeld) (fun hHeld => ?_)
    clear hK K
    refine wpAnyH_ready (rs := [9]) (by kernel_rfl) (by simp) ?_
    refine AllReadyH.cons rfl (fun K hK => ?_) AllReadyH.nil
    go_simp
    go_wp2_with (go_at_call 29; refine (HN6.out _ (by exact hHeld)).mono ?_; rintro e wb ⟨rfl, rfl⟩)
    refine hK.out _ _ (hHeld) (fun hHeld => ?_)
    clear hK K
    refine wpAnyH_ready (rs := [12]) (by kernel_rfl) (by simp) ?_
    refine AllReadyH.cons rfl (fun K hK => ?_) AllReadyH.nil
    go_simp
    go_wp2_with (go_at_call 9; refine (HTW.out _ (by exact hHeld)).mono ?_; rintro e wt ⟨qv, rfl, oq, b8⟩)
    obtain ⟨qa, qc, rfl⟩ := row_shapeP oq
    have y5 := y4.next b8
    have hS5 := hHeld.trans (b8.mono hHeld.size)
    have hlt5 := y4.lt
    have z0 := y5.cell 0 _ rfl
    have z1 := y5.cell 1 _ rfl
    have z2 := y5.cell 2 _ rfl
    have z3 := y5.cell 3 _ rfl
    have f0 := y5.free 0
    have f1 := y5.free 1
    have f2 := y5.free 2
    have f3 := y5.free 3
    refine hK.out _ _ (hS5) (fun hHeld => ?_)
    clear hK K
    refine held_take (i := 13) (d := 53) (v := ?v25) rfl rfl (by kernel_rfl) (by kernel_rfl) (by kernel_rfl) (fun _ _ _ h => h) (Or.inl ⟨by kernel_rfl, ?hy25⟩) hHeld ?rest25
    case hy25 =>
      intro wx hSw
      clear hSw
      go_simp
      with_reducible rfl
    simp only [List.setIfInBounds_toArray, List.set_cons_zero, List.set_cons_succ]
    refine wpAnyH_ready (rs := [14]) (by kernel_rfl) (by simp) ?_
    refine AllReadyH.cons rfl (fun K hK => ?_) AllReadyH.nil
    go_simp
    refine hK.out _ _ (below_set4 hS5 (Nat.le_refl _) _ _ _ _) (fun hHeld => ?_)
    clear hK K
    refine wpAnyH_ready (rs := [15]) (by kernel_rfl) (by simp) ?_
    refine AllReadyH.cons rfl (fun K hK => ?_) AllReadyH.nil
    go_simp
    refine hK.out _ _ hHeld (fun hHeld => ?_)
    clear hK K
    refine wpAnyH_done (by kernel_rfl) ?_ _
    go_wp2
    refine bodyPost_ret (v := .tuple #[.agg #[.int .i64 S, .int .i64 R, .int .i64 FF, .slice qa (zs.length - 11) qc], .int .i64 0]) (by simp [results, Try.results17, go_sem, z0, z1, z2, z3]) rfl ⟨qa, qc, ?_, ?_, below_set4 hS5 (Nat.le_refl _) _ _ _ _⟩
    · rw [HXL.out, HSd.out, HRd.out, HFd.out]
    · rw [HXL.out]
      refine row_set4 (row_base oq ?_) ?_ _ _ _ _
      · exact hlt5
      · exact Nat.lt_succ_self _

theorem refReadData_no (a : Option Addr) (cap : Nat) (zs : List Int) (hc : zs.length ≤ cap) (bz : ∀ z ∈ zs, 0 ≤ z ∧ z ≤ 255) (E : Int) (h : badD zs E) (w : World) (ha : Holds .u8 w.heap.size w (.slice a zs.length cap) zs) :
    Calls Try.prog 17 #[.slice a zs.length cap] w fun e w' => e = .returned (.tuple #[.agg #[.int .i64 0, .int .i64 0, .int .i64 0, .slice none 0 0], .int .i64 E]) ∧ Below w.heap.size w w' := by
  rcases h with ⟨h1, rfl⟩ | ⟨h1, h2, rfl⟩ | ⟨h1, h2, h3, rfl⟩ | ⟨h1, h2, h3, h4, rfl⟩ | ⟨h1, h2, h3, h4, h5, rfl⟩
  · exact refReadData_len a _ cap (by unfold dLen at h1; omega) w
  · exact refReadData_kind a cap zs h1 hc bz h2 w ha
  · exact refReadData_sum a cap zs h1 hc bz h2 h3 w ha
  · exact refReadData_seq a cap zs h1 hc bz h2 h3 h4 w ha
  · exact refReadData_few a cap zs h1 hc bz h2 h3 h4 h5 w ha
theorem refReadData_yes (a : Option Addr) (cap : Nat) (zs : List Int) (hc : zs.length ≤ cap) (bz : ∀ z ∈ zs, 0 ≤ z ∧ z ≤ 255) (h : okD zs) (w : World) (ha : Holds .u8 w.heap.size w (.slice a zs.length cap) zs) :
    Calls Try.prog 17 #[.slice a zs.length cap] w fun e W' => ∃ ra rc, e = .returned (.tuple #[.agg #[.int .i64 (dS zs), .int .i64 (dR zs), .int .i64 (dF zs), .slice ra (dX zs).length rc], .int .i64 0]) ∧ Holds .u8 W'.heap.size W' (.slice ra (dX zs).length rc) (dX zs) ∧ Below w.heap.size w W' := by
  refine (refReadData_ok a cap zs h.1 hc bz h.2.1 h.2.2.1 h.2.2.2.1 h.2.2.2.2 w ha).mono ?_
  rintro e W' ⟨ra, rc, rfl, o, b⟩
  exact ⟨ra, rc, rfl, holds_of_row o, b⟩

end Go.Proofs.Ytpfhnefgibiedaa
