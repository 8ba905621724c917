/-
  SchedAll: whatever the numbers, the law answers true, and nothing that lay has turned.
-/
import Derived.Test.YthmhlkgipidnoaaDoorSchedWakes
namespace Go.Proofs.YthmhlkgipidnoaaDoor
open Go.RowKit

theorem infoBool : (Tryd.prog.info? 4).map (fun i => (i.zero, i.size, i.bytes)) = some (some (.bool false), 1, 1) := by kernel_rfl

/-- Block g holds, of each of n places, whether f says so; none of it is frozen. -/
def BoolRow (W : World) (g n : Nat) (f : Nat → Bool) : Prop := g < W.heap.size ∧ (∀ q, q < n → W.cell? ⟨g, q, none⟩ = some (.bool (f q))) ∧ ∀ q, W.frozen? ⟨g, q, none⟩ = false
theorem BoolRow.set {W : World} {g n : Nat} {f f' : Nat → Bool} (h : BoolRow W g n f) (k : Nat) (hk : k < n) (v : Bool) (hf : ∀ q, f' q = if q = k then v else f q) : BoolRow (W.setCell ⟨g, k, none⟩ (.bool v)) g n f' := by
  refine ⟨by simpa [World.setCell] using h.1, fun q hq => ?_, fun q => by rw [World.frozen?_setCell]; exact h.2.2 q⟩
  rw [hf q]
  by_cases e : q = k
  · subst e
    rw [World.cell?_setCell_same' _ _ _ (by rw [h.2.1 q hq]; rfl), if_pos rfl]
  · rw [World.cell?_setCell_other _ _ _ _ (by intro e'; cases e'; exact e rfl), h.2.1 q hq, if_neg e]
theorem BoolRow.below {W W' : World} {g n m : Nat} {f : Nat → Bool} (h : BoolRow W g n f) (hb : Below m W W') (hg : g < m) : BoolRow W' g n f := by
  refine ⟨Nat.lt_of_lt_of_le h.1 hb.size, fun q hq => (hb.cell (p := ⟨g, q, none⟩) hg).trans (h.2.1 q hq), fun q => ?_⟩
  have e : W'.frozen? ⟨g, q, none⟩ = W.frozen? ⟨g, q, none⟩ := by unfold World.frozen?; rw [hb.block g hg]
  rw [e]; exact h.2.2 q
theorem boolRow_made {w : World} {base g n : Nat} (h : w.ownsRow base 4 1 (.slice (some ⟨g, 0, none⟩) n n) n (madeCells (Value.bool false).cells (n * 1)).toList) : BoolRow w g n (fun _ => false) := by
  rw [show (Value.bool false).cells = #[.bool false] from rfl, toList_madeCells_one, Nat.mul_one] at h
  rcases h.2 with ⟨e, _⟩ | ⟨g', c, cur, e, _, hg, _⟩
  · cases e
  · cases e
    refine ⟨(Array.getElem?_eq_some_iff.1 hg).1, fun q hq => ?_, fun q => by simp [World.frozen?, hg]⟩
    have := h.cells (g := g) rfl q (.bool false) (by simp [hq])
    rw [Addr.add_lit, Nat.zero_add] at this
    exact this

/-- Was it among the first i? -/
def seenTo (n i q : Nat) : Bool := decide (q ∈ (orderN n).take i)
theorem seenTo_next {n i x : Nat} (h : (orderN n)[i]? = some x) (q : Nat) : seenTo n (i + 1) q = if q = x then true else seenTo n i q := by
  unfold seenTo
  rw [List.take_add_one, h]
  by_cases e : q = x
  · subst e; simp
  · simp [e]
theorem seenTo_not {n i x : Nat} (hn : n < 65) (h : (orderN n)[i]? = some x) : seenTo n i x = false := by
  unfold seenTo
  rw [decide_eq_false]
  intro hm
  obtain ⟨j, hj⟩ := List.getElem?_of_mem hm
  have hlt := (List.getElem?_eq_some_iff.1 hj).1
  rw [List.length_take] at hlt
  rw [List.getElem?_take, if_pos (by omega)] at hj
  have := order_inj hn hj h
  omega

set_option maxRecDepth 100000 in
set_option maxHeartbeats 8000000 in
theorem schedAll_walk (a0 a1 : Int) (w : World) (hF : Firsts w) : Calls Tryd.prog 4 #[.int .i64 a0, .int .i64 a1] w fun e w' => e = .returned (.bool true) ∧ Below w.heap.size w w' := by
  obtain ⟨i0, hi, hz0, hz1, hz2⟩ := info_parts infoBool
  obtain ⟨p, hp, et⟩ := at_place a0 64 (by decide)
  obtain ⟨s, hs, es⟩ := at_place a1 16 (by decide)
  have en : (1 : Int) + (p : Int) = ((1 + p : Nat) : Int) := by omega
  obtain ⟨n, hne⟩ : ∃ n, 1 + p = n := ⟨_, rfl⟩
  have h1 : 1 ≤ n := by omega
  have hn : n < 65 := by omega
  have hs16 : s < 16 := by omega
  rw [hne] at en
  have hsn : s * n ≤ 15 * 64 := Nat.mul_le_mul (by omega) (by omega)
  have em : (s : Int) * (n : Int) = ((s * n : Nat) : Int) := by simp
  have HSN : Hid (∀ k, k < n → s * n + k < n * 16 ∧ (s * n + k) % n = k ∧ (s * n + k) / n = s) := fun k hk => by
    refine ⟨?_, ?_, ?_⟩
    · have : s * n ≤ 15 * n := Nat.mul_le_mul_right _ (by omega)
      omega
    · rw [Nat.mul_comm, Nat.mul_add_mod, Nat.mod_eq_of_lt hk]
    · rw [Nat.mul_comm, Nat.mul_add_div (by omega), Nat.div_eq_of_lt hk, Nat.add_zero]
  obtain ⟨m, hm⟩ : ∃ m, s * n = m := ⟨_, rfl⟩
  have HM : Hid (s * n = m) := hm
  rw [hm] at em hsn HSN
  clear hne hp hs hm
  have nn : ((n : Int) != (n : Int)) = false := by simp
  go_enter Tryd.func4, Tryd.ntmps4
  go_wp2_with fail
  refine (Order_ok n h1 hn w hF).mono ?_
  rintro e w1 ⟨r, rfl, o, b1⟩
  obtain ⟨g, cap, rfl, hg, hg', hc⟩ := order_cell h1 o
  have HC : Hid _ := hc
  clear o hc
  go_wp2_with (at_make; refine wpList_make_full _ rfl _ _ 37 rfl w1.heap.size 4 i0 (.bool false) 1 Tryd.underlying37 hi hz0 hz1 .i64 .i64 _ _ n rfl rfl rfl rfl (by rw [hz2]; omega) (by unfold maxLen; omega) (Nat.le_refl _) ?_; intro w2 hown2 hgrow2)
  have b2 : Below w1.heap.size w1 w2 := (Below.refl _ w1).grown hgrow2 (Nat.le_refl _) (fun k e => by cases e)
  have hR2 : BoolRow w2 w1.heap.size n (seenTo n 0) := by
    have h := boolRow_made hown2
    refine ⟨h.1, fun q hq => ?_, h.2.2⟩
    rw [h.2.1 q hq]
    rfl
  clear hown2 hgrow2
  go_loopw [8] (fun i wr => ∃ k : Nat, k ≤ n ∧ i = .int .i64 k ∧ BoolRow wr w1.heap.size n (seenTo n k) ∧ Below w1.heap.size w1 wr) (fun i _ => n - (intOf i).toNat)
  case atStart => exact ⟨0, by omega, rfl, hR2, b2⟩
  case round =>
    clear hR2 b2
    obtain ⟨k, hk, rfl, hR, hbw⟩ := hrel
    by_cases hlt : k < n
    · obtain ⟨x, hx, hxn⟩ := orderN_get hn hlt
      have c0 := HC.out k x hx
      have c1 : wr.cell? ⟨g, k, none⟩ = some (.int .i64 (x : Int)) := (hbw.cell (p := ⟨g, k, none⟩) hg').trans c0
      have c2 : wr.cell? ⟨w1.heap.size, x, none⟩ = some (.bool false) := by rw [hR.2.1 x hxn, seenTo_not hn hx]
      have f2 := hR.2.2 x
      have hR3 : BoolRow (wr.setCell ⟨w1.heap.size, x, none⟩ (.bool true)) w1.heap.size n (seenTo n (k + 1)) := hR.set x hxn true (seenTo_next hx)
      have b3 : Below w1.heap.size w1 (wr.setCell ⟨w1.heap.size, x, none⟩ (.bool true)) := hbw.setCell (p := ⟨w1.heap.size, x, none⟩) (Nat.le_refl _) _
      have c3 : (wr.setCell ⟨w1.heap.size, x, none⟩ (.bool true)).cell? ⟨g, k, none⟩ = some (.int .i64 (x : Int)) := (b3.cell (p := ⟨g, k, none⟩) hg').trans c0
      obtain ⟨hq1, hq2, hq3⟩ := HSN.out k hlt
      have HX2 : Hid ((orderN n)[(m + k) % n]? = some x) := by show (orderN n)[(m + k) % n]? = some x; rw [hq2]; exact hx
      have HD : Hid ((m + k) / n = s) := hq3
      have HPO : Hid (s * n + posN n x = m + k) := by
        show s * n + posN n x = m + k
        rw [posN_of hn hxn hx, HM.out]
      have em2 : (m : Int) + (k : Int) = ((m + k : Nat) : Int) := by omega
      have hmk : m + k < 2000 := by omega
      obtain ⟨y, hy⟩ : ∃ y, m + k = y := ⟨_, rfl⟩
      rw [hy] at hq1 HX2 HD HPO em2 hmk
      have g0 : decide ((x : Int) < 0) = false := decide_eq_false (by omega)
      have g1 : decide ((n : Int) ≤ (x : Int)) = false := decide_eq_false (by omega)
      have m1 : ((x : Int) != (x : Int)) = false := by simp
      have m2 : ((s : Int) != (s : Int)) = false := by simp
      have m3 : ((y : Int) != (y : Int)) = false := by simp
      clear hq2 hq3 hx hy hR hbw
      obtain ⟨V, hV⟩ : ∃ V, wr.setCell ⟨w1.heap.size, x, none⟩ (.bool true) = V := ⟨_, rfl⟩
      rw [hV] at hR3 b3 c3
      go_wp2_with fail
      clear hV c1 c2 f2
      refine (At_ok n y x h1 hn hq1 HX2.out V (hF.next (b1.trans (b3.mono b1.size)))).mono ?_
      rw [HD.out]
      rintro e w5 ⟨rfl, b5⟩
      have c5 : w5.cell? ⟨g, k, none⟩ = some (.int .i64 (x : Int)) := (b5.cell (p := ⟨g, k, none⟩) (by have := b3.size; show g < V.heap.size; omega)).trans c3
      have hR5 := hR3.below b5 hR3.1
      have bb5 := b3.trans (b5.mono b3.size)
      clear hR3 b3 c3 b5
      go_wp2_with fail
      refine (Place_ok n x s h1 hn hxn hs16 w5 (hF.next (b1.trans (bb5.mono b1.size)))).mono ?_
      rw [HPO.out]
      rintro e w6 ⟨rfl, b6⟩
      have c6 : w6.cell? ⟨g, k, none⟩ = some (.int .i64 (x : Int)) := (b6.cell (p := ⟨g, k, none⟩) (by have := bb5.size; show g < w5.heap.size; omega)).trans c5
      have hR6 := hR5.below b6 hR5.1
      have bb6 := bb5.trans (b6.mono bb5.size)
      clear hR5 bb5 c5 b6
      go_wp2
      go_roundw
      case rel => exact ⟨k + 1, by omega, by go_num, hR6, bb6⟩
      case measure => simp [intOf]; omega
    · obtain rfl : k = n := by omega
      have bW : Below w.heap.size w wr := b1.trans (hbw.mono b1.size)
      clear hR hlt hk
      go_wp2_with fail
      refine (schedWakes_any wr (hF.next bW)).mono ?_
      rintro e w5 ⟨rfl, hw⟩
      go_wp2
      go_ret
      exact ⟨rfl, bW.trans (hw.mono bW.size)⟩

end Go.Proofs.YthmhlkgipidnoaaDoor
