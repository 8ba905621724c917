/-
  SchedSpread: whatever the numbers, the law answers true, and nothing that lay has turned.
-/
import Derived.Test.YthmhlkgipidnoaaDoorSchedWakes
import Derived.Lib.MinMax
namespace Go.Proofs.YthmhlkgipidnoaaDoor
open Go.RowKit

theorem infoNum : (Tryd.prog.info? 3).map (fun i => (i.zero, i.size, i.bytes)) = some (some (.int .i64 0), 1, 8) := by kernel_rfl

/-- Block g holds, at each of n places, what f says; none of it is frozen. -/
def NumRow (W : World) (g n : Nat) (f : Nat → Nat) : Prop := g < W.heap.size ∧ (∀ q, q < n → W.cell? ⟨g, q, none⟩ = some (.int .i64 ((f q : Nat) : Int))) ∧ ∀ q, W.frozen? ⟨g, q, none⟩ = false
theorem NumRow.set {W : World} {g n : Nat} {f f' : Nat → Nat} (h : NumRow W g n f) (k : Nat) (v : Nat) (hf : ∀ q, f' q = if q = k then v else f q) : NumRow (W.setCell ⟨g, k, none⟩ (.int .i64 (v : Int))) g n f' := by
  refine ⟨by simpa [World.setCell] using h.1, fun q hq => ?_, fun q => by rw [World.frozen?_setCell]; exact h.2.2 q⟩
  rw [hf q]
  by_cases e : q = k
  · subst e
    rw [World.cell?_setCell_same' _ _ _ (by rw [h.2.1 q hq]; rfl), if_pos rfl]
  · rw [World.cell?_setCell_other _ _ _ _ (by intro e'; cases e'; exact e rfl), h.2.1 q hq, if_neg e]
theorem numRow_made {w : World} {base g n : Nat} (h : w.ownsRow base 3 1 (.slice (some ⟨g, 0, none⟩) n n) n (madeCells (Value.int .i64 0).cells (n * 1)).toList) : NumRow w g n (fun _ => 0) := by
  rw [show (Value.int IntKind.i64 0).cells = #[.int .i64 0] from rfl, toList_madeCells_one, Nat.mul_one] at h
  rcases h.2 with ⟨e, _⟩ | ⟨g', c, cur, e, _, hg, _⟩
  · cases e
  · cases e
    refine ⟨(Array.getElem?_eq_some_iff.1 hg).1, fun q hq => ?_, fun q => by simp [World.frozen?, hg]⟩
    have := h.cells (g := g) rfl q (.int .i64 0) (by simp [hq])
    rw [Addr.add_lit, Nat.zero_add] at this
    exact this

theorem countTo_le (n cut j : Nat) (hn : n < 65) : countTo n cut j ≤ n := by
  unfold countTo
  refine Nat.le_trans List.countP_le_length ?_
  rw [List.length_take, orderN_len n hn]
  omega
theorem countTo_set {n cut x : Nat} (h : (orderN n)[cut]? = some x) (q : Nat) : countTo n (cut + 1) q = if q = x / 8 then countTo n cut (x / 8) + 1 else countTo n cut q := by
  rw [countTo_next h]
  by_cases e : q = x / 8
  · subst e; simp
  · rw [if_neg (fun h => e h.symm), if_neg e, Nat.add_zero]

/-- The least and the greatest of the first k. -/
def LowHigh (C : Nat → Nat) (n k lo hi : Nat) : Prop := (k = 0 → lo = n ∧ hi = 0) ∧ (0 < k → (∃ j, j < k ∧ lo = C j) ∧ ∃ j, j < k ∧ hi = C j)
theorem LowHigh.next {C : Nat → Nat} {n k lo hi : Nat} (h : LowHigh C n k lo hi) (hC : C k ≤ n) : LowHigh C n (k + 1) (min lo (C k)) (max hi (C k)) := by
  refine ⟨fun e => by omega, fun _ => ?_⟩
  by_cases hk : k = 0
  · obtain ⟨h1, h2⟩ := h.1 hk
    subst hk
    exact ⟨⟨0, by omega, by omega⟩, ⟨0, by omega, by omega⟩⟩
  · obtain ⟨⟨j, hj, e1⟩, ⟨j', hj', e2⟩⟩ := h.2 (by omega)
    constructor
    · by_cases hle : lo ≤ C k
      · exact ⟨j, by omega, by omega⟩
      · exact ⟨k, by omega, by omega⟩
    · by_cases hle : C k ≤ hi
      · exact ⟨j', by omega, by omega⟩
      · exact ⟨k, by omega, by omega⟩

set_option maxRecDepth 100000 in
set_option maxHeartbeats 8000000 in
theorem schedSpread_walk (a0 a1 : Int) (w : World) (hF : Firsts w) : Calls Tryd.prog 5 #[.int .i64 a0, .int .i64 a1] w fun e w' => e = .returned (.bool true) ∧ Below w.heap.size w w' := by
  obtain ⟨i0, hi, hz0, hz1, hz2⟩ := info_parts infoNum
  obtain ⟨p, hp, et⟩ := at_place a0 8 (by decide)
  obtain ⟨m, hme⟩ : ∃ m, 1 + p = m := ⟨_, rfl⟩
  have hm1 : 1 ≤ m := by omega
  have hm9 : m < 9 := by omega
  have en : (8 : Int) * (1 + (p : Int)) = ((8 * m : Nat) : Int) := by omega
  have HSP : Hid (∀ cut, cut < 8 * m + 1 → ∀ j, j < m → ∀ k, k < m → countTo (8 * m) cut j ≤ countTo (8 * m) cut k + 1) := count_spread m hm9
  obtain ⟨n, hne⟩ : ∃ n, 8 * m = n := ⟨_, rfl⟩
  have h1 : 1 ≤ n := by omega
  have hn : n < 65 := by omega
  obtain ⟨cut, hcut, ec⟩ := at_place a1 ((n : Int) + 1) (by omega)
  have hc1 : cut ≤ n := by omega
  have HNM : Hid (8 * m = n) := hne
  have e8 : (n : Int) / 8 = (m : Int) := by omega
  have hn1 : ¬ (n : Int) + 1 = 0 := by omega
  rw [hne] at en HSP
  have nn : ((n : Int) != (n : Int)) = false := by simp
  clear hne hme hp hcut
  go_enter Tryd.func5, Tryd.ntmps5
  go_wp2_with fail
  refine (Order_ok n h1 hn w hF).mono ?_
  rintro e w1 ⟨r, rfl, o, b1⟩
  obtain ⟨g, cap, rfl, hg, hg', hc⟩ := order_cell h1 o
  have HC : Hid _ := hc
  clear o hc
  go_wp2_with (at_make; refine wpList_make_full _ rfl _ _ 22 rfl w1.heap.size 3 i0 (.int .i64 0) 1 Tryd.underlying22 hi hz0 hz1 .i64 .i64 _ _ m rfl rfl rfl rfl (by rw [hz2]; omega) (by unfold maxLen; omega) (Nat.le_refl _) ?_; intro w2 hown2 hgrow2)
  have b2 : Below w1.heap.size w1 w2 := (Below.refl _ w1).grown hgrow2 (Nat.le_refl _) (fun k e => by cases e)
  have hR2 : NumRow w2 w1.heap.size m (countTo n 0) := by
    have h := numRow_made hown2
    refine ⟨h.1, fun q hq => ?_, h.2.2⟩
    rw [h.2.1 q hq]
    rfl
  clear hown2 hgrow2
  go_loopw [8] (fun i wr => ∃ k : Nat, k ≤ cut ∧ i = .int .i64 k ∧ NumRow wr w1.heap.size m (countTo n k) ∧ Below w1.heap.size w1 wr) (fun i _ => cut - (intOf i).toNat)
  case atStart => exact ⟨0, by omega, rfl, hR2, b2⟩
  case round =>
    clear hR2 b2
    obtain ⟨k, hk, rfl, hR, hbw⟩ := hrel
    by_cases hlt : k < cut
    · obtain ⟨x, hx, hxn⟩ := orderN_get hn (show k < n by omega)
      have hx8 : x / 8 < m := by have := HNM.out; omega
      have c1 : wr.cell? ⟨g, k, none⟩ = some (.int .i64 (x : Int)) := (hbw.cell (p := ⟨g, k, none⟩) hg').trans (HC.out k x hx)
      have c2 := hR.2.1 (x / 8) hx8
      have f2 := hR.2.2 (x / 8)
      have hcl := countTo_le n k (x / 8) hn
      have hR3 := hR.set (f' := countTo n (k + 1)) (x / 8) (countTo n k (x / 8) + 1) (countTo_set hx)
      have b3 : Below w1.heap.size w1 (wr.setCell ⟨w1.heap.size, x / 8, none⟩ (.int .i64 ((countTo n k (x / 8) + 1 : Nat) : Int))) := hbw.setCell (p := ⟨w1.heap.size, x / 8, none⟩) (Nat.le_refl _) _
      have ex : (x : Int) / 8 = ((x / 8 : Nat) : Int) := by omega
      obtain ⟨y, hy⟩ : ∃ y, x / 8 = y := ⟨_, rfl⟩
      rw [hy] at hx8 c2 f2 hcl hR3 b3 ex
      obtain ⟨v, hv⟩ : ∃ v, countTo n k y = v := ⟨_, rfl⟩
      rw [hv] at c2 hcl hR3 b3
      have ev : ((v + 1 : Nat) : Int) = (v : Int) + 1 := by omega
      rw [ev] at hR3 b3
      have HR3 : Hid _ := hR3
      have HB3 : Hid _ := b3
      have g0 : decide ((x : Int) < 0) = false := decide_eq_false (by omega)
      have g1 : decide ((n : Int) ≤ (x : Int)) = false := decide_eq_false (by omega)
      clear hy hv ev hR3 b3 hR hbw hx
      go_wp2
      go_roundw
      case rel => exact ⟨k + 1, by omega, by go_num, HR3.out, HB3.out⟩
      case measure => simp [intOf]; omega
    · obtain rfl : k = cut := by omega
      have HR : Hid (∀ q, q < m → wr.cell? ⟨w1.heap.size, q, none⟩ = some (.int .i64 ((countTo n k q : Nat) : Int))) := hR.2.1
      have bW : Below w.heap.size w wr := b1.trans (hbw.mono b1.size)
      clear hR hlt hk hbw
      go_wp2
      go_loopw [9, 10, 11] (fun lo hi i wq => ∃ j l h nd : Nat, j ≤ m ∧ i = .int .i64 j ∧ lo = .int .i64 (l : Int) ∧ hi = .int .i64 (h : Int) ∧ Hid (LowHigh (countTo n k) n j l h) ∧ wq = wr.drewN nd) (fun _ _ i _ => m - (intOf i).toNat)
      case atStart => exact ⟨0, n, 0, 0, by omega, rfl, rfl, rfl, ⟨fun _ => ⟨rfl, rfl⟩, fun h => by omega⟩, rfl⟩
      case round =>
        obtain ⟨j, l, h, nd, hj, rfl, rfl, rfl, HLH, rfl⟩ := hrel
        by_cases hjm : j < m
        · have hcl := countTo_le n k j hn
          have HLN : Hid _ := HLH.out.next hcl
          have c1 : ∀ q, (wr.drewN q).cell? ⟨w1.heap.size, j, none⟩ = some (.int .i64 ((countTo n k j : Nat) : Int)) := fun q => HR.out j hjm
          have e1 : min (l : Int) ((countTo n k j : Nat) : Int) = ((min l (countTo n k j) : Nat) : Int) := by omega
          have e2 : max (h : Int) ((countTo n k j : Nat) : Int) = ((max h (countTo n k j) : Nat) : Int) := by omega
          obtain ⟨v, hv⟩ : ∃ v, countTo n k j = v := ⟨_, rfl⟩
          rw [hv] at c1 e1 e2 HLN
          obtain ⟨l2, hl2⟩ : ∃ v2, min l v = v2 := ⟨_, rfl⟩
          obtain ⟨h2, hh2⟩ : ∃ v2, max h v = v2 := ⟨_, rfl⟩
          rw [hl2] at e1 HLN
          rw [hh2] at e2 HLN
          clear hv hl2 hh2 HLH hcl
          go_wp2
          go_quiet (fail)
          go_wp2
          go_roundw
          case rel => exact ⟨j + 1, l2, h2, _, by omega, by go_num, rfl, rfl, HLN, rfl⟩
          case measure => simp [intOf]; omega
        · obtain rfl : j = m := by omega
          obtain ⟨⟨x, hx, ex⟩, ⟨y, hy, ey⟩⟩ := HLH.out.2 (by omega)
          have hsp := HSP.out k (by omega) y hy x hx
          rw [← ex, ← ey] at hsp
          have q : decide ((h : Int) - (l : Int) ≤ 1) = true := decide_eq_true (by omega)
          have hll : l ≤ n := by rw [ex]; exact countTo_le n k x hn
          have hhl : h ≤ n := by rw [ey]; exact countTo_le n k y hn
          clear ex ey HLH HR hjm hj
          go_wp2_with fail
          refine (schedWakes_any _ (hF.next (below_drewN bW nd))).mono ?_
          rintro e w5 ⟨rfl, hw⟩
          go_wp2
          go_ret
          exact ⟨rfl, (below_drewN bW nd).trans (hw.mono bW.size)⟩

end Go.Proofs.YthmhlkgipidnoaaDoor
