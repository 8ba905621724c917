/-
  SchedEighths: whatever the number, the law answers true, and nothing that lay has turned.
-/
import Derived.Test.YthmhlkgipidnoaaDoorSchedWakes
namespace Go.Proofs.YthmhlkgipidnoaaDoor
open Go.RowKit

set_option maxRecDepth 100000 in
set_option maxHeartbeats 4000000 in
theorem schedEighths_walk (a0 : Int) (w : World) (hF : Firsts w) : Calls Tryd.prog 6 #[.int .i64 a0] w fun e w' => e = .returned (.bool true) ∧ Below w.heap.size w w' := by
  obtain ⟨p, hp, et⟩ := at_place a0 64 (by decide)
  have en : (1 : Int) + (p : Int) = ((1 + p : Nat) : Int) := by omega
  obtain ⟨n, hne⟩ : ∃ n, 1 + p = n := ⟨_, rfl⟩
  have h1 : 1 ≤ n := by omega
  have hn : n < 65 := by omega
  rw [hne] at en
  clear hne hp
  have nn : ((n : Int) != (n : Int)) = false := by simp
  go_enter Tryd.func6, Tryd.ntmps6
  go_wp2_with fail
  refine (Order_ok n h1 hn w hF).mono ?_
  rintro e w1 ⟨r, rfl, o, b1⟩
  obtain ⟨g, cap, rfl, hg, hg', hc⟩ := order_cell h1 o
  clear o
  go_wp2
  obtain ⟨V, hV⟩ : ∃ V, w1.alloc (.cells #[.int .i64 0, .int .i64 4, .int .i64 2, .int .i64 6, .int .i64 1, .int .i64 5, .int .i64 3, .int .i64 7] 3) = V := ⟨_, rfl⟩
  have bV : Below w1.heap.size w1 V := hV ▸ (Below.refl _ w1).alloc (Nat.le_refl _) _
  have bW : Below w.heap.size w V := b1.trans (bV.mono b1.size)
  have HF : Hid (∀ c f : Nat, firsts[c]? = some f → V.cell? ⟨w1.heap.size, c, none⟩ = some (.int .i64 (f : Int))) := by
    intro c f hc
    have h := held_new .i64 w1 (ints firsts) 8 3 (0, 0)
    rcases h with ⟨_, e⟩ | ⟨b, off, c', e, _, hcs⟩
    · cases e
    · cases e
      have hlt := (List.getElem?_eq_some_iff.1 hc).1
      have h2 := hcs c (by rw [ints_len]; exact hlt)
      rw [Nat.zero_add] at h2
      rw [← hV]
      refine Eq.trans h2 ?_
      have : (ints firsts)[c]? = some (f : Int) := by unfold ints; rw [List.getElem?_map, hc]; rfl
      rw [this]
      rfl
  have HC : Hid (∀ k x : Nat, (orderN n)[k]? = some x → V.cell? ⟨g, k, none⟩ = some (.int .i64 (x : Int))) := fun k x h => (bV.cell (p := ⟨g, k, none⟩) hg').trans (hc k x h)
  rw [hV]
  clear hV bV b1 hc
  go_loop [6, 7] (fun a i => ∃ c : Nat, c ≤ 8 ∧ i = .int .i64 c ∧ a = .int .i64 (((aheadN n c).length : Nat) : Int)) (fun _ i => 8 - (intOf i).toNat)
  case atStart => exact ⟨0, by omega, rfl, rfl⟩
  case round =>
    obtain ⟨c, hc, rfl, rfl⟩ := hrel
    by_cases hlt : c < 8
    · obtain ⟨f, hf, hf8⟩ := firsts_get c hlt
      have c1 := HF.out c f hf
      have d8 : decide ((c : Int) < 8) = true := decide_eq_true (by omega)
      have HNX : Hid ((aheadN n (c + 1)).length = (aheadN n c).length + (eighth n f).length) := by
        show (aheadN n (c + 1)).length = (aheadN n c).length + (eighth n f).length
        rw [aheadN_next hf, List.length_append]
      have HAT : Hid (∀ j, f + 8 * j < n → (orderN n)[(aheadN n c).length + j]? = some (f + 8 * j)) := fun j hj => order_at hf hj
      have hfew := aheadN_few n hn c (by omega)
      have hef := eighth_few (f := f) hn
      have hel := eighth_len n f
      obtain ⟨A, hA⟩ : ∃ A, (aheadN n c).length = A := ⟨_, rfl⟩
      obtain ⟨E, hE⟩ : ∃ E, (eighth n f).length = E := ⟨_, rfl⟩
      rw [hA] at HNX HAT hfew ⊢
      rw [hE] at HNX hef hel
      have HEL : Hid (E = (n + 7 - f) / 8) := hel
      clear hf hA hE hel
      go_wp2
      go_loop [6, 8] (fun a i => ∃ j : Nat, j ≤ E ∧ i = .int .i64 ((f + 8 * j : Nat) : Int) ∧ a = .int .i64 ((A + j : Nat) : Int)) (fun _ i => 100 - (intOf i).toNat)
      case atStart => exact ⟨0, Nat.zero_le _, rfl, rfl⟩
      case round =>
        clear c1
        obtain ⟨j, hj, rfl, rfl⟩ := hrel
        by_cases hjl : j < E
        · have hjn : f + 8 * j < n := by have := HEL.out; omega
          have hat := HAT.out j hjn
          have c2 := HC.out _ _ hat
          have hlt2 : A + j < n := by have := (List.getElem?_eq_some_iff.1 hat).1; rwa [orderN_len n hn] at this
          have HE1 : Hid (((A + j : Nat) : Int) + 1 = ((A + (j + 1) : Nat) : Int)) := by show ((A + j : Nat) : Int) + 1 = ((A + (j + 1) : Nat) : Int); omega
          have HE8 : Hid (((f + 8 * j : Nat) : Int) + 8 = ((f + 8 * (j + 1) : Nat) : Int)) := by show ((f + 8 * j : Nat) : Int) + 8 = ((f + 8 * (j + 1) : Nat) : Int); omega
          obtain ⟨x, hx⟩ : ∃ x, f + 8 * j = x := ⟨_, rfl⟩
          obtain ⟨y, hy⟩ : ∃ y, A + j = y := ⟨_, rfl⟩
          rw [hx] at c2 hjn HE8 ⊢
          rw [hy] at c2 hlt2 HE1 ⊢
          have g1 : decide ((n : Int) ≤ (y : Int)) = false := decide_eq_false (by omega)
          have g2 : ((x : Int) != (x : Int)) = false := by simp
          have g3 : decide ((x : Int) < (n : Int)) = true := decide_eq_true (by omega)
          clear hat hx hy
          go_wp2
          go_round
          case rel => exact ⟨j + 1, by omega, by rw [HE8.out], by rw [HE1.out]⟩
          case measure => simp [intOf]; omega
        · obtain rfl : j = E := by omega
          have g3 : ¬ ((f + 8 * j : Nat) : Int) < (n : Int) := by have := HEL.out; omega
          obtain ⟨x, hx⟩ : ∃ x, f + 8 * j = x := ⟨_, rfl⟩
          rw [hx] at g3 ⊢
          clear hx hjl hj HAT
          go_wp2
          go_round
          case rel => exact ⟨c + 1, by omega, by go_num, by rw [HNX.out]⟩
          case measure => simp [intOf]; omega
    · obtain rfl : c = 8 := by omega
      have HA : Hid ((aheadN n 8).length = n) := by show (aheadN n 8).length = n; rw [aheadN_all, orderN_len n hn]
      rw [HA.out]
      have q : ((n : Int) == (n : Int)) = true := by simp
      clear hlt hc HF HC
      go_wp2_with fail
      refine (schedWakes_any V (hF.next bW)).mono ?_
      rintro e w5 ⟨rfl, hw⟩
      go_wp2
      go_ret
      exact ⟨rfl, bW.trans (hw.mono bW.size)⟩

end Go.Proofs.YthmhlkgipidnoaaDoor
