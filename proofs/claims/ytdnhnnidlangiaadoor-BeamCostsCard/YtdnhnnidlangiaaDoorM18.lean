/-
  What the page's least answers: the least metric so many depths further on. (It calls itself.)
-/
import Derived.Test.YtdnhnnidlangiaaDoorM11
import Derived.Test.YtdnhnnidlangiaaDoorM14
import Derived.Test.YtdnhnnidlangiaaDoorM15
import Derived.Test.YtdnhnnidlangiaaDoorM17
namespace Go.Proofs.YtdnhnnidlangiaaDoor
open Go.RowKit

/-- What the loop has found among the first k nibbles. -/
def lstTo (N : Nat) (l : List (Int × Int)) (a : Nat) (s : Int) (i : Nat) (m : Int) (k : Nat) : Int := minF ((nib16.take k).map fun k => lst stB (coB N l) N a (stB s k) (i + 1) (m + coB N l i (stB s k)))
theorem nib16_get {k : Nat} (h : k < 16) : nib16[k]? = some (k : Int) := by
  unfold nib16
  rw [List.getElem?_map, List.getElem?_range h]
  rfl
theorem lstTo_next (N : Nat) (l : List (Int × Int)) (a : Nat) (s : Int) (i : Nat) (m : Int) {k : Nat} (h : k < 16) : lstTo N l a s i m (k + 1) = minStep (lstTo N l a s i m k) (lst stB (coB N l) N a (stB s (k : Int)) (i + 1) (m + coB N l i (stB s (k : Int)))) := by
  unfold lstTo
  rw [List.take_add_one, nib16_get h]
  show minF (((nib16.take k) ++ [(k : Int)]).map _) = _
  rw [List.map_append, List.map_cons, List.map_nil, minF_snoc]
theorem lstTo_end (N : Nat) (l : List (Int × Int)) (a : Nat) (s : Int) (i : Nat) (m : Int) (hi : i ≠ N) : lstTo N l a s i m 16 = lst stB (coB N l) N (a + 1) s i m := by
  unfold lstTo
  simp only [lst]
  rw [if_neg hi, List.take_of_length_le (by unfold nib16; decide)]
theorem lst_bd (N : Nat) (l : List (Int × Int)) {p : Int} (h : PileOk (N : Int) p l) : ∀ (a : Nat) (s : Int) (i : Nat) (m : Int), 0 ≤ m → 0 ≤ lst stB (coB N l) N a s i m ∧ lst stB (coB N l) N a s i m ≤ m + 8192 * (a : Int)
  | 0, s, i, m, hm => by simp only [lst]; exact ⟨hm, by omega⟩
  | a + 1, s, i, m, hm => by
    simp only [lst]
    split
    · exact ⟨hm, by omega⟩
    · have each : ∀ k : Int, 0 ≤ lst stB (coB N l) N a (stB s k) (i + 1) (m + coB N l i (stB s k)) ∧ lst stB (coB N l) N a (stB s k) (i + 1) (m + coB N l i (stB s k)) ≤ m + 8192 * ((a + 1 : Nat) : Int) := fun k => by
        have h1 := coB_pos N l i (stB s k)
        have h2 : coB N l i (stB s k) ≤ 8192 := by
          unfold coB
          have := costB_le h i (stB s k).toNat
          omega
        have ih := lst_bd N l h a (stB s k) (i + 1) (m + coB N l i (stB s k)) (by omega)
        omega
      obtain ⟨hm1, _⟩ := minF_mem (l := nib16.map fun k => lst stB (coB N l) N a (stB s k) (i + 1) (m + coB N l i (stB s k))) (fun x hx => by obtain ⟨k, _, rfl⟩ := List.mem_map.1 hx; exact (each k).1) (by simp [nib16_ne])
      obtain ⟨k, _, e⟩ := List.mem_map.1 hm1
      rw [← e]
      exact each k

set_option maxRecDepth 100000 in
set_option maxHeartbeats 4000000 in
theorem refLeast_zero (v : Value) (s : Int) (i : Int) (m : Int) (w : World) :
    Calls Tryd.prog 48 #[v, .int .u32 s, .int .i64 i, .int .i64 m, .int .i64 0] w fun e w' => e = .returned (.int .i64 m) ∧ ∃ n, w' = w.drewN n := by
  go_enter Tryd.func48, Tryd.ntmps48
  go_wp2
  go_ret
  exact ⟨rfl, 0, rfl⟩

set_option maxRecDepth 100000 in
set_option maxHeartbeats 4000000 in
theorem refLeast_end (a0 : Option Addr) (n cap : Nat) (s : Int) (m a : Int) (ha : 0 < a) (w : World) :
    Calls Tryd.prog 48 #[.slice a0 n cap, .int .u32 s, .int .i64 (n : Int), .int .i64 m, .int .i64 a] w fun e w' => e = .returned (.int .i64 m) ∧ ∃ n, w' = w.drewN n := by
  have ha0 : (a == 0) = false := by rw [beq_eq_false_iff_ne]; omega
  have hnn : ((n : Int) == (n : Int)) = true := by simp
  go_enter Tryd.func48, Tryd.ntmps48
  go_wp2
  go_ret
  exact ⟨rfl, 0, rfl⟩

set_option maxRecDepth 100000 in
set_option maxHeartbeats 4000000 in
theorem refLeast_more (b off N cap : Nat) (l : List (Int × Int)) (p : Int) (hp : PileOk (N : Int) p l) (n₀ : Nat) (a : Nat) (ha : a ≤ 2)
    (ih : ∀ (s i : Nat) (m : Int), s < 4294967296 → i ≤ N → 0 ≤ m → m + 8192 * (a : Int) ≤ 1099511627776 → ∀ w : World, Segs n₀ w (.slice (some ⟨b, off, none⟩) N cap) (segsL N l) → Calls Tryd.prog 48 #[.slice (some ⟨b, off, none⟩) N cap, .int .u32 (s : Int), .int .i64 (i : Int), .int .i64 m, .int .i64 (a : Int)] w fun e w' => e = .returned (.int .i64 (lst stB (coB N l) N a (s : Int) i m)) ∧ ∃ n, w' = w.drewN n)
    (s i : Nat) (m : Int) (hs : s < 4294967296) (hi : i < N) (hm0 : 0 ≤ m) (hm1 : m + 8192 * ((a + 1 : Nat) : Int) ≤ 1099511627776) (w : World) (hS : Segs n₀ w (.slice (some ⟨b, off, none⟩) N cap) (segsL N l)) :
    Calls Tryd.prog 48 #[.slice (some ⟨b, off, none⟩) N cap, .int .u32 (s : Int), .int .i64 (i : Int), .int .i64 m, .int .i64 ((a + 1 : Nat) : Int)] w fun e w' => e = .returned (.int .i64 (lst stB (coB N l) N (a + 1) (s : Int) i m)) ∧ ∃ n, w' = w.drewN n := by
  have hN2 : N < 65 := by have := hp.1.2.1; omega
  obtain ⟨A, hA⟩ : ∃ A, a + 1 = A := ⟨_, rfl⟩
  have eA : (A : Int) - 1 = (a : Int) := by omega
  have hA0 : ((A : Int) == 0) = false := by rw [beq_eq_false_iff_ne]; omega
  have hiN : ((i : Int) == (N : Int)) = false := by rw [beq_eq_false_iff_ne]; omega
  have HE : Hid (lstTo N l a (s : Int) i m 16 = lst stB (coB N l) N A (s : Int) i m) := by
    show lstTo N l a (s : Int) i m 16 = lst stB (coB N l) N A (s : Int) i m
    rw [← hA]
    exact lstTo_end N l a (s : Int) i m (by omega)
  rw [hA]
  have hAb : A ≤ 3 := by omega
  obtain ⟨la, lc, cS, hSy⟩ := segs_at hS (segsL_get (l := l) hi)
  have HIH : Hid (∀ (s i : Nat) (m : Int), s < 4294967296 → i ≤ N → 0 ≤ m → m + 8192 * (a : Int) ≤ 1099511627776 → ∀ w : World, Segs n₀ w (.slice (some ⟨b, off, none⟩) N cap) (segsL N l) → Calls Tryd.prog 48 #[.slice (some ⟨b, off, none⟩) N cap, .int .u32 (s : Int), .int .i64 (i : Int), .int .i64 m, .int .i64 (a : Int)] w fun e w' => e = .returned (.int .i64 (lst stB (coB N l) N a (s : Int) i m)) ∧ ∃ n, w' = w.drewN n) := ih
  have HP : Hid (PileOk (N : Int) p l) := hp
  have HS : Hid (Segs n₀ w (.slice (some ⟨b, off, none⟩) N cap) (segsL N l)) := hS
  have HSY : Hid (Syms n₀ w (.slice la (ofL N l i).length lc) (ofL N l i)) := hSy
  obtain ⟨ln, hln⟩ : ∃ ln, (ofL N l i).length = ln := ⟨_, rfl⟩
  have HLN : Hid ((ofL N l i).length = ln) := hln
  rw [hln] at cS
  have hm2 : m + 8192 * (a : Int) + 8192 ≤ 1099511627776 := by omega
  obtain ⟨I, hI⟩ : ∃ I, i + 1 = I := ⟨_, rfl⟩
  have e1i : (i : Int) + 1 = (I : Int) := by omega
  have hIN : I ≤ N := by omega
  have HI : Hid (i + 1 = I) := hI
  clear ih hp hS hSy hln hA hm1 hI
  have c1 : ∀ q, (w.drewN q).cell? ⟨b, off + i, none⟩ = some (.slice la ln lc) := fun q => cS
  clear cS
  go_enter Tryd.func48, Tryd.ntmps48
  go_wp2
  go_loopw [11, 12] (fun s11 s12 wr => ∃ k nd : Nat, k ≤ 16 ∧ s12 = .int .i64 k ∧ s11 = .int .i64 (lstTo N l a (s : Int) i m k) ∧ wr = w.drewN nd) (fun _ i _ => 16 - (intOf i).toNat)
  case atStart => exact ⟨0, 0, by omega, rfl, rfl, rfl⟩
  case round =>
    obtain ⟨k, nd, hk, rfl, rfl, rfl⟩ := hrel
    by_cases hlt : k < 16
    · have hst := stepN_lt s k
      have HST := refStep_any s k hs hlt (w.drewN nd)
      have hcb := costB_le HP.out i (stepN s k)
      have HCO := refCost_any (stepN s k) hst la lc (ofL N l i) (by have := ofL_len HP.out i; omega) (ofL_ok HP.out i) (w.drewN nd) n₀ HSY.out
      have HNX := lstTo_next N l a (s : Int) i m hlt
      rw [stB_nat, coB_nat, HI.out] at HNX
      rw [HLN.out] at HCO
      obtain ⟨t, ht⟩ : ∃ t, stepN s k = t := ⟨_, rfl⟩
      rw [ht] at hst HST hcb HCO HNX
      obtain ⟨ct, hct⟩ : ∃ ct, costN t (ofL N l i) = ct := ⟨_, rfl⟩
      rw [hct] at hcb HCO HNX
      have HREC := fun q => HIH.out t I (m + (ct : Int)) hst hIN (by omega) (by omega) (w.drewN q) HS.out
      have hbd := lst_bd N l HP.out a (t : Int) I (m + (ct : Int)) (by omega)
      obtain ⟨x, hx⟩ : ∃ x, lst stB (coB N l) N a (t : Int) I (m + (ct : Int)) = x := ⟨_, rfl⟩
      rw [hx] at HREC HNX hbd
      obtain ⟨hb0, hb1⟩ := hbd
      obtain ⟨bv, hbv⟩ : ∃ bv, lstTo N l a (s : Int) i m k = bv := ⟨_, rfl⟩
      rw [hbv] at HNX ⊢
      have HNX' : Hid (lstTo N l a (s : Int) i m (k + 1) = minStep bv x) := HNX
      clear HNX ht hct hx hbv
      by_cases hneg : bv < 0
      · have d1 : decide (bv < 0) = true := decide_eq_true hneg
        have HM : Hid (minStep bv x = x) := by
          show minStep bv x = x
          unfold minStep
          rw [if_pos (.inl hneg)]
        clear hneg
        go_wp2_with (first | (go_at_call 65; refine HST.mono ?_; rintro e wz ⟨rfl, rfl⟩) | (go_at_call 66; refine HCO.mono ?_; rintro e wz ⟨rfl, q1, rfl⟩; rw [World.drewN_drewN]) | (go_at_call 48; refine (HREC _).mono ?_; rintro e wz ⟨rfl, q2, rfl⟩; rw [World.drewN_drewN]))
        go_roundw
        case rel => exact ⟨k + 1, _, by omega, by go_num, by rw [HNX'.out, HM.out], rfl⟩
        case measure => simp [intOf]; omega
      · have d1 : decide (bv < 0) = false := decide_eq_false hneg
        by_cases hxb : x < bv
        · have d2 : decide (x < bv) = true := decide_eq_true hxb
          have HM : Hid (minStep bv x = x) := by
            show minStep bv x = x
            unfold minStep
            rw [if_pos (.inr hxb)]
          clear hneg hxb
          go_wp2_with (first | (go_at_call 65; refine HST.mono ?_; rintro e wz ⟨rfl, rfl⟩) | (go_at_call 66; refine HCO.mono ?_; rintro e wz ⟨rfl, q1, rfl⟩; rw [World.drewN_drewN]) | (go_at_call 48; refine (HREC _).mono ?_; rintro e wz ⟨rfl, q2, rfl⟩; rw [World.drewN_drewN]))
          go_roundw
          case rel => exact ⟨k + 1, _, by omega, by go_num, by rw [HNX'.out, HM.out], rfl⟩
          case measure => simp [intOf]; omega
        · have d2 : decide (x < bv) = false := decide_eq_false hxb
          have HM : Hid (minStep bv x = bv) := by
            show minStep bv x = bv
            unfold minStep
            rw [if_neg (by omega)]
          clear hneg hxb
          go_wp2_with (first | (go_at_call 65; refine HST.mono ?_; rintro e wz ⟨rfl, rfl⟩) | (go_at_call 66; refine HCO.mono ?_; rintro e wz ⟨rfl, q1, rfl⟩; rw [World.drewN_drewN]) | (go_at_call 48; refine (HREC _).mono ?_; rintro e wz ⟨rfl, q2, rfl⟩; rw [World.drewN_drewN]))
          go_roundw
          case rel => exact ⟨k + 1, _, by omega, by go_num, by rw [HNX'.out, HM.out], rfl⟩
          case measure => simp [intOf]; omega
    · obtain rfl : k = 16 := by omega
      rw [HE.out]
      go_wp2
      go_ret
      exact ⟨rfl, nd, rfl⟩

/-- The page's least, of at most three depths more. -/
theorem refLeast_any (b off N cap : Nat) (l : List (Int × Int)) (p : Int) (hp : PileOk (N : Int) p l) (n₀ : Nat) : ∀ (a : Nat), a ≤ 3 → ∀ (s i : Nat) (m : Int), s < 4294967296 → i ≤ N → 0 ≤ m → m + 8192 * (a : Int) ≤ 1099511627776 → ∀ w : World, Segs n₀ w (.slice (some ⟨b, off, none⟩) N cap) (segsL N l) →
    Calls Tryd.prog 48 #[.slice (some ⟨b, off, none⟩) N cap, .int .u32 (s : Int), .int .i64 (i : Int), .int .i64 m, .int .i64 (a : Int)] w fun e w' => e = .returned (.int .i64 (lst stB (coB N l) N a (s : Int) i m)) ∧ ∃ n, w' = w.drewN n
  | 0, _, s, i, m, _, _, _, _, w, _ => refLeast_zero _ _ _ _ w
  | a + 1, ha, s, i, m, hs, hi, hm0, hm1, w, hS => by
    by_cases he : i = N
    · subst he
      rw [show lst stB (coB i l) i (a + 1) (s : Int) i m = m by simp [lst]]
      exact refLeast_end _ _ _ _ _ _ (by omega) w
    · exact refLeast_more b off N cap l p hp n₀ a (by omega) (fun s i m h1 h2 h3 h4 w h5 => refLeast_any b off N cap l p hp n₀ a (by omega) s i m h1 h2 h3 h4 w h5) s i m hs (by omega) hm0 hm1 w hS

end Go.Proofs.YtdnhnnidlangiaaDoor
