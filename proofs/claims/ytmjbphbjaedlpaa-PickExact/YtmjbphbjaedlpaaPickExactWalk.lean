/-
  The walk of PickExact. (Written by tpl_pickexact.py.)
-/
import Derived.Test.YtmjbphbjaedlpaaPickWakes
import Derived.Test.YtmjbphbjaedlpaaRefPick
import Derived.Test.YtmjbphbjaedlpaaSpoilInts
namespace Go.Proofs.Ytmjbphbjaedlpaa
open Go.RowKit

/-- A row stays where its own block does. -/
theorem rowN_heap {W W' : World} {base k size : Nat} {e : TypeId} {v : Value} {xs : List Value} (h : W.ownsRow base e size v k xs) (hh : ∀ g, v.ownBlock = some g → W'.heap[g]? = W.heap[g]?) : W'.ownsRow base e size v k xs := by
  refine ⟨h.1, ?_⟩
  rcases h.2 with h0 | ⟨g, cap, cur, hv, hbs, hg, r⟩
  · exact .inl h0
  · exact .inr ⟨g, cap, cur, hv, hbs, (hh g (by rw [hv]; rfl)).trans hg, r⟩
/-- The paths from the i-th on are as they were. -/
def PathsFrom (base : Nat) (W : World) (r : List Rn) (l : List Nd) (i : Nat) : Prop := ∀ (j : Nat) (x : Rn) (y : Nd), i ≤ j → r[j]? = some x → l[j]? = some y → W.ownsRow base 3 1 x.2.2.2 y.2.2.2.length (y.2.2.2.map (Value.int .i64))
theorem PathsFrom.next {base i : Nat} {W W' : World} {r : List Rn} {l : List Nd} {x : Rn} (h : PathsFrom base W r l i) (hp : r.Pairwise fun x y => x.2.2.2.ownBlock = none ∨ x.2.2.2.ownBlock ≠ y.2.2.2.ownBlock) (hx : r[i]? = some x) (hh : ∀ q, some q ≠ x.2.2.2.ownBlock → W'.heap[q]? = W.heap[q]?) : PathsFrom base W' r l (i + 1) := by
  intro j u y hj hu hy
  refine rowN_heap (h j u y (by omega) hu hy) fun g hg => hh g fun e => ?_
  obtain ⟨hi, ei⟩ := List.getElem?_eq_some_iff.1 hx
  obtain ⟨hjl, ej⟩ := List.getElem?_eq_some_iff.1 hu
  have := List.pairwise_iff_getElem.1 hp i j hi hjl (by omega)
  rw [ei, ej] at this
  rcases this with h | h
  · rw [h] at e; cases e
  · exact h (by rw [hg, ← e])
theorem anyBelow_take {l : List Nd} {k : Nat} {x : Nd} (h : l[k]? = some x) : anyBelow (l.take (k + 1)) = (anyBelow (l.take k) || decide (sc x < 0)) := by
  unfold anyBelow
  rw [List.take_add_one, h, List.any_append]
  simp only [Option.toList, List.any_cons, List.any_nil, Bool.or_false]
theorem kept_mem {B : Nat} {l : List Nd} {y : Nd} (h : y ∈ keptN B l) : y ∈ l := (sortK_perm sc l).mem_iff.1 (List.mem_of_mem_take h)

set_option maxRecDepth 100000 in
set_option maxHeartbeats 8000000 in
theorem PickExact_low (a : Option Addr) (n cap : Nat) (l : List Nd) (b : Int) (w : World) (HN : Hid (l.length = n)) (hn : n ≤ 400) (HPA : Hid (∀ x ∈ l, x.2.2.2.length ≤ 100)) (HA : Hid (Nodes w.heap.size w (.slice a n cap) l)) (HHV : Calls Try.prog 6 #[.slice a n cap] w fun e w' => e = .returned (.bool false) ∧ w = w') (hb : b < 1) :
    Calls Try.prog 3 #[.slice a n cap, .int .i64 b] w fun e W' => e = .returned (.bool true) ∧ Below w.heap.size w W' := by
  have d1 : decide (b < 1) = true := decide_eq_true hb
  obtain ⟨bl, hbl⟩ : ∃ bl, anyBelow l = bl := ⟨_, rfl⟩
  have HBL : Hid (anyBelow l = bl) := hbl
  clear hbl
  go_enter Try.func3, Try.ntmps3
  go_wp2_with fail
  refine HHV.mono ?_
  rintro e wz ⟨rfl, rfl⟩
  go_wp2_with fail
  refine (twinNodes_any (.slice a n cap) l (by rw [HN.out]; omega) (fun y hy => by have := HPA.out y hy; omega) w HA.out).mono ?_
  rintro e w1 ⟨r1, rfl, o1, b1⟩
  obtain ⟨a1, c1, e1⟩ := o1.nodes.shape
  rw [HN.out] at e1
  subst e1
  go_wp2_with fail
  refine (Pick_low (.slice a1 n c1) b hb w1).mono ?_
  rintro e w2 ⟨rfl, b2⟩
  have bb := b1.trans (b2.mono b1.size)
  have HC3 := nodes_any (.slice a1 n c1) (.slice a n cap) l l w2 (by rw [HN.out]; omega) (fun y hy => by have := HPA.out y hy; omega) (o1.next b2).nodes (HA.out.next bb)
  rw [decide_eq_true rfl] at HC3
  go_wp2_with fail
  refine HC3.mono ?_
  rintro e w3 ⟨rfl, b3⟩
  have bc := bb.trans (b3.mono bb.size)
  clear HC3
  go_wp2
  go_loop [9, 10] (fun s9 s10 => ∃ k : Nat, k ≤ n ∧ s10 = .int .i64 k ∧ s9 = .bool (anyBelow (l.take k))) (fun _ i => n - (intOf i).toNat)
  case atStart => exact ⟨0, Nat.zero_le _, rfl, rfl⟩
  case round =>
    obtain ⟨k, hk, rfl, rfl⟩ := hrel
    by_cases hlt : k < n
    · obtain ⟨b0, off, rfl, _, hc⟩ := nodes_at (HA.out.next bc) HN.out (by omega)
      obtain ⟨⟨s, m, c, ps⟩, hxk⟩ : ∃ x, l[k]? = some x := ⟨l[k]'(by rw [HN.out]; exact hlt), by simp⟩
      obtain ⟨p, _, _, _, x3, _⟩ := hc _ _ hxk
      have HTK : Hid (anyBelow (l.take (k + 1)) = (anyBelow (l.take k) || decide (c < 0))) := anyBelow_take hxk
      clear hxk hc
      generalize anyBelow (l.take k) = bk at *
      cases bk with
      | true =>
        go_wp2
        go_round
        case rel => exact ⟨k + 1, by omega, by go_num, by rw [HTK.out]; rfl⟩
        case measure => simp [intOf]; omega
      | false =>
        by_cases hneg : c < 0
        · have d : decide (c < 0) = true := decide_eq_true hneg
          clear hneg
          go_wp2
          go_round
          case rel => exact ⟨k + 1, by omega, by go_num, by rw [HTK.out, d]; rfl⟩
          case measure => simp [intOf]; omega
        · have d : decide (c < 0) = false := decide_eq_false hneg
          clear hneg
          go_wp2
          go_round
          case rel => exact ⟨k + 1, by omega, by go_num, by rw [HTK.out, d]; rfl⟩
          case measure => simp [intOf]; omega
    · obtain rfl : n = k := by omega
      rw [List.take_of_length_le (by rw [HN.out]; exact Nat.le_refl _), HBL.out]
      go_wp2_with fail
      refine (pickWakes_any _).mono ?_
      rintro e w9 ⟨rfl, b9⟩
      go_wp2
      go_ret
      exact ⟨rfl, bc.trans (b9.mono bc.size)⟩

set_option maxRecDepth 100000 in
set_option maxHeartbeats 8000000 in
theorem PickExact_high (a : Option Addr) (n cap : Nat) (l : List Nd) (b : Int) (w : World) (HN : Hid (l.length = n)) (hn : n ≤ 400) (HPA : Hid (∀ x ∈ l, x.2.2.2.length ≤ 100)) (HA : Hid (Nodes w.heap.size w (.slice a n cap) l)) (HHV : Calls Try.prog 6 #[.slice a n cap] w fun e w' => e = .returned (.bool false) ∧ w = w') (hb : 16 < b) :
    Calls Try.prog 3 #[.slice a n cap, .int .i64 b] w fun e W' => e = .returned (.bool true) ∧ Below w.heap.size w W' := by
  have d1 : decide (b < 1) = false := decide_eq_false (by omega)
  have d2 : decide (16 < b) = true := decide_eq_true hb
  obtain ⟨bl, hbl⟩ : ∃ bl, anyBelow l = bl := ⟨_, rfl⟩
  have HBL : Hid (anyBelow l = bl) := hbl
  clear hbl
  go_enter Try.func3, Try.ntmps3
  go_wp2_with fail
  refine HHV.mono ?_
  rintro e wz ⟨rfl, rfl⟩
  go_wp2_with fail
  refine (twinNodes_any (.slice a n cap) l (by rw [HN.out]; omega) (fun y hy => by have := HPA.out y hy; omega) w HA.out).mono ?_
  rintro e w1 ⟨r1, rfl, o1, b1⟩
  obtain ⟨a1, c1, e1⟩ := o1.nodes.shape
  rw [HN.out] at e1
  subst e1
  go_wp2_with fail
  refine (Pick_high (.slice a1 n c1) b hb w1).mono ?_
  rintro e w2 ⟨rfl, b2⟩
  have bb := b1.trans (b2.mono b1.size)
  have HC3 := nodes_any (.slice a1 n c1) (.slice a n cap) l l w2 (by rw [HN.out]; omega) (fun y hy => by have := HPA.out y hy; omega) (o1.next b2).nodes (HA.out.next bb)
  rw [decide_eq_true rfl] at HC3
  go_wp2_with fail
  refine HC3.mono ?_
  rintro e w3 ⟨rfl, b3⟩
  have bc := bb.trans (b3.mono bb.size)
  clear HC3
  go_wp2
  go_loop [9, 10] (fun s9 s10 => ∃ k : Nat, k ≤ n ∧ s10 = .int .i64 k ∧ s9 = .bool (anyBelow (l.take k))) (fun _ i => n - (intOf i).toNat)
  case atStart => exact ⟨0, Nat.zero_le _, rfl, rfl⟩
  case round =>
    obtain ⟨k, hk, rfl, rfl⟩ := hrel
    by_cases hlt : k < n
    · obtain ⟨b0, off, rfl, _, hc⟩ := nodes_at (HA.out.next bc) HN.out (by omega)
      obtain ⟨⟨s, m, c, ps⟩, hxk⟩ : ∃ x, l[k]? = some x := ⟨l[k]'(by rw [HN.out]; exact hlt), by simp⟩
      obtain ⟨p, _, _, _, x3, _⟩ := hc _ _ hxk
      have HTK : Hid (anyBelow (l.take (k + 1)) = (anyBelow (l.take k) || decide (c < 0))) := anyBelow_take hxk
      clear hxk hc
      generalize anyBelow (l.take k) = bk at *
      cases bk with
      | true =>
        go_wp2
        go_round
        case rel => exact ⟨k + 1, by omega, by go_num, by rw [HTK.out]; rfl⟩
        case measure => simp [intOf]; omega
      | false =>
        by_cases hneg : c < 0
        · have d : decide (c < 0) = true := decide_eq_true hneg
          clear hneg
          go_wp2
          go_round
          case rel => exact ⟨k + 1, by omega, by go_num, by rw [HTK.out, d]; rfl⟩
          case measure => simp [intOf]; omega
        · have d : decide (c < 0) = false := decide_eq_false hneg
          clear hneg
          go_wp2
          go_round
          case rel => exact ⟨k + 1, by omega, by go_num, by rw [HTK.out, d]; rfl⟩
          case measure => simp [intOf]; omega
    · obtain rfl : n = k := by omega
      rw [List.take_of_length_le (by rw [HN.out]; exact Nat.le_refl _), HBL.out]
      go_wp2_with fail
      refine (pickWakes_any _).mono ?_
      rintro e w9 ⟨rfl, b9⟩
      go_wp2
      go_ret
      exact ⟨rfl, bc.trans (b9.mono bc.size)⟩

set_option maxRecDepth 100000 in
set_option maxHeartbeats 8000000 in
theorem PickExact_below (a : Option Addr) (n cap : Nat) (l : List Nd) (b : Int) (w : World) (HN : Hid (l.length = n)) (hn : n ≤ 400) (HPA : Hid (∀ x ∈ l, x.2.2.2.length ≤ 100)) (HA : Hid (Nodes w.heap.size w (.slice a n cap) l)) (HHV : Calls Try.prog 6 #[.slice a n cap] w fun e w' => e = .returned (.bool false) ∧ w = w') (h1 : 1 ≤ b) (h2 : b ≤ 16) (HBL : Hid (anyBelow l = true)) :
    Calls Try.prog 3 #[.slice a n cap, .int .i64 b] w fun e W' => e = .returned (.bool true) ∧ Below w.heap.size w W' := by
  have d1 : decide (b < 1) = false := decide_eq_false (by omega)
  have d2 : decide (16 < b) = false := decide_eq_false (by omega)
  go_enter Try.func3, Try.ntmps3
  go_wp2_with fail
  refine HHV.mono ?_
  rintro e wz ⟨rfl, rfl⟩
  go_wp2_with fail
  refine (twinNodes_any (.slice a n cap) l (by rw [HN.out]; omega) (fun y hy => by have := HPA.out y hy; omega) w HA.out).mono ?_
  rintro e w1 ⟨r1, rfl, o1, b1⟩
  obtain ⟨a1, c1, e1⟩ := o1.nodes.shape
  rw [HN.out] at e1
  subst e1
  go_wp2_with fail
  refine (Pick_below (.slice a1 n c1) l (by rw [HN.out]; omega) b h1 h2 HBL.out w1 o1.nodes).mono ?_
  rintro e w2 ⟨rfl, b2⟩
  have bb := b1.trans (b2.mono b1.size)
  have HC3 := nodes_any (.slice a1 n c1) (.slice a n cap) l l w2 (by rw [HN.out]; omega) (fun y hy => by have := HPA.out y hy; omega) (o1.next b2).nodes (HA.out.next bb)
  rw [decide_eq_true rfl] at HC3
  go_wp2_with fail
  refine HC3.mono ?_
  rintro e w3 ⟨rfl, b3⟩
  have bc := bb.trans (b3.mono bb.size)
  clear HC3
  go_wp2
  go_loop [9, 10] (fun s9 s10 => ∃ k : Nat, k ≤ n ∧ s10 = .int .i64 k ∧ s9 = .bool (anyBelow (l.take k))) (fun _ i => n - (intOf i).toNat)
  case atStart => exact ⟨0, Nat.zero_le _, rfl, rfl⟩
  case round =>
    obtain ⟨k, hk, rfl, rfl⟩ := hrel
    by_cases hlt : k < n
    · obtain ⟨b0, off, rfl, _, hc⟩ := nodes_at (HA.out.next bc) HN.out (by omega)
      obtain ⟨⟨s, m, c, ps⟩, hxk⟩ : ∃ x, l[k]? = some x := ⟨l[k]'(by rw [HN.out]; exact hlt), by simp⟩
      obtain ⟨p, _, _, _, x3, _⟩ := hc _ _ hxk
      have HTK : Hid (anyBelow (l.take (k + 1)) = (anyBelow (l.take k) || decide (c < 0))) := anyBelow_take hxk
      clear hxk hc
      generalize anyBelow (l.take k) = bk at *
      cases bk with
      | true =>
        go_wp2
        go_round
        case rel => exact ⟨k + 1, by omega, by go_num, by rw [HTK.out]; rfl⟩
        case measure => simp [intOf]; omega
      | false =>
        by_cases hneg : c < 0
        · have d : decide (c < 0) = true := decide_eq_true hneg
          clear hneg
          go_wp2
          go_round
          case rel => exact ⟨k + 1, by omega, by go_num, by rw [HTK.out, d]; rfl⟩
          case measure => simp [intOf]; omega
        · have d : decide (c < 0) = false := decide_eq_false hneg
          clear hneg
          go_wp2
          go_round
          case rel => exact ⟨k + 1, by omega, by go_num, by rw [HTK.out, d]; rfl⟩
          case measure => simp [intOf]; omega
    · obtain rfl : n = k := by omega
      rw [List.take_of_length_le (by rw [HN.out]; exact Nat.le_refl _), HBL.out]
      go_wp2_with fail
      refine (pickWakes_any _).mono ?_
      rintro e w9 ⟨rfl, b9⟩
      go_wp2
      go_ret
      exact ⟨rfl, bc.trans (b9.mono bc.size)⟩

set_option maxRecDepth 100000 in
set_option maxHeartbeats 8000000 in
theorem PickExact_len (a : Option Addr) (n cap : Nat) (l : List Nd) (b : Int) (w : World) (HN : Hid (l.length = n)) (hn : n ≤ 400) (HPA : Hid (∀ x ∈ l, x.2.2.2.length ≤ 100)) (HA : Hid (Nodes w.heap.size w (.slice a n cap) l)) (HHV : Calls Try.prog 6 #[.slice a n cap] w fun e w' => e = .returned (.bool false) ∧ w = w') (h1 : 1 ≤ b) (h2 : b ≤ 16) (HBL : Hid (anyBelow l = false)) (hbig : 256 < n) :
    Calls Try.prog 3 #[.slice a n cap, .int .i64 b] w fun e W' => e = .returned (.bool true) ∧ Below w.heap.size w W' := by
  have d1 : decide (b < 1) = false := decide_eq_false (by omega)
  have d2 : decide (16 < b) = false := decide_eq_false (by omega)
  go_enter Try.func3, Try.ntmps3
  go_wp2_with fail
  refine HHV.mono ?_
  rintro e wz ⟨rfl, rfl⟩
  go_wp2_with fail
  refine (twinNodes_any (.slice a n cap) l (by rw [HN.out]; omega) (fun y hy => by have := HPA.out y hy; omega) w HA.out).mono ?_
  rintro e w1 ⟨r1, rfl, o1, b1⟩
  obtain ⟨a1, c1, e1⟩ := o1.nodes.shape
  rw [HN.out] at e1
  subst e1
  go_wp2_with fail
  refine (Pick_len (.slice a1 n c1) l (by rw [HN.out]; omega) (by rw [HN.out]; exact hbig) b h1 h2 HBL.out w1 o1.nodes).mono ?_
  rintro e w2 ⟨rfl, b2⟩
  have bb := b1.trans (b2.mono b1.size)
  have HC3 := nodes_any (.slice a1 n c1) (.slice a n cap) l l w2 (by rw [HN.out]; omega) (fun y hy => by have := HPA.out y hy; omega) (o1.next b2).nodes (HA.out.next bb)
  rw [decide_eq_true rfl] at HC3
  go_wp2_with fail
  refine HC3.mono ?_
  rintro e w3 ⟨rfl, b3⟩
  have bc := bb.trans (b3.mono bb.size)
  clear HC3
  go_wp2
  go_loop [9, 10] (fun s9 s10 => ∃ k : Nat, k ≤ n ∧ s10 = .int .i64 k ∧ s9 = .bool (anyBelow (l.take k))) (fun _ i => n - (intOf i).toNat)
  case atStart => exact ⟨0, Nat.zero_le _, rfl, rfl⟩
  case round =>
    obtain ⟨k, hk, rfl, rfl⟩ := hrel
    by_cases hlt : k < n
    · obtain ⟨b0, off, rfl, _, hc⟩ := nodes_at (HA.out.next bc) HN.out (by omega)
      obtain ⟨⟨s, m, c, ps⟩, hxk⟩ : ∃ x, l[k]? = some x := ⟨l[k]'(by rw [HN.out]; exact hlt), by simp⟩
      obtain ⟨p, _, _, _, x3, _⟩ := hc _ _ hxk
      have HTK : Hid (anyBelow (l.take (k + 1)) = (anyBelow (l.take k) || decide (c < 0))) := anyBelow_take hxk
      clear hxk hc
      generalize anyBelow (l.take k) = bk at *
      cases bk with
      | true =>
        go_wp2
        go_round
        case rel => exact ⟨k + 1, by omega, by go_num, by rw [HTK.out]; rfl⟩
        case measure => simp [intOf]; omega
      | false =>
        by_cases hneg : c < 0
        · have d : decide (c < 0) = true := decide_eq_true hneg
          clear hneg
          go_wp2
          go_round
          case rel => exact ⟨k + 1, by omega, by go_num, by rw [HTK.out, d]; rfl⟩
          case measure => simp [intOf]; omega
        · have d : decide (c < 0) = false := decide_eq_false hneg
          clear hneg
          go_wp2
          go_round
          case rel => exact ⟨k + 1, by omega, by go_num, by rw [HTK.out, d]; rfl⟩
          case measure => simp [intOf]; omega
    · obtain rfl : n = k := by omega
      rw [List.take_of_length_le (by rw [HN.out]; exact Nat.le_refl _), HBL.out]
      go_wp2_with fail
      refine (pickWakes_any _).mono ?_
      rintro e w9 ⟨rfl, b9⟩
      go_wp2
      go_ret
      exact ⟨rfl, bc.trans (b9.mono bc.size)⟩

set_option maxRecDepth 100000 in
set_option maxHeartbeats 8000000 in
theorem PickExact_ok (a : Option Addr) (n cap : Nat) (l : List Nd) (b : Int) (w : World) (HN : Hid (l.length = n)) (hn : n ≤ 400) (HPA : Hid (∀ x ∈ l, x.2.2.2.length ≤ 100)) (HA : Hid (Nodes w.heap.size w (.slice a n cap) l)) (HHV : Calls Try.prog 6 #[.slice a n cap] w fun e w' => e = .returned (.bool false) ∧ w = w') (B : Nat) (hB : b = (B : Int)) (h1 : 1 ≤ B) (h2 : B ≤ 16) (HBL : Hid (anyBelow l = false)) (hlen : n ≤ 256) :
    Calls Try.prog 3 #[.slice a n cap, .int .i64 b] w fun e W' => e = .returned (.bool true) ∧ Below w.heap.size w W' := by
  subst hB
  have d1 : decide ((B : Int) < 1) = false := decide_eq_false (by omega)
  have d2 : decide (16 < (B : Int)) = false := decide_eq_false (by omega)
  go_enter Try.func3, Try.ntmps3
  go_wp2_with fail
  refine HHV.mono ?_
  rintro e wz ⟨rfl, rfl⟩
  go_wp2_with fail
  refine (twinNodes_any (.slice a n cap) l (by rw [HN.out]; omega) (fun y hy => by have := HPA.out y hy; omega) w HA.out).mono ?_
  rintro e w1 ⟨r1, rfl, o1, b1⟩
  obtain ⟨a1, c1, e1⟩ := o1.nodes.shape
  rw [HN.out] at e1
  subst e1
  go_wp2_with fail
  refine (Pick_ok (.slice a1 n c1) l (by rw [HN.out]; exact hlen) (fun y hy => by have := HPA.out y hy; omega) B h1 h2 (anyBelow_no HBL.out) w1 o1.nodes).mono ?_
  rintro e w2 ⟨kr, rfl, o2, b2⟩
  have bb := b1.trans (b2.mono b1.size)
  have HC3 := nodes_any (.slice a1 n c1) (.slice a n cap) l l w2 (by rw [HN.out]; omega) (fun y hy => by have := HPA.out y hy; omega) (o1.next b2).nodes (HA.out.next bb)
  rw [decide_eq_true rfl] at HC3
  go_wp2_with fail
  refine HC3.mono ?_
  rintro e w3 ⟨rfl, b3⟩
  have bc := bb.trans (b3.mono bb.size)
  clear HC3
  go_wp2
  go_loop [9, 10] (fun s9 s10 => ∃ k : Nat, k ≤ n ∧ s10 = .int .i64 k ∧ s9 = .bool (anyBelow (l.take k))) (fun _ i => n - (intOf i).toNat)
  case atStart => exact ⟨0, Nat.zero_le _, rfl, rfl⟩
  case round =>
    obtain ⟨k, hk, rfl, rfl⟩ := hrel
    by_cases hlt : k < n
    · obtain ⟨b0, off, rfl, _, hc⟩ := nodes_at (HA.out.next bc) HN.out (by omega)
      obtain ⟨⟨s, m, c, ps⟩, hxk⟩ : ∃ x, l[k]? = some x := ⟨l[k]'(by rw [HN.out]; exact hlt), by simp⟩
      obtain ⟨p, _, _, _, x3, _⟩ := hc _ _ hxk
      have HTK : Hid (anyBelow (l.take (k + 1)) = (anyBelow (l.take k) || decide (c < 0))) := anyBelow_take hxk
      clear hxk hc
      generalize anyBelow (l.take k) = bk at *
      cases bk with
      | true =>
        go_wp2
        go_round
        case rel => exact ⟨k + 1, by omega, by go_num, by rw [HTK.out]; rfl⟩
        case measure => simp [intOf]; omega
      | false =>
        by_cases hneg : c < 0
        · have d : decide (c < 0) = true := decide_eq_true hneg
          clear hneg
          go_wp2
          go_round
          case rel => exact ⟨k + 1, by omega, by go_num, by rw [HTK.out, d]; rfl⟩
          case measure => simp [intOf]; omega
        · have d : decide (c < 0) = false := decide_eq_false hneg
          clear hneg
          go_wp2
          go_round
          case rel => exact ⟨k + 1, by omega, by go_num, by rw [HTK.out, d]; rfl⟩
          case measure => simp [intOf]; omega
    · obtain rfl : n = k := by omega
      rw [List.take_of_length_le (by rw [HN.out]; exact Nat.le_refl _), HBL.out]
      have HRP := refPick_ok (.slice a n cap) l (by rw [HN.out]; omega) (anyBelow_no HBL.out) (fun y hy => by have := HPA.out y hy; omega) B (by omega) (by omega) w3 (HA.out.next bc)
      have oK := o2.next b3
      have hKP : ∀ y ∈ keptN B l, y.2.2.2.length ≤ 100 := fun y hy => HPA.out y (kept_mem hy)
      have hKL : (keptN B l).length ≤ 16 := by rw [kept_len]; omega
      clear o2
      obtain ⟨K, hK⟩ : ∃ K, keptN B l = K := ⟨_, rfl⟩
      obtain ⟨C, hC⟩ : ∃ C, cutK sc B l = C := ⟨_, rfl⟩
      rw [hK] at HRP oK hKP hKL
      rw [hC] at HRP ⊢
      clear hK hC
      obtain ⟨ka, kc, e2⟩ := oK.nodes.shape
      obtain ⟨kn, hkn⟩ : ∃ kn, K.length = kn := ⟨_, rfl⟩
      rw [hkn] at e2 hKL
      subst e2
      have HKN : Hid (K.length = kn) := hkn
      have HKP : Hid (∀ y ∈ K, y.2.2.2.length ≤ 100) := hKP
      have hcc : (C != C) = false := by simp
      clear hkn hKP
      go_wp2_with fail
      refine HRP.mono ?_
      rintro e w4 ⟨r4, rfl, o4, b4⟩
      have bd := bc.trans (b4.mono bc.size)
      have oK4 := oK.next b4
      have HC5 := nodes_any (.slice ka kn kc) r4 K K w4 (by rw [HKN.out]; omega) (fun y hy => by have := HKP.out y hy; omega) oK4.nodes o4.nodes
      rw [decide_eq_true rfl] at HC5
      go_wp2_with fail
      refine HC5.mono ?_
      rintro e w5 ⟨rfl, b5⟩
      have be := bd.trans (b5.mono bd.size)
      have oK5 := oK4.next b5
      have oI5 := ((o1.next b2).next b3 |>.next b4 |>.next b5).nodes
      have hs15 : w1.heap.size ≤ w5.heap.size := Nat.le_trans b2.size (Nat.le_trans b3.size (Nat.le_trans b4.size b5.size))
      have bI : Nodes w1.heap.size w5 (.slice a1 n c1) l := o1.nodes.below ((((b2.trans (b3.mono b2.size)).trans (b4.mono (Nat.le_trans b2.size b3.size))).trans (b5.mono (Nat.le_trans b2.size (Nat.le_trans b3.size b4.size)))))
      have bL : Nodes w.heap.size w5 (.slice a n cap) l := HA.out.below be
      clear HC5 oK oK4 o4 oI5 HRP
      obtain ⟨rk, hrow, hrl, hpaths, hapart⟩ := oK5
      rw [HKN.out] at hrow hrl
      have HAP : Hid (rk.Pairwise fun x y => x.2.2.2.ownBlock = none ∨ x.2.2.2.ownBlock ≠ y.2.2.2.ownBlock) := hapart
      have HRL : Hid (rk.length = kn) := hrl
      clear hapart hrl
      go_wp2
      go_loopw [13] (fun s13 wx => ∃ i : Nat, i ≤ kn ∧ s13 = .int .i64 i ∧ wx.ownsRow w1.heap.size 32 4 (.slice ka kn kc) kn (rnCells rk) ∧ PathsFrom w1.heap.size wx rk K i ∧ Below w1.heap.size w5 wx) (fun i _ => kn - (intOf i).toNat)
      case atStart => exact ⟨0, Nat.zero_le _, rfl, hrow, fun j x y _ hx hy => (hpaths j x y hx hy).2.2.2, Below.refl _ _⟩
      case round =>
        obtain ⟨i, hi, rfl, hrw, hpf, bx⟩ := hrel
        clear hrow hpaths
        by_cases hlt : i < kn
        · obtain ⟨x, hx⟩ : ∃ x, rk[i]? = some x := ⟨rk[i]'(by rw [HRL.out]; exact hlt), by simp⟩
          obtain ⟨y, hy⟩ : ∃ y, K[i]? = some y := ⟨K[i]'(by rw [HKN.out]; exact hlt), by simp⟩
          have hpr := hpf i x y (Nat.le_refl _) hx hy
          obtain ⟨b8, off8, rfl, _, hc8⟩ := raw_at (raw_of_row hrw) HRL.out (by omega)
          obtain ⟨_, _, _, x4⟩ := hc8 i x hx
          obtain ⟨pa, pc, hpv⟩ := rowN_shape hpr
          have hyl := HKP.out y (List.mem_of_getElem? hy)
          have HXI : Hid (rk[i]? = some x) := hx
          have HS := spoilInts_own x.2.2.2 y.2.2.2.length w1.heap.size y.2.2.2 (by omega) wr hpr
          have HPV : Hid (x.2.2.2 = .slice pa y.2.2.2.length pc) := hpv
          rw [hpv] at HS x4
          clear hc8 hx hy hpv
          go_wp2_with fail
          refine HS.mono ?_
          rintro e w6 ⟨rfl, b6, hs6, hh6⟩
          have HH6 : Hid (∀ q, some q ≠ x.2.2.2.ownBlock → w6.heap[q]? = wr.heap[q]?) := by
            show ∀ q, some q ≠ x.2.2.2.ownBlock → w6.heap[q]? = wr.heap[q]?
            rw [HPV.out]; exact hh6
          clear hh6 hs6
          go_wp2
          go_roundw
          case rel =>
            refine ⟨i + 1, by omega, by go_num, rowN_heap hrw (fun g hg => HH6.out g fun e => ?_), hpf.next HAP.out HXI.out HH6.out, bx.trans b6⟩
            rcases rows_unlike hpr hrw (by decide) with h | h
            · rw [h] at e; cases e
            · exact h (by rw [hg, ← e])
          case measure => simp [intOf]; omega
        · obtain rfl : kn = i := by omega
          have hsz1 : w1.heap.size ≤ wr.heap.size := Nat.le_trans hs15 bx.size
          have HC7 := nodes_any (.slice a1 n c1) (.slice a n cap) l l wr (by rw [HN.out]; omega) (fun y hy => by have := HPA.out y hy; omega) ((bI.below bx).mono hsz1) ((bL.below (bx.mono b1.size)).mono (Nat.le_trans b1.size hsz1))
          rw [decide_eq_true rfl] at HC7
          have bf := be.trans (bx.mono b1.size)
          clear hpf hrw bI bL
          go_wp2_with fail
          refine HC7.mono ?_
          rintro e w7 ⟨rfl, b7⟩
          have bg := bf.trans (b7.mono bf.size)
          go_wp2_with fail
          refine (pickWakes_any _).mono ?_
          rintro e w9 ⟨rfl, b9⟩
          go_wp2
          go_ret
          exact ⟨rfl, bg.trans (b9.mono bg.size)⟩

set_option maxRecDepth 100000 in
set_option maxHeartbeats 2000000 in
theorem PickExact_heavy (a : Option Addr) (n cap : Nat) (b : Int) (w : World) (HHV : Calls Try.prog 6 #[.slice a n cap] w fun e w' => e = .returned (.bool true) ∧ w = w') :
    Calls Try.prog 3 #[.slice a n cap, .int .i64 b] w fun e W' => e = .returned (.bool true) ∧ Below w.heap.size w W' := by
  go_enter Try.func3, Try.ntmps3
  go_wp2_with fail
  refine HHV.mono ?_
  rintro e wz ⟨rfl, rfl⟩
  go_wp2
  go_ret
  exact ⟨rfl, Below.refl _ _⟩

/-- PickExact answers true. -/
theorem PickExact_walk (a : Option Addr) (n cap : Nat) (l : List Nd) (b : Int) (w : World) (h : IsNodes w a n cap l) :
    Calls Try.prog 3 #[.slice a n cap, .int .i64 b] w fun e W' => e = .returned (.bool true) ∧ Below w.heap.size w W' := by
  obtain ⟨hn, hc, hm, hA, hin⟩ := h
  have HHV := heavy_any (.slice a n cap) l (by omega) (fun x hx => (hin x hx).2.2.2) w hA
  cases hh : heavyB l with
  | true =>
    rw [hh] at HHV
    exact PickExact_heavy a n cap b w HHV
  | false =>
    rw [hh] at HHV
    obtain ⟨h400, hp⟩ := heavyB_no hh
    rw [hn] at h400
    by_cases h1 : b < 1
    · exact PickExact_low a n cap l b w hn h400 hp hA HHV h1
    · by_cases h2 : 16 < b
      · exact PickExact_high a n cap l b w hn h400 hp hA HHV h2
      · cases hb : anyBelow l with
        | true => exact PickExact_below a n cap l b w hn h400 hp hA HHV (by omega) (by omega) hb
        | false =>
          by_cases h3 : 256 < n
          · exact PickExact_len a n cap l b w hn h400 hp hA HHV (by omega) (by omega) hb h3
          · exact PickExact_ok a n cap l b w hn h400 hp hA HHV b.toNat (by omega) (by omega) (by omega) hb (by omega)

end Go.Proofs.Ytmjbphbjaedlpaa
