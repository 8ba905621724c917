/-
  What beam.Walk answers: the list at the end of the walk, and the cut.
-/
import Derived.Test.YtddcloanbpkecaaDoorBeamAll
import Derived.Test.YtddcloanbpkecaaDoorPickCode
namespace Go.Proofs.YtddcloanbpkecaaDoor
open Go.RowKit

/-- The slice v holds these nodes; no path is longer than its room. -/
def NodesC (n₀ : Nat) (W : World) (v : Value) (l : List Nd) : Prop := ∃ r, Raw n₀ W v r ∧ RnsOf n₀ W r l ∧ ∀ x ∈ r, ∃ a n c, x.2.2.2 = Value.slice a n c ∧ n ≤ c
theorem NodesC.nodes {n₀ : Nat} {W : World} {v : Value} {l : List Nd} (h : NodesC n₀ W v l) : Nodes n₀ W v l := by obtain ⟨r, h1, h2, _⟩ := h; exact ⟨r, h1, h2⟩
theorem NodesC.next {W W' : World} {v : Value} {l : List Nd} (h : NodesC W.heap.size W v l) (hb : Below W.heap.size W W') : NodesC W'.heap.size W' v l := by obtain ⟨r, h1, h2, h3⟩ := h; exact ⟨r, (h1.below hb).mono hb.size, (h2.below hb).mono hb.size, h3⟩
theorem OwnNodes.nodesC {base : Nat} {W : World} {v : Value} {l : List Nd} (h : OwnNodes base W v l) : NodesC W.heap.size W v l := by
  obtain ⟨r, h1, h2⟩ := h
  refine ⟨r, raw_of_row h1, h2.rns, fun x hx => ?_⟩
  obtain ⟨j, hj, e⟩ := List.getElem_of_mem hx
  have hjl : j < l.length := by rw [← h2.1]; exact hj
  obtain ⟨_, _, _, h4⟩ := h2.2.1 j x (l[j]) (by rw [← e]; simp) (by simp)
  obtain ⟨a, c, e4⟩ := rowN_shape h4
  rw [e4] at h4
  exact ⟨_, _, _, e4, rowN_cap h4⟩
theorem NodesC.cap {n₀ : Nat} {W : World} {v : Value} {l : List Nd} (h : NodesC n₀ W v l) {n cap : Nat} {a : Option Addr} (hv : v = .slice a n cap) (hl : l.length = n) (h0 : 0 < n) : ∃ b off, a = some ⟨b, off, none⟩ ∧ ∀ (j : Nat) (y : Nd), l[j]? = some y →
      ∃ pa pc, y.2.2.2.length ≤ pc ∧ Holds .i64 n₀ W (.slice pa y.2.2.2.length pc) y.2.2.2 ∧ W.cell? ⟨b, off + j * 4 + 1, none⟩ = some (.int .i64 y.2.1) ∧ W.cell? ⟨b, off + j * 4 + 3, none⟩ = some (.slice pa y.2.2.2.length pc) := by
  obtain ⟨r, h1, h2, h3⟩ := h
  subst hv
  obtain ⟨b, off, rfl, _, hc⟩ := raw_at h1 (h2.1.trans hl) h0
  refine ⟨b, off, rfl, fun j y hy => ?_⟩
  obtain ⟨p, hp, hh⟩ := h2.get hy
  obtain ⟨pa, pn, pc, e, hle⟩ := h3 _ (List.mem_of_getElem? hp)
  obtain ⟨pa', pc', e'⟩ := hh.shape
  have e'' : p = .slice pa pn pc := e
  have hcc := hc j _ hp
  rw [e'] at hh hcc
  rw [e'] at e''
  cases e''
  exact ⟨_, _, hle, hh, hcc.2.1, hcc.2.2.2⟩

set_option maxRecDepth 100000 in
set_option maxHeartbeats 4000000 in
theorem Walk_ok (N : Nat) (p : Int) (a : Option Addr) (cap : Nat) (l : List (Int × Int)) (hp : PileOk (N : Int) p l) (b : Nat) (hb1 : 1 ≤ b) (hb2 : b ≤ 16) (D : Nat) (hD : D ≤ 2) (w : World) (ha : Syms w.heap.size w (.slice a l.length cap) l) (hF : Firsts w) :
    Calls Tryd.prog 10 #[.agg #[.int .i64 N, .int .i64 p, .slice a l.length cap], .int .i64 (b : Int), .int .i64 ((D + 1 : Nat) : Int)] w fun e W' => ∃ r, e = .returned (.tuple #[r, .int .i64 (walkB N l b D N).2, .int .i64 0]) ∧ NodesC W'.heap.size W' r (walkB N l b D N).1 ∧ Below w.heap.size w W' := by
  have hN1 : 1 ≤ N := by have := hp.1.1; omega
  have hN2 : N < 65 := by have := hp.1.2.1; omega
  have b1 : Below w.heap.size w (w.alloc (.cells #[.int .i64 N, .int .i64 p, .slice a l.length cap] 24)) := (Below.refl w.heap.size w).alloc (Nat.le_refl _) _
  have HP : Hid (PileOk (N : Int) p l) := hp
  have HBS := bySegment_ok N p a cap l hp _ (ha.next b1) (hF.next b1)
  have HAC : Hid (∀ (sb so scap i : Nat) (L : List Nd) (m : Nat) (la : Option Addr) (lc : Nat) (wx : World), i < N → L.length = m → 1 ≤ m → m ≤ 16 → (∀ n ∈ L, (∃ s : Nat, s < 4294967296 ∧ n.1 = (s : Int)) ∧ 0 ≤ n.2.1 ∧ n.2.1 ≤ 8192 * (i : Int) ∧ n.2.2.2.length = i) → Segs wx.heap.size wx (.slice (some ⟨sb, so, none⟩) N scap) (segsL N l) → Nodes wx.heap.size wx (.slice la m lc) L → Calls Tryd.prog 31 #[.slice (some ⟨sb, so, none⟩) N scap, .slice la m lc, .int .i64 ((D + 1 : Nat) : Int)] wx fun e W' => ∃ r, e = .returned r ∧ Nodes W'.heap.size W' r (kidsB N l D i L) ∧ Below wx.heap.size wx W') := fun sb so scap i L m la lc wx h1 h2 h3 h4 h5 h6 h7 => allChildren_ok sb so N scap l p hp D hD i h1 L m h2 h3 h4 la lc h5 wx h6 h7
  obtain ⟨D1, hD1⟩ : ∃ D1, D + 1 = D1 := ⟨_, rfl⟩
  rw [hD1] at HAC ⊢
  have g1 : decide ((b : Int) < 1) = false := decide_eq_false (by omega)
  have g2 : decide ((16 : Int) < (b : Int)) = false := decide_eq_false (by omega)
  have g2' : decide (16 < b) = false := decide_eq_false (by omega)
  have g1' : decide (b < 1) = false := decide_eq_false (by omega)
  have HID := isDepth_yes (D1 : Int) (by omega) (by omega)
  clear hp ha hF hD1
  go_enter Tryd.func10, Tryd.ntmps10
  go_wp2
  go_step3
  go_wp2_with fail
  refine HBS.mono ?_
  rintro e w2 ⟨r, rfl, hSg, b2⟩
  clear HBS
  obtain ⟨sb, so, scap, e3, hsb⟩ := hSg.shape
  rw [segsL_len] at e3
  subst e3
  have bb2 := b1.trans (b2.mono b1.size)
  clear b1 b2
  go_wp2_with fail
  refine (HID w2).mono ?_
  rintro e wz ⟨rfl, rfl⟩
  go_wp2_with fail
  refine (root_any w2).mono ?_
  rintro e w3 ⟨rfl, b3⟩
  have bb3 := bb2.trans (b3.mono bb2.size)
  have b4 : Below w3.heap.size w3 (w3.alloc (.cells #[.int .u32 (beginN : Int), .int .i64 0, .int .i64 0, .slice none 0 0] 32)) := (Below.refl _ _).alloc (Nat.le_refl _) _
  have hR : NodesC (w3.alloc (.cells #[.int .u32 (beginN : Int), .int .i64 0, .int .i64 0, .slice none 0 0] 32)).heap.size (w3.alloc (.cells #[.int .u32 (beginN : Int), .int .i64 0, .int .i64 0, .slice none 0 0] 32)) (.slice (some ⟨w3.heap.size, 0, none⟩) 1 1) [((beginN : Int), 0, 0, [])] := by
    refine ⟨[((beginN : Int), 0, 0, .slice none 0 0)], raw_of_row (base := 0) (k := 1) (e := 32) ⟨rfl, .inr ⟨w3.heap.size, 1, #[.int .u32 (beginN : Int), .int .i64 0, .int .i64 0, .slice none 0 0], rfl, Nat.zero_le _, World.alloc_heap_new _ _, Nat.le_refl _, by unfold maxLen; omega, rfl, rfl⟩⟩, (rnsOf_nil _ _).snoc (x := ((beginN : Int), 0, 0, .slice none 0 0)) (y := ((beginN : Int), 0, 0, [])) ⟨rfl, rfl, rfl, .inl ⟨⟨_, _, rfl, fun _ => rfl⟩, rfl⟩⟩, fun x hx => ⟨none, 0, 0, by simp at hx; rw [hx], Nat.le_refl _⟩⟩
  have HS4 : Hid (Segs (w3.alloc (.cells #[.int .u32 (beginN : Int), .int .i64 0, .int .i64 0, .slice none 0 0] 32)).heap.size (w3.alloc (.cells #[.int .u32 (beginN : Int), .int .i64 0, .int .i64 0, .slice none 0 0] 32)) (.slice (some ⟨sb, so, none⟩) N scap) (segsL N l)) := (hSg.next b3).next b4
  have bb4 := bb3.trans (b4.mono bb3.size)
  have hfd : Sem.run Tryd.prog (Instr.field 61 (.agg #[.int .i64 0, .int .u32 (beginN : Int), .int .i64 0]) 1) w3 = .ok (.int .u32 (beginN : Int)) w3 := rfl
  clear hSg b3 b4 bb2 bb3
  go_wp2
  clear hfd
  go_step3
  go_wp2
  obtain ⟨W4, hW4⟩ : ∃ W, w3.alloc (.cells #[.int .u32 (beginN : Int), .int .i64 0, .int .i64 0, .slice none 0 0] 32) = W := ⟨_, rfl⟩
  rw [hW4] at bb4 hR HS4 ⊢
  clear hW4
  go_loopw [6, 7, 38] (fun s9 s10 s11 wr => ∃ i : Nat, i ≤ N ∧ s11 = .int .i64 i ∧ s10 = .int .i64 (walkB N l b D i).2 ∧ NodesC wr.heap.size wr s9 (walkB N l b D i).1 ∧ Below W4.heap.size W4 wr) (fun _ _ i _ => N - (intOf i).toNat)
  case atStart => exact ⟨0, Nat.zero_le _, rfl, rfl, hR, Below.refl _ _⟩
  case round =>
    obtain ⟨i, hi, rfl, rfl, hL, bw⟩ := hrel
    clear hR
    by_cases hlt : i < N
    · have dN : decide ((i : Int) < (N : Int)) = true := decide_eq_true (by omega)
      have dN' : decide (i < N) = true := decide_eq_true hlt
      have hwl := walkB_len N l (D := D) (i := i) hb1 hb2
      have hwi := walkTo_inv stB (coB N l) N (beginN : Int) D b hb1 i
      have hws : 0 < (walkB N l b D i).1.length := hwi.some
      have hwc : -1 ≤ (walkB N l b D i).2 := hwi.cut1
      have HNB : Hid (∀ n ∈ (walkB N l b D i).1, (∃ s : Nat, s < 4294967296 ∧ n.1 = (s : Int)) ∧ 0 ≤ n.2.1 ∧ n.2.1 ≤ 8192 * (i : Int) ∧ n.2.2.2.length = i) := fun n hn => walkB_node HP.out hb1 hn
      have HKO : Hid (∀ x ∈ kidsB N l D i (walkB N l b D i).1, 0 ≤ sc x ∧ x.2.2.2.length = i + 1) := kidsB_ok HP.out hb1
      have HNX : Hid (walkB N l b D (i + 1) = (keptN b (kidsB N l D i (walkB N l b D i).1), lmin (walkB N l b D i).2 (cutK sc b (kidsB N l D i (walkB N l b D i).1)))) := walkB_next N l b D i
      obtain ⟨L, hLe⟩ : ∃ L, (walkB N l b D i).1 = L := ⟨_, rfl⟩
      obtain ⟨cu, hcu⟩ : ∃ cu, (walkB N l b D i).2 = cu := ⟨_, rfl⟩
      rw [hLe] at hwl hws HNB HKO HNX hL
      rw [hcu] at HNX hwc ⊢
      obtain ⟨la, lc, e9⟩ := hL.nodes.shape
      obtain ⟨m, hm⟩ : ∃ m, L.length = m := ⟨_, rfl⟩
      rw [hm] at e9 hwl hws
      subst e9
      have HCC := HAC.out sb so scap i L m la lc wr hlt hm hws hwl HNB.out (HS4.out.next bw) hL.nodes
      have hkl : (kidsB N l D i L).length = m * 16 := by
        unfold kidsB
        rw [kidsOf_len, hm]
      have HKL : Hid ((kidsB N l D i L).length = m * 16) := hkl
      have hcut : cutK sc b (kidsB N l D i L) = -1 ∨ 0 ≤ cutK sc b (kidsB N l D i L) := by
        rcases cutK_least sc b (kidsB N l D i L) with ⟨e, _⟩ | ⟨⟨y, hy, ey⟩, _⟩
        · exact .inl e
        · refine .inr ?_
          rw [← ey]
          exact (HKO.out y ((sortK_perm sc _).mem_iff.1 (List.mem_of_mem_drop hy))).1
      obtain ⟨c, hc⟩ : ∃ c, cutK sc b (kidsB N l D i L) = c := ⟨_, rfl⟩
      rw [hc] at hcut HNX
      have HC : Hid (cutK sc b (kidsB N l D i L) = c) := hc
      clear hLe hcu hm hL hkl hc hwi
      by_cases hc0 : c = -1
      · have d0 : (c == -1) = true := by simp [hc0]
        have HLM : Hid (lmin cu c = cu) := by
          show lmin cu c = cu
          unfold lmin
          rw [if_neg (by omega)]
        clear hc0 hcut
        go_wp2_with (first | (go_at_call 31; refine HCC.mono ?_; rintro e w5 ⟨r5, rfl, hk5, b5⟩; have HPK := Pick_ok r5 (kidsB N l D i L) (by rw [HKL.out]; omega) (fun x hx => by rw [(HKO.out x hx).2]; omega) b hb1 hb2 (fun x hx => (HKO.out x hx).1) w5 hk5; rw [HC.out] at HPK) | (go_at_call 30; refine HPK.mono ?_; rintro e w6 ⟨r6, rfl, o6, b6⟩; clear HPK; have HNW : Hid (NodesC w6.heap.size w6 r6 (keptN b (kidsB N l D i L))) := o6.nodesC; clear o6; have hb6 : Below W4.heap.size W4 w6 := (bw.trans (b5.mono bw.size)).trans (b6.mono (Nat.le_trans bw.size b5.size))))
        go_roundw
        case rel => exact ⟨i + 1, by omega, by go_num, by rw [HNX.out, HLM.out], by rw [HNX.out]; exact HNW.out, hb6⟩
        case measure => simp [intOf]; omega
      · have d0 : (c == -1) = false := by rw [beq_eq_false_iff_ne]; exact hc0
        have hc1 : 0 ≤ c := hcut.resolve_left hc0
        clear hcut hc0
        by_cases hu0 : cu = -1
        · have d1 : (cu == -1) = true := by simp [hu0]
          have HLM : Hid (lmin cu c = c) := by
            show lmin cu c = c
            unfold lmin
            rw [if_pos ⟨hc1, .inl (by omega)⟩]
          clear hu0 hc1 hwc
          go_wp2_with (first | (go_at_call 31; refine HCC.mono ?_; rintro e w5 ⟨r5, rfl, hk5, b5⟩; have HPK := Pick_ok r5 (kidsB N l D i L) (by rw [HKL.out]; omega) (fun x hx => by rw [(HKO.out x hx).2]; omega) b hb1 hb2 (fun x hx => (HKO.out x hx).1) w5 hk5; rw [HC.out] at HPK) | (go_at_call 30; refine HPK.mono ?_; rintro e w6 ⟨r6, rfl, o6, b6⟩; clear HPK; have HNW : Hid (NodesC w6.heap.size w6 r6 (keptN b (kidsB N l D i L))) := o6.nodesC; clear o6; have hb6 : Below W4.heap.size W4 w6 := (bw.trans (b5.mono bw.size)).trans (b6.mono (Nat.le_trans bw.size b5.size))))
          go_roundw
          case rel => exact ⟨i + 1, by omega, by go_num, by rw [HNX.out, HLM.out], by rw [HNX.out]; exact HNW.out, hb6⟩
          case measure => simp [intOf]; omega
        · have d1 : (cu == -1) = false := by rw [beq_eq_false_iff_ne]; exact hu0
          by_cases hcc : c < cu
          · have d2 : decide (c < cu) = true := decide_eq_true hcc
            have HLM : Hid (lmin cu c = c) := by
              show lmin cu c = c
              unfold lmin
              rw [if_pos ⟨hc1, .inr hcc⟩]
            clear hu0 hc1 hwc hcc
            go_wp2_with (first | (go_at_call 31; refine HCC.mono ?_; rintro e w5 ⟨r5, rfl, hk5, b5⟩; have HPK := Pick_ok r5 (kidsB N l D i L) (by rw [HKL.out]; omega) (fun x hx => by rw [(HKO.out x hx).2]; omega) b hb1 hb2 (fun x hx => (HKO.out x hx).1) w5 hk5; rw [HC.out] at HPK) | (go_at_call 30; refine HPK.mono ?_; rintro e w6 ⟨r6, rfl, o6, b6⟩; clear HPK; have HNW : Hid (NodesC w6.heap.size w6 r6 (keptN b (kidsB N l D i L))) := o6.nodesC; clear o6; have hb6 : Below W4.heap.size W4 w6 := (bw.trans (b5.mono bw.size)).trans (b6.mono (Nat.le_trans bw.size b5.size))))
            go_roundw
            case rel => exact ⟨i + 1, by omega, by go_num, by rw [HNX.out, HLM.out], by rw [HNX.out]; exact HNW.out, hb6⟩
            case measure => simp [intOf]; omega
          · have d2 : decide (c < cu) = false := decide_eq_false hcc
            have HLM : Hid (lmin cu c = cu) := by
              show lmin cu c = cu
              unfold lmin
              rw [if_neg (by omega)]
            clear hu0 hc1 hwc hcc
            go_wp2_with (first | (go_at_call 31; refine HCC.mono ?_; rintro e w5 ⟨r5, rfl, hk5, b5⟩; have HPK := Pick_ok r5 (kidsB N l D i L) (by rw [HKL.out]; omega) (fun x hx => by rw [(HKO.out x hx).2]; omega) b hb1 hb2 (fun x hx => (HKO.out x hx).1) w5 hk5; rw [HC.out] at HPK) | (go_at_call 30; refine HPK.mono ?_; rintro e w6 ⟨r6, rfl, o6, b6⟩; clear HPK; have HNW : Hid (NodesC w6.heap.size w6 r6 (keptN b (kidsB N l D i L))) := o6.nodesC; clear o6; have hb6 : Below W4.heap.size W4 w6 := (bw.trans (b5.mono bw.size)).trans (b6.mono (Nat.le_trans bw.size b5.size))))
            go_roundw
            case rel => exact ⟨i + 1, by omega, by go_num, by rw [HNX.out, HLM.out], by rw [HNX.out]; exact HNW.out, hb6⟩
            case measure => simp [intOf]; omega
    · obtain rfl : i = N := by omega
      go_wp2
      rw [Exit.noGoto_ret]
      refine bodyPost_ret (v := .tuple #[u6, .int .i64 (walkB i l b D i).2, .int .i64 0]) (by simp [results, Tryd.results10]) rfl ⟨_, rfl, hL, bb4.trans (bw.mono bb4.size)⟩

set_option maxRecDepth 100000 in
set_option maxHeartbeats 2000000 in
theorem Walk_no (n p : Int) (a : Option Addr) (cap : Nat) (l : List (Int × Int)) (hl : l.length ≤ 4294967296) (hp : ¬ PileOk n p l) (b d : Int) (w : World) (ha : Syms w.heap.size w (.slice a l.length cap) l) :
    Calls Tryd.prog 10 #[.agg #[.int .i64 n, .int .i64 p, .slice a l.length cap], .int .i64 b, .int .i64 d] w fun e W' => e = .returned (.tuple #[.slice none 0 0, .int .i64 0, .int .i64 1]) ∧ Below w.heap.size w W' := by
  have b1 : Below w.heap.size w (w.alloc (.cells #[.int .i64 n, .int .i64 p, .slice a l.length cap] 24)) := (Below.refl w.heap.size w).alloc (Nat.le_refl _) _
  have HBS := bySegment_no n p a cap l hl hp _ (ha.next b1)
  clear hp ha
  go_enter Tryd.func10, Tryd.ntmps10
  go_wp2
  go_step3
  go_wp2_with fail
  refine HBS.mono ?_
  rintro e w2 ⟨rfl, b2⟩
  go_wp2
  rw [Exit.noGoto_ret]
  refine bodyPost_ret (v := .tuple #[.slice none 0 0, .int .i64 0, .int .i64 1]) (by simp [results, Tryd.results10]) rfl ⟨rfl, b1.trans (b2.mono b1.size)⟩

set_option maxRecDepth 100000 in
set_option maxHeartbeats 2000000 in
theorem Walk_arg (N : Nat) (p : Int) (a : Option Addr) (cap : Nat) (l : List (Int × Int)) (hp : PileOk (N : Int) p l) (b d : Int) (h : ¬ ((1 ≤ b ∧ b ≤ 16) ∧ 1 ≤ d ∧ d ≤ 3)) (w : World) (ha : Syms w.heap.size w (.slice a l.length cap) l) (hF : Firsts w) :
    Calls Tryd.prog 10 #[.agg #[.int .i64 N, .int .i64 p, .slice a l.length cap], .int .i64 b, .int .i64 d] w fun e W' => e = .returned (.tuple #[.slice none 0 0, .int .i64 0, .int .i64 1]) ∧ Below w.heap.size w W' := by
  have b1 : Below w.heap.size w (w.alloc (.cells #[.int .i64 N, .int .i64 p, .slice a l.length cap] 24)) := (Below.refl w.heap.size w).alloc (Nat.le_refl _) _
  have HBS := bySegment_ok N p a cap l hp _ (ha.next b1) (hF.next b1)
  clear hp ha hF
  go_enter Tryd.func10, Tryd.ntmps10
  go_wp2
  go_step3
  go_wp2_with fail
  refine HBS.mono ?_
  rintro e w2 ⟨r, rfl, hSg, b2⟩
  clear HBS
  obtain ⟨sb, so, scap, e3, hsb⟩ := hSg.shape
  rw [segsL_len] at e3
  subst e3
  have bb2 := b1.trans (b2.mono b1.size)
  clear b1 b2 hSg
  by_cases h1 : b < 1
  · have g1 : decide (b < 1) = true := decide_eq_true h1
    clear h h1
    go_wp2
    rw [Exit.noGoto_ret]
    refine bodyPost_ret (v := .tuple #[.slice none 0 0, .int .i64 0, .int .i64 1]) (by simp [results, Tryd.results10]) rfl ⟨rfl, bb2⟩
  · have g1 : decide (b < 1) = false := decide_eq_false h1
    by_cases h2 : 16 < b
    · have g2 : decide (16 < b) = true := decide_eq_true h2
      clear h h1 h2
      go_wp2
      rw [Exit.noGoto_ret]
      refine bodyPost_ret (v := .tuple #[.slice none 0 0, .int .i64 0, .int .i64 1]) (by simp [results, Tryd.results10]) rfl ⟨rfl, bb2⟩
    · have g2 : decide (16 < b) = false := decide_eq_false h2
      have HID := isDepth_no d (by omega) w2
      clear h h1 h2
      go_wp2_with (go_at_call 27; refine HID.mono ?_; rintro e wz ⟨rfl, rfl⟩)
      rw [Exit.noGoto_ret]
      refine bodyPost_ret (v := .tuple #[.slice none 0 0, .int .i64 0, .int .i64 1]) (by simp [results, Tryd.results10]) rfl ⟨rfl, bb2⟩

end Go.Proofs.YtddcloanbpkecaaDoor
