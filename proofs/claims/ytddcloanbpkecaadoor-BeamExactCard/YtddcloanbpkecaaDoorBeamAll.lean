/-
  What beam's allChildren answers: all children of a list, with their Scores.
-/
import Derived.Test.YtddcloanbpkecaaDoorBeamNodes1
namespace Go.Proofs.YtddcloanbpkecaaDoor
open Go.RowKit Go.Shelf
attribute [local go_sem] Oper.semAt_some

theorem infoNodeB : (Tryd.prog.info? 32).map (fun i => (i.zero, i.size, i.bytes)) = some (some (.agg #[.int .u32 0, .int .i64 0, .int .i64 0, .slice none 0 0]), 4, 48) := by kernel_rfl

theorem spared_append {X : Nat → Prop} {W w5 : World} {tmp : Obj} {g B : Nat} {v' : Value} (hgrow : (W.alloc tmp).grownBy w5 (some g)) (hg : X g) (hB : X B) : Spared X W (w5.setCell ⟨B, 0, none⟩ v') := by
  refine ⟨hgrow.os, hgrow.tape, hgrow.output, ?_, fun k hk hx => ?_⟩
  · have h1 := hgrow.size
    have h2 : (w5.setCell ⟨B, 0, none⟩ v').heap.size = w5.heap.size := by simp [World.setCell]
    rw [h2]
    simp at h1
    omega
  · rw [Below.heap_setCell _ _ _ _ (fun e => hx (by rw [show k = B from e]; exact hB))]
    exact (hgrow.block k (by simp; omega) (fun e => hx (by cases e; exact hg))).trans (Below.heap_alloc W tmp k hk)
theorem row_at {A B : World} {base e size n cap k g : Nat} {xs : List Value} (h : A.ownsRow base e size (.slice (some ⟨g, 0, none⟩) n cap) k xs) (hb : B.heap[g]? = A.heap[g]?) : B.ownsRow base e size (.slice (some ⟨g, 0, none⟩) n cap) k xs := by
  refine ⟨h.1, ?_⟩
  rcases h.2 with h0 | ⟨g', cap', cur, hv, hbs, hg, hk, hm, hs, ht⟩
  · exact .inl h0
  · cases hv
    exact .inr ⟨g, cap, cur, rfl, hbs, hb.trans hg, hk, hm, hs, ht⟩
theorem OwnRns.base {b b' : Nat} {W : World} {r : List Rn} {l : List Nd} (h : OwnRns b W r l) (hb : b' ≤ b) : OwnRns b' W r l := ⟨h.1, fun j x y hx hy => by obtain ⟨h1, h2, h3, h4⟩ := h.2.1 j x y hx hy; exact ⟨h1, h2, h3, rowN_base h4 hb⟩, h.2.2⟩
theorem rnCells_snoc' (xs : List Rs) (x : Rs) : rnCells ((xs ++ [x]).map toRn) = rnCells (xs.map toRn) ++ [.int .u32 x.1, .int .i64 x.2.1, .int .i64 x.2.2.1, .slice x.2.2.2.1 x.2.2.2.2.1 x.2.2.2.2.2] := by
  rw [List.map_append, List.map_cons, List.map_nil, rnCells_snoc]
  rfl

set_option maxHeartbeats 400000 in
theorem nodes_in (n : Nat) (v u : Value) (hv : SliceV v) (hu : SliceV u) (d : Int) (w : World) : CallsIn Fence.wide n Tryd.prog 50 #[v, u, .int .i64 d] w fun e w' => e = .returned (.func (.func 66) #[] #[.pointer (some ⟨w.heap.size + 1, 0, none⟩), .pointer (some ⟨w.heap.size, 0, none⟩), .pointer (some ⟨w.heap.size + 1 + 1, 0, none⟩)]) ∧ w' = ((w.alloc (.cells #[v] 57)).alloc (.cells #[u] 38)).alloc (.cells #[.int .i64 d] 3) := by
  obtain ⟨a, k, c, rfl⟩ := hv
  obtain ⟨a', k', c', rfl⟩ := hu
  refine callsIn_of_wp Tryd.func50 rfl trivial ?_ rfl
  simp only [Tryd.ntmps50, List.size_toArray, List.length_cons, List.length_nil, Nat.reduceAdd, Nat.reduceSub, Array.replicate_succ, Array.replicate_zero, List.push_toArray, List.append_toArray, List.nil_append, List.cons_append]
  gi_wp2
  go_ret
  exact ⟨rfl, rfl⟩

set_option maxRecDepth 100000 in
set_option maxHeartbeats 4000000 in
theorem allChildren_ok (b off N cap : Nat) (l : List (Int × Int)) (p : Int) (hp : PileOk (N : Int) p l) (D : Nat) (hD : D ≤ 2) (i : Nat) (hi : i < N) (L : List Nd) (m : Nat) (hm : L.length = m) (hm1 : 1 ≤ m) (hm16 : m ≤ 16) (la : Option Addr) (lc : Nat)
    (hLn : ∀ n ∈ L, (∃ s : Nat, s < 4294967296 ∧ n.1 = (s : Int)) ∧ 0 ≤ n.2.1 ∧ n.2.1 ≤ 8192 * (i : Int) ∧ n.2.2.2.length = i) (w : World)
    (hS : Segs w.heap.size w (.slice (some ⟨b, off, none⟩) N cap) (segsL N l)) (hLN : Nodes w.heap.size w (.slice la m lc) L) :
    Calls Tryd.prog 31 #[.slice (some ⟨b, off, none⟩) N cap, .slice la m lc, .int .i64 ((D + 1 : Nat) : Int)] w fun e W' => ∃ r, e = .returned r ∧ Nodes W'.heap.size W' r (kidsB N l D i L) ∧ Below w.heap.size w W' := by
  refine (callsIn_wide (n := 9)).1 ?_
  obtain ⟨i0, hi0, hz0, hz1, hz2⟩ := info_parts infoNodeB
  obtain ⟨M, hM⟩ : ∃ M, m * 16 = M := ⟨_, rfl⟩
  have e16 : (16 : Int) * (m : Int) = (M : Int) := by omega
  have hM2 : M ≤ 256 := by omega
  have hM1 : 1 ≤ M := by omega
  have hn1 : (1 : Nat) ≤ 9 := by omega
  obtain ⟨D1, hD1⟩ : ∃ D1, D + 1 = D1 := ⟨_, rfl⟩
  rw [hD1]
  have HD1 : Hid (D + 1 = D1) := hD1
  have f1 : Fence.wide.fn 50 := trivial
  have HP : Hid (PileOk (N : Int) p l) := hp
  have HM : Hid (m * 16 = M) := hM
  have HML : Hid (L.length = m) := hm
  have HLn : Hid (∀ n ∈ L, (∃ s : Nat, s < 4294967296 ∧ n.1 = (s : Int)) ∧ 0 ≤ n.2.1 ∧ n.2.1 ≤ 8192 * (i : Int) ∧ n.2.2.2.length = i) := hLn
  have HS : Hid (Segs w.heap.size w (.slice (some ⟨b, off, none⟩) N cap) (segsL N l)) := hS
  have HLN : Hid (Nodes w.heap.size w (.slice la m lc) L) := hLN
  clear hp hM hm hLn hS hLN hD1
  refine callsIn_of_wp_marks Tryd.func31 rfl trivial ?_ rfl
  simp only [Tryd.ntmps31, List.size_toArray, List.length_cons, List.length_nil, Nat.reduceAdd, Nat.reduceSub, Array.replicate_succ, Array.replicate_zero, List.push_toArray, List.append_toArray, List.nil_append, List.cons_append]
  gi_wp2_with (first | (gi_at_make; refine wpListIn_make_own _ rfl _ _ 38 rfl w.heap.size 32 i0 (.agg #[.int .u32 0, .int .i64 0, .int .i64 0, .slice none 0 0]) 4 Tryd.underlying38 hi0 hz0 hz1 .i64 .i64 _ M rfl rfl (by omega) (by rw [hz2]; omega) (by unfold maxLen; omega) (Nat.le_refl _) ?_; intro w1 hown1 hgrow1) | (gi_at_call 50; refine (nodes_in (9 - 1) _ _ ⟨_, _, _, rfl⟩ ⟨_, _, _, rfl⟩ _ _).mono ?_; rintro e w2 ⟨rfl, rfl⟩))
  have hg0 : w.heap.size < w1.heap.size := (hown1.lt w.heap.size rfl).2
  have hB01 : Below w.heap.size w w1 := (Below.refl _ w).grown hgrow1 (Nat.le_refl _) (fun k e => by cases e)
  have bO : Box ((((w1.alloc (.cells #[.slice (some ⟨w.heap.size, 0, none⟩) 0 M] 38)).alloc (.cells #[.slice (some ⟨b, off, none⟩) N cap] 57)).alloc (.cells #[.slice la m lc] 38)).alloc (.cells #[.int .i64 (D1 : Int)] 3)) w1.heap.size 38 #[.slice (some ⟨w.heap.size, 0, none⟩) 0 M] := (((Box.new w1 38 _).alloc _).alloc _).alloc _
  have bH := ((Box.new (w1.alloc (.cells #[.slice (some ⟨w.heap.size, 0, none⟩) 0 M] 38)) 57 #[.slice (some ⟨b, off, none⟩) N cap]).alloc (.cells #[.slice la m lc] 38)).alloc (.cells #[.int .i64 (D1 : Int)] 3)
  have bL := (Box.new ((w1.alloc (.cells #[.slice (some ⟨w.heap.size, 0, none⟩) 0 M] 38)).alloc (.cells #[.slice (some ⟨b, off, none⟩) N cap] 57)) 38 #[.slice la m lc]).alloc (.cells #[.int .i64 (D1 : Int)] 3)
  have bD := Box.new (((w1.alloc (.cells #[.slice (some ⟨w.heap.size, 0, none⟩) 0 M] 38)).alloc (.cells #[.slice (some ⟨b, off, none⟩) N cap] 57)).alloc (.cells #[.slice la m lc] 38)) 3 #[.int .i64 (D1 : Int)]
  simp only [World.size_alloc] at bH bL bD
  have b10 : Below w1.heap.size w1 ((((w1.alloc (.cells #[.slice (some ⟨w.heap.size, 0, none⟩) 0 M] 38)).alloc (.cells #[.slice (some ⟨b, off, none⟩) N cap] 57)).alloc (.cells #[.slice la m lc] 38)).alloc (.cells #[.int .i64 (D1 : Int)] 3)) := ((((Below.refl w1.heap.size w1).alloc (Nat.le_refl _) _).alloc (by simp) _).alloc (by simp; omega) _).alloc (by simp; omega) _
  have hsz : ((((w1.alloc (.cells #[.slice (some ⟨w.heap.size, 0, none⟩) 0 M] 38)).alloc (.cells #[.slice (some ⟨b, off, none⟩) N cap] 57)).alloc (.cells #[.slice la m lc] 38)).alloc (.cells #[.int .i64 (D1 : Int)] 3)).heap.size = w1.heap.size + 4 := by simp
  obtain ⟨W0, hW0⟩ : ∃ W0, (((w1.alloc (.cells #[.slice (some ⟨w.heap.size, 0, none⟩) 0 M] 38)).alloc (.cells #[.slice (some ⟨b, off, none⟩) N cap] 57)).alloc (.cells #[.slice la m lc] 38)).alloc (.cells #[.int .i64 (D1 : Int)] 3) = W0 := ⟨_, rfl⟩
  rw [hW0] at bO bH bL bD b10 hsz ⊢
  clear hW0
  have hB00 : Below w.heap.size w W0 := hB01.trans (b10.mono (by omega))
  have hrow0 : W0.ownsRow w.heap.size 32 4 (.slice (some ⟨w.heap.size, 0, none⟩) 0 M) 0 [] := rowN_below hown1 b10 (Nat.le_refl _)
  clear hown1 hgrow1 hB01
  refine wpIn_rangeFunc_all (α := Rs) (encs := rsEnc) (N := M) (X := fun k => k = w.heap.size ∨ k = w1.heap.size) rfl hn1 (gf := 66) (lb := #[.pointer (some ⟨w1.heap.size + 1 + 1, 0, none⟩), .pointer (some ⟨w1.heap.size + 1, 0, none⟩), .pointer (some ⟨w1.heap.size + 1 + 1 + 1, 0, none⟩)]) rfl trivial (enters_of Tryd.func66 (by kernel_rfl) rfl)
    (fun k hk => by rcases hk with rfl | rfl <;> omega) (fun _ => rfl)
    (fun pre W => Box W w1.heap.size 38 #[.slice (some ⟨w.heap.size, 0, none⟩) pre.length M] ∧ W.ownsRow w.heap.size 32 4 (.slice (some ⟨w.heap.size, 0, none⟩) pre.length M) pre.length (rnCells (pre.map toRn)) ∧ Below w.heap.size W0 W)
    (fun s A B h hb => ⟨h.1.below hb (by omega), row_at h.2.1 (hb.block _ (by omega)), h.2.2.trans (hb.mono (by omega))⟩)
    ⟨bO, hrow0, Below.refl _ _⟩
    (fun xs W => OwnRns W0.heap.size W (xs.map toRn) (kidsB N l D i L))
    (fun xs W lo o o' h hl ho => ownRns_own h (grownBy_putObj' W lo o') (fun g e => by cases e; exact ⟨_, hl, ho⟩))
    ?seq
    (fun x a' W => ∃ Bx, w1.heap.size < Bx ∧ Box W Bx 32 #[.int .u32 x.1, .int .i64 x.2.1, .int .i64 x.2.2.1, .slice x.2.2.2.1 x.2.2.2.2.1 x.2.2.2.2.2] ∧ a' = { tmps := #[.slice (some ⟨b, off, none⟩) N cap, .slice la m lc, .int .i64 (D1 : Int), undef, undef, undef, .slice none 0 0, .pointer (some ⟨w1.heap.size, 0, none⟩), .pointer (some ⟨Bx, 0, none⟩), .slice la m lc, .int .i64 (m : Int), .int .i64 (M : Int), .slice (some ⟨w.heap.size, 0, none⟩) 0 M, .slice (some ⟨b, off, none⟩) N cap, .slice la m lc, .int .i64 (D1 : Int), .func (.func 66) #[] #[.pointer (some ⟨w1.heap.size + 1 + 1, 0, none⟩), .pointer (some ⟨w1.heap.size + 1, 0, none⟩), .pointer (some ⟨w1.heap.size + 1 + 1 + 1, 0, none⟩)], .agg #[.int .u32 x.1, .int .i64 x.2.1, .int .i64 x.2.2.1, .slice x.2.2.2.1 x.2.2.2.2.1 x.2.2.2.2.2], undef, undef, undef, undef, undef], defers := [] })
    (fun x a' W lo o o' h hl ho => by
      obtain ⟨Bx, h1, h2, h3⟩ := h
      exact ⟨Bx, h1, box_own Bx _ (fun _ : Unit => _) () W _ (some lo) h2 (grownBy_putObj' W lo o') (fun r e => by cases e; exact ⟨_, hl, ho⟩), h3⟩)
    ?assign ?body ?done
  case seq =>
    intro W1 J hb hs1 hJ hY h0
    refine (nodes1_in (9 - 1) _ (W0.heap.size + 1) (w1.heap.size + 1 + 1) (w1.heap.size + 1) (w1.heap.size + 1 + 1 + 1) b off N cap l p HP.out D hD i hi L m HML.out hm16 la lc w.heap.size W1.heap.size (fun k => (k = w.heap.size ∨ k = w1.heap.size) ∨ k = W0.heap.size + 1) HLn.out J hJ (fun pre x W h hl => hY pre x W h (by rw [← HM.out]; exact hl)) (fun k hk => by rcases hk with (rfl | rfl) | rfl <;> omega) (fun k hk => by rcases hk with (rfl | rfl) | rfl <;> omega) (by omega) (by omega) W1 rfl (by omega) (bL.below hb (by omega)) (bH.below hb (by omega)) (by rw [HD1.out]; exact bD.below hb (by omega)) ((HS.out.below hB00).below (hb.mono (by omega))) ((HLN.out.below hB00).below (hb.mono (by omega))) h0).mono ?_
    rintro e W' ⟨hv, xs, h1, h2⟩
    exact ⟨hv, xs, h1.base (by omega), h2⟩
  case assign =>
    rintro lo pre x W K ⟨h1, h2, h3⟩ hK
    have hsW := h3.size
    have bA := (Below.refl W.heap.size W).alloc (Nat.le_refl _) (.cells #[.int .u32 x.1, .int .i64 x.2.1, .int .i64 x.2.2.1, .slice x.2.2.2.1 x.2.2.2.2.1 x.2.2.2.2.2] 32)
    simp only [rsEnc]
    gi_wp2
    exact hK _ _ (Spared.of_below bA) ⟨h1.alloc _, row_at h2 (bA.block _ (by omega)), h3.trans (bA.mono (by omega))⟩ ⟨W.heap.size, by omega, Box.new W _ _, rfl⟩
  case body =>
    rintro lo pre x a' W hsW ⟨h1, h2, h3⟩ ⟨Bx, hBx, yx, rfl⟩ hlt
    have hsz3 := h3.size
    have hc := h1.cell 0 _ rfl
    have k0 := yx.cell 0 _ rfl
    have k1 := yx.cell 1 _ rfl
    have k2 := yx.cell 2 _ rfl
    have k3 := yx.cell 3 _ rfl
    have HXC : Hid (rnCells ((pre ++ [x]).map toRn) = rnCells (pre.map toRn) ++ [.int .u32 x.1, .int .i64 x.2.1, .int .i64 x.2.2.1, .slice x.2.2.2.1 x.2.2.2.2.1 x.2.2.2.2.2]) := rnCells_snoc' pre x
    have hvb : Boxed W w1.heap.size 38 (.slice (some ⟨w.heap.size, 0, none⟩) pre.length M) := h1
    gi_wp2_with (gi_at_builtin; refine wpListIn_append_fits _ rfl _ _ 38 rfl w.heap.size 32 i0 4 Tryd.underlying38 hi0 hz1 w.heap.size pre.length M (rnCells (pre.map toRn)) rfl (h2.alloc _) ⟨W.heap.size, 0, none⟩ 1 1 [.int .u32 x.1, .int .i64 x.2.1, .int .i64 x.2.2.1, .slice x.2.2.2.1 x.2.2.2.2.1 x.2.2.2.2.2] rfl rfl (World.news_of_block (World.alloc_heap_new _ _)) (by simp [Value.oneCell']) (by omega) ?_; intro w5 hown' hgrow; obtain ⟨hv1, hv2, hr2, hk2, hb2⟩ := hvb.appended (by decide) h2 (by omega) (by omega) hown' hgrow; have hc1 := hv1.cell; have hf1 := hv1.frozen)
    refine ⟨spared_append hgrow (.inl rfl) (.inr rfl), ?_, ?_, h3.trans hb2⟩
    · rw [List.length_append]
      exact hv2
    · rw [List.length_append, HXC.out]
      exact hr2
  case done =>
    rintro E xs W hE hO ⟨h1, h2, h3⟩ hK
    have hc := h1.cell 0 _ rfl
    have hO' := ownRns_own hO (grownBy_putObj' W E (.deferred none)) (fun g e => by cases e; exact ⟨_, hK, rfl⟩)
    have h2' := ownsRow_putObj h2 (.deferred none) hK rfl
    have hB' := (hB00.trans h3).trans (below_putObj (l := E) (W := W) (.deferred none) (by omega))
    gi_wp2
    refine ⟨by simp, .inl ⟨_, _, rfl, run_takeDeferred hK, ?_⟩⟩
    exact ⟨_, results_tmp rfl _ _ _, _, rfl, ⟨xs.map toRn, raw_of_row h2', hO'.rns⟩, hB'⟩

end Go.Proofs.YtddcloanbpkecaaDoor
