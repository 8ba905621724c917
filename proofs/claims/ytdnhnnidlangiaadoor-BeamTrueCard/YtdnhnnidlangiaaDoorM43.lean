/-
  What beam's allChildren answers: all children of a list, with their Scores.
-/
import Derived.Test.YtdnhnnidlangiaaDoorM15
import Derived.Test.YtdnhnnidlangiaaDoorM16
import Derived.Test.YtdnhnnidlangiaaDoorM28
import Derived.Test.YtdnhnnidlangiaaDoorM32
import Derived.Test.YtdnhnnidlangiaaDoorM33
import Derived.Test.YtdnhnnidlangiaaDoorM34
import Derived.Test.YtdnhnnidlangiaaDoorM35
import Derived.Test.YtdnhnnidlangiaaDoorM40
import Derived.Test.YtdnhnnidlangiaaDoorM41
import Derived.BigQuiet
import Derived.Deep.QuietTactic
namespace Go.Proofs.YtdnhnnidlangiaaDoor
open Go.RowKit Go.Shelf
attribute [local go_sem] Oper.semAt_some

theorem infoNodeB : (Tryd.prog.info? 32).map (fun i => (i.zero, i.size, i.bytes)) = some (some (.agg #[.int .u32 0, .int .i64 0, .int .i64 0, .slice none 0 0]), 4, 48) := by kernel_rfl

theorem spared_append {X : Nat → Prop} {W w5 : World} {tmp : Obj} {g B : Nat} {v' : Value} (hgrow : (W.alloc tmp).grownBy w5 (some g)) (hg : X g) (hB : X B) : Spared X W (w5.setCell ⟨B, 0, none⟩ v') := by
  refine ⟨hgrow.os, hgrow.tape, hgrow.output, ?_, fun k hk hx => ?_⟩
  · have h1 := hgrow.size
    have h2 : (w5.setCell ⟨B, 0, none⟩ v').heap.size = w5.heap.size := by simp [World.setCell]
    rw [h2]
    simp at h1
    omega
  · rw [Below.heap_setCell _ _ _ _ (fun e => hx (by rw [show k = B from e]; exact hB))]
    exact (hgrow.block k (by simp; omega) (fun e => hx (by cases e; exact hg))).trans (Below.heap_alloc W tmp k hk)
theorem row_at {A B : World} {base e size n cap k g : Nat} {xs : List Value} (h : A.ownsRow base e size (.slice (some ⟨g, 0, none⟩) n cap) k xs) (hb : B.heap[g]? = A.heap[g]?) : B.ownsRow base e size (.slice (some ⟨g, 0, none⟩) n cap) k xs := by
  refine ⟨h.1, ?_⟩
  rcases h.2 with h0 | ⟨g', cap', cur, hv, hbs, hg, hk, hm, hs, ht⟩
  · exact .inl h0
  · cases hv
    exact .inr ⟨g, cap, cur, rfl, hbs, hb.trans hg, hk, hm, hs, ht⟩
theorem OwnRns.base {b b' : Nat} {W : World} {r : List Rn} {l : List Nd} (h : OwnRns b W r l) (hb : b' ≤ b) : OwnRns b' W r l := ⟨h.1, fun j x y hx hy => by obtain ⟨h1, h2, h3, h4⟩ := h.2.1 j x y hx hy; exact ⟨h1, h2, h3, rowN_base h4 hb⟩, h.2.2⟩
theorem rnCells_snoc' (xs : List Rs) (x : Rs) : rnCells ((xs ++ [x]).map toRn) = rnCells (xs.map toRn) ++ [.int .u32 x.1, .int .i64 x.2.1, .int .i64 x.2.2.1, .slice x.2.2.2.1 x.2.2.2.2.1 x.2.2.2.2.2] := by
  rw [List.map_append, List.map_cons, List.map_nil, rnCells_snoc]
  rfl

set_option maxHeartbeats 400000 in
theorem nodes_in (n : Nat) (v u : Value) (hv : SliceV v) (hu : SliceV u) (d : Int) (w : World) : CallsIn Fence.wide n Tryd.prog 63 #[v, u, .int .i64 d] w fun e w' => e = .returned (.func (.func 84) #[] #[.pointer (some ⟨w.heap.size + 1, 0, none⟩), .pointer (some ⟨w.heap.size, 0, none⟩), .pointer (some ⟨w.heap.size + 1 + 1, 0, none⟩)]) ∧ w' = ((w.alloc (.cells #[v] 73)).alloc (.cells #[u] 38)).alloc (.cells #[.int .i64 d] 3) := by
  obtain ⟨a, k, c, rfl⟩ := hv
  obtain ⟨a', k', c', rfl⟩ := hu
  refine callsIn_of_wp Tryd.func63 rfl trivial ?_ rfl
  simp only [Tryd.ntmps63, List.size_toArray, List.length_cons, List.length_nil, Nat.reduceAdd, Nat.reduceSub, Array.replicate_succ, Array.replicate_zero, List.push_toArray, List.append_toArray, List.nil_append, List.cons_append]
  gi_wp2
  go_ret
  exact ⟨rfl, rfl⟩

set_option maxRecDepth 100000 in
set_option maxHeartbeats 4000000 in
theorem allChildren_ok (b off N cap : Nat) (l : List (Int × Int)) (p : Int) (hp : PileOk (N : Int) p l) (D : Nat) (hD : D ≤ 2) (i : Nat) (hi : i < N) (L : List Nd) (m : Nat) (hm : L.length = m) (hm1 : 1 ≤ m) (hm16 : m ≤ 16) (la : Option Addr) (lc : Nat)
    (hLn : ∀ n ∈ L, (∃ s : Nat, s < 4294967296 ∧ n.1 = (s : Int)) ∧ 0 ≤ n.2.1 ∧ n.2.1 ≤ 8192 * (i : Int) ∧ n.2.2.2.length = i) (w : World)
    (hS : Segs w.heap.size w (.slice (some ⟨b, off, none⟩) N cap) (segsL N l)) (hLN : Nodes w.heap.size w (.slice la m lc) L) :
    Calls Tryd.prog 41 #[.slice (some ⟨b, off, none⟩) N cap, .slice la m lc, .int .i64 ((D + 1 : Nat) : Int)] w fun e W' => ∃ r, e = .returned r ∧ Nodes W'.heap.size W' r (kidsB N l D i L) ∧ Below w.heap.size w W' := by
  refine (callsIn_wide (n := 9)).1 ?_
  obtain ⟨i0, hi0, hz0, hz1, hz2⟩ := info_parts infoNodeB
  obtain ⟨M, hM⟩ : ∃ M, m * 16 = M := ⟨_, rfl⟩
  have e16 : (16 : Int) * (m : Int) = (M : Int) := by omega
  have hM2 : M ≤ 256 := by omega
  have hM1 : 1 ≤ M := by omega
  have hn1 : (1 : Nat) ≤ 9 := by omega
  obtain ⟨D1, hD1⟩ : ∃ D1, D + 1 = D1 := ⟨_, rfl⟩
  rw [hD1]
  have HD1 : Hid (D + 1 = D1) := hD1
  have f1 : Fence.wide.fn 63 := trivial
  have HP : Hid (PileOk (N : Int) p l) := hp
  have HM : Hid (m * 16 = M) := hM
  have HML : Hid (L.length = m) := hm
  have HLn : Hid (∀ n ∈ L, (∃ s : Nat, s < 4294967296 ∧ n.1 = (s : Int)) ∧ 0 ≤ n.2.1 ∧ n.2.1 ≤ 8192 * (i : Int) ∧ n.2.2.2.length = i) := hLn
  have HS : Hid (Segs w.heap.size w (.slice (some ⟨b, off, none⟩) N cap) (segsL N l)) := hS
  have HLN : Hid (Nodes w.heap.size w (.slice la m lc) L) := hLN
  clear hp hM hm hLn hS hLN hD1
  refine callsIn_of_wp_marks Tryd.func41 rfl trivial ?_ rfl
  simp only [Tryd.ntmps41, List.size_toArray, List.length_cons, List.length_nil, Nat.reduceAdd, Nat.reduceSub, Array.replicate_succ, Array.replicate_zero, List.push_toArray, List.append_toArray, List.nil_append, List.cons_append]
  gi_wp2_with (first | (gi_at_make; refine wpListIn_make_own _ rfl _ _ 38 rfl w.heap.size 32 i0 (.agg #[.int .u32 0, .int .i64 0, .int .i64 0, .slice none 0 0]) 4 Tryd.underlying38 hi0 hz0 hz1 .i64 .i64 _ M rfl rfl (by omega) (by rw [hz2]; omega) (by unfold maxLen; omega) (Nat.le_refl _) ?_; intro w1 hown1 hgrow1) | (gi_at_call 63; refine (nodes_in (9 - 1) _ _ ⟨_, _, _, rfl⟩ ⟨_, _, _, rfl⟩ _ _).mono ?_; rintro e w2 ⟨rfl, rfl⟩))
  have hg0 : w.heap.size < w1.heap.size := (hown1.lt w.heap.size rfl).2
  have hB01 : Below w.heap.size w w1 := (Below.refl _ w).grown hgrow1 (Nat.le_refl _) (fun k e => by cases e)
  have bO : Box ((((w1.alloc (.cells #[.slice (some ⟨w.heap.size, 0, none⟩) 0 M] 38)).alloc (.cells #[.slice (some ⟨b, off, none⟩) N cap] 73)).alloc (.cells #[.slice la m lc] 38)).alloc (.cells #[.int .i64 (D1 : Int)] 3)) w1.heap.size 38 #[.slice (some ⟨w.heap.size, 0, none⟩) 0 M] := (((Box.new w1 38 _).alloc _).alloc _).alloc _
  have bH := ((Box.new (w1.alloc (.cells #[.slice (some ⟨w.heap.size, 0, none⟩) 0 M] 38)) 73 #[.slice (some ⟨b, off, none⟩) N cap]).alloc (.cells #[.slice la m lc] 38)).alloc (.cells #[.int .i64 (D1 : Int)] 3)
  have bL := (Box.new ((w1.alloc (.cells #[.slice (some ⟨w.heap.size, 0, none⟩) 0 M] 38)).alloc (.cells #[.slice (some ⟨b, off, none⟩) N cap] 73)) 38 #[.slice la m lc]).alloc (.cells #[.int .i64 (D1 : Int)] 3)
  have bD := Box.new (((w1.alloc (.cells #[.slice (some ⟨w.heap.size, 0, none⟩) 0 M] 38)).alloc (.cells #[.slice (some ⟨b, off, none⟩) N cap] 73)).alloc (.cells #[.slice la m lc] 38)) 3 #[.int .i64 (D1 : Int)]
  simp only [World.size_alloc] at bH bL bD
  have b10 : Below w1.heap.size w1 ((((w1.alloc (.cells #[.slice (some ⟨w.heap.size, 0, none⟩) 0 M] 38)).alloc (.cells #[.slice (some ⟨b, off, none⟩) N cap] 73)).alloc (.cells #[.slice la m lc] 38)).alloc (.cells #[.int .i64 (D1 : Int)] 3)) := ((((Below.refl w1.heap.size w1).alloc (Nat.le_refl _) _).alloc (by simp) _).alloc (by simp; omega) _).alloc (by simp; omega) _
  have hsz : ((((w1.alloc (.cells #[.slice (some ⟨w.heap.size, 0, none⟩) 0 M] 38)).alloc (.cells #[.slice (some ⟨b, off, none⟩) N cap] 73)).alloc (.cells #[.slice la m lc] 38)).alloc (.cells #[.int .i64 (D1 : Int)] 3)).heap.size = w1.heap.size + 4 := by simp
  obtain ⟨W0, hW0⟩ : ∃ W0, (((w1.alloc (.cells #[.slice (some ⟨w.heap.size, 0, none⟩) 0 M] 38)).alloc (.cells #[.slice (some ⟨b, off, none⟩) N cap] 73)).alloc (.cells #[.slice la m lc] 38)).alloc (.cells #[.int .i64 (D1 : Int)] 3) = W0 := ⟨_, rfl⟩
  rw [hW0] at bO bH bL bD b10 hsz ⊢
  clear hW0
  have hB00 : Below w.heap.size w W0 := hB01.trans (b10.mono (by omega))
  have hrow0 : W0.ownsRow w.heap.size 32 4 (.slice (some ⟨w.heap.size, 0, none⟩) 0 M) 0 [] := rowN_below hown1 b10 (Nat.le_refl _)
  clear hown1 hgrow1 hB01
  refine wpIn_rangeFunc_all (α := Rs) (encs := rsEnc) (N := M) (X := fun k => k = w.heap.size ∨ k = w1.heap.size) rfl hn1 (gf := 84) (lb := #[.pointer (some ⟨w1.heap.size + 1 + 1, 0, none⟩), .pointer (some ⟨w1.heap.size + 1, 0, none⟩), .pointer (some ⟨w1.heap.size + 1 + 1 + 1, 0, none⟩)]) rfl trivial (enters_of Tryd.func84 (by kernel_rfl) rfl)
    (fun k hk => by rcases hk with rfl | rfl <;> omega) (fun _ => rfl)
    (fun pre W => Box W w1.heap.size 38 #[.slice (some ⟨w.heap.size, 0, none⟩) pre.length M] ∧ W.ownsRow w.heap.size 32 4 (.slice (some ⟨w.heap.size, 0, none⟩) pre.length M) pre.length (rnCells (pre.map toRn)) ∧ Below w.heap.size W0 W)
    (fun s A B h hb => ⟨h.1.below hb (by omega), row_at h.2.1 (hb.block _ (by omega)), h.2.2.trans (hb.mono (by omega))⟩)
    ⟨bO, hrow0, Below.refl _ _⟩
    (fun xs W => OwnRns W0.heap.size W (xs.map toRn) (kidsB N l D i L))
    (fun xs W lo o o' h hl ho => ownRns_own h (grownBy_putObj' W lo o') (fun g e => by cases e; exact ⟨_, hl, ho⟩))
    ?seq
    (fun x a' W => ∃ Bx, w1.heap.size < Bx ∧ Box W Bx 32 #[.int .u32 x.1, .int .i64 x.2.1, .int .i64 x.2.2.1, .slice x.2.2.2.1 x.2.2.2.2.1 x.2.2.2.2.2] ∧ a' = { tmps := #[.slice (some ⟨b, off, none⟩) N cap, .slice la m lc, .int .i64 (D1 : Int), undef, undef, undef, .slice none 0 0, .pointer (some ⟨w1.heap.size, 0, none⟩), .pointer (some ⟨Bx, 0, none⟩), .slice la m lc, .int .i64 (m : Int), .int .i64 (M : Int), .slice (some ⟨w.heap.size, 0, none⟩) 0 M, .slice (some ⟨b, off, none⟩) N cap, .slice la m lc, .int .i64 (D1 : Int), .func (.func 84) #[] #[.pointer (some ⟨w1.heap.size + 1 + 1, 0, none⟩), .pointer (some ⟨w1.heap.size + 1, 0, none⟩), .pointer (some ⟨w1.heap.size + 1 + 1 + 1, 0, none⟩)], .agg #[.int .u32 x.1, .int .i64 x.2.1, .int .i64 x.2.2.1, .slice x.2.2.2.1 x.2.2.2.2.1 x.2.2.2.2.2], undef, undef, undef, undef, undef], defers := [] })
    (fun x a' W lo o o' h hl ho => by
      obtain ⟨Bx, h1, h2, h3⟩ := h
      exact ⟨Bx, h1, box_own Bx _ (fun _ : Unit => _) () W _ (some lo) h2 (grownBy_putObj' W lo o') (fun r e => by cases e; exact ⟨_, hl, ho⟩), h3⟩)
    ?assign ?body ?done
  case seq =>
    intro W1 J hb hs1 hJ hY h0
    refine (nodes1_in (9 - 1) _ (W0.heap.size + 1) (w1.heap.size + 1 + 1) (w1.heap.size + 1) (w1.heap.size + 1 + 1 + 1) b off N cap l p HP.out D hD i hi L m HML.out hm16 la lc w.heap.size W1.heap.size (fun k => (k = w.heap.size ∨ k = w1.heap.size) ∨ k = W0.heap.size + 1) HLn.out J hJ (fun pre x W h hl => hY pre x W h (by rw [← HM.out]; exact hl)) (fun k hk => by rcases hk with (rfl | rfl) | rfl <;> omega) (fun k hk => by rcases hk with (rfl | rfl) | rfl <;> omega) (by omega) (by omega) W1 rfl (by omega) (bL.below hb (by omega)) (bH.below hb (by omega)) (by rw [HD1.out]; exact bD.below hb (by omega)) ((HS.out.below hB00).below (hb.mono (by omega))) ((HLN.out.below hB00).below (hb.mono (by omega))) h0).mono ?_
    rintro e W' ⟨hv, xs, h1, h2⟩
    exact ⟨hv, xs, h1.base (by omega), h2⟩
  case assign =>
    rintro lo pre x W K ⟨h1, h2, h3⟩ hK
    have hsW := h3.size
    have bA := (Below.refl W.heap.size W).alloc (Nat.le_refl _) (.cells #[.int .u32 x.1, .int .i64 x.2.1, .int .i64 x.2.2.1, .slice x.2.2.2.1 x.2.2.2.2.1 x.2.2.2.2.2] 32)
    simp only [rsEnc]
    gi_wp2
    exact hK _ _ (Spared.of_below bA) ⟨h1.alloc _, row_at h2 (bA.block _ (by omega)), h3.trans (bA.mono (by omega))⟩ ⟨W.heap.size, by omega, Box.new W _ _, rfl⟩
  case body =>
    rintro lo pre x a' W hsW ⟨h1, h2, h3⟩ ⟨Bx, hBx, yx, rfl⟩ hlt
    have hsz3 := h3.size
    have hc := h1.cell 0 _ rfl
    have k0 := yx.cell 0 _ rfl
    have k1 := yx.cell 1 _ rfl
    have k2 := yx.cell 2 _ rfl
    have k3 := yx.cell 3 _ rfl
    have HXC : Hid (rnCells ((pre ++ [x]).map toRn) = rnCells (pre.map toRn) ++ [.int .u32 x.1, .int .i64 x.2.1, .int .i64 x.2.2.1, .slice x.2.2.2.1 x.2.2.2.2.1 x.2.2.2.2.2]) := rnCells_snoc' pre x
    have hvb : Boxed W w1.heap.size 38 (.slice (some ⟨w.heap.size, 0, none⟩) pre.length M) := h1
    gi_wp2_with (gi_at_builtin; refine wpListIn_append_fits _ rfl _ _ 38 rfl w.heap.size 32 i0 4 Tryd.underlying38 hi0 hz1 w.heap.size pre.length M (rnCells (pre.map toRn)) rfl (h2.alloc _) ⟨W.heap.size, 0, none⟩ 1 1 [.int .u32 x.1, .int .i64 x.2.1, .int .i64 x.2.2.1, .slice x.2.2.2.1 x.2.2.2.2.1 x.2.2.2.2.2] rfl rfl (World.news_of_block (World.alloc_heap_new _ _)) (by simp [Value.oneCell']) (by omega) ?_; intro w5 hown' hgrow; obtain ⟨hv1, hv2, hr2, hk2, hb2⟩ := hvb.appended (by decide) h2 (by omega) (by omega) hown' hgrow; have hc1 := hv1.cell; have hf1 := hv1.frozen)
    refine ⟨spared_append hgrow (.inl rfl) (.inr rfl), ?_, ?_, h3.trans hb2⟩
    · rw [List.length_append]
      exact hv2
    · rw [List.length_append, HXC.out]
      exact hr2
  case done =>
    rintro E xs W hE hO ⟨h1, h2, h3⟩ hK
    have hc := h1.cell 0 _ rfl
    have hO' := ownRns_own hO (grownBy_putObj' W E (.deferred none)) (fun g e => by cases e; exact ⟨_, hK, rfl⟩)
    have h2' := ownsRow_putObj h2 (.deferred none) hK rfl
    have hB' := (hB00.trans h3).trans (below_putObj (l := E) (W := W) (.deferred none) (by omega))
    gi_wp2
    refine ⟨by simp, .inl ⟨_, _, rfl, run_takeDeferred hK, ?_⟩⟩
    exact ⟨_, results_tmp rfl _ _ _, _, rfl, ⟨xs.map toRn, raw_of_row h2', hO'.rns⟩, hB'⟩

end Go.Proofs.YtdnhnnidlangiaaDoor

/-
  What beam.Walk answers: the list at the end of the walk, and the cut.
-/
namespace Go.Proofs.YtdnhnnidlangiaaDoor
open Go.RowKit

/-- The slice v holds these nodes; no path is longer than its room. -/
def NodesC (n₀ : Nat) (W : World) (v : Value) (l : List Nd) : Prop := ∃ r, Raw n₀ W v r ∧ RnsOf n₀ W r l ∧ ∀ x ∈ r, ∃ a n c, x.2.2.2 = Value.slice a n c ∧ n ≤ c
theorem NodesC.nodes {n₀ : Nat} {W : World} {v : Value} {l : List Nd} (h : NodesC n₀ W v l) : Nodes n₀ W v l := by obtain ⟨r, h1, h2, _⟩ := h; exact ⟨r, h1, h2⟩
theorem NodesC.next {W W' : World} {v : Value} {l : List Nd} (h : NodesC W.heap.size W v l) (hb : Below W.heap.size W W') : NodesC W'.heap.size W' v l := by obtain ⟨r, h1, h2, h3⟩ := h; exact ⟨r, (h1.below hb).mono hb.size, (h2.below hb).mono hb.size, h3⟩
theorem OwnNodes.nodesC {base : Nat} {W : World} {v : Value} {l : List Nd} (h : OwnNodes base W v l) : NodesC W.heap.size W v l := by
  obtain ⟨r, h1, h2⟩ := h
  refine ⟨r, raw_of_row h1, h2.rns, fun x hx => ?_⟩
  obtain ⟨j, hj, e⟩ := List.getElem_of_mem hx
  have hjl : j < l.length := by rw [← h2.1]; exact hj
  obtain ⟨_, _, _, h4⟩ := h2.2.1 j x (l[j]) (by rw [← e]; simp) (by simp)
  obtain ⟨a, c, e4⟩ := rowN_shape h4
  rw [e4] at h4
  exact ⟨_, _, _, e4, rowN_cap h4⟩
theorem NodesC.cap {n₀ : Nat} {W : World} {v : Value} {l : List Nd} (h : NodesC n₀ W v l) {n cap : Nat} {a : Option Addr} (hv : v = .slice a n cap) (hl : l.length = n) (h0 : 0 < n) : ∃ b off, a = some ⟨b, off, none⟩ ∧ ∀ (j : Nat) (y : Nd), l[j]? = some y →
      ∃ pa pc, y.2.2.2.length ≤ pc ∧ Holds .i64 n₀ W (.slice pa y.2.2.2.length pc) y.2.2.2 ∧ W.cell? ⟨b, off + j * 4 + 1, none⟩ = some (.int .i64 y.2.1) ∧ W.cell? ⟨b, off + j * 4 + 3, none⟩ = some (.slice pa y.2.2.2.length pc) := by
  obtain ⟨r, h1, h2, h3⟩ := h
  subst hv
  obtain ⟨b, off, rfl, _, hc⟩ := raw_at h1 (h2.1.trans hl) h0
  refine ⟨b, off, rfl, fun j y hy => ?_⟩
  obtain ⟨p, hp, hh⟩ := h2.get hy
  obtain ⟨pa, pn, pc, e, hle⟩ := h3 _ (List.mem_of_getElem? hp)
  obtain ⟨pa', pc', e'⟩ := hh.shape
  have e'' : p = .slice pa pn pc := e
  have hcc := hc j _ hp
  rw [e'] at hh hcc
  rw [e'] at e''
  cases e''
  exact ⟨_, _, hle, hh, hcc.2.1, hcc.2.2.2⟩

set_option maxRecDepth 100000 in
set_option maxHeartbeats 4000000 in
theorem Walk_ok (N : Nat) (p : Int) (a : Option Addr) (cap : Nat) (l : List (Int × Int)) (hp : PileOk (N : Int) p l) (b : Nat) (hb1 : 1 ≤ b) (hb2 : b ≤ 16) (D : Nat) (hD : D ≤ 2) (w : World) (ha : Syms w.heap.size w (.slice a l.length cap) l) (hF : Firsts w) :
    Calls Tryd.prog 15 #[.agg #[.int .i64 N, .int .i64 p, .slice a l.length cap], .int .i64 (b : Int), .int .i64 ((D + 1 : Nat) : Int)] w fun e W' => ∃ r, e = .returned (.tuple #[r, .int .i64 (walkB N l b D N).2, .int .i64 0]) ∧ NodesC W'.heap.size W' r (walkB N l b D N).1 ∧ Below w.heap.size w W' := by
  have hN1 : 1 ≤ N := by have := hp.1.1; omega
  have hN2 : N < 65 := by have := hp.1.2.1; omega
  have b1 : Below w.heap.size w (w.alloc (.cells #[.int .i64 N, .int .i64 p, .slice a l.length cap] 24)) := (Below.refl w.heap.size w).alloc (Nat.le_refl _) _
  have HP : Hid (PileOk (N : Int) p l) := hp
  have HBS := bySegment_ok N p a cap l hp _ (ha.next b1) (hF.next b1)
  have HAC : Hid (∀ (sb so scap i : Nat) (L : List Nd) (m : Nat) (la : Option Addr) (lc : Nat) (wx : World), i < N → L.length = m → 1 ≤ m → m ≤ 16 → (∀ n ∈ L, (∃ s : Nat, s < 4294967296 ∧ n.1 = (s : Int)) ∧ 0 ≤ n.2.1 ∧ n.2.1 ≤ 8192 * (i : Int) ∧ n.2.2.2.length = i) → Segs wx.heap.size wx (.slice (some ⟨sb, so, none⟩) N scap) (segsL N l) → Nodes wx.heap.size wx (.slice la m lc) L → Calls Tryd.prog 41 #[.slice (some ⟨sb, so, none⟩) N scap, .slice la m lc, .int .i64 ((D + 1 : Nat) : Int)] wx fun e W' => ∃ r, e = .returned r ∧ Nodes W'.heap.size W' r (kidsB N l D i L) ∧ Below wx.heap.size wx W') := fun sb so scap i L m la lc wx h1 h2 h3 h4 h5 h6 h7 => allChildren_ok sb so N scap l p hp D hD i h1 L m h2 h3 h4 la lc h5 wx h6 h7
  obtain ⟨D1, hD1⟩ : ∃ D1, D + 1 = D1 := ⟨_, rfl⟩
  rw [hD1] at HAC ⊢
  have g1 : decide ((b : Int) < 1) = false := decide_eq_false (by omega)
  have g2 : decide ((16 : Int) < (b : Int)) = false := decide_eq_false (by omega)
  have g2' : decide (16 < b) = false := decide_eq_false (by omega)
  have g1' : decide (b < 1) = false := decide_eq_false (by omega)
  have HID := isDepth_yes (D1 : Int) (by omega) (by omega)
  clear hp ha hF hD1
  go_enter Tryd.func15, Tryd.ntmps15
  go_wp2
  go_step3
  go_wp2_with fail
  refine HBS.mono ?_
  rintro e w2 ⟨r, rfl, hSg, b2⟩
  clear HBS
  obtain ⟨sb, so, scap, e3, hsb⟩ := hSg.shape
  rw [segsL_len] at e3
  subst e3
  have bb2 := b1.trans (b2.mono b1.size)
  clear b1 b2
  go_wp2_with fail
  refine (HID w2).mono ?_
  rintro e wz ⟨rfl, rfl⟩
  go_wp2_with fail
  refine (root_any w2).mono ?_
  rintro e w3 ⟨rfl, b3⟩
  have bb3 := bb2.trans (b3.mono bb2.size)
  have b4 : Below w3.heap.size w3 (w3.alloc (.cells #[.int .u32 (beginN : Int), .int .i64 0, .int .i64 0, .slice none 0 0] 32)) := (Below.refl _ _).alloc (Nat.le_refl _) _
  have hR : NodesC (w3.alloc (.cells #[.int .u32 (beginN : Int), .int .i64 0, .int .i64 0, .slice none 0 0] 32)).heap.size (w3.alloc (.cells #[.int .u32 (beginN : Int), .int .i64 0, .int .i64 0, .slice none 0 0] 32)) (.slice (some ⟨w3.heap.size, 0, none⟩) 1 1) [((beginN : Int), 0, 0, [])] := by
    refine ⟨[((beginN : Int), 0, 0, .slice none 0 0)], raw_of_row (base := 0) (k := 1) (e := 32) ⟨rfl, .inr ⟨w3.heap.size, 1, #[.int .u32 (beginN : Int), .int .i64 0, .int .i64 0, .slice none 0 0], rfl, Nat.zero_le _, World.alloc_heap_new _ _, Nat.le_refl _, by unfold maxLen; omega, rfl, rfl⟩⟩, (rnsOf_nil _ _).snoc (x := ((beginN : Int), 0, 0, .slice none 0 0)) (y := ((beginN : Int), 0, 0, [])) ⟨rfl, rfl, rfl, .inl ⟨⟨_, _, rfl, fun _ => rfl⟩, rfl⟩⟩, fun x hx => ⟨none, 0, 0, by simp at hx; rw [hx], Nat.le_refl _⟩⟩
  have HS4 : Hid (Segs (w3.alloc (.cells #[.int .u32 (beginN : Int), .int .i64 0, .int .i64 0, .slice none 0 0] 32)).heap.size (w3.alloc (.cells #[.int .u32 (beginN : Int), .int .i64 0, .int .i64 0, .slice none 0 0] 32)) (.slice (some ⟨sb, so, none⟩) N scap) (segsL N l)) := (hSg.next b3).next b4
  have bb4 := bb3.trans (b4.mono bb3.size)
  have hfd : Sem.run Tryd.prog (Instr.field 77 (.agg #[.int .i64 0, .int .u32 (beginN : Int), .int .i64 0]) 1) w3 = .ok (.int .u32 (beginN : Int)) w3 := rfl
  clear hSg b3 b4 bb2 bb3
  go_wp2
  clear hfd
  go_step3
  go_wp2
  obtain ⟨W4, hW4⟩ : ∃ W, w3.alloc (.cells #[.int .u32 (beginN : Int), .int .i64 0, .int .i64 0, .slice none 0 0] 32) = W := ⟨_, rfl⟩
  rw [hW4] at bb4 hR HS4 ⊢
  clear hW4
  go_loopw [6, 7, 38] (fun s9 s10 s11 wr => ∃ i : Nat, i ≤ N ∧ s11 = .int .i64 i ∧ s10 = .int .i64 (walkB N l b D i).2 ∧ NodesC wr.heap.size wr s9 (walkB N l b D i).1 ∧ Below W4.heap.size W4 wr) (fun _ _ i _ => N - (intOf i).toNat)
  case atStart => exact ⟨0, Nat.zero_le _, rfl, rfl, hR, Below.refl _ _⟩
  case round =>
    obtain ⟨i, hi, rfl, rfl, hL, bw⟩ := hrel
    clear hR
    by_cases hlt : i < N
    · have dN : decide ((i : Int) < (N : Int)) = true := decide_eq_true (by omega)
      have dN' : decide (i < N) = true := decide_eq_true hlt
      have hwl := walkB_len N l (D := D) (i := i) hb1 hb2
      have hwi := walkTo_inv stB (coB N l) N (beginN : Int) D b hb1 i
      have hws : 0 < (walkB N l b D i).1.length := hwi.some
      have hwc : -1 ≤ (walkB N l b D i).2 := hwi.cut1
      have HNB : Hid (∀ n ∈ (walkB N l b D i).1, (∃ s : Nat, s < 4294967296 ∧ n.1 = (s : Int)) ∧ 0 ≤ n.2.1 ∧ n.2.1 ≤ 8192 * (i : Int) ∧ n.2.2.2.length = i) := fun n hn => walkB_node HP.out hb1 hn
      have HKO : Hid (∀ x ∈ kidsB N l D i (walkB N l b D i).1, 0 ≤ sc x ∧ x.2.2.2.length = i + 1) := kidsB_ok HP.out hb1
      have HNX : Hid (walkB N l b D (i + 1) = (keptN b (kidsB N l D i (walkB N l b D i).1), lmin (walkB N l b D i).2 (cutK sc b (kidsB N l D i (walkB N l b D i).1)))) := walkB_next N l b D i
      obtain ⟨L, hLe⟩ : ∃ L, (walkB N l b D i).1 = L := ⟨_, rfl⟩
      obtain ⟨cu, hcu⟩ : ∃ cu, (walkB N l b D i).2 = cu := ⟨_, rfl⟩
      rw [hLe] at hwl hws HNB HKO HNX hL
      rw [hcu] at HNX hwc ⊢
      obtain ⟨la, lc, e9⟩ := hL.nodes.shape
      obtain ⟨m, hm⟩ : ∃ m, L.length = m := ⟨_, rfl⟩
      rw [hm] at e9 hwl hws
      subst e9
      have HCC := HAC.out sb so scap i L m la lc wr hlt hm hws hwl HNB.out (HS4.out.next bw) hL.nodes
      have hkl : (kidsB N l D i L).length = m * 16 := by
        unfold kidsB
        rw [kidsOf_len, hm]
      have HKL : Hid ((kidsB N l D i L).length = m * 16) := hkl
      have hcut : cutK sc b (kidsB N l D i L) = -1 ∨ 0 ≤ cutK sc b (kidsB N l D i L) := by
        rcases cutK_least sc b (kidsB N l D i L) with ⟨e, _⟩ | ⟨⟨y, hy, ey⟩, _⟩
        · exact .inl e
        · refine .inr ?_
          rw [← ey]
          exact (HKO.out y ((sortK_perm sc _).mem_iff.1 (List.mem_of_mem_drop hy))).1
      obtain ⟨c, hc⟩ : ∃ c, cutK sc b (kidsB N l D i L) = c := ⟨_, rfl⟩
      rw [hc] at hcut HNX
      have HC : Hid (cutK sc b (kidsB N l D i L) = c) := hc
      clear hLe hcu hm hL hkl hc hwi
      by_cases hc0 : c = -1
      · have d0 : (c == -1) = true := by simp [hc0]
        have HLM : Hid (lmin cu c = cu) := by
          show lmin cu c = cu
          unfold lmin
          rw [if_neg (by omega)]
        clear hc0 hcut
        go_wp2_with (first | (go_at_call 41; refine HCC.mono ?_; rintro e w5 ⟨r5, rfl, hk5, b5⟩; have HPK := Pick_ok r5 (kidsB N l D i L) (by rw [HKL.out]; omega) (fun x hx => by rw [(HKO.out x hx).2]; omega) b hb1 hb2 (fun x hx => (HKO.out x hx).1) w5 hk5; rw [HC.out] at HPK) | (go_at_call 40; refine HPK.mono ?_; rintro e w6 ⟨r6, rfl, o6, b6⟩; clear HPK; have HNW : Hid (NodesC w6.heap.size w6 r6 (keptN b (kidsB N l D i L))) := o6.nodesC; clear o6; have hb6 : Below W4.heap.size W4 w6 := (bw.trans (b5.mono bw.size)).trans (b6.mono (Nat.le_trans bw.size b5.size))))
        go_roundw
        case rel => exact ⟨i + 1, by omega, by go_num, by rw [HNX.out, HLM.out], by rw [HNX.out]; exact HNW.out, hb6⟩
        case measure => simp [intOf]; omega
      · have d0 : (c == -1) = false := by rw [beq_eq_false_iff_ne]; exact hc0
        have hc1 : 0 ≤ c := hcut.resolve_left hc0
        clear hcut hc0
        by_cases hu0 : cu = -1
        · have d1 : (cu == -1) = true := by simp [hu0]
          have HLM : Hid (lmin cu c = c) := by
            show lmin cu c = c
            unfold lmin
            rw [if_pos ⟨hc1, .inl (by omega)⟩]
          clear hu0 hc1 hwc
          go_wp2_with (first | (go_at_call 41; refine HCC.mono ?_; rintro e w5 ⟨r5, rfl, hk5, b5⟩; have HPK := Pick_ok r5 (kidsB N l D i L) (by rw [HKL.out]; omega) (fun x hx => by rw [(HKO.out x hx).2]; omega) b hb1 hb2 (fun x hx => (HKO.out x hx).1) w5 hk5; rw [HC.out] at HPK) | (go_at_call 40; refine HPK.mono ?_; rintro e w6 ⟨r6, rfl, o6, b6⟩; clear HPK; have HNW : Hid (NodesC w6.heap.size w6 r6 (keptN b (kidsB N l D i L))) := o6.nodesC; clear o6; have hb6 : Below W4.heap.size W4 w6 := (bw.trans (b5.mono bw.size)).trans (b6.mono (Nat.le_trans bw.size b5.size))))
          go_roundw
          case rel => exact ⟨i + 1, by omega, by go_num, by rw [HNX.out, HLM.out], by rw [HNX.out]; exact HNW.out, hb6⟩
          case measure => simp [intOf]; omega
        · have d1 : (cu == -1) = false := by rw [beq_eq_false_iff_ne]; exact hu0
          by_cases hcc : c < cu
          · have d2 : decide (c < cu) = true := decide_eq_true hcc
            have HLM : Hid (lmin cu c = c) := by
              show lmin cu c = c
              unfold lmin
              rw [if_pos ⟨hc1, .inr hcc⟩]
            clear hu0 hc1 hwc hcc
            go_wp2_with (first | (go_at_call 41; refine HCC.mono ?_; rintro e w5 ⟨r5, rfl, hk5, b5⟩; have HPK := Pick_ok r5 (kidsB N l D i L) (by rw [HKL.out]; omega) (fun x hx => by rw [(HKO.out x hx).2]; omega) b hb1 hb2 (fun x hx => (HKO.out x hx).1) w5 hk5; rw [HC.out] at HPK) | (go_at_call 40; refine HPK.mono ?_; rintro e w6 ⟨r6, rfl, o6, b6⟩; clear HPK; have HNW : Hid (NodesC w6.heap.size w6 r6 (keptN b (kidsB N l D i L))) := o6.nodesC; clear o6; have hb6 : Below W4.heap.size W4 w6 := (bw.trans (b5.mono bw.size)).trans (b6.mono (Nat.le_trans bw.size b5.size))))
            go_roundw
            case rel => exact ⟨i + 1, by omega, by go_num, by rw [HNX.out, HLM.out], by rw [HNX.out]; exact HNW.out, hb6⟩
            case measure => simp [intOf]; omega
          · have d2 : decide (c < cu) = false := decide_eq_false hcc
            have HLM : Hid (lmin cu c = cu) := by
              show lmin cu c = cu
              unfold lmin
              rw [if_neg (by omega)]
            clear hu0 hc1 hwc hcc
            go_wp2_with (first | (go_at_call 41; refine HCC.mono ?_; rintro e w5 ⟨r5, rfl, hk5, b5⟩; have HPK := Pick_ok r5 (kidsB N l D i L) (by rw [HKL.out]; omega) (fun x hx => by rw [(HKO.out x hx).2]; omega) b hb1 hb2 (fun x hx => (HKO.out x hx).1) w5 hk5; rw [HC.out] at HPK) | (go_at_call 40; refine HPK.mono ?_; rintro e w6 ⟨r6, rfl, o6, b6⟩; clear HPK; have HNW : Hid (NodesC w6.heap.size w6 r6 (keptN b (kidsB N l D i L))) := o6.nodesC; clear o6; have hb6 : Below W4.heap.size W4 w6 := (bw.trans (b5.mono bw.size)).trans (b6.mono (Nat.le_trans bw.size b5.size))))
            go_roundw
            case rel => exact ⟨i + 1, by omega, by go_num, by rw [HNX.out, HLM.out], by rw [HNX.out]; exact HNW.out, hb6⟩
            case measure => simp [intOf]; omega
    · obtain rfl : i = N := by omega
      go_wp2
      rw [Exit.noGoto_ret]
      refine bodyPost_ret (v := .tuple #[u6, .int .i64 (walkB i l b D i).2, .int .i64 0]) (by simp [results, Tryd.results15]) rfl ⟨_, rfl, hL, bb4.trans (bw.mono bb4.size)⟩

set_option maxRecDepth 100000 in
set_option maxHeartbeats 2000000 in
theorem Walk_no (n p : Int) (a : Option Addr) (cap : Nat) (l : List (Int × Int)) (hl : l.length ≤ 4294967296) (hp : ¬ PileOk n p l) (b d : Int) (w : World) (ha : Syms w.heap.size w (.slice a l.length cap) l) :
    Calls Tryd.prog 15 #[.agg #[.int .i64 n, .int .i64 p, .slice a l.length cap], .int .i64 b, .int .i64 d] w fun e W' => e = .returned (.tuple #[.slice none 0 0, .int .i64 0, .int .i64 1]) ∧ Below w.heap.size w W' := by
  have b1 : Below w.heap.size w (w.alloc (.cells #[.int .i64 n, .int .i64 p, .slice a l.length cap] 24)) := (Below.refl w.heap.size w).alloc (Nat.le_refl _) _
  have HBS := bySegment_no n p a cap l hl hp _ (ha.next b1)
  clear hp ha
  go_enter Tryd.func15, Tryd.ntmps15
  go_wp2
  go_step3
  go_wp2_with fail
  refine HBS.mono ?_
  rintro e w2 ⟨rfl, b2⟩
  go_wp2
  rw [Exit.noGoto_ret]
  refine bodyPost_ret (v := .tuple #[.slice none 0 0, .int .i64 0, .int .i64 1]) (by simp [results, Tryd.results15]) rfl ⟨rfl, b1.trans (b2.mono b1.size)⟩

set_option maxRecDepth 100000 in
set_option maxHeartbeats 2000000 in
theorem Walk_arg (N : Nat) (p : Int) (a : Option Addr) (cap : Nat) (l : List (Int × Int)) (hp : PileOk (N : Int) p l) (b d : Int) (h : ¬ ((1 ≤ b ∧ b ≤ 16) ∧ 1 ≤ d ∧ d ≤ 3)) (w : World) (ha : Syms w.heap.size w (.slice a l.length cap) l) (hF : Firsts w) :
    Calls Tryd.prog 15 #[.agg #[.int .i64 N, .int .i64 p, .slice a l.length cap], .int .i64 b, .int .i64 d] w fun e W' => e = .returned (.tuple #[.slice none 0 0, .int .i64 0, .int .i64 1]) ∧ Below w.heap.size w W' := by
  have b1 : Below w.heap.size w (w.alloc (.cells #[.int .i64 N, .int .i64 p, .slice a l.length cap] 24)) := (Below.refl w.heap.size w).alloc (Nat.le_refl _) _
  have HBS := bySegment_ok N p a cap l hp _ (ha.next b1) (hF.next b1)
  clear hp ha hF
  go_enter Tryd.func15, Tryd.ntmps15
  go_wp2
  go_step3
  go_wp2_with fail
  refine HBS.mono ?_
  rintro e w2 ⟨r, rfl, hSg, b2⟩
  clear HBS
  obtain ⟨sb, so, scap, e3, hsb⟩ := hSg.shape
  rw [segsL_len] at e3
  subst e3
  have bb2 := b1.trans (b2.mono b1.size)
  clear b1 b2 hSg
  by_cases h1 : b < 1
  · have g1 : decide (b < 1) = true := decide_eq_true h1
    clear h h1
    go_wp2
    rw [Exit.noGoto_ret]
    refine bodyPost_ret (v := .tuple #[.slice none 0 0, .int .i64 0, .int .i64 1]) (by simp [results, Tryd.results15]) rfl ⟨rfl, bb2⟩
  · have g1 : decide (b < 1) = false := decide_eq_false h1
    by_cases h2 : 16 < b
    · have g2 : decide (16 < b) = true := decide_eq_true h2
      clear h h1 h2
      go_wp2
      rw [Exit.noGoto_ret]
      refine bodyPost_ret (v := .tuple #[.slice none 0 0, .int .i64 0, .int .i64 1]) (by simp [results, Tryd.results15]) rfl ⟨rfl, bb2⟩
    · have g2 : decide (16 < b) = false := decide_eq_false h2
      have HID := isDepth_no d (by omega) w2
      clear h h1 h2
      go_wp2_with (go_at_call 37; refine HID.mono ?_; rintro e wz ⟨rfl, rfl⟩)
      rw [Exit.noGoto_ret]
      refine bodyPost_ret (v := .tuple #[.slice none 0 0, .int .i64 0, .int .i64 1]) (by simp [results, Tryd.results15]) rfl ⟨rfl, bb2⟩

end Go.Proofs.YtdnhnnidlangiaaDoor

/-
  What beam.isTie and beam.Decode answer. (Written by tpl_beamdecode.py.)
-/
namespace Go.Proofs.YtdnhnnidlangiaaDoor
open Go.RowKit

set_option maxRecDepth 100000 in
set_option maxHeartbeats 2000000 in
theorem isTie_ok (la : Option Addr) (m lc : Nat) (L : List Nd) (hm : L.length = m) (h0 : 0 < m) (hm2 : m ≤ 1048576) (cu : Int) (hcu : -1 ≤ cu) (w : World) (hL : Nodes w.heap.size w (.slice la m lc) L) :
    Calls Tryd.prog 42 #[.slice la m lc, .int .i64 cu] w fun e w' => e = .returned (.bool (decB L cu).isNone) ∧ w = w' := by
  obtain ⟨rb, ro, rfl, _, hc4⟩ := nodes_at hL hm h0
  obtain ⟨⟨s0, M, c0, ps⟩, hn0⟩ : ∃ n, L[0]? = some n := ⟨L[0]'(by omega), by simp⟩
  have HN0 : Hid (L[0]? = some (s0, M, c0, ps)) := hn0
  obtain ⟨_, _, _, k1, _, _⟩ := hc4 0 _ hn0
  rw [Nat.zero_mul, Nat.add_zero] at k1
  have HM : Hid (L.length = m) := hm
  have dm0 : (0 : Int) < (m : Int) := by omega
  clear hn0 hL hm
  by_cases hm1 : 1 < m
  · have dm : decide (1 < (m : Int)) = true := decide_eq_true (by omega)
    have dmN : decide (1 < m) = true := decide_eq_true hm1
    obtain ⟨⟨s1, M1, c1, ps1⟩, hn1⟩ : ∃ n, L[1]? = some n := ⟨L[1]'(by rw [HM.out]; exact hm1), by simp⟩
    have HN1 : Hid (L[1]? = some (s1, M1, c1, ps1)) := hn1
    obtain ⟨_, _, _, q1, _, _⟩ := hc4 1 _ hn1
    rw [Nat.one_mul] at q1
    clear hc4 hn1
    by_cases hmm : M1 = M
    · have de : (M1 == M) = true := by simp [hmm]
      have HDE : decB L cu = none := decB_same HN0.out HN1.out hmm
      clear hmm
      have HV : Hid ((decB L cu).isNone = true) := by
        show (decB L cu).isNone = true
        rw [HDE]
        rfl
      rw [HV.out]
      go_enter Tryd.func42, Tryd.ntmps42
      go_wp2
      go_ret
      exact ⟨rfl, rfl⟩
    · have de : (M1 == M) = false := by simp [hmm]
      have HS : Hid (L[1]? = none ∨ ∃ u, L[1]? = some u ∧ u.2.1 ≠ M) := .inr ⟨_, HN1.out, hmm⟩
      clear hmm
      by_cases hc0 : cu = -1
      · have d0 : (cu != -1) = false := by simp [hc0]
        have HDE : decB L cu = some (ps, M) := decB_told (n := (s0, M, c0, ps)) HN0.out (h1 := HS.out) (fun h => by omega)
        clear hc0
        have HV : Hid ((decB L cu).isNone = false) := by
          show (decB L cu).isNone = false
          rw [HDE]
          rfl
        rw [HV.out]
        go_enter Tryd.func42, Tryd.ntmps42
        go_wp2
        go_ret
        exact ⟨rfl, rfl⟩
      · have d0 : (cu != -1) = true := by rw [bne_iff_ne]; exact hc0
        by_cases hcm : cu ≤ M
        · have d1 : decide (cu ≤ M) = true := decide_eq_true hcm
          have HDE : decB L cu = none := decB_cut (n := (s0, M, c0, ps)) HN0.out (h1 := HS.out) (by omega) hcm
          clear hc0 hcm
          have HV : Hid ((decB L cu).isNone = true) := by
            show (decB L cu).isNone = true
            rw [HDE]
            rfl
          rw [HV.out]
          go_enter Tryd.func42, Tryd.ntmps42
          go_wp2
          go_ret
          exact ⟨rfl, rfl⟩
        · have d1 : decide (cu ≤ M) = false := decide_eq_false hcm
          have HDE : decB L cu = some (ps, M) := decB_told (n := (s0, M, c0, ps)) HN0.out (h1 := HS.out) (fun h => hcm h.2)
          clear hc0 hcm
          have HV : Hid ((decB L cu).isNone = false) := by
            show (decB L cu).isNone = false
            rw [HDE]
            rfl
          rw [HV.out]
          go_enter Tryd.func42, Tryd.ntmps42
          go_wp2
          go_ret
          exact ⟨rfl, rfl⟩
  · have dm : decide (1 < (m : Int)) = false := decide_eq_false (by omega)
    have dmN : decide (1 < m) = false := decide_eq_false hm1
    have HS : Hid (L[1]? = none ∨ ∃ u, L[1]? = some u ∧ u.2.1 ≠ M) := .inl (List.getElem?_eq_none (by rw [HM.out]; omega))
    clear hc4
    by_cases hc0 : cu = -1
    · have d0 : (cu != -1) = false := by simp [hc0]
      have HDE : decB L cu = some (ps, M) := decB_told (n := (s0, M, c0, ps)) HN0.out (h1 := HS.out) (fun h => by omega)
      clear hc0
      have HV : Hid ((decB L cu).isNone = false) := by
        show (decB L cu).isNone = false
        rw [HDE]
        rfl
      rw [HV.out]
      go_enter Tryd.func42, Tryd.ntmps42
      go_wp2
      go_ret
      exact ⟨rfl, rfl⟩
    · have d0 : (cu != -1) = true := by rw [bne_iff_ne]; exact hc0
      by_cases hcm : cu ≤ M
      · have d1 : decide (cu ≤ M) = true := decide_eq_true hcm
        have HDE : decB L cu = none := decB_cut (n := (s0, M, c0, ps)) HN0.out (h1 := HS.out) (by omega) hcm
        clear hc0 hcm
        have HV : Hid ((decB L cu).isNone = true) := by
          show (decB L cu).isNone = true
          rw [HDE]
          rfl
        rw [HV.out]
        go_enter Tryd.func42, Tryd.ntmps42
        go_wp2
        go_ret
        exact ⟨rfl, rfl⟩
      · have d1 : decide (cu ≤ M) = false := decide_eq_false hcm
        have HDE : decB L cu = some (ps, M) := decB_told (n := (s0, M, c0, ps)) HN0.out (h1 := HS.out) (fun h => hcm h.2)
        clear hc0 hcm
        have HV : Hid ((decB L cu).isNone = false) := by
          show (decB L cu).isNone = false
          rw [HDE]
          rfl
        rw [HV.out]
        go_enter Tryd.func42, Tryd.ntmps42
        go_wp2
        go_ret
        exact ⟨rfl, rfl⟩

theorem decB_some {L : List Nd} {cut : Int} {ps : List Int} {M : Int} (h : decB L cut = some (ps, M)) : ∃ s c, L[0]? = some (s, M, c, ps) := by
  match L with
  | [] => cases h
  | ⟨s, M', c, ps'⟩ :: t =>
    simp only [decB] at h
    split at h
    · cases h
    · cases h
      exact ⟨s, c, rfl⟩

set_option maxRecDepth 100000 in
set_option maxHeartbeats 4000000 in
theorem Decode_ok (N : Nat) (p : Int) (a : Option Addr) (cap : Nat) (l : List (Int × Int)) (hp : PileOk (N : Int) p l) (b : Nat) (hb1 : 1 ≤ b) (hb2 : b ≤ 16) (D : Nat) (hD : D ≤ 2) (w : World) (ha : Syms w.heap.size w (.slice a l.length cap) l) (hF : Firsts w) :
    Calls Tryd.prog 16 #[.agg #[.int .i64 N, .int .i64 p, .slice a l.length cap], .int .i64 (b : Int), .int .i64 ((D + 1 : Nat) : Int)] w fun e W' => ((decB (walkB N l b D N).1 (walkB N l b D N).2 = none ∧ e = .returned (.tuple #[.slice none 0 0, .int .i64 0, .int .i64 5])) ∨ ∃ ps M, decB (walkB N l b D N).1 (walkB N l b D N).2 = some (ps, M) ∧ ∃ qa qc, e = .returned (.tuple #[.slice qa ps.length qc, .int .i64 M, .int .i64 0]) ∧ ps.length ≤ qc ∧ Holds .i64 W'.heap.size W' (.slice qa ps.length qc) ps) ∧ Below w.heap.size w W' := by
  have b1 : Below w.heap.size w (w.alloc (.cells #[.int .i64 N, .int .i64 p, .slice a l.length cap] 24)) := (Below.refl w.heap.size w).alloc (Nat.le_refl _) _
  have HWK := Walk_ok N p a cap l hp b hb1 hb2 D hD _ (ha.next b1) (hF.next b1)
  have hwi := walkTo_inv stB (coB N l) N (beginN : Int) D b hb1 N
  have hsome : 0 < (walkB N l b D N).1.length := hwi.some
  have hwc : -1 ≤ (walkB N l b D N).2 := hwi.cut1
  have hwl := walkB_len N l (D := D) (i := N) hb1 hb2
  obtain ⟨L, hL⟩ : ∃ L, (walkB N l b D N).1 = L := ⟨_, rfl⟩
  obtain ⟨cu, hcu⟩ : ∃ cu, (walkB N l b D N).2 = cu := ⟨_, rfl⟩
  rw [hL] at HWK hwl hsome ⊢
  rw [hcu] at HWK hwc ⊢
  obtain ⟨D1, hD1⟩ : ∃ D1, D + 1 = D1 := ⟨_, rfl⟩
  rw [hD1] at HWK ⊢
  obtain ⟨m, hm⟩ : ∃ m, L.length = m := ⟨_, rfl⟩
  have HM : Hid (L.length = m) := hm
  rw [hm] at hwl hsome
  obtain ⟨oz, hoz⟩ : ∃ oz, decB L cu = oz := ⟨_, rfl⟩
  have HOZ : Hid (decB L cu = oz) := hoz
  rw [hoz]
  clear hwi hL hcu hD1 hm hp ha hF hoz
  go_enter Tryd.func16, Tryd.ntmps16
  go_wp2_with fail
  refine HWK.mono ?_
  rintro e w4 ⟨r4, rfl, hN4, b4⟩
  clear HWK
  have bb4 := b1.trans (b4.mono b1.size)
  obtain ⟨ra, rc, e4⟩ := hN4.nodes.shape
  rw [HM.out] at e4
  subst e4
  have HT := isTie_ok ra m rc L HM.out hsome (by omega) cu hwc w4 hN4.nodes
  rw [HOZ.out] at HT
  obtain ⟨rb, ro, rfl, hc4⟩ := hN4.cap rfl HM.out hsome
  cases oz with
  | none =>
    clear hc4 hN4 b1 b4
    go_wp2_with (go_at_call 42; refine HT.mono ?_; rintro e wz ⟨rfl, rfl⟩)
    go_ret3
    first | exact ⟨.inl ⟨rfl, rfl⟩, bb4⟩ | exact ⟨rfl, bb4⟩
  | some z =>
    obtain ⟨ps, M⟩ := z
    obtain ⟨s0, c0, hn0⟩ := decB_some HOZ.out
    obtain ⟨pa, pc, hpc, hpv, k1, k3⟩ := hc4 0 _ hn0
    rw [Nat.zero_mul, Nat.add_zero] at k1 k3
    have HPC : Hid (ps.length ≤ pc) := hpc
    have HPH : Hid (Holds .i64 w4.heap.size w4 (.slice pa ps.length pc) ps) := hpv
    have dm0 : (0 : Int) < (m : Int) := by omega
    clear hpv b1 b4 hN4 hc4 hn0 hpc
    go_wp2_with (go_at_call 42; refine HT.mono ?_; rintro e wz ⟨rfl, rfl⟩)
    go_quiet (fail)
    go_wp2
    go_ret3
    exact ⟨.inr ⟨ps, M, rfl, _, _, rfl, HPC.out, HPH.out⟩, below_drewN bb4 _⟩

set_option maxRecDepth 100000 in
set_option maxHeartbeats 2000000 in
theorem Decode_ref (v : Value) (hv : ∃ n p a k c, v = .agg #[.int .i64 n, .int .i64 p, .slice a k c]) (b d : Int) (w : World)
    (h : ∀ w' : World, Below w.heap.size w w' → Calls Tryd.prog 15 #[v, .int .i64 b, .int .i64 d] w' fun e W' => e = .returned (.tuple #[.slice none 0 0, .int .i64 0, .int .i64 1]) ∧ Below w'.heap.size w' W') :
    Calls Tryd.prog 16 #[v, .int .i64 b, .int .i64 d] w fun e W' => e = .returned (.tuple #[.slice none 0 0, .int .i64 0, .int .i64 1]) ∧ Below w.heap.size w W' := by
  obtain ⟨n, p, a, k, c, rfl⟩ := hv
  have b1 : Below w.heap.size w (w.alloc (.cells #[.int .i64 n, .int .i64 p, .slice a k c] 24)) := (Below.refl w.heap.size w).alloc (Nat.le_refl _) _
  have HWK := h _ b1
  clear h
  go_enter Tryd.func16, Tryd.ntmps16
  go_wp2_with fail
  refine HWK.mono ?_
  rintro e w4 ⟨rfl, b4⟩
  go_wp2
  go_ret3
  exact ⟨rfl, b1.trans (b4.mono b1.size)⟩
theorem Decode_no (n p : Int) (a : Option Addr) (cap : Nat) (l : List (Int × Int)) (hl : l.length ≤ 4294967296) (hp : ¬ PileOk n p l) (b d : Int) (w : World) (ha : Syms w.heap.size w (.slice a l.length cap) l) :
    Calls Tryd.prog 16 #[.agg #[.int .i64 n, .int .i64 p, .slice a l.length cap], .int .i64 b, .int .i64 d] w fun e W' => e = .returned (.tuple #[.slice none 0 0, .int .i64 0, .int .i64 1]) ∧ Below w.heap.size w W' :=
  Decode_ref _ ⟨_, _, _, _, _, rfl⟩ b d w fun w' hb => Walk_no n p a cap l hl hp b d w' (ha.next hb)
theorem Decode_arg (N : Nat) (p : Int) (a : Option Addr) (cap : Nat) (l : List (Int × Int)) (hp : PileOk (N : Int) p l) (b d : Int) (h : ¬ ((1 ≤ b ∧ b ≤ 16) ∧ 1 ≤ d ∧ d ≤ 3)) (w : World) (ha : Syms w.heap.size w (.slice a l.length cap) l) (hF : Firsts w) :
    Calls Tryd.prog 16 #[.agg #[.int .i64 N, .int .i64 p, .slice a l.length cap], .int .i64 b, .int .i64 d] w fun e W' => e = .returned (.tuple #[.slice none 0 0, .int .i64 0, .int .i64 1]) ∧ Below w.heap.size w W' :=
  Decode_ref _ ⟨_, _, _, _, _, rfl⟩ b d w fun w' hb => Walk_arg N p a cap l hp b d h w' (ha.next hb) (hF.next hb)

end Go.Proofs.YtdnhnnidlangiaaDoor

/-
  By the first four symbols of each segment a block is told. No program is spoken of.
-/
namespace Go.Proofs.YtdnhnnidlangiaaDoor

theorem costN_mem {s : Nat} {x : Int × Int} : ∀ {l : List (Int × Int)}, x ∈ l → oneCost s x ≤ costN s l
  | [], h => by simp at h
  | y :: l, h => by
    rw [costN]
    rcases List.mem_cons.1 h with rfl | h
    · exact Nat.le_add_right _ _
    · exact Nat.le_trans (costN_mem h) (Nat.le_add_left _ _)
theorem pc_pos {x y : Nat} (hx : x < 256) (hy : y < 256) (h : x ≠ y) : 0 < pcTo 32 (x ^^^ y) := by
  have hb := xor_byte hx hy
  rw [pc_byte hb]
  refine Nat.pos_of_ne_zero fun h0 => h ?_
  have h1 := (pc8_zero _ hb).1 h0
  have h2 : x ^^^ (x ^^^ y) = x := by rw [h1, Nat.xor_zero]
  rw [← Nat.xor_assoc, Nat.xor_self, Nat.zero_xor] at h2
  exact h2.symm
theorem hOut_nil (k : Nat) : hOut [] k = false := rfl
/-- Each other state costs something. -/
theorem four_cost {zs : List Int} {C : Nat} (hn : 2 * zs.length < 65) (hC : 4 * (2 * zs.length) ≤ C) {j s : Nat} (hj : j < 2 * zs.length) (hs : s < 4294967296) (hne : s ≠ stN zs j) : 0 < costN s (ofL (2 * zs.length) (heardL zs [] [] C) j) := by
  obtain ⟨i, hi, hd⟩ : ∃ i, i < 4 ∧ symN s i ≠ symN (stN zs j) i := by
    refine Classical.byContradiction fun h => hne (four_inj hs (stN_lt zs j) fun i hi => ?_)
    exact Classical.byContradiction fun h' => h ⟨i, hi, h'⟩
  have hpos := posN_lt hn hj
  have hk : i * (2 * zs.length) + posN (2 * zs.length) j < C := by
    have : i * (2 * zs.length) ≤ 3 * (2 * zs.length) := Nat.mul_le_mul_right _ (by omega)
    omega
  have hm := mem_heardL (zs := zs) (os := []) (ts := []) (hOut_nil _) hk
  rw [hvN_own, codeN_place hn hj] at hm
  have hx : (((i : Nat) : Int), ((symN (stN zs j) i : Nat) : Int)) ∈ ofL (2 * zs.length) (heardL zs [] [] C) j := by
    refine ofL_mem.2 ⟨_, hm, ?_, ?_⟩
    · rw [Int.toNat_natCast, segN_place hn hj]
    · rw [Int.toNat_natCast, place_div hpos]
  refine Nat.lt_of_lt_of_le ?_ (costN_mem hx)
  unfold oneCost
  simp only [Int.toNat_natCast]
  exact pc_pos (symN_lt _ _) (symN_lt _ _) hd
theorem step_inj {s k k' : Nat} (hs : s < 4294967296) (hk : k < 16) (hk' : k' < 16) (h : stepN s k = stepN s k') : k = k' := by
  unfold stepN at h
  have h1 := mix_inj (xorlt32 hs (by omega)) (xorlt32 hs (by omega)) h
  have h2 : s ^^^ (s ^^^ k) = s ^^^ (s ^^^ k') := by rw [h1]
  rwa [← Nat.xor_assoc, ← Nat.xor_assoc, Nat.xor_self, Nat.zero_xor, Nat.zero_xor] at h2
/-- It is told. -/
theorem told_four (zs : List Int) (C a b : Nat) (hb : 1 ≤ b) (h0 : 1 ≤ zs.length) (hn : 2 * zs.length < 65) (hC : 4 * (2 * zs.length) ≤ C) :
    ∃ n t, (walkTo stB (coB (2 * zs.length) (heardL zs [] [] C)) (2 * zs.length) (beginN : Int) b a (2 * zs.length)).1 = n :: t ∧ pathOf n = nibs zs ∧ n.2.1 = 0 ∧ (∀ u, t.head? = some u → u.2.1 ≠ n.2.1) ∧ ¬ (0 ≤ (walkTo stB (coB (2 * zs.length) (heardL zs [] [] C)) (2 * zs.length) (beginN : Int) b a (2 * zs.length)).2 ∧ (walkTo stB (coB (2 * zs.length) (heardL zs [] [] C)) (2 * zs.length) (beginN : Int) b a (2 * zs.length)).2 ≤ n.2.1) := by
  have hsta : ∀ i, sta stB (coB (2 * zs.length) (heardL zs [] [] C)) (beginN : Int) ((nibs zs).take (i + 1)) = ((stN zs i : Nat) : Int) := fun i => by rw [sta_last]; rfl
  have hT := own_met zs [] C (2 * zs.length) (Nat.le_refl _)
  rw [List.take_of_length_le (by rw [nibs_len]; exact Nat.le_refl _)] at hT
  obtain ⟨_, hpos⟩ := four_pos stB (coB (2 * zs.length) (heardL zs [] [] C)) (2 * zs.length) (beginN : Int) (coB_pos _ _) (nibs zs) (nibs_len zs) (nibs_nibs zs)
    (fun i _ => by rw [hsta]; unfold coB; rw [Int.toNat_natCast, own_zero]; rfl)
    (fun i Q k hi _ _ hne => by
      rw [hsta, sta_last] at hne
      rw [sta_last]
      unfold coB
      rw [Int.toNat_natCast]
      have := four_cost hn hC hi (lastOf_lt (Q ++ [k]) begin_lt) (fun e => hne (by rw [e]))
      omega)
    (fun i k k' hi hk hk' h => by
      rw [sta_last] at h
      unfold stB at h
      rw [Int.toNat_natCast] at h
      have := step_inj (lastOf_lt ((nibs zs).take i) begin_lt) (by omega) (by omega) (Int.ofNat.inj h)
      omega)
  have hU : ∀ P, Nibs P → P.length = 2 * zs.length → P ≠ nibs zs → met stB (coB (2 * zs.length) (heardL zs [] [] C)) (beginN : Int) (nibs zs) < met stB (coB (2 * zs.length) (heardL zs [] [] C)) (beginN : Int) P := fun P hP hl hne => by
    rw [hT]
    exact hpos _ P (Nat.le_refl _) hP hl (by rw [List.take_of_length_le (by rw [nibs_len]; exact Nat.le_refl _)]; exact hne)
  obtain ⟨n, t, h1, h2, h3, h4, h5⟩ := clear_told stB (coB (2 * zs.length) (heardL zs [] [] C)) (2 * zs.length) (beginN : Int) (coB_pos _ _) a b hb (by omega) (nibs zs) (nibs_nibs zs) (nibs_len zs) hU (fun i hi => .inl fun Q hQ hl hne => by
    rw [hT]
    have h6 := hpos (i + 1) Q (by omega) hQ hl hne
    have h7 := scA_ge stB (coB (2 * zs.length) (heardL zs [] [] C)) (2 * zs.length) (beginN : Int) (coB_pos _ _) a Q (by omega)
    omega)
  exact ⟨n, t, h1, h2, by rw [h3, hT], h4, h5⟩

end Go.Proofs.YtdnhnnidlangiaaDoor

/-
  The laws' own guard over beam (wakes) answers true; what lay lies as it lay.
-/
namespace Go.Proofs.YtdnhnnidlangiaaDoor
open Go.RowKit

theorem decB_of {L : List Nd} {cut : Int} {n : Nd} {t : List Nd} (hl : L = n :: t) (ht : ∀ u, t.head? = some u → u.2.1 ≠ n.2.1) (hc : ¬ (0 ≤ cut ∧ cut ≤ n.2.1)) : decB L cut = some (pathOf n, n.2.1) := by
  subst hl
  simp only [decB]
  rw [if_neg]
  · rfl
  rintro (h | h)
  · cases t with
    | nil => simp at h
    | cons u t => simp at h; exact ht u rfl h
  · exact hc h
theorem decB_inv {L : List Nd} {cut : Int} {ps : List Int} {M : Int} (h : decB L cut = some (ps, M)) : ∃ n t, L = n :: t ∧ pathOf n = ps ∧ n.2.1 = M ∧ (∀ u, t.head? = some u → u.2.1 ≠ n.2.1) ∧ ¬ (0 ≤ cut ∧ cut ≤ n.2.1) := by
  match L with
  | [] => cases h
  | n :: t =>
    simp only [decB] at h
    split at h
    · cases h
    · next hh =>
      cases h
      refine ⟨n, t, rfl, rfl, rfl, fun u hu e => hh (.inl ?_), fun e => hh (.inr e)⟩
      rw [hu]
      exact congrArg some e
/-- By the first four symbols of each segment a block is told. -/
theorem dec_four (zs : List Int) (C D b : Nat) (hb : 1 ≤ b) (h0 : 1 ≤ zs.length) (hn : 2 * zs.length < 65) (hC : 4 * (2 * zs.length) ≤ C) : decB (walkB (2 * zs.length) (heardL zs [] [] C) b D (2 * zs.length)).1 (walkB (2 * zs.length) (heardL zs [] [] C) b D (2 * zs.length)).2 = some (nibs zs, 0) := by
  obtain ⟨n, t, h1, h2, h3, h4, h5⟩ := told_four zs C D b hb h0 hn hC
  have := decB_of (cut := (walkB (2 * zs.length) (heardL zs [] [] C) b D (2 * zs.length)).2) h1 h4 h5
  rw [h2, h3] at this
  exact this
theorem flags_nil (n₀ : Nat) (w : World) : Flags n₀ w (.slice none 0 0) [] := .inl ⟨⟨_, _, rfl⟩, rfl⟩
theorem holds_nil8 (n₀ : Nat) (w : World) : Holds .u8 n₀ w (.slice none 0 0) (([] : List Nat).map fun t : Nat => (t : Int)) := .inl ⟨⟨_, _, rfl, fun _ => rfl⟩, rfl⟩

set_option maxRecDepth 100000 in
set_option maxHeartbeats 1000000 in
theorem beamWakes_any (w : World) (hF : Firsts w) : Calls Tryd.prog 24 #[] w fun e w' => e = .returned (.bool true) ∧ Below w.heap.size w w' := by
  have h0 := held_new .u8 w [90] 1 5 (0, 0)
  have b0 := (Below.refl w.heap.size w).alloc (Nat.le_refl _) (.cells #[.int .u8 90] 5)
  have HH := heard_any (some ⟨w.heap.size, 0, none⟩) 1 1 [90] rfl (by decide) (by decide) (by decide) 4 8 (by decide) (by decide) (by decide) none 0 0 [] rfl (by decide) none 0 0 [] rfl (by decide) (by simp) (w.alloc (.cells #[.int .u8 90] 5)) (hF.next b0) h0 (flags_nil _ _) (holds_nil8 _ _)
  have HOK : PileOk ((2 : Nat) : Int) ((4 : Nat) : Int) (heardL [90] [] [] 8) := heardL_ok ⟨by decide, by decide, by decide, by decide⟩ (by simp) (fun k => codeN_lt _ k) (by decide)
  have HDE : decB (walkB 2 (heardL [90] [] [] 8) 2 0 2).1 (walkB 2 (heardL [90] [] [] 8) 2 0 2).2 = some ([5, 10], 0) := dec_four [90] 8 0 2 (by decide) (by decide) (by decide) (by decide)
  go_enter Tryd.func24, Tryd.ntmps24
  go_wp2_with fail
  refine HH.mono ?_
  rintro e w1 ⟨r, rfl, o1, b1⟩
  clear HH
  have bb1 := b0.trans (b1.mono (by simp))
  obtain ⟨ra, rc, e1⟩ := rowN_shape o1
  have hs1 := syms_of_row o1
  rw [e1] at hs1
  obtain ⟨ll, hll⟩ : ∃ ll, heardL [90] [] [] 8 = ll := ⟨_, rfl⟩
  rw [hll] at hs1 HOK HDE e1
  obtain ⟨ln, hln⟩ : ∃ ln, ll.length = ln := ⟨_, rfl⟩
  have b2 : Below w1.heap.size w1 (w1.alloc (.cells #[.int .i64 2, .int .i64 4, .slice ra ln rc] 24)) := (Below.refl _ _).alloc (Nat.le_refl _) _
  have bb2 := bb1.trans (b2.mono bb1.size)
  have HD := Decode_ok 2 4 ra rc ll HOK 2 (by decide) (by decide) 0 (by decide) (w1.alloc (.cells #[.int .i64 2, .int .i64 4, .slice ra ln rc] 24)) (hs1.next b2) (hF.next bb2)
  rw [HDE, hln] at HD
  rw [hln] at e1
  subst e1
  clear HDE HOK hs1 o1 hll hln
  go_wp2_with fail
  refine HD.mono ?_
  rintro e w3 ⟨he, b3⟩
  rcases he with ⟨hno, _⟩ | ⟨ps, M, hsm, qa, qc, rfl, _, hH⟩
  · cases hno
  cases hsm
  clear HD
  have bb3 := bb2.trans (b3.mono bb2.size)
  have b4 : Below w3.heap.size w3 (w3.alloc (.cells #[.int .i64 5, .int .i64 10] 3)) := (Below.refl _ _).alloc (Nat.le_refl _) _
  have h5 := held_new .i64 w3 [5, 10] 2 3 (0, 0)
  have HI := ints_any (.slice qa 2 qc) (.slice (some ⟨w3.heap.size, 0, none⟩) 2 2) [5, 10] [5, 10] _ _ (w3.alloc (.cells #[.int .i64 5, .int .i64 10] 3)) (by decide) (hH.next b4) h5
  rw [decide_eq_true rfl] at HI
  clear hH h5
  go_wp2_with fail
  refine HI.mono ?_
  rintro e w6 ⟨rfl, q6, rfl⟩
  go_wp2
  go_ret
  exact ⟨rfl, below_drewN (bb3.trans (b4.mono bb3.size)) q6⟩

end Go.Proofs.YtdnhnnidlangiaaDoor

/-
  BeamFour: the walk: whatever the bytes and the numbers, the law answers true, and nothing that lay has turned.
-/
namespace Go.Proofs.YtdnhnnidlangiaaDoor
open Go.RowKit

theorem at_place12 (at_ d : Int) (hd : 0 < d) : ∃ p : Nat, (p : Int) < d ∧ (IntKind.u64.wrap at_).tmod d = (p : Int) := by
  have h0 : 0 ≤ IntKind.u64.wrap at_ := by rw [IntKind.wrap_u64]; omega
  have h1 := Int.tmod_nonneg d h0
  have h2 := Int.tmod_lt_of_pos (IntKind.u64.wrap at_) hd
  exact ⟨((IntKind.u64.wrap at_).tmod d).toNat, by omega, by omega⟩

set_option maxRecDepth 100000 in
set_option maxHeartbeats 2000000 in
theorem beamFour_few (a : Option Addr) (n cap : Nat) (x y z : Int) (w : World) (h : n < 1 ∨ 8 < n) :
    Calls Tryd.prog 5 #[.slice a n cap, .int .i64 x, .int .i64 y, .int .i64 z] w fun e w' => e = .returned (.bool true) ∧ Below w.heap.size w w' := by
  by_cases h1 : n < 1
  · have d0 : decide ((n : Int) < 1) = true := decide_eq_true (by omega)
    clear h h1
    go_enter Tryd.func5, Tryd.ntmps5
    go_wp2
    go_ret
    exact ⟨rfl, Below.refl _ _⟩
  · have d0 : decide ((n : Int) < 1) = false := decide_eq_false (by omega)
    have d1 : decide (8 < (n : Int)) = true := decide_eq_true (by omega)
    clear h h1
    go_enter Tryd.func5, Tryd.ntmps5
    go_wp2
    go_ret
    exact ⟨rfl, Below.refl _ _⟩

set_option maxRecDepth 100000 in
set_option maxHeartbeats 4000000 in
theorem beamFour_in (a : Option Addr) (cap : Nat) (zs : List Int) (bz : ∀ z ∈ zs, 0 ≤ z ∧ z ≤ 255) (h1 : 1 ≤ zs.length) (h8 : zs.length ≤ 8) (x y z : Int) (w : World) (hF : Firsts w) (ha : Holds .u8 w.heap.size w (.slice a zs.length cap) zs) :
    Calls Tryd.prog 5 #[.slice a zs.length cap, .int .i64 x, .int .i64 y, .int .i64 z] w fun e w' => e = .returned (.bool true) ∧ Below w.heap.size w w' := by
  have HA : Hid (Holds .u8 w.heap.size w (.slice a zs.length cap) zs) := ha
  have HB : Hid (∀ z ∈ zs, 0 ≤ z ∧ z ≤ 255) := bz
  have HFW : Hid (Firsts w) := hF
  obtain ⟨L, hL⟩ : ∃ L, zs.length = L := ⟨_, rfl⟩
  have HZ : Hid (zs.length = L) := hL
  rw [hL] at HA h1 h8 ⊢
  obtain ⟨n, hn⟩ : ∃ n, 2 * L = n := ⟨_, rfl⟩
  have e2 : 2 * (L : Int) = (n : Int) := by omega
  obtain ⟨Q, hQ⟩ : ∃ Q, 2 * n + 1 = Q := ⟨_, rfl⟩
  have eQ : 2 * (n : Int) + 1 = (Q : Int) := by omega
  have ewQ : IntKind.u64.wrap (Q : Int) = (Q : Int) := by rw [IntKind.wrap_u64]; omega
  obtain ⟨px, hpx, ex⟩ := at_place12 x (Q : Int) (by omega)
  obtain ⟨py, hpy, ey⟩ := at_place12 y 4 (by decide)
  obtain ⟨D, hD, ez⟩ := at_place12 z 2 (by decide)
  have ewx : IntKind.i64.wrap (px : Int) = (px : Int) := by rw [IntKind.wrap_i64]; omega
  have ewy : IntKind.i64.wrap (py : Int) = (py : Int) := by rw [IntKind.wrap_i64]; omega
  have ewz : IntKind.i64.wrap (D : Int) = (D : Int) := by rw [IntKind.wrap_i64]; omega
  obtain ⟨B, hB⟩ : ∃ B, 1 + py = B := ⟨_, rfl⟩
  have eB : 1 + (py : Int) = (B : Int) := by omega
  obtain ⟨D1, hD1⟩ : ∃ D1, D + 1 = D1 := ⟨_, rfl⟩
  have eD : 1 + (D : Int) = (D1 : Int) := by omega
  obtain ⟨C, hC⟩ : ∃ C, 4 * n + px = C := ⟨_, rfl⟩
  have eC : 4 * (n : Int) + (px : Int) = (C : Int) := by omega
  have HLT := light_any (n : Int) (B : Int) (D1 : Int)
  have HH := heard_any a L cap zs HZ.out h1 (by omega) bz 6 C (by decide) (by decide) (by omega) none 0 0 [] rfl (by decide) none 0 0 [] rfl (by decide) (by simp) w hF HA.out (flags_nil _ _) (holds_nil8 _ _)
  have HOK : Hid (PileOk ((n : Nat) : Int) ((6 : Nat) : Int) (heardL zs [] [] C)) := heardL_ok ⟨by omega, by omega, by decide, by decide⟩ (by simp) (fun k => codeN_lt _ k) (by omega)
  have HDE : Hid (decB (walkB n (heardL zs [] [] C) B D n).1 (walkB n (heardL zs [] [] C) B D n).2 = some (nibs zs, 0)) := by
    have := dec_four zs C D B (by omega) (by rw [HZ.out]; exact h1) (by rw [HZ.out]; omega) (by rw [HZ.out]; omega)
    rw [HZ.out, hn] at this
    exact this
  rw [hn] at HH
  have hB1 : 1 ≤ B := by omega
  have hB4 : B ≤ 4 := by omega
  have hD2 : D ≤ 1 := by omega
  have hn16 : n ≤ 16 := by omega
  have hC96 : C ≤ 96 := by omega
  have HN : Hid (2 * L = n) := hn
  have HD1 : Hid (D + 1 = D1) := hD1
  have d0 : decide ((L : Int) < 1) = false := decide_eq_false (by omega)
  have d1 : decide (8 < (L : Int)) = false := decide_eq_false (by omega)
  have d0' : decide (L < 1) = false := decide_eq_false (by omega)
  have d1' : decide (8 < L) = false := decide_eq_false (by omega)
  clear ha bz hF hL hn hQ hB hD1 hC hpx hpy hD
  go_enter Tryd.func5, Tryd.ntmps5
  go_wp2_with fail
  refine (HLT w).mono ?_
  rintro e wz ⟨he | he, rfl⟩
  · subst he
    go_wp2_with fail
    refine HH.mono ?_
    rintro e w1 ⟨r, rfl, o1, b1⟩
    clear HH
    obtain ⟨ra, rc, e1⟩ := rowN_shape o1
    have hs1 := syms_of_row o1
    rw [e1] at hs1
    obtain ⟨ll, hll⟩ : ∃ ll, heardL zs [] [] C = ll := ⟨_, rfl⟩
    rw [hll] at hs1 HOK HDE e1
    obtain ⟨ln, hln⟩ : ∃ ln, ll.length = ln := ⟨_, rfl⟩
    have b2 : Below w1.heap.size w1 (w1.alloc (.cells #[.int .i64 (n : Int), .int .i64 6, .slice ra ln rc] 24)) := (Below.refl _ _).alloc (Nat.le_refl _) _
    have bb2 := b1.trans (b2.mono b1.size)
    have HD := Decode_ok n 6 ra rc ll HOK.out B hB1 (by omega) D (by omega) (w1.alloc (.cells #[.int .i64 (n : Int), .int .i64 6, .slice ra ln rc] 24)) (hs1.next b2) (HFW.out.next bb2)
    rw [HDE.out, hln, HD1.out] at HD
    rw [hln] at e1
    subst e1
    clear HDE HOK hs1 o1 hll hln b1 b2
    go_wp2_with fail
    refine HD.mono ?_
    rintro e w3 ⟨he, b3⟩
    rcases he with ⟨hno, _⟩ | ⟨ps, M, hsm, qa, qc, rfl, hqc, hH⟩
    · cases hno
    cases hsm
    clear HD
    have bb3 := bb2.trans (b3.mono bb2.size)
    have HJ := join_ok qa qc (nibs zs) L (by rw [nibs_len, HZ.out]) (by rw [nibs_len, HZ.out]; omega) hqc (nibs_bd zs) w3 hH
    have hnb : wholesOf 4 2 (nibs zs) L = zs := by rw [← HZ.out]; exact nibs_back HB.out
    rw [hnb] at HJ
    obtain ⟨nl, hnl⟩ : ∃ nl, (nibs zs).length = nl := ⟨_, rfl⟩
    rw [hnl] at HJ ⊢
    clear hH hqc b3 hnb hnl
    go_wp2_with fail
    refine HJ.mono ?_
    rintro e w4 ⟨r4, rfl, o4, b4⟩
    clear HJ
    have bb4 := bb3.trans (b4.mono bb3.size)
    have h4 := holds_of_row o4
    have HBY := bytes_any r4 (.slice a L cap) zs zs _ _ w4 (by rw [HZ.out]; omega) h4 (HA.out.next bb4)
    rw [decide_eq_true rfl] at HBY
    have HWK := fun q => beamWakes_any (w4.drewN q) ((HFW.out.next bb4).drewN q)
    clear o4 h4 b4
    go_wp2_with (first | (go_at_call 30; refine HBY.mono ?_; rintro e w5 ⟨rfl, q5, rfl⟩) | (go_at_call 24; refine (HWK _).mono ?_; rintro e w6 ⟨rfl, b6⟩))
    go_ret
    exact ⟨rfl, (below_drewN bb4 q5).trans (b6.mono bb4.size)⟩
  · subst he
    go_wp2
    go_ret
    exact ⟨rfl, Below.refl _ _⟩

/-- The law, of whatever bytes and numbers. -/
theorem beamFour_walk (a0 : Option Addr) (len0 cap0 : Nat) (z0 : List Int) (a1 a2 a3 : Int) (w : World) (w0 : IsRow .u8 w a0 len0 cap0 z0) (hF : Firsts w) :
    Calls Tryd.prog 5 #[.slice a0 len0 cap0, .int .i64 a1, .int .i64 a2, .int .i64 a3] w fun e w' => e = .returned (.bool true) ∧ Below w.heap.size w w' := by
  obtain ⟨xs, rfl, hx, bx⟩ := holds_of_isRow w0
  by_cases h0 : xs.length < 1 ∨ 8 < xs.length
  · exact beamFour_few _ _ _ _ _ _ w h0
  · exact beamFour_in _ _ xs (bytes_bd bx) (by omega) (by omega) _ _ _ w hF hx

end Go.Proofs.YtdnhnnidlangiaaDoor

/-
  BeamTrue: the walk: whatever the bytes, the flags and the numbers, the law answers true, and nothing that lay has turned.
-/
namespace Go.Proofs.YtdnhnnidlangiaaDoor
open Go.RowKit

/-- What the row's step is told of a slice of flags that came in. -/
def IsFlags (w : World) (a : Option Addr) (len cap : Nat) (os : List Bool) : Prop := os.length = len ∧ Flags w.heap.size w (.slice a len cap) os
theorem cellsBool : Tryd.prog.cellsOf 4 = 1 := by kernel_rfl
theorem isFlags_of_trod {H : Type} {enc : TypeId × Value → H} {w : World} {base : Nat} {held : Bool} {fuel : Nat} {a : Option Addr} {len cap : Nat} {x : DataW H × List MemPlace}
    (h : DataW.trod enc Tryd.prog w base (fun _ => true) held fuel 56 [.slice a len cap] = some x) : ∃ os, IsFlags w a len cap os := by
  rcases Go.Deep.open_slice Tryd.underlying56 h with ⟨hcs, _⟩ | ⟨ad, len', cap', m, n, D, Pl, hcs, _, hl, hc, hm, _, hx⟩
  · simp at hcs
    obtain ⟨rfl, rfl, rfl⟩ := hcs
    exact ⟨[], rfl, flags_nil _ _⟩
  · simp at hcs
    obtain ⟨rfl, rfl, rfl⟩ := hcs
    have hlm : len ≤ m := by rw [hm]; split <;> omega
    have each : ∀ i, i < len → ∃ q : Bool, w.cell? (ad.add i) = some (.bool q) := by
      intro i hi
      obtain ⟨cs', h1, h2⟩ := hx i (by omega)
      rw [cellsBool] at h1
      obtain ⟨_, hlen, hcell⟩ := World.cells?_some h1
      match cs', hlen with
      | [v0], _ =>
        obtain ⟨q, e, _⟩ := DataW.trod_bool Tryd.underlying4 h2
        simp at e
        have c0 := hcell 0 (by omega)
        rw [Go.Deep.add_add] at c0
        simp at c0
        exact ⟨q, by rw [c0, e]⟩
    by_cases h0 : len = 0
    · subst h0
      exact ⟨[], rfl, .inl ⟨⟨_, _, rfl⟩, rfl⟩⟩
    · obtain ⟨q, hq⟩ := Go.Deep.choose_lt each
      obtain ⟨b, off, spot⟩ := ad
      have hspot : spot = none := by
        have := hq 0 (by omega)
        simpa [Addr.add] using World.cell?_spot this
      subst hspot
      have hlen : ((List.range len).map q).length = len := by simp
      refine ⟨(List.range len).map q, hlen, .inr ⟨b, off, cap, by rw [hlen], ?_, fun j x hj => ?_⟩⟩
      · have := symAt_lt (hq 0 (by omega))
        rwa [Go.WideShapes.add_plain] at this
      · have hjl : j < len := by have := (List.getElem?_eq_some_iff.1 hj).1; rwa [hlen] at this
        have e : x = q j := by
          rw [List.getElem?_map, List.getElem?_range hjl] at hj
          simpa using hj.symm
        subst e
        have h2 := hq j hjl
        rw [Go.WideShapes.add_plain] at h2
        exact h2

/-- Of a block's own symbols no other is told. -/
theorem dec_own (zs : List Int) (os : List Bool) (C D b : Nat) (hb : 1 ≤ b) (h0 : 1 ≤ zs.length) {ps : List Int} {M : Int} (h : decB (walkB (2 * zs.length) (heardL zs os [] C) b D (2 * zs.length)).1 (walkB (2 * zs.length) (heardL zs os [] C) b D (2 * zs.length)).2 = some (ps, M)) : ps = nibs zs ∧ M = 0 := by
  obtain ⟨n, t, h1, h2, h3, h4, h5⟩ := decB_inv h
  obtain ⟨h6, h7⟩ := told_own zs os C D b hb h0 h1 h4 h5
  exact ⟨h2.symm.trans h6, h3.symm.trans h7⟩

set_option maxRecDepth 100000 in
set_option maxHeartbeats 2000000 in
theorem beamTrue_few (a : Option Addr) (n cap : Nat) (x y : Int) (oa : Option Addr) (on oc : Nat) (u v : Int) (w : World) (h : n < 1 ∨ 6 < n ∨ 400 < on) :
    Calls Tryd.prog 4 #[.slice a n cap, .int .i64 x, .int .i64 y, .slice oa on oc, .int .i64 u, .int .i64 v] w fun e w' => e = .returned (.bool true) ∧ Below w.heap.size w w' := by
  by_cases h1 : n < 1
  · have d0 : decide ((n : Int) < 1) = true := decide_eq_true (by omega)
    clear h h1
    go_enter Tryd.func4, Tryd.ntmps4
    go_wp2
    go_ret
    exact ⟨rfl, Below.refl _ _⟩
  · have d0 : decide ((n : Int) < 1) = false := decide_eq_false (by omega)
    by_cases h2 : 6 < n
    · have d1 : decide (6 < (n : Int)) = true := decide_eq_true (by omega)
      clear h h1 h2
      go_enter Tryd.func4, Tryd.ntmps4
      go_wp2
      go_ret
      exact ⟨rfl, Below.refl _ _⟩
    · have d1 : decide (6 < (n : Int)) = false := decide_eq_false (by omega)
      have d2 : decide (400 < (on : Int)) = true := decide_eq_true (by omega)
      clear h h1 h2
      go_enter Tryd.func4, Tryd.ntmps4
      go_wp2
      go_ret
      exact ⟨rfl, Below.refl _ _⟩

set_option maxRecDepth 100000 in
set_option maxHeartbeats 4000000 in
theorem beamTrue_in (a : Option Addr) (cap : Nat) (zs : List Int) (bz : ∀ z ∈ zs, 0 ≤ z ∧ z ≤ 255) (h1 : 1 ≤ zs.length) (h8 : zs.length ≤ 6) (x y : Int) (oa : Option Addr) (on oc : Nat) (os : List Bool) (hol : os.length = on) (hon : on ≤ 400) (u v : Int) (w : World) (hF : Firsts w) (ha : Holds .u8 w.heap.size w (.slice a zs.length cap) zs) (ho : Flags w.heap.size w (.slice oa on oc) os) :
    Calls Tryd.prog 4 #[.slice a zs.length cap, .int .i64 x, .int .i64 y, .slice oa on oc, .int .i64 u, .int .i64 v] w fun e w' => e = .returned (.bool true) ∧ Below w.heap.size w w' := by
  have HA : Hid (Holds .u8 w.heap.size w (.slice a zs.length cap) zs) := ha
  have HB : Hid (∀ z ∈ zs, 0 ≤ z ∧ z ≤ 255) := bz
  have HFW : Hid (Firsts w) := hF
  obtain ⟨L, hL⟩ : ∃ L, zs.length = L := ⟨_, rfl⟩
  have HZ : Hid (zs.length = L) := hL
  rw [hL] at HA h1 h8 ⊢
  obtain ⟨n, hn⟩ : ∃ n, 2 * L = n := ⟨_, rfl⟩
  have e2 : 2 * (L : Int) = (n : Int) := by omega
  obtain ⟨px, hpx, ex⟩ := at_place12 x 4 (by decide)
  obtain ⟨pu, hpu, eu⟩ := at_place12 u 4 (by decide)
  obtain ⟨D, hD, ev⟩ := at_place12 v 2 (by decide)
  have ewx : IntKind.i64.wrap (px : Int) = (px : Int) := by rw [IntKind.wrap_i64]; omega
  have ewu : IntKind.i64.wrap (pu : Int) = (pu : Int) := by rw [IntKind.wrap_i64]; omega
  have ewz : IntKind.i64.wrap (D : Int) = (D : Int) := by rw [IntKind.wrap_i64]; omega
  obtain ⟨P, hP⟩ : ∃ P, 1 + px = P := ⟨_, rfl⟩
  have eP : 1 + (px : Int) = (P : Int) := by omega
  obtain ⟨B, hB⟩ : ∃ B, 1 + pu = B := ⟨_, rfl⟩
  have eB : 1 + (pu : Int) = (B : Int) := by omega
  obtain ⟨D1, hD1⟩ : ∃ D1, D + 1 = D1 := ⟨_, rfl⟩
  have eD : 1 + (D : Int) = (D1 : Int) := by omega
  have hP1 : 1 ≤ P := by omega
  have hP4 : P ≤ 4 := by omega
  obtain ⟨Q, hQ⟩ : ∃ Q, n * P + 1 = Q := ⟨_, rfl⟩
  have hnP : n * P ≤ 48 := by
    have h9 : n * P ≤ 12 * 4 := Nat.mul_le_mul (by omega) hP4
    omega
  obtain ⟨T, hT⟩ : ∃ T, n * P = T := ⟨_, rfl⟩
  have eT : (n : Int) * (P : Int) = (T : Int) := by rw [← hT]; simp
  rw [hT] at hQ hnP
  have eQ : (T : Int) + 1 = (Q : Int) := by omega
  have ewQ : IntKind.u64.wrap (Q : Int) = (Q : Int) := by rw [IntKind.wrap_u64]; omega
  obtain ⟨C, hC, ey⟩ := at_place12 y (Q : Int) (by omega)
  have ewC : IntKind.i64.wrap (C : Int) = (C : Int) := by rw [IntKind.wrap_i64]; omega
  have hCT : C ≤ 2 * L * P := by rw [hn, hT]; omega
  have HLT := light_any (n : Int) (B : Int) (D1 : Int)
  have HH := heard_any a L cap zs HZ.out h1 (by omega) bz P C hP1 (by omega) hCT oa on oc os hol (by omega) none 0 0 [] rfl (by decide) (by simp) w hF HA.out ho (holds_nil8 _ _)
  have HOK : Hid (PileOk ((n : Nat) : Int) ((P : Nat) : Int) (heardL zs os [] C)) := heardL_ok ⟨by omega, by omega, by omega, by omega⟩ (by simp) (fun k => codeN_lt _ k) (by rw [eT]; omega)
  have HDE : Hid (∀ ps M, decB (walkB n (heardL zs os [] C) B D n).1 (walkB n (heardL zs os [] C) B D n).2 = some (ps, M) → ps = nibs zs ∧ M = 0) := fun ps M h => by
    refine dec_own zs os C D B (by omega) (by rw [HZ.out]; exact h1) (ps := ps) (M := M) ?_
    rw [HZ.out, hn]
    exact h
  rw [hn] at HH
  have hB1 : 1 ≤ B := by omega
  have hB4 : B ≤ 4 := by omega
  have hD2 : D ≤ 1 := by omega
  have hn16 : n ≤ 12 := by omega
  have hC96 : C ≤ 48 := by omega
  have HD1 : Hid (D + 1 = D1) := hD1
  have d0 : decide ((L : Int) < 1) = false := decide_eq_false (by omega)
  have d1 : decide (6 < (L : Int)) = false := decide_eq_false (by omega)
  have d2 : decide (400 < (on : Int)) = false := decide_eq_false (by omega)
  have d0' : decide (L < 1) = false := decide_eq_false (by omega)
  have d1' : decide (6 < L) = false := decide_eq_false (by omega)
  have d2' : decide (400 < on) = false := decide_eq_false (by omega)
  clear ha bz hF hL hn hQ hB hD1 hC hpx hpu hD hP hT hCT ho hol
  go_enter Tryd.func4, Tryd.ntmps4
  go_wp2_with fail
  refine (HLT w).mono ?_
  rintro e wz ⟨he | he, rfl⟩
  · subst he
    go_wp2_with fail
    refine HH.mono ?_
    rintro e w1 ⟨r, rfl, o1, b1⟩
    clear HH
    obtain ⟨ra, rc, e1⟩ := rowN_shape o1
    have hs1 := syms_of_row o1
    rw [e1] at hs1
    obtain ⟨ll, hll⟩ : ∃ ll, heardL zs os [] C = ll := ⟨_, rfl⟩
    rw [hll] at hs1 HOK HDE e1
    obtain ⟨ln, hln⟩ : ∃ ln, ll.length = ln := ⟨_, rfl⟩
    have b2 : Below w1.heap.size w1 (w1.alloc (.cells #[.int .i64 (n : Int), .int .i64 (P : Int), .slice ra ln rc] 24)) := (Below.refl _ _).alloc (Nat.le_refl _) _
    have bb2 := b1.trans (b2.mono b1.size)
    have HD := Decode_ok n P ra rc ll HOK.out B hB1 (by omega) D (by omega) (w1.alloc (.cells #[.int .i64 (n : Int), .int .i64 (P : Int), .slice ra ln rc] 24)) (hs1.next b2) (HFW.out.next bb2)
    rw [hln, HD1.out] at HD
    rw [hln] at e1
    subst e1
    clear HOK hs1 o1 hll hln b1 b2
    go_wp2_with fail
    refine HD.mono ?_
    rintro e w3 ⟨he, b3⟩
    clear HD
    have bb3 := bb2.trans (b3.mono bb2.size)
    have HWK3 := beamWakes_any w3 (HFW.out.next bb3)
    rcases he with ⟨_, rfl⟩ | ⟨ps, M, hsm, qa, qc, rfl, hqc, hH⟩
    · clear HDE b3
      go_wp2_with (go_at_call 24; refine HWK3.mono ?_; rintro e w6 ⟨rfl, b6⟩)
      go_ret
      exact ⟨rfl, bb3.trans (b6.mono bb3.size)⟩
    · obtain ⟨rfl, rfl⟩ := HDE.out ps M hsm
      have HJ := join_ok qa qc (nibs zs) L (by rw [nibs_len, HZ.out]) (by rw [nibs_len, HZ.out]; omega) hqc (nibs_bd zs) w3 hH
      have hnb : wholesOf 4 2 (nibs zs) L = zs := by rw [← HZ.out]; exact nibs_back HB.out
      rw [hnb] at HJ
      obtain ⟨nl, hnl⟩ : ∃ nl, (nibs zs).length = nl := ⟨_, rfl⟩
      rw [hnl] at HJ ⊢
      clear hH hqc b3 hnb hnl HDE hsm HWK3
      go_wp2_with fail
      refine HJ.mono ?_
      rintro e w4 ⟨r4, rfl, o4, b4⟩
      clear HJ
      have bb4 := bb3.trans (b4.mono bb3.size)
      have h4 := holds_of_row o4
      have HBY := bytes_any r4 (.slice a L cap) zs zs _ _ w4 (by rw [HZ.out]; omega) h4 (HA.out.next bb4)
      rw [decide_eq_true rfl] at HBY
      have HWK := fun q => beamWakes_any (w4.drewN q) ((HFW.out.next bb4).drewN q)
      clear o4 h4 b4
      go_wp2_with (first | (go_at_call 30; refine HBY.mono ?_; rintro e w5 ⟨rfl, q5, rfl⟩) | (go_at_call 24; refine (HWK _).mono ?_; rintro e w6 ⟨rfl, b6⟩))
      go_ret
      exact ⟨rfl, (below_drewN bb4 q5).trans (b6.mono bb4.size)⟩
  · subst he
    go_wp2
    go_ret
    exact ⟨rfl, Below.refl _ _⟩

/-- The law, of whatever bytes, flags and numbers. -/
theorem beamTrue_walk (a0 : Option Addr) (len0 cap0 : Nat) (z0 : List Int) (a1 a2 : Int) (a3 : Option Addr) (len3 cap3 : Nat) (o3 : List Bool) (a4 a5 : Int) (w : World) (w0 : IsRow .u8 w a0 len0 cap0 z0) (w3 : IsFlags w a3 len3 cap3 o3) (hF : Firsts w) :
    Calls Tryd.prog 4 #[.slice a0 len0 cap0, .int .i64 a1, .int .i64 a2, .slice a3 len3 cap3, .int .i64 a4, .int .i64 a5] w fun e w' => e = .returned (.bool true) ∧ Below w.heap.size w w' := by
  obtain ⟨xs, rfl, hx, bx⟩ := holds_of_isRow w0
  by_cases h0 : xs.length < 1 ∨ 6 < xs.length ∨ 400 < len3
  · exact beamTrue_few _ _ _ _ _ _ _ _ _ _ w h0
  · exact beamTrue_in _ _ xs (bytes_bd bx) (by omega) (by omega) _ _ _ _ _ o3 w3.1 (by omega) _ _ w hF hx w3.2

end Go.Proofs.YtdnhnnidlangiaaDoor

/-
  What a block's own path costs where some bits of its symbols were turned: as many as were turned; and so what is decoded costs no more. No program is spoken of.
-/
namespace Go.Proofs.YtdnhnnidlangiaaDoor

def sumTo (f : Nat → Nat) : Nat → Nat
  | 0 => 0
  | i + 1 => sumTo f i + f i
theorem sumTo_same {f g : Nat → Nat} : ∀ n, (∀ j, j < n → g j = f j) → sumTo g n = sumTo f n
  | 0, _ => rfl
  | n + 1, h => by rw [sumTo, sumTo, sumTo_same n (fun j hj => h j (by omega)), h n (by omega)]
theorem sumTo_one {f g : Nat → Nat} {s x : Nat} : ∀ n, s < n → (∀ j, j ≠ s → g j = f j) → g s = f s + x → sumTo g n = sumTo f n + x
  | 0, h, _, _ => absurd h (Nat.not_lt_zero _)
  | n + 1, h, hj, hs => by
    rw [sumTo, sumTo]
    by_cases e : s = n
    · subst e
      rw [hs, sumTo_same s (fun j hj' => hj j (by omega))]
      omega
    · rw [sumTo_one n (by omega) hj hs, hj n (fun h => e h.symm)]
      omega
/-- What a block's own path costs, of whatever symbols. -/
theorem claim_met (zs : List Int) (l : List (Int × Int)) : ∀ i, i ≤ 2 * zs.length → met stB (coB (2 * zs.length) l) (beginN : Int) ((nibs zs).take i) = ((sumTo (fun j => costN (stN zs j) (ofL (2 * zs.length) l j)) i : Nat) : Int)
  | 0, _ => by rw [List.take_zero]; rfl
  | i + 1, hi => by
    have hil : i < (nibs zs).length := by rw [nibs_len]; omega
    obtain ⟨k, hk⟩ : ∃ k, (nibs zs)[i]? = some k := ⟨(nibs zs)[i], by simp⟩
    have e : (nibs zs).take (i + 1) = (nibs zs).take i ++ [k] := by rw [List.take_add_one, hk]; rfl
    have e2 : stB (sta stB (coB (2 * zs.length) l) (beginN : Int) ((nibs zs).take i)) k = ((stN zs i : Nat) : Int) := by
      rw [← sta_snoc stB (coB (2 * zs.length) l) (beginN : Int), ← e, sta_last]
      rfl
    rw [e, met_snoc, claim_met zs l i (by omega), e2, List.length_take, Nat.min_eq_left (by omega)]
    unfold coB
    rw [Int.toNat_natCast, sumTo]
    simp
/-- How many bits of the first symbols were turned. -/
def turnTo (ts : List Nat) : Nat → Nat
  | 0 => 0
  | k + 1 => turnTo ts k + pcTo 8 (ts[k]?.getD 0)
theorem turnTo_le (ts : List Nat) : ∀ k, turnTo ts k ≤ 8 * k
  | 0 => by rw [turnTo]; omega
  | k + 1 => by
    have := turnTo_le ts k
    have := pcTo_le 8 (ts[k]?.getD 0)
    rw [turnTo]
    omega
theorem turnTo_stop {ts : List Nat} : ∀ {k : Nat}, ts.length ≤ k → turnTo ts k = turnTo ts ts.length
  | 0, h => by rw [show ts.length = 0 by omega]
  | k + 1, h => by
    by_cases e : ts.length = k + 1
    · rw [e]
    · rw [turnTo, turnTo_stop (k := k) (by omega), List.getElem?_eq_none (by omega)]
      rfl
theorem heard_sum {zs : List Int} {ts : List Nat} (h0 : 1 ≤ zs.length) (hn : 2 * zs.length < 65) (bt : ∀ t ∈ ts, t < 256) : ∀ C, sumTo (fun j => costN (stN zs j) (ofL (2 * zs.length) (heardL zs [] ts C) j)) (2 * zs.length) = turnTo ts C
  | 0 => by
    rw [turnTo]
    refine (sumTo_same (f := fun _ => 0) (g := fun j => costN (stN zs j) (ofL (2 * zs.length) (heardL zs [] ts 0) j)) _ (fun j _ => rfl)).trans ?_
    generalize 2 * zs.length = n
    induction n with
    | zero => rfl
    | succ n ih => rw [sumTo, ih]
  | C + 1 => by
    rw [turnTo, ← heard_sum h0 hn bt C]
    have hs := (segN_get (n := 2 * zs.length) (by omega) hn C).2
    refine sumTo_one (s := segN (2 * zs.length) C) _ hs (fun j hj => ?_) ?_
    · show costN _ _ = costN _ _
      rw [heardL_in (hOut_nil C), ofL_snoc, if_neg (by simpa using fun e => hj e.symm), List.append_nil]
    · show costN _ _ = costN _ _ + _
      rw [heardL_in (hOut_nil C), ofL_snoc, if_pos (by simp), costN_snoc]
      congr 1
      unfold oneCost
      simp only [Int.toNat_natCast]
      have e : symN (stN zs (segN (2 * zs.length) C)) (C / (2 * zs.length)) = codeN zs C := rfl
      have ht : ts[C]?.getD 0 < 256 := by
        cases hc : ts[C]? with
        | none => simp
        | some t => exact bt t (List.mem_of_getElem? hc)
      rw [e]
      unfold hvN
      rw [← Nat.xor_assoc, Nat.xor_self, Nat.zero_xor, pc_byte ht]
/-- What is told costs no more than was turned. -/
theorem claim_told {zs : List Int} {ts : List Nat} (h0 : 1 ≤ zs.length) (hn : 2 * zs.length < 65) (bt : ∀ t ∈ ts, t < 256) {C b D : Nat} (hb : 1 ≤ b) {ps : List Int} {M : Int} (h : decB (walkB (2 * zs.length) (heardL zs [] ts C) b D (2 * zs.length)).1 (walkB (2 * zs.length) (heardL zs [] ts C) b D (2 * zs.length)).2 = some (ps, M)) :
    Path ps ∧ ps.length = 2 * zs.length ∧ metB (2 * zs.length) (heardL zs [] ts C) ps = M ∧ M ≤ (turnTo ts C : Int) := by
  obtain ⟨n, t, e1, e2, e3, e4, e5⟩ := decB_inv h
  obtain ⟨h1, h2, h3, h4⟩ := told_least stB (coB (2 * zs.length) (heardL zs [] ts C)) (2 * zs.length) (beginN : Int) (coB_pos _ _) D b hb (by omega) e1 e4 e5
  have hT := claim_met zs (heardL zs [] ts C) (2 * zs.length) (Nat.le_refl _)
  rw [List.take_of_length_le (by rw [nibs_len]; exact Nat.le_refl _), heard_sum h0 hn bt C] at hT
  have hm := h1.2.1
  rw [e3] at hm h4
  rw [e2] at h2 h3 hm h4
  refine ⟨fun z hz => by have := h3 z hz; omega, h2, hm.symm, ?_⟩
  by_cases hp : nibs zs = ps
  · rw [← hT, hm, ← hp]
    exact Int.le_refl _
  · have := h4 (nibs zs) (nibs_nibs zs) (nibs_len zs) hp
    omega

end Go.Proofs.YtdnhnnidlangiaaDoor

/-
  What a path costs: from nothing to eight for each symbol; no less than what it begins with; a Score no less than the Metric and no more than that of a path that goes on. No program is spoken of.
-/
namespace Go.Proofs.YtdnhnnidlangiaaDoor

theorem ofL_cons_len (N : Nat) (x : Int × Int) (l : List (Int × Int)) (j : Nat) : (ofL N (x :: l) j).length = (ofL N l j).length + if segN N x.1.toNat = j then 1 else 0 := by
  unfold ofL
  rw [List.length_map, List.length_map, List.filter_cons]
  by_cases h : segN N x.1.toNat = j
  · rw [if_pos (by simp [h]), if_pos h, List.length_cons]
  · rw [if_neg (by simp [h]), if_neg h]; rfl
theorem segs_sum (N : Nat) : ∀ (l : List (Int × Int)) (n : Nat), sumTo (fun j => (ofL N l j).length) n ≤ l.length
  | [], n => by
    have h : sumTo (fun j => (ofL N [] j).length) n = sumTo (fun _ => 0) n := sumTo_same n (fun j _ => rfl)
    rw [h]
    have : ∀ n, sumTo (fun _ => 0) n = 0 := fun n => by
      induction n with
      | zero => rfl
      | succ n ih => rw [sumTo, ih]
    rw [this]
    exact Nat.zero_le _
  | x :: l, n => by
    have ih := segs_sum N l n
    by_cases h : segN N x.1.toNat < n
    · have := sumTo_one (f := fun j => (ofL N l j).length) (g := fun j => (ofL N (x :: l) j).length) (s := segN N x.1.toNat) (x := 1) n h (fun j hj => by
        show (ofL N (x :: l) j).length = _
        rw [ofL_cons_len, if_neg (fun e => hj e.symm)]; rfl) (by
        show (ofL N (x :: l) _).length = _
        rw [ofL_cons_len, if_pos rfl])
      rw [this, List.length_cons]
      omega
    · have := sumTo_same (f := fun j => (ofL N l j).length) (g := fun j => (ofL N (x :: l) j).length) n (fun j hj => by
        show (ofL N (x :: l) j).length = _
        rw [ofL_cons_len, if_neg (by omega)]; rfl)
      rw [this, List.length_cons]
      omega
theorem met_sum {N : Nat} {p : Int} {l : List (Int × Int)} (h : PileOk (N : Int) p l) : ∀ (n : Nat) (P : List Int), P.length = n → metB N l P ≤ ((8 * sumTo (fun j => (ofL N l j).length) n : Nat) : Int)
  | 0, P, e => by
    rw [List.length_eq_zero_iff.1 e]
    exact Int.le_refl _
  | n + 1, P, e => by
    obtain ⟨Q, k, rfl⟩ : ∃ Q k, P = Q ++ [k] := ⟨P.dropLast, P.getLast (fun h => by rw [h] at e; simp at e), (List.dropLast_concat_getLast _).symm⟩
    have hQ : Q.length = n := by simp at e; exact e
    have ih := met_sum h n Q hQ
    unfold metB at ih ⊢
    rw [met_snoc, hQ, sumTo]
    have hc : ∀ s, coB N l n s ≤ 8 * ((ofL N l n).length : Int) := fun s => by
      have := costN_le (s := s.toNat) (ofL_ok h n)
      unfold coB
      omega
    have := hc (stB (sta stB (coB N l) (beginN : Int) Q) k)
    omega
/-- Eight for each symbol at most. -/
theorem met_eight {N : Nat} {p : Int} {l : List (Int × Int)} (h : PileOk (N : Int) p l) (P : List Int) : metB N l P ≤ 8 * (l.length : Int) := by
  have h1 := met_sum h P.length P rfl
  have h2 := segs_sum N l P.length
  omega
theorem met_rise (N : Nat) (l : List (Int × Int)) (ps : List Int) {i j : Nat} (h : i ≤ j) : metB N l (ps.take i) ≤ metB N l (ps.take j) := by
  have e : ps.take j = ps.take i ++ (ps.take j).drop i := by
    have h1 : (ps.take j).take i = ps.take i := by rw [List.take_take, Nat.min_eq_left h]
    rw [← h1, List.take_append_drop]
  rw [e]
  exact met_mono stB (coB N l) (beginN : Int) (coB_pos N l) _ _
theorem sco_ge (N : Nat) (l : List (Int × Int)) (D : Nat) (P : List Int) (h : P.length ≤ N) : metB N l P ≤ scoB N l D P := scA_ge stB (coB N l) N (beginN : Int) (coB_pos N l) D P h
theorem sco_le (N : Nat) (l : List (Int × Int)) (D : Nat) (ps : List Int) (hps : Path ps) {i k : Nat} (hi : i ≤ ps.length) (hN : ps.length ≤ N) (hk : k = i + min D (N - i)) (hkl : k ≤ ps.length) : scoB N l D (ps.take i) ≤ metB N l (ps.take k) := by
  have hl : (ps.take i).length = i := by rw [List.length_take]; omega
  have h1 := (scA_bounds stB (coB N l) N (beginN : Int) (coB_pos N l) D (ps.take i) (by omega)).1 ((ps.take k).drop i) (fun z hz => by
    have := hps z (List.mem_of_mem_take (List.mem_of_mem_drop hz))
    omega) (by rw [List.length_drop, List.length_take, hl]; omega)
  have e : ps.take i ++ (ps.take k).drop i = ps.take k := by
    have h2 : (ps.take k).take i = ps.take i := by rw [List.take_take, Nat.min_eq_left (by omega)]
    rw [← h2, List.take_append_drop]
  rw [e] at h1
  exact h1
theorem sta_end (N : Nat) (l : List (Int × Int)) (ps : List Int) {k : Nat} (hk : ps.length = k + 1) : (statesOf beginN ps)[k]? = some (staB N l ps) := by
  obtain ⟨z, hz⟩ : ∃ z, ps[k]? = some z := ⟨ps[k]'(by omega), by simp⟩
  rw [statesOf_get hz, ← lastOf_take hz, List.take_of_length_le (by omega)]
  unfold staB
  rw [sta_last]

end Go.Proofs.YtdnhnnidlangiaaDoor

/-
  All paths of two nibbles, one by one; with a beam that leaves nothing out, or a depth that reaches to the end, the least of them is told. No program is spoken of.
-/
namespace Go.Proofs.YtdnhnnidlangiaaDoor

/-- What a loop has found of the first so many: the least, how many are so, the first of them. -/
def scanN (f : Nat → Int) : Nat → Int × Nat × Nat
  | 0 => (-1, 0, 0)
  | k + 1 => if (scanN f k).1 < 0 ∨ f k < (scanN f k).1 then (f k, 1, k) else if f k = (scanN f k).1 then ((scanN f k).1, (scanN f k).2.1 + 1, (scanN f k).2.2) else scanN f k
theorem scanN_less {f : Nat → Int} {k : Nat} (h : (scanN f k).1 < 0 ∨ f k < (scanN f k).1) : scanN f (k + 1) = (f k, 1, k) := by simp only [scanN]; rw [if_pos h]
theorem scanN_same {f : Nat → Int} {k : Nat} (h : ¬ ((scanN f k).1 < 0 ∨ f k < (scanN f k).1)) (e : f k = (scanN f k).1) : scanN f (k + 1) = ((scanN f k).1, (scanN f k).2.1 + 1, (scanN f k).2.2) := by simp only [scanN]; rw [if_neg h, if_pos e]
theorem scanN_more {f : Nat → Int} {k : Nat} (h : ¬ ((scanN f k).1 < 0 ∨ f k < (scanN f k).1)) (e : ¬ f k = (scanN f k).1) : scanN f (k + 1) = scanN f k := by
  conv => lhs; simp only [scanN]
  rw [if_neg h, if_neg e]
theorem scanN_spec {f : Nat → Int} (hf : ∀ k, 0 ≤ f k) : ∀ k, 1 ≤ k → (∀ j, j < k → (scanN f k).1 ≤ f j) ∧ (scanN f k).2.2 < k ∧ f (scanN f k).2.2 = (scanN f k).1 ∧ 1 ≤ (scanN f k).2.1 ∧ ((scanN f k).2.1 = 1 → ∀ j, j < k → f j = (scanN f k).1 → j = (scanN f k).2.2) ∧ (1 < (scanN f k).2.1 → ∃ j, j < k ∧ j ≠ (scanN f k).2.2 ∧ f j = (scanN f k).1) ∧ (scanN f k).2.1 ≤ k
  | 0, h => by omega
  | k + 1, _ => by
    by_cases h0 : k = 0
    · subst h0
      rw [scanN_less (.inl (by show (-1 : Int) < 0; decide))]
      refine ⟨fun j hj => ?_, by simp, rfl, Nat.le_refl _, fun _ j hj _ => ?_, fun h => absurd h (by simp), Nat.le_refl _⟩
      · obtain rfl : j = 0 := by omega
        exact Int.le_refl _
      · show j = 0
        omega
    · obtain ⟨i1, i2, i3, i4, i5, i6, i7⟩ := scanN_spec hf k (by omega)
      have hpos : 0 ≤ (scanN f k).1 := by rw [← i3]; exact hf _
      by_cases hl : (scanN f k).1 < 0 ∨ f k < (scanN f k).1
      · have hlt : f k < (scanN f k).1 := hl.resolve_left (by omega)
        rw [scanN_less hl]
        refine ⟨fun j hj => ?_, Nat.lt_succ_self k, rfl, Nat.le_refl _, fun _ j hj e => ?_, fun h => absurd h (by simp), by show 1 ≤ k + 1; omega⟩
        · show f k ≤ f j
          by_cases e : j = k
          · rw [e]; exact Int.le_refl _
          · have := i1 j (by omega)
            omega
        · show j = k
          have e' : f j = f k := e
          by_cases h9 : j = k
          · exact h9
          · have := i1 j (by omega)
            omega
      · by_cases he : f k = (scanN f k).1
        · rw [scanN_same hl he]
          refine ⟨fun j hj => ?_, by show (scanN f k).2.2 < k + 1; omega, i3, by show 1 ≤ (scanN f k).2.1 + 1; omega, fun h => ?_, fun _ => ⟨k, Nat.lt_succ_self k, ?_, he⟩, by show (scanN f k).2.1 + 1 ≤ k + 1; omega⟩
          · show (scanN f k).1 ≤ f j
            by_cases e : j = k
            · rw [e, he]; exact Int.le_refl _
            · exact i1 j (by omega)
          · have h' : (scanN f k).2.1 + 1 = 1 := h
            omega
          · show k ≠ (scanN f k).2.2
            omega
        · rw [scanN_more hl he]
          refine ⟨fun j hj => ?_, by omega, i3, i4, fun h j hj e => ?_, fun h => ?_, by omega⟩
          · by_cases e : j = k
            · rw [e]; omega
            · exact i1 j (by omega)
          · by_cases e9 : j = k
            · rw [e9] at e; exact absurd e he
            · exact i5 h j (by omega) e
          · obtain ⟨j, h1, h2, h3⟩ := i6 h
            exact ⟨j, by omega, h2, h3⟩

/-- The path of a number below 256. -/
def pth (i : Nat) : List Int := [((i / 16 : Nat) : Int), ((i % 16 : Nat) : Int)]
theorem pth_len (i : Nat) : (pth i).length = 2 := rfl
theorem pth_nibs {i : Nat} (h : i < 256) : Nibs (pth i) := by
  intro k hk
  simp [pth] at hk
  rcases hk with rfl | rfl
  · omega
  · omega
theorem pth_path {i : Nat} (h : i < 256) : Path (pth i) := fun z hz => by have := pth_nibs h z hz; omega
theorem pth_all {P : List Int} (h : Nibs P) (hl : P.length = 2) : ∃ i, i < 256 ∧ P = pth i := by
  match P, hl with
  | [x, y], _ =>
    have h1 := h x (by simp)
    have h2 := h y (by simp)
    refine ⟨16 * x.toNat + y.toNat, by omega, ?_⟩
    unfold pth
    rw [show (16 * x.toNat + y.toNat) / 16 = x.toNat by omega, show (16 * x.toNat + y.toNat) % 16 = y.toNat by omega, Int.toNat_of_nonneg h1.1, Int.toNat_of_nonneg h2.1]
theorem pth_inj {i j : Nat} (h : pth i = pth j) : i = j := by
  unfold pth at h
  simp at h
  omega
def metF (l : List (Int × Int)) (i : Nat) : Int := metB 2 l (pth i)
theorem metF_pos (l : List (Int × Int)) (i : Nat) : 0 ≤ metF l i := metB_pos 2 l _

/-- What is told costs less than all others. -/
theorem two_told {l : List (Int × Int)} {b D : Nat} (hb : 1 ≤ b) {ps : List Int} {M : Int} (h : decB (walkB 2 l b D 2).1 (walkB 2 l b D 2).2 = some (ps, M)) : ∃ i, i < 256 ∧ ps = pth i ∧ M = metF l i ∧ ∀ j, j < 256 → j ≠ i → M < metF l j := by
  obtain ⟨n, t, h1, h2, h3, h4, h5⟩ := decB_inv h
  obtain ⟨g1, g2, g3, g4⟩ := told_least stB (coB 2 l) 2 (beginN : Int) (coB_pos _ _) D b hb (by decide) h1 h4 h5
  obtain ⟨i, hi, e⟩ := pth_all g3 g2
  refine ⟨i, hi, h2.symm.trans e, ?_, fun j hj hne => ?_⟩
  · rw [← h3, g1.2.1, e]
    rfl
  · rw [← h3]
    exact g4 (pth j) (pth_nibs hj) rfl (fun e9 => hne (pth_inj (e9.trans e)))
theorem two_tie {l : List (Int × Int)} {b D : Nat} (hb : 1 ≤ b) {S : Int × Nat × Nat} (hS : scanN (metF l) 256 = S) (h : 1 < S.2.1) : decB (walkB 2 l b D 2).1 (walkB 2 l b D 2).2 = none := by
  obtain ⟨s1, s2, s3, _, _, s6, _⟩ := scanN_spec (metF_pos l) 256 (by decide)
  rw [hS] at s1 s2 s3 s6
  obtain ⟨j, j1, j2, j3⟩ := s6 h
  cases hd : decB (walkB 2 l b D 2).1 (walkB 2 l b D 2).2 with
  | none => rfl
  | some z =>
    exfalso
    obtain ⟨ps, M⟩ := z
    obtain ⟨i, hi, _, hM, hlt⟩ := two_told hb hd
    have hle := s1 i hi
    by_cases e : j = i
    · have := hlt S.2.2 s2 (fun e9 => j2 (e.trans e9.symm))
      omega
    · have := hlt j j1 e
      omega
/-- One that costs less than all others is told, where it is never left out for another. -/
theorem two_clear {l : List (Int × Int)} {b D : Nat} (hb : 1 ≤ b) {i0 : Nat} (hi0 : i0 < 256) (hu : ∀ j, j < 256 → j ≠ i0 → metF l i0 < metF l j) (hH : ∀ i, i < 2 → (2 ≤ i + 1 + D ∨ (walkTo stB (coB 2 l) 2 (beginN : Int) b D i).1.length * 16 ≤ b)) : decB (walkB 2 l b D 2).1 (walkB 2 l b D 2).2 = some (pth i0, metF l i0) := by
  have hU : ∀ P, Nibs P → P.length = 2 → P ≠ pth i0 → met stB (coB 2 l) (beginN : Int) (pth i0) < met stB (coB 2 l) (beginN : Int) P := by
    intro P hP hl hne
    obtain ⟨j, hj, rfl⟩ := pth_all hP hl
    have h1 := hu j hj (fun e => hne (by rw [e]))
    unfold metF metB at h1
    exact h1
  obtain ⟨n, t, h1, h2, h3, h4, h5⟩ := clear_told stB (coB 2 l) 2 (beginN : Int) (coB_pos _ _) D b hb (by decide) (pth i0) (pth_nibs hi0) rfl hU (fun i hi => by
    rcases hH i hi with hd | hd
    · exact .inl (deep_exact stB (coB 2 l) 2 (beginN : Int) (coB_pos _ _) D _ hU i hi hd)
    · exact .inr hd)
  have := decB_of (cut := (walkB 2 l b D 2).2) h1 h4 h5
  rw [h2, h3] at this
  unfold metF metB
  exact this
theorem scan_clear {l : List (Int × Int)} {S : Int × Nat × Nat} (hS : scanN (metF l) 256 = S) (h : S.2.1 = 1) : S.2.2 < 256 ∧ metF l S.2.2 = S.1 ∧ ∀ j, j < 256 → j ≠ S.2.2 → metF l S.2.2 < metF l j := by
  obtain ⟨s1, s2, s3, _, s5, _, _⟩ := scanN_spec (metF_pos l) 256 (by decide)
  rw [hS] at s1 s2 s3 s5
  refine ⟨s2, s3, fun j hj hne => ?_⟩
  have h1 := s1 j hj
  have h2 : metF l j ≠ S.1 := fun e => hne (s5 h j hj e)
  omega
theorem walkTo_zero (st : Int → Int → Int) (co : Nat → Int → Int) (N : Nat) (s0 : Int) (b a : Nat) : walkTo st co N s0 b a 0 = ([root s0], -1) := by simp only [walkTo]
theorem walkTo_step (st : Int → Int → Int) (co : Nat → Int → Int) (N : Nat) (s0 : Int) (b a : Nat) {i j : Nat} (h : j = i + 1) : walkTo st co N s0 b a j = (keptN b (kidsOf st co N a i (walkTo st co N s0 b a i).1), lmin (walkTo st co N s0 b a i).2 (cutK sc b (kidsOf st co N a i (walkTo st co N s0 b a i).1))) := by
  subst h
  simp only [walkTo]
/-- With a beam of sixteen the walk ends with the least of all: over whatever step and cost. -/
theorem whole_any (st : Int → Int → Int) (co : Nat → Int → Int) (s0 : Int) (hco : ∀ i s, 0 ≤ co i s) (D : Nat) : ∃ n t Q, (walkTo st co 2 s0 16 D 2).1 = n :: t ∧ (walkTo st co 2 s0 16 D 2).1.length = 16 ∧ Nibs Q ∧ Q.length = 2 ∧ n.2.1 = met st co s0 Q ∧ (∀ P, Nibs P → P.length = 2 → n.2.1 ≤ met st co s0 P) ∧ n.2.1 ≤ (walkTo st co 2 s0 16 D 2).2 := by
  have hW2 := walkTo_inv st co 2 s0 D 16 (by decide) 2
  have E0 := walkTo_zero st co 2 s0 16 D
  have E1 := walkTo_step st co 2 s0 16 D (i := 0) (j := 1) rfl
  have E2 := walkTo_step st co 2 s0 16 D (i := 1) (j := 2) rfl
  rw [E0] at E1
  have hk0 : (kidsOf st co 2 D 0 [root s0]).length = 16 := by rw [kidsOf_len]; rfl
  obtain ⟨K0, hK0⟩ : ∃ K0, kidsOf st co 2 D 0 [root s0] = K0 := ⟨_, rfl⟩
  dsimp only at E1
  rw [hK0] at E1 hk0
  have hcut0 : cutK sc 16 K0 = -1 := by
    unfold cutK
    rw [List.getElem?_eq_none (by rw [(sortK_perm sc _).length_eq, hk0]; exact Nat.le_refl _)]
  rw [hcut0] at E1
  have hc1 : (walkTo st co 2 s0 16 D 1).2 = -1 := by
    rw [E1]
    show lmin (-1) (-1) = -1
    decide
  have hlen1 : (walkTo st co 2 s0 16 D 1).1.length = 16 := by
    rw [E1]
    show (keptN 16 K0).length = 16
    rw [kept_len, hk0]
    rfl
  obtain ⟨K, hK⟩ : ∃ K, kidsOf st co 2 D 1 (walkTo st co 2 s0 16 D 1).1 = K := ⟨_, rfl⟩
  have hKl : K.length = 256 := by rw [← hK, kidsOf_len, hlen1]
  rw [hK, hc1] at E2
  have e1 : (walkTo st co 2 s0 16 D 2).1 = keptN 16 K := by rw [E2]
  have e2 : (walkTo st co 2 s0 16 D 2).2 = lmin (-1) (cutK sc 16 K) := by rw [E2]
  clear E0 E1 E2
  have hl16 : (keptN 16 K).length = 16 := by rw [kept_len, hKl]; decide
  cases hl : (walkTo st co 2 s0 16 D 2).1 with
  | nil => rw [e1] at hl; rw [hl] at hl16; simp at hl16
  | cons n t =>
    rw [hl] at hW2
    obtain ⟨Q, q1, q2, q3, q4⟩ := hW2.node n (by simp)
    have hscn : sc n = n.2.1 := by rw [q4 (by decide), scA_end st co 2 s0 D Q q1, q3.2.1]
    have hs := sortK_sorted sc K
    obtain ⟨y, hy⟩ : ∃ y, (sortK sc K)[16]? = some y := ⟨(sortK sc K)[16]'(by rw [(sortK_perm sc K).length_eq, hKl]; decide), by simp⟩
    have hn0 : (sortK sc K)[0]? = some n := by
      have h9 : (keptN 16 K)[0]? = some n := by rw [← e1, hl]; rfl
      unfold keptN at h9
      rw [List.getElem?_take] at h9
      simpa using h9
    have hny : sc n ≤ sc y := by
      obtain ⟨l0, g0⟩ := List.getElem?_eq_some_iff.1 hn0
      obtain ⟨l1, g1⟩ := List.getElem?_eq_some_iff.1 hy
      have := List.pairwise_iff_getElem.1 hs 0 16 l0 l1 (by decide)
      rw [g0, g1] at this
      exact this
    have hcy : cutK sc 16 K = sc y := by unfold cutK; rw [hy]
    have hn1 : 0 ≤ n.2.1 := by rw [q3.2.1]; exact met_pos st co s0 hco Q
    have hcut : n.2.1 ≤ (walkTo st co 2 s0 16 D 2).2 := by
      rw [e2, hcy]
      unfold lmin
      rw [if_pos ⟨by omega, .inl (by decide)⟩]
      omega
    refine ⟨n, t, Q, rfl, by rw [← hl, e1]; exact hl16, q2, q1, q3.2.1, fun P hP hPl => ?_, hcut⟩
    rcases walk_claim st co 2 s0 hco D 16 (by decide) P hP hPl 2 (Nat.le_refl _) with ⟨u, hu, hp⟩ | ⟨_, h2⟩
    · rw [hl] at hu
      rw [List.take_of_length_le (by omega)] at hp
      obtain ⟨R, r1, _, r3, r4⟩ := hW2.node u hu
      have hsu : sc u = u.2.1 := by rw [r4 (by decide), scA_end st co 2 s0 D R r1, r3.2.1]
      have hum : u.2.1 = met st co s0 P := by
        have eR : R = P := r3.2.2.symm.trans hp
        rw [r3.2.1, eR]
      have hnu : sc n ≤ sc u := by
        rcases List.mem_cons.1 hu with e | hu'
        · rw [e]; exact Int.le_refl _
        · exact (List.pairwise_cons.1 hW2.rise).1 u hu'
      omega
    · omega
theorem whole_first (l : List (Int × Int)) (D : Nat) {S : Int × Nat × Nat} (hS : scanN (metF l) 256 = S) : ∃ n t, (walkB 2 l 16 D 2).1 = n :: t ∧ (walkB 2 l 16 D 2).1.length = 16 ∧ n.2.1 = S.1 ∧ S.1 ≤ (walkB 2 l 16 D 2).2 := by
  obtain ⟨n, t, Q, h1, h2, q2, q1, h3, h4, h5⟩ := whole_any stB (coB 2 l) (beginN : Int) (coB_pos _ _) D
  obtain ⟨s1, s2, s3, _, _, _, _⟩ := scanN_spec (metF_pos l) 256 (by decide)
  rw [hS] at s1 s2 s3
  obtain ⟨i, hi, ei⟩ := pth_all q2 q1
  have hmn : n.2.1 = metF l i := by unfold metF metB; rw [h3, ei]
  have hle' : n.2.1 ≤ metF l S.2.2 := by
    unfold metF metB
    exact h4 (pth S.2.2) (pth_nibs s2) rfl
  have hge := s1 i hi
  have heq : n.2.1 = S.1 := by
    rw [← hmn] at hge
    rw [s3] at hle'
    omega
  unfold walkB
  exact ⟨n, t, h1, h2, heq, by rw [← heq]; exact h5⟩
theorem whole_clear {l : List (Int × Int)} {D : Nat} {S : Int × Nat × Nat} (hS : scanN (metF l) 256 = S) (h : S.2.1 = 1) : decB (walkB 2 l 16 D 2).1 (walkB 2 l 16 D 2).2 = some (pth S.2.2, S.1) := by
  obtain ⟨h1, h2, h3⟩ := scan_clear hS h
  rw [← h2]
  refine two_clear (by decide) h1 h3 fun i hi => ?_
  by_cases h0 : i = 0
  · subst h0
    exact .inr (by show [root (beginN : Int)].length * 16 ≤ 16; decide)
  · exact .inl (by omega)
theorem deep_clear {l : List (Int × Int)} {b : Nat} (hb : 1 ≤ b) {S : Int × Nat × Nat} (hS : scanN (metF l) 256 = S) (h : S.2.1 = 1) : decB (walkB 2 l b 1 2).1 (walkB 2 l b 1 2).2 = some (pth S.2.2, S.1) := by
  obtain ⟨h1, h2, h3⟩ := scan_clear hS h
  rw [← h2]
  exact two_clear hb h1 h3 fun i hi => .inl (by omega)

end Go.Proofs.YtdnhnnidlangiaaDoor

/-
  BeamWhole: the walk: whatever the byte, the turns and the numbers, the law answers true, and nothing that lay has turned. (Written by tpl_beamwhole.py.)
-/
namespace Go.Proofs.YtdnhnnidlangiaaDoor
open Go.RowKit

set_option maxRecDepth 100000 in
set_option maxHeartbeats 2000000 in
theorem beamWhole_few (x y z : Int) (ta : Option Addr) (tn tc : Nat) (u : Int) (w : World) (h : 60 < tn) :
    Calls Tryd.prog 7 #[.int .u8 x, .int .i64 y, .int .i64 z, .slice ta tn tc, .int .i64 u] w fun e w' => e = .returned (.bool true) ∧ Below w.heap.size w w' := by
  have d0 : decide (60 < (tn : Int)) = true := decide_eq_true (by omega)
  go_enter Tryd.func7, Tryd.ntmps7
  go_wp2
  go_ret
  exact ⟨rfl, Below.refl _ _⟩

set_option maxRecDepth 100000 in
set_option maxHeartbeats 4000000 in
theorem beamWhole_in (x : Int) (hx0 : 0 ≤ x) (hx1 : x ≤ 255) (y z : Int) (ta : Option Addr) (tn tc : Nat) (ts : List Nat) (htl : ts.length = tn) (htn : tn ≤ 60) (bt : ∀ t ∈ ts, t < 256) (u : Int) (w : World) (hF : Firsts w) (hT : Holds .u8 w.heap.size w (.slice ta tn tc) (ts.map fun t : Nat => (t : Int))) :
    Calls Tryd.prog 7 #[.int .u8 x, .int .i64 y, .int .i64 z, .slice ta tn tc, .int .i64 u] w fun e w' => e = .returned (.bool true) ∧ Below w.heap.size w w' := by
  have HFW : Hid (Firsts w) := hF
  obtain ⟨py, hpy, ey⟩ := at_place12 y 4 (by decide)
  obtain ⟨pu, hpu, eu⟩ := at_place12 u 2 (by decide)
  have ewy : IntKind.i64.wrap (py : Int) = (py : Int) := by rw [IntKind.wrap_i64]; omega
  have ewu : IntKind.i64.wrap (pu : Int) = (pu : Int) := by rw [IntKind.wrap_i64]; omega
  obtain ⟨P, hP⟩ : ∃ P, 1 + py = P := ⟨_, rfl⟩
  have eP : 1 + (py : Int) = (P : Int) := by omega
  obtain ⟨U, hU⟩ : ∃ U, pu + 1 = U := ⟨_, rfl⟩
  have eU : 1 + (pu : Int) = (U : Int) := by omega
  obtain ⟨Q, hQ⟩ : ∃ Q, 2 * P + 1 = Q := ⟨_, rfl⟩
  have eQ : 2 * (P : Int) + 1 = (Q : Int) := by omega
  have ewQ : IntKind.u64.wrap (Q : Int) = (Q : Int) := by rw [IntKind.wrap_u64]; omega
  obtain ⟨C, hC, ez⟩ := at_place12 z (Q : Int) (by omega)
  have ewC : IntKind.i64.wrap (C : Int) = (C : Int) := by rw [IntKind.wrap_i64]; omega
  have b0 : Below w.heap.size w (w.alloc (.cells #[.int .u8 x] 5)) := (Below.refl w.heap.size w).alloc (Nat.le_refl _) _
  have h0 := held_new .u8 w [x] 1 5 (0, 0)
  have HH := heard_any (some ⟨w.heap.size, 0, none⟩) 1 1 [x] rfl (by decide) (by decide) (fun z hz => by simp at hz; subst hz; exact ⟨hx0, hx1⟩) P C (by omega) (by omega) (by omega) none 0 0 [] rfl (by decide) ta tn tc ts htl (by omega) bt (w.alloc (.cells #[.int .u8 x] 5)) (hF.next b0) h0 (flags_nil _ _) ((hT.below b0).mono b0.size)
  have HOK : Hid (PileOk ((2 : Nat) : Int) ((P : Nat) : Int) (heardL [x] [] ts C)) := heardL_ok ⟨by decide, by decide, by omega, by omega⟩ bt (fun k => codeN_lt _ k) (by omega)
  have hP1 : 1 ≤ P := by omega
  have hP4 : P ≤ 4 := by omega
  have hU1 : 1 ≤ U := by omega
  have hU4 : U ≤ 2 := by omega
  have hC9 : C ≤ 8 := by omega
  have hpu9 : pu < 2 := by omega
  have HU : Hid (pu + 1 = U) := hU
  have d0 : decide (60 < (tn : Int)) = false := decide_eq_false (by omega)
  have d0' : decide (60 < tn) = false := decide_eq_false (by omega)
  obtain ⟨ll, hll⟩ : ∃ ll, heardL [x] [] ts C = ll := ⟨_, rfl⟩
  rw [hll] at HH HOK
  obtain ⟨ln, hln⟩ : ∃ ln, ll.length = ln := ⟨_, rfl⟩
  have HLN : Hid (ll.length = ln) := hln
  clear hT hF hP hU hQ hC hpy hpu h0 hll hln htl bt
  go_enter Tryd.func7, Tryd.ntmps7
  go_wp2_with fail
  refine HH.mono ?_
  rintro e w1 ⟨r, rfl, o1, b1⟩
  clear HH
  have bb1 := b0.trans (b1.mono (by simp))
  obtain ⟨ra, rc, e1⟩ := rowN_shape o1
  have hs1 := syms_of_row o1
  rw [HLN.out] at e1
  subst e1
  have b2 : Below w1.heap.size w1 (w1.alloc (.cells #[.int .i64 2, .int .i64 (P : Int), .slice ra ln rc] 24)) := (Below.refl _ _).alloc (Nat.le_refl _) _
  have xp := Box.new w1 24 #[.int .i64 2, .int .i64 (P : Int), .slice ra ln rc]
  have bb2 := bb1.trans (b2.mono bb1.size)
  have hs2 := hs1.next b2
  have HWA := Walk_ok 2 (P : Int) ra rc ll HOK.out 16 (by decide) (by decide) pu (by omega) (w1.alloc (.cells #[.int .i64 2, .int .i64 (P : Int), .slice ra ln rc] 24)) (by rw [HLN.out]; exact hs2) (HFW.out.next bb2)
  rw [HLN.out, HU.out] at HWA
  obtain ⟨S, hS⟩ : ∃ S, scanN (metF ll) 256 = S := ⟨_, rfl⟩
  obtain ⟨nd, tl, g1, g2, g3, g4⟩ := whole_first ll pu hS
  obtain ⟨LL, hLL⟩ : ∃ LL, (walkB 2 ll 16 pu 2).1 = LL := ⟨_, rfl⟩
  obtain ⟨cu, hcu⟩ : ∃ cu, (walkB 2 ll 16 pu 2).2 = cu := ⟨_, rfl⟩
  rw [hLL, hcu] at HWA
  rw [hLL] at g1 g2
  rw [hcu] at g4
  have HSC : Hid (scanN (metF ll) 256 = S) := hS
  have HG2 : Hid (LL.length = 16) := g2
  have HG1 : Hid (LL[0]? = some nd) := by show LL[0]? = some nd; rw [g1]; rfl
  have HG3 : Hid (nd.2.1 = S.1) := g3
  clear hS hLL hcu g1 g2 g3 b1 b2 o1 hs1
  go_wp2_with fail
  refine HWA.mono ?_
  rintro e w3 ⟨r3, rfl, hN3, b3⟩
  clear HWA
  obtain ⟨la, lc, e3⟩ := hN3.nodes.shape
  rw [HG2.out] at e3
  subst e3
  have xp3 := xp.next b3
  have hs3 := hs2.next b3
  have bb3 := bb2.trans (b3.mono bb2.size)
  clear xp hs2 b3 bb2
  go_wp2
  go_loopw [16, 17, 18] (fun sa sb sc wr => ∃ k : Nat, k ≤ 256 ∧ sc = .int .i64 k ∧ sa = .int .i64 (scanN (metF ll) k).1 ∧ sb = .int .i64 ((scanN (metF ll) k).2.1 : Int) ∧ Below w3.heap.size w3 wr) (fun _ _ i _ => 256 - (intOf i).toNat)
  case atStart => exact ⟨0, by omega, rfl, rfl, rfl, Below.refl _ _⟩
  case round =>
    obtain ⟨k, hk, rfl, rfl, rfl, bw⟩ := hrel
    have xr := xp3.next bw
    have hsr := hs3.next bw
    have bbw := bb3.trans (bw.mono bb3.size)
    have c0 := xr.cell 0 _ rfl
    have c1 := xr.cell 1 _ rfl
    have c2 := xr.cell 2 _ rfl
    by_cases hlt : k < 256
    · have hpb : Path (pth k) := pth_path hlt
      obtain ⟨qk, hqk⟩ : ∃ qk, k / 16 = qk := ⟨_, rfl⟩
      obtain ⟨rk, hrk⟩ : ∃ rk, k % 16 = rk := ⟨_, rfl⟩
      have epth : pth k = [(qk : Int), (rk : Int)] := by unfold pth; rw [hqk, hrk]
      have eq1 : (k : Int).tdiv 16 = (qk : Int) := by rw [Int.tdiv_eq_ediv_of_nonneg (by omega), ← hqk]; simp
      have eq2 : (k : Int).tmod 16 = (rk : Int) := by rw [Int.tmod_eq_emod_of_nonneg (by omega), ← hrk]; simp
      have ewq : IntKind.i64.wrap (qk : Int) = (qk : Int) := by rw [IntKind.wrap_i64]; omega
      have ewr : IntKind.i64.wrap (rk : Int) = (rk : Int) := by rw [IntKind.wrap_i64]; omega
      have b4 : Below wr.heap.size wr (wr.alloc (.cells #[.int .i64 (qk : Int), .int .i64 (rk : Int)] 3)) := (Below.refl _ _).alloc (Nat.le_refl _) _
      have h4 := held_new .i64 wr [(qk : Int), (rk : Int)] 2 3 (0, 0)
      have HND := Node_ok 2 (P : Int) ra rc ll HOK.out (some ⟨wr.heap.size, 0, none⟩) 2 (pth k) hpb (by rw [pth_len]; exact Nat.le_refl _) (wr.alloc (.cells #[.int .i64 (qk : Int), .int .i64 (rk : Int)] 3)) ((by rw [HLN.out]; exact hsr) |> fun h : Syms wr.heap.size wr (.slice ra ll.length rc) ll => h.next b4) (by rw [epth]; exact h4) ((HFW.out.next bbw).next b4)
      rw [pth_len, HLN.out] at HND
      have hM0 : 0 ≤ metF ll k := metF_pos ll k
      obtain ⟨St, hSt⟩ : ∃ St, staB 2 ll (pth k) = St := ⟨_, rfl⟩
      obtain ⟨M, hM⟩ : ∃ M, metF ll k = M := ⟨_, rfl⟩
      have hM' : metB 2 ll (pth k) = M := by rw [← hM]; rfl
      rw [hSt, hM'] at HND
      rw [hM] at hM0
      have HLE : Hid (∀ (h : (scanN (metF ll) k).1 < 0 ∨ M < (scanN (metF ll) k).1), scanN (metF ll) (k + 1) = (M, 1, k)) := fun h => by
        have := scanN_less (f := metF ll) (k := k) (by rw [hM]; exact h)
        rw [hM] at this
        exact this
      have HEQ : Hid (∀ (h : ¬ ((scanN (metF ll) k).1 < 0 ∨ M < (scanN (metF ll) k).1)) (e : M = (scanN (metF ll) k).1), scanN (metF ll) (k + 1) = ((scanN (metF ll) k).1, (scanN (metF ll) k).2.1 + 1, (scanN (metF ll) k).2.2)) := fun h e => scanN_same (f := metF ll) (k := k) (by rw [hM]; exact h) (by rw [hM]; exact e)
      have HMO : Hid (∀ (h : ¬ ((scanN (metF ll) k).1 < 0 ∨ M < (scanN (metF ll) k).1)) (e : ¬ M = (scanN (metF ll) k).1), scanN (metF ll) (k + 1) = scanN (metF ll) k) := fun h e => scanN_more (f := metF ll) (k := k) (by rw [hM]; exact h) (by rw [hM]; exact e)
      have hmak : (scanN (metF ll) k).2.1 ≤ k := by
        by_cases hk0 : k = 0
        · subst hk0; exact Nat.le_refl _
        · exact (scanN_spec (metF_pos ll) k (by omega)).2.2.2.2.2.2
      obtain ⟨Sk, hSk⟩ : ∃ Sk, scanN (metF ll) k = Sk := ⟨_, rfl⟩
      rw [hSk] at HLE HEQ HMO hmak ⊢
      obtain ⟨le, ma, be⟩ := Sk
      dsimp only at HLE HEQ HMO hmak ⊢
      clear hqk hrk hSt hM hM' hSk h4 hpb epth
      by_cases hl0 : le < 0
      · have dl0 : decide (le < 0) = true := decide_eq_true hl0
        have HNX : Hid (scanN (metF ll) (k + 1) = (M, 1, k)) := HLE.out (.inl hl0)
        have dmm : (M == M) = true := by simp
        clear hl0 HLE HEQ HMO
        go_wp2_with fail
        refine HND.mono ?_
        rintro e w5 ⟨qa, qc, rfl, o5, b5⟩
        clear HND o5
        have xn := Box.new w5 32 #[.int .u32 St, .int .i64 M, .int .i64 0, .slice qa 2 qc]
        have hb6 : Below w3.heap.size w3 (w5.alloc (.cells #[.int .u32 St, .int .i64 M, .int .i64 0, .slice qa 2 qc] 32)) := ((bw.trans (b4.mono bw.size)).trans (b5.mono (Nat.le_trans bw.size b4.size))).alloc (Nat.le_trans bw.size (Nat.le_trans b4.size b5.size)) _
        have k1 := xn.cell 1 _ rfl
        go_wp2
        go_roundw
        case rel => exact ⟨k + 1, hlt, by go_num, by rw [HNX.out], by first | (rw [HNX.out]; done) | (rw [HNX.out]; rfl) | (rw [HNX.out]; go_num), hb6⟩
        case measure => simp [intOf]; omega
      · have dl0 : decide (le < 0) = false := decide_eq_false hl0
        by_cases hl1 : M < le
        · have dl1 : decide (M < le) = true := decide_eq_true hl1
          have HNX : Hid (scanN (metF ll) (k + 1) = (M, 1, k)) := HLE.out (.inr hl1)
          have dmm : (M == M) = true := by simp
          clear hl0 hl1 HLE HEQ HMO
          go_wp2_with fail
          refine HND.mono ?_
          rintro e w5 ⟨qa, qc, rfl, o5, b5⟩
          clear HND o5
          have xn := Box.new w5 32 #[.int .u32 St, .int .i64 M, .int .i64 0, .slice qa 2 qc]
          have hb6 : Below w3.heap.size w3 (w5.alloc (.cells #[.int .u32 St, .int .i64 M, .int .i64 0, .slice qa 2 qc] 32)) := ((bw.trans (b4.mono bw.size)).trans (b5.mono (Nat.le_trans bw.size b4.size))).alloc (Nat.le_trans bw.size (Nat.le_trans b4.size b5.size)) _
          have k1 := xn.cell 1 _ rfl
          go_wp2
          go_roundw
          case rel => exact ⟨k + 1, hlt, by go_num, by rw [HNX.out], by first | (rw [HNX.out]; done) | (rw [HNX.out]; rfl) | (rw [HNX.out]; go_num), hb6⟩
          case measure => simp [intOf]; omega
        · have dl1 : decide (M < le) = false := decide_eq_false hl1
          by_cases hl2 : M = le
          · have dmm : (M == le) = true := by simp [hl2]
            have HNX : Hid (scanN (metF ll) (k + 1) = (le, ma + 1, be)) := HEQ.out (by omega) hl2
            clear hl0 hl1 hl2 HLE HEQ HMO
            go_wp2_with fail
            refine HND.mono ?_
            rintro e w5 ⟨qa, qc, rfl, o5, b5⟩
            clear HND o5
            have xn := Box.new w5 32 #[.int .u32 St, .int .i64 M, .int .i64 0, .slice qa 2 qc]
            have hb6 : Below w3.heap.size w3 (w5.alloc (.cells #[.int .u32 St, .int .i64 M, .int .i64 0, .slice qa 2 qc] 32)) := ((bw.trans (b4.mono bw.size)).trans (b5.mono (Nat.le_trans bw.size b4.size))).alloc (Nat.le_trans bw.size (Nat.le_trans b4.size b5.size)) _
            have k1 := xn.cell 1 _ rfl
            go_wp2
            go_roundw
            case rel => exact ⟨k + 1, hlt, by go_num, by rw [HNX.out], by first | (rw [HNX.out]; done) | (rw [HNX.out]; rfl) | (rw [HNX.out]; go_num), hb6⟩
            case measure => simp [intOf]; omega
          · have dmm : (M == le) = false := by rw [beq_eq_false_iff_ne]; exact hl2
            have HNX : Hid (scanN (metF ll) (k + 1) = (le, ma, be)) := HMO.out (by omega) hl2
            clear hl0 hl1 hl2 HLE HEQ HMO
            go_wp2_with fail
            refine HND.mono ?_
            rintro e w5 ⟨qa, qc, rfl, o5, b5⟩
            clear HND o5
            have xn := Box.new w5 32 #[.int .u32 St, .int .i64 M, .int .i64 0, .slice qa 2 qc]
            have hb6 : Below w3.heap.size w3 (w5.alloc (.cells #[.int .u32 St, .int .i64 M, .int .i64 0, .slice qa 2 qc] 32)) := ((bw.trans (b4.mono bw.size)).trans (b5.mono (Nat.le_trans bw.size b4.size))).alloc (Nat.le_trans bw.size (Nat.le_trans b4.size b5.size)) _
            have k1 := xn.cell 1 _ rfl
            go_wp2
            go_roundw
            case rel => exact ⟨k + 1, hlt, by go_num, by rw [HNX.out], by first | (rw [HNX.out]; done) | (rw [HNX.out]; rfl) | (rw [HNX.out]; go_num), hb6⟩
            case measure => simp [intOf]; omega
    · obtain rfl : k = 256 := by omega
      rw [HSC.out]
      obtain ⟨_, _, _, s4, _, _, s7⟩ := scanN_spec (metF_pos ll) 256 (by decide)
      rw [HSC.out] at s4 s7
      obtain ⟨lb, lof, rfl, hc3⟩ := (hN3.next bw).cap rfl HG2.out (by decide)
      obtain ⟨pa, pc, _, _, k1, _⟩ := hc3 0 _ HG1.out
      rw [Nat.zero_mul, Nat.add_zero, HG3.out] at k1
      have HDE := Decode_ok 2 (P : Int) ra rc ll HOK.out 16 (by decide) (by decide) pu (by omega) wr (by rw [HLN.out]; exact hsr) (HFW.out.next bbw)
      have HTI : Hid (1 < S.2.1 → decB (walkB 2 ll 16 pu 2).1 (walkB 2 ll 16 pu 2).2 = none) := fun h => two_tie (by decide) HSC.out h
      have HCL : Hid (S.2.1 = 1 → decB (walkB 2 ll 16 pu 2).1 (walkB 2 ll 16 pu 2).2 = some (pth S.2.2, S.1)) := fun h => whole_clear HSC.out h
      rw [HLN.out, HU.out] at HDE
      obtain ⟨oz, hoz⟩ : ∃ oz, decB (walkB 2 ll 16 pu 2).1 (walkB 2 ll 16 pu 2).2 = oz := ⟨_, rfl⟩
      rw [hoz] at HDE HTI HCL
      obtain ⟨le, ma, be⟩ := S
      dsimp only at s4 s7 HTI HCL g4 k1 ⊢
      have dne : (le != le) = false := by simp
      have dcl : decide (cu < le) = false := decide_eq_false (by omega)
      clear hoz hc3 hN3 g4
      by_cases hma : 1 < ma
      · have dma : decide (1 < (ma : Int)) = true := decide_eq_true (by omega)
        have dma' : decide (1 < ma) = true := decide_eq_true hma
        obtain rfl := HTI.out hma
        clear hma HTI HCL
        go_wp2_with fail
        refine HDE.mono ?_
        rintro e w7 ⟨he, b7⟩
        clear HDE
        have bb7 := bbw.trans (b7.mono bbw.size)
        have HWK := beamWakes_any w7 (HFW.out.next bb7)
        rcases he with ⟨_, rfl⟩ | ⟨ps, M, hsm, _⟩
        · go_wp2_with (go_at_call 24; refine HWK.mono ?_; rintro e w8 ⟨rfl, b8⟩)
          go_ret
          exact ⟨rfl, bb7.trans (b8.mono bb7.size)⟩
        · cases hsm
      · have dma : decide (1 < (ma : Int)) = false := decide_eq_false (by omega)
        have dma' : decide (1 < ma) = false := decide_eq_false hma
        obtain rfl := HCL.out (by omega)
        clear hma HTI HCL
        go_wp2_with fail
        refine HDE.mono ?_
        rintro e w7 ⟨he, b7⟩
        clear HDE
        have bb7 := bbw.trans (b7.mono bbw.size)
        have HWK := beamWakes_any w7 (HFW.out.next bb7)
        rcases he with ⟨hno, _⟩ | ⟨ps, M, hsm, qa, qc, rfl, hqc, hH⟩
        · cases hno
        cases hsm
        have dll : (le == le) = true := by simp
        clear hH
        go_wp2_with (go_at_call 24; refine HWK.mono ?_; rintro e w8 ⟨rfl, b8⟩)
        go_ret
        exact ⟨rfl, bb7.trans (b8.mono bb7.size)⟩

/-- The law, of whatever byte, turns and numbers. -/
theorem beamWhole_walk (a0 a1 a2 : Int) (a3 : Option Addr) (len3 cap3 : Nat) (z3 : List Int) (a4 : Int) (w : World) (w0 : (Lit.int .u8 a0).wf = true) (w3 : IsRow .u8 w a3 len3 cap3 z3) (hF : Firsts w) :
    Calls Tryd.prog 7 #[.int .u8 a0, .int .i64 a1, .int .i64 a2, .slice a3 len3 cap3, .int .i64 a4] w fun e w' => e = .returned (.bool true) ∧ Below w.heap.size w w' := by
  obtain ⟨xs, rfl, hx, bx⟩ := holds_of_isRow w3
  have h8 := bounds_u8 w0
  by_cases h0 : 60 < xs.length
  · exact beamWhole_few _ _ _ _ _ _ _ w h0
  · have bxx := bytes_bd bx
    have e : (xs.map Int.toNat).map (fun t : Nat => (t : Int)) = xs := by
      rw [List.map_map]
      refine (List.map_congr_left fun q hq => ?_).trans (List.map_id xs)
      have := bxx q hq
      show ((q.toNat : Nat) : Int) = q
      omega
    exact beamWhole_in a0 h8.1 h8.2 _ _ _ _ _ (xs.map Int.toNat) (by simp) (by omega) (fun t ht => by obtain ⟨q, hq, rfl⟩ := List.mem_map.1 ht; have := bxx q hq; omega) _ w hF (by rw [e]; exact hx)

end Go.Proofs.YtdnhnnidlangiaaDoor

/-
  BeamDeep: the walk: whatever the byte, the turns and the numbers, the law answers true, and nothing that lay has turned. (Written by tpl_beamwhole.py.)
-/
namespace Go.Proofs.YtdnhnnidlangiaaDoor
open Go.RowKit

set_option maxRecDepth 100000 in
set_option maxHeartbeats 2000000 in
theorem beamDeep_few (x y z : Int) (ta : Option Addr) (tn tc : Nat) (u : Int) (w : World) (h : 60 < tn) :
    Calls Tryd.prog 8 #[.int .u8 x, .int .i64 y, .int .i64 z, .slice ta tn tc, .int .i64 u] w fun e w' => e = .returned (.bool true) ∧ Below w.heap.size w w' := by
  have d0 : decide (60 < (tn : Int)) = true := decide_eq_true (by omega)
  go_enter Tryd.func8, Tryd.ntmps8
  go_wp2
  go_ret
  exact ⟨rfl, Below.refl _ _⟩

set_option maxRecDepth 100000 in
set_option maxHeartbeats 4000000 in
theorem beamDeep_in (x : Int) (hx0 : 0 ≤ x) (hx1 : x ≤ 255) (y z : Int) (ta : Option Addr) (tn tc : Nat) (ts : List Nat) (htl : ts.length = tn) (htn : tn ≤ 60) (bt : ∀ t ∈ ts, t < 256) (u : Int) (w : World) (hF : Firsts w) (hT : Holds .u8 w.heap.size w (.slice ta tn tc) (ts.map fun t : Nat => (t : Int))) :
    Calls Tryd.prog 8 #[.int .u8 x, .int .i64 y, .int .i64 z, .slice ta tn tc, .int .i64 u] w fun e w' => e = .returned (.bool true) ∧ Below w.heap.size w w' := by
  have HFW : Hid (Firsts w) := hF
  obtain ⟨py, hpy, ey⟩ := at_place12 y 4 (by decide)
  obtain ⟨pu, hpu, eu⟩ := at_place12 u 3 (by decide)
  have ewy : IntKind.i64.wrap (py : Int) = (py : Int) := by rw [IntKind.wrap_i64]; omega
  have ewu : IntKind.i64.wrap (pu : Int) = (pu : Int) := by rw [IntKind.wrap_i64]; omega
  obtain ⟨P, hP⟩ : ∃ P, 1 + py = P := ⟨_, rfl⟩
  have eP : 1 + (py : Int) = (P : Int) := by omega
  obtain ⟨U, hU⟩ : ∃ U, pu + 1 = U := ⟨_, rfl⟩
  have eU : 1 + (pu : Int) = (U : Int) := by omega
  obtain ⟨Q, hQ⟩ : ∃ Q, 2 * P + 1 = Q := ⟨_, rfl⟩
  have eQ : 2 * (P : Int) + 1 = (Q : Int) := by omega
  have ewQ : IntKind.u64.wrap (Q : Int) = (Q : Int) := by rw [IntKind.wrap_u64]; omega
  obtain ⟨C, hC, ez⟩ := at_place12 z (Q : Int) (by omega)
  have ewC : IntKind.i64.wrap (C : Int) = (C : Int) := by rw [IntKind.wrap_i64]; omega
  have b0 : Below w.heap.size w (w.alloc (.cells #[.int .u8 x] 5)) := (Below.refl w.heap.size w).alloc (Nat.le_refl _) _
  have h0 := held_new .u8 w [x] 1 5 (0, 0)
  have HH := heard_any (some ⟨w.heap.size, 0, none⟩) 1 1 [x] rfl (by decide) (by decide) (fun z hz => by simp at hz; subst hz; exact ⟨hx0, hx1⟩) P C (by omega) (by omega) (by omega) none 0 0 [] rfl (by decide) ta tn tc ts htl (by omega) bt (w.alloc (.cells #[.int .u8 x] 5)) (hF.next b0) h0 (flags_nil _ _) ((hT.below b0).mono b0.size)
  have HOK : Hid (PileOk ((2 : Nat) : Int) ((P : Nat) : Int) (heardL [x] [] ts C)) := heardL_ok ⟨by decide, by decide, by omega, by omega⟩ bt (fun k => codeN_lt _ k) (by omega)
  have hP1 : 1 ≤ P := by omega
  have hP4 : P ≤ 4 := by omega
  have hU1 : 1 ≤ U := by omega
  have hU4 : U ≤ 3 := by omega
  have hC9 : C ≤ 8 := by omega
  have hpu9 : pu < 3 := by omega
  have HU : Hid (pu + 1 = U) := hU
  have d0 : decide (60 < (tn : Int)) = false := decide_eq_false (by omega)
  have d0' : decide (60 < tn) = false := decide_eq_false (by omega)
  obtain ⟨ll, hll⟩ : ∃ ll, heardL [x] [] ts C = ll := ⟨_, rfl⟩
  rw [hll] at HH HOK
  obtain ⟨ln, hln⟩ : ∃ ln, ll.length = ln := ⟨_, rfl⟩
  have HLN : Hid (ll.length = ln) := hln
  clear hT hF hP hU hQ hC hpy hpu h0 hll hln htl bt
  go_enter Tryd.func8, Tryd.ntmps8
  go_wp2_with fail
  refine HH.mono ?_
  rintro e w1 ⟨r, rfl, o1, b1⟩
  clear HH
  have bb1 := b0.trans (b1.mono (by simp))
  obtain ⟨ra, rc, e1⟩ := rowN_shape o1
  have hs1 := syms_of_row o1
  rw [HLN.out] at e1
  subst e1
  have b2 : Below w1.heap.size w1 (w1.alloc (.cells #[.int .i64 2, .int .i64 (P : Int), .slice ra ln rc] 24)) := (Below.refl _ _).alloc (Nat.le_refl _) _
  have xp := Box.new w1 24 #[.int .i64 2, .int .i64 (P : Int), .slice ra ln rc]
  have bb2 := bb1.trans (b2.mono bb1.size)
  have hs2 := hs1.next b2
  obtain ⟨S, hS⟩ : ∃ S, scanN (metF ll) 256 = S := ⟨_, rfl⟩
  have HSC : Hid (scanN (metF ll) 256 = S) := hS
  clear hS b1 b2 o1 hs1
  go_wp2
  obtain ⟨W3, hW3⟩ : ∃ W, w1.alloc (.cells #[.int .i64 2, .int .i64 (P : Int), .slice ra ln rc] 24) = W := ⟨_, rfl⟩
  rw [hW3] at xp bb2 hs2 ⊢
  clear hW3
  go_loopw [13, 14, 16, 15] (fun sa sb sc sd wr => ∃ k : Nat, k ≤ 256 ∧ sc = .int .i64 k ∧ sa = .int .i64 (scanN (metF ll) k).1 ∧ sb = .int .i64 ((scanN (metF ll) k).2.1 : Int) ∧ sd = .int .i64 ((scanN (metF ll) k).2.2 : Int) ∧ Below W3.heap.size W3 wr) (fun _ _ i _ _ => 256 - (intOf i).toNat)
  case atStart => exact ⟨0, by omega, rfl, rfl, rfl, rfl, Below.refl _ _⟩
  case round =>
    obtain ⟨k, hk, rfl, rfl, rfl, rfl, bw⟩ := hrel
    have xr := xp.next bw
    have hsr := hs2.next bw
    have bbw := bb2.trans (bw.mono bb2.size)
    have c0 := xr.cell 0 _ rfl
    have c1 := xr.cell 1 _ rfl
    have c2 := xr.cell 2 _ rfl
    by_cases hlt : k < 256
    · have hpb : Path (pth k) := pth_path hlt
      obtain ⟨qk, hqk⟩ : ∃ qk, k / 16 = qk := ⟨_, rfl⟩
      obtain ⟨rk, hrk⟩ : ∃ rk, k % 16 = rk := ⟨_, rfl⟩
      have epth : pth k = [(qk : Int), (rk : Int)] := by unfold pth; rw [hqk, hrk]
      have eq1 : (k : Int).tdiv 16 = (qk : Int) := by rw [Int.tdiv_eq_ediv_of_nonneg (by omega), ← hqk]; simp
      have eq2 : (k : Int).tmod 16 = (rk : Int) := by rw [Int.tmod_eq_emod_of_nonneg (by omega), ← hrk]; simp
      have ewq : IntKind.i64.wrap (qk : Int) = (qk : Int) := by rw [IntKind.wrap_i64]; omega
      have ewr : IntKind.i64.wrap (rk : Int) = (rk : Int) := by rw [IntKind.wrap_i64]; omega
      have b4 : Below wr.heap.size wr (wr.alloc (.cells #[.int .i64 (qk : Int), .int .i64 (rk : Int)] 3)) := (Below.refl _ _).alloc (Nat.le_refl _) _
      have h4 := held_new .i64 wr [(qk : Int), (rk : Int)] 2 3 (0, 0)
      have HND := Node_ok 2 (P : Int) ra rc ll HOK.out (some ⟨wr.heap.size, 0, none⟩) 2 (pth k) hpb (by rw [pth_len]; exact Nat.le_refl _) (wr.alloc (.cells #[.int .i64 (qk : Int), .int .i64 (rk : Int)] 3)) ((by rw [HLN.out]; exact hsr) |> fun h : Syms wr.heap.size wr (.slice ra ll.length rc) ll => h.next b4) (by rw [epth]; exact h4) ((HFW.out.next bbw).next b4)
      rw [pth_len, HLN.out] at HND
      have hM0 : 0 ≤ metF ll k := metF_pos ll k
      obtain ⟨St, hSt⟩ : ∃ St, staB 2 ll (pth k) = St := ⟨_, rfl⟩
      obtain ⟨M, hM⟩ : ∃ M, metF ll k = M := ⟨_, rfl⟩
      have hM' : metB 2 ll (pth k) = M := by rw [← hM]; rfl
      rw [hSt, hM'] at HND
      rw [hM] at hM0
      have HLE : Hid (∀ (h : (scanN (metF ll) k).1 < 0 ∨ M < (scanN (metF ll) k).1), scanN (metF ll) (k + 1) = (M, 1, k)) := fun h => by
        have := scanN_less (f := metF ll) (k := k) (by rw [hM]; exact h)
        rw [hM] at this
        exact this
      have HEQ : Hid (∀ (h : ¬ ((scanN (metF ll) k).1 < 0 ∨ M < (scanN (metF ll) k).1)) (e : M = (scanN (metF ll) k).1), scanN (metF ll) (k + 1) = ((scanN (metF ll) k).1, (scanN (metF ll) k).2.1 + 1, (scanN (metF ll) k).2.2)) := fun h e => scanN_same (f := metF ll) (k := k) (by rw [hM]; exact h) (by rw [hM]; exact e)
      have HMO : Hid (∀ (h : ¬ ((scanN (metF ll) k).1 < 0 ∨ M < (scanN (metF ll) k).1)) (e : ¬ M = (scanN (metF ll) k).1), scanN (metF ll) (k + 1) = scanN (metF ll) k) := fun h e => scanN_more (f := metF ll) (k := k) (by rw [hM]; exact h) (by rw [hM]; exact e)
      have hmak : (scanN (metF ll) k).2.1 ≤ k := by
        by_cases hk0 : k = 0
        · subst hk0; exact Nat.le_refl _
        · exact (scanN_spec (metF_pos ll) k (by omega)).2.2.2.2.2.2
      obtain ⟨Sk, hSk⟩ : ∃ Sk, scanN (metF ll) k = Sk := ⟨_, rfl⟩
      rw [hSk] at HLE HEQ HMO hmak ⊢
      obtain ⟨le, ma, be⟩ := Sk
      dsimp only at HLE HEQ HMO hmak ⊢
      clear hqk hrk hSt hM hM' hSk h4 hpb epth
      by_cases hl0 : le < 0
      · have dl0 : decide (le < 0) = true := decide_eq_true hl0
        have HNX : Hid (scanN (metF ll) (k + 1) = (M, 1, k)) := HLE.out (.inl hl0)
        have dmm : (M == M) = true := by simp
        clear hl0 HLE HEQ HMO
        go_wp2_with fail
        refine HND.mono ?_
        rintro e w5 ⟨qa, qc, rfl, o5, b5⟩
        clear HND o5
        have xn := Box.new w5 32 #[.int .u32 St, .int .i64 M, .int .i64 0, .slice qa 2 qc]
        have hb6 : Below W3.heap.size W3 (w5.alloc (.cells #[.int .u32 St, .int .i64 M, .int .i64 0, .slice qa 2 qc] 32)) := ((bw.trans (b4.mono bw.size)).trans (b5.mono (Nat.le_trans bw.size b4.size))).alloc (Nat.le_trans bw.size (Nat.le_trans b4.size b5.size)) _
        have k1 := xn.cell 1 _ rfl
        go_wp2
        go_roundw
        case rel => exact ⟨k + 1, hlt, by go_num, by rw [HNX.out], by first | (rw [HNX.out]; done) | (rw [HNX.out]; rfl) | (rw [HNX.out]; go_num), by first | (rw [HNX.out]; done) | (rw [HNX.out]; rfl) | (rw [HNX.out]; go_num), hb6⟩
        case measure => simp [intOf]; omega
      · have dl0 : decide (le < 0) = false := decide_eq_false hl0
        by_cases hl1 : M < le
        · have dl1 : decide (M < le) = true := decide_eq_true hl1
          have HNX : Hid (scanN (metF ll) (k + 1) = (M, 1, k)) := HLE.out (.inr hl1)
          have dmm : (M == M) = true := by simp
          clear hl0 hl1 HLE HEQ HMO
          go_wp2_with fail
          refine HND.mono ?_
          rintro e w5 ⟨qa, qc, rfl, o5, b5⟩
          clear HND o5
          have xn := Box.new w5 32 #[.int .u32 St, .int .i64 M, .int .i64 0, .slice qa 2 qc]
          have hb6 : Below W3.heap.size W3 (w5.alloc (.cells #[.int .u32 St, .int .i64 M, .int .i64 0, .slice qa 2 qc] 32)) := ((bw.trans (b4.mono bw.size)).trans (b5.mono (Nat.le_trans bw.size b4.size))).alloc (Nat.le_trans bw.size (Nat.le_trans b4.size b5.size)) _
          have k1 := xn.cell 1 _ rfl
          go_wp2
          go_roundw
          case rel => exact ⟨k + 1, hlt, by go_num, by rw [HNX.out], by first | (rw [HNX.out]; done) | (rw [HNX.out]; rfl) | (rw [HNX.out]; go_num), by first | (rw [HNX.out]; done) | (rw [HNX.out]; rfl) | (rw [HNX.out]; go_num), hb6⟩
          case measure => simp [intOf]; omega
        · have dl1 : decide (M < le) = false := decide_eq_false hl1
          by_cases hl2 : M = le
          · have dmm : (M == le) = true := by simp [hl2]
            have HNX : Hid (scanN (metF ll) (k + 1) = (le, ma + 1, be)) := HEQ.out (by omega) hl2
            clear hl0 hl1 hl2 HLE HEQ HMO
            go_wp2_with fail
            refine HND.mono ?_
            rintro e w5 ⟨qa, qc, rfl, o5, b5⟩
            clear HND o5
            have xn := Box.new w5 32 #[.int .u32 St, .int .i64 M, .int .i64 0, .slice qa 2 qc]
            have hb6 : Below W3.heap.size W3 (w5.alloc (.cells #[.int .u32 St, .int .i64 M, .int .i64 0, .slice qa 2 qc] 32)) := ((bw.trans (b4.mono bw.size)).trans (b5.mono (Nat.le_trans bw.size b4.size))).alloc (Nat.le_trans bw.size (Nat.le_trans b4.size b5.size)) _
            have k1 := xn.cell 1 _ rfl
            go_wp2
            go_roundw
            case rel => exact ⟨k + 1, hlt, by go_num, by rw [HNX.out], by first | (rw [HNX.out]; done) | (rw [HNX.out]; rfl) | (rw [HNX.out]; go_num), by first | (rw [HNX.out]; done) | (rw [HNX.out]; rfl) | (rw [HNX.out]; go_num), hb6⟩
            case measure => simp [intOf]; omega
          · have dmm : (M == le) = false := by rw [beq_eq_false_iff_ne]; exact hl2
            have HNX : Hid (scanN (metF ll) (k + 1) = (le, ma, be)) := HMO.out (by omega) hl2
            clear hl0 hl1 hl2 HLE HEQ HMO
            go_wp2_with fail
            refine HND.mono ?_
            rintro e w5 ⟨qa, qc, rfl, o5, b5⟩
            clear HND o5
            have xn := Box.new w5 32 #[.int .u32 St, .int .i64 M, .int .i64 0, .slice qa 2 qc]
            have hb6 : Below W3.heap.size W3 (w5.alloc (.cells #[.int .u32 St, .int .i64 M, .int .i64 0, .slice qa 2 qc] 32)) := ((bw.trans (b4.mono bw.size)).trans (b5.mono (Nat.le_trans bw.size b4.size))).alloc (Nat.le_trans bw.size (Nat.le_trans b4.size b5.size)) _
            have k1 := xn.cell 1 _ rfl
            go_wp2
            go_roundw
            case rel => exact ⟨k + 1, hlt, by go_num, by rw [HNX.out], by first | (rw [HNX.out]; done) | (rw [HNX.out]; rfl) | (rw [HNX.out]; go_num), by first | (rw [HNX.out]; done) | (rw [HNX.out]; rfl) | (rw [HNX.out]; go_num), hb6⟩
            case measure => simp [intOf]; omega
    · obtain rfl : k = 256 := by omega
      rw [HSC.out]
      obtain ⟨_, _, _, s4, _, _, s7⟩ := scanN_spec (metF_pos ll) 256 (by decide)
      rw [HSC.out] at s4 s7
      have HDE := Decode_ok 2 (P : Int) ra rc ll HOK.out U hU1 (by omega) 1 (by decide) wr (by rw [HLN.out]; exact hsr) (HFW.out.next bbw)
      have HTI : Hid (1 < S.2.1 → decB (walkB 2 ll U 1 2).1 (walkB 2 ll U 1 2).2 = none) := fun h => two_tie hU1 HSC.out h
      have HCL : Hid (S.2.1 = 1 → decB (walkB 2 ll U 1 2).1 (walkB 2 ll U 1 2).2 = some (pth S.2.2, S.1)) := fun h => deep_clear hU1 HSC.out h
      rw [HLN.out] at HDE
      obtain ⟨oz, hoz⟩ : ∃ oz, decB (walkB 2 ll U 1 2).1 (walkB 2 ll U 1 2).2 = oz := ⟨_, rfl⟩
      rw [hoz] at HDE HTI HCL
      obtain ⟨_, s2, _⟩ := scanN_spec (metF_pos ll) 256 (by decide)
      rw [HSC.out] at s2
      obtain ⟨le, ma, be⟩ := S
      dsimp only at s2 s4 s7 HTI HCL ⊢
      clear hoz
      by_cases hma : 1 < ma
      · have dma : decide (1 < (ma : Int)) = true := decide_eq_true (by omega)
        have dma' : decide (1 < ma) = true := decide_eq_true hma
        obtain rfl := HTI.out hma
        clear hma HTI HCL
        go_wp2_with fail
        refine HDE.mono ?_
        rintro e w7 ⟨he, b7⟩
        clear HDE
        have bb7 := bbw.trans (b7.mono bbw.size)
        have HWK := beamWakes_any w7 (HFW.out.next bb7)
        rcases he with ⟨_, rfl⟩ | ⟨ps, M, hsm, _⟩
        · go_wp2_with (go_at_call 24; refine HWK.mono ?_; rintro e w8 ⟨rfl, b8⟩)
          go_ret
          exact ⟨rfl, bb7.trans (b8.mono bb7.size)⟩
        · cases hsm
      · have dma : decide (1 < (ma : Int)) = false := decide_eq_false (by omega)
        have dma' : decide (1 < ma) = false := decide_eq_false hma
        obtain rfl := HCL.out (by omega)
        clear hma HTI HCL
        go_wp2_with fail
        refine HDE.mono ?_
        rintro e w7 ⟨he, b7⟩
        clear HDE
        have bb7 := bbw.trans (b7.mono bbw.size)
        have HWK := beamWakes_any w7 (HFW.out.next bb7)
        rcases he with ⟨hno, _⟩ | ⟨ps, M, hsm, qa, qc, rfl, hqc, hH⟩
        · cases hno
        cases hsm
        have dll : (le == le) = true := by simp
        obtain ⟨qb, hqb⟩ : ∃ qb, be / 16 = qb := ⟨_, rfl⟩
        obtain ⟨rb, hrb⟩ : ∃ rb, be % 16 = rb := ⟨_, rfl⟩
        have epth : pth be = [(qb : Int), (rb : Int)] := by unfold pth; rw [hqb, hrb]
        have eq1 : (be : Int).tdiv 16 = (qb : Int) := by rw [Int.tdiv_eq_ediv_of_nonneg (by omega), ← hqb]; simp
        have eq2 : (be : Int).tmod 16 = (rb : Int) := by rw [Int.tmod_eq_emod_of_nonneg (by omega), ← hrb]; simp
        have ewq : IntKind.i64.wrap (qb : Int) = (qb : Int) := by rw [IntKind.wrap_i64]; omega
        have ewr : IntKind.i64.wrap (rb : Int) = (rb : Int) := by rw [IntKind.wrap_i64]; omega
        rw [epth] at hH
        rw [pth_len]
        obtain ⟨xb, xo, rfl, _, hxc⟩ := holds_at hH (n := 2) rfl (by decide)
        have y0 := hxc 0 _ rfl
        have y1 := hxc 1 _ rfl
        rw [Nat.add_zero] at y0
        have dq : ((qb : Int) == (qb : Int)) = true := by simp
        have dr : ((rb : Int) == (rb : Int)) = true := by simp
        clear hH hxc hqb hrb epth hqc
        go_wp2_with (go_at_call 24; refine HWK.mono ?_; rintro e w8 ⟨rfl, b8⟩)
        go_ret
        exact ⟨rfl, bb7.trans (b8.mono bb7.size)⟩

/-- The law, of whatever byte, turns and numbers. -/
theorem beamDeep_walk (a0 a1 a2 : Int) (a3 : Option Addr) (len3 cap3 : Nat) (z3 : List Int) (a4 : Int) (w : World) (w0 : (Lit.int .u8 a0).wf = true) (w3 : IsRow .u8 w a3 len3 cap3 z3) (hF : Firsts w) :
    Calls Tryd.prog 8 #[.int .u8 a0, .int .i64 a1, .int .i64 a2, .slice a3 len3 cap3, .int .i64 a4] w fun e w' => e = .returned (.bool true) ∧ Below w.heap.size w w' := by
  obtain ⟨xs, rfl, hx, bx⟩ := holds_of_isRow w3
  have h8 := bounds_u8 w0
  by_cases h0 : 60 < xs.length
  · exact beamDeep_few _ _ _ _ _ _ _ w h0
  · have bxx := bytes_bd bx
    have e : (xs.map Int.toNat).map (fun t : Nat => (t : Int)) = xs := by
      rw [List.map_map]
      refine (List.map_congr_left fun q hq => ?_).trans (List.map_id xs)
      have := bxx q hq
      show ((q.toNat : Nat) : Int) = q
      omega
    exact beamDeep_in a0 h8.1 h8.2 _ _ _ _ _ (xs.map Int.toNat) (by simp) (by omega) (fun t ht => by obtain ⟨q, hq, rfl⟩ := List.mem_map.1 ht; have := bxx q hq; omega) _ w hF (by rw [e]; exact hx)

end Go.Proofs.YtdnhnnidlangiaaDoor
