/-
  What the iterator of a node's children tells: the sixteen children, in order, each behind its nibble.
-/
import Derived.Test.YtddcloanbpkecaaDoorBeamCode2
import Derived.Test.YtddcloanbpkecaaDoorBeamLoop
import Derived.Test.YtddcloanbpkecaaDoorSchedPass
namespace Go.Proofs.YtddcloanbpkecaaDoor
open Go.RowKit Go.Shelf
attribute [local go_sem] Oper.semAt_some

/-- A child, as it is told. -/
def kidPt (N : Nat) (l : List (Int × Int)) (i s : Nat) (m : Int) (k : Nat) : Value := .agg #[.int .i64 ((i + 1 : Nat) : Int), .int .u32 ((stepN s k : Nat) : Int), .int .i64 (m + ((costN (stepN s k) (ofL N l i) : Nat) : Int))]
def kidEnc (N : Nat) (l : List (Int × Int)) (i s : Nat) (m : Int) (k : Nat) : Array Value := #[.int .i64 (k : Int), kidPt N l i s m k]

/-- What a round keeps: what lay below n₀, and the two boxes that the iterator reads. -/
def KpB (n₀ Bh Bp : Nat) (A B : World) : Prop := Below n₀ A B ∧ B.heap[Bh]? = A.heap[Bh]? ∧ B.heap[Bp]? = A.heap[Bp]?
theorem KpB.refl (n₀ Bh Bp : Nat) (A : World) : KpB n₀ Bh Bp A A := ⟨Below.refl _ _, rfl, rfl⟩
theorem KpB.trans {n₀ Bh Bp : Nat} {A B C : World} (h : KpB n₀ Bh Bp A B) (k : KpB n₀ Bh Bp B C) : KpB n₀ Bh Bp A C := ⟨h.1.trans k.1, k.2.1.trans h.2.1, k.2.2.trans h.2.2⟩
theorem KpB.of_below {n₀ Bh Bp n₁ : Nat} {A B : World} (h : Below n₁ A B) (h0 : n₀ ≤ n₁) (h1 : Bh < n₁) (h2 : Bp < n₁) : KpB n₀ Bh Bp A B := ⟨h.mono h0, h.block _ h1, h.block _ h2⟩
theorem KpB.turn {n₀ Bh Bp : Nat} {w : World} (h0 : n₀ ≤ w.heap.size) (h1 : Bh < w.heap.size) (h2 : Bp < w.heap.size) (W : World) (l : Nat) (o o' : Obj) (hl : w.heap.size ≤ l) (h : W.heap[l]? = some o) (hc : o.isCells = false) (hw : o.isWalk = false) : KpB n₀ Bh Bp W (W.putObj l o') :=
  ⟨belowK_b h0 W l o o' hl h hc hw, World.putObj_heap_other (by omega), World.putObj_heap_other (by omega)⟩

theorem range_pre {k n : Nat} (h : k ≤ n) : List.range k <+: List.range n := by
  obtain ⟨d, rfl⟩ := Nat.exists_eq_add_of_le h
  rw [List.range_add]
  exact List.prefix_append _ _
theorem range_snoc16 {k : Nat} : List.range (k + 1) = List.range k ++ [k] := List.range_succ

set_option maxRecDepth 100000 in
set_option maxHeartbeats 4000000 in
theorem children1_in (n : Nat) (hn : 1 ≤ n) (lo Bh Bp b off N cap : Nat) (l : List (Int × Int)) (p : Int) (hp : PileOk (N : Int) p l) (i s : Nat) (hi : i < N) (hs : s < 4294967296) (m : Int) (hm0 : 0 ≤ m) (hm1 : m ≤ 1099511627776) (n₀ : Nat) (J Jx : List Nat → World → Prop)
    (hJ : ∀ pre A B, J pre A → Below A.heap.size A B → J pre B)
    (hY : ∀ pre x W, J pre W → pre.length < 16 → YieldAt Fence.wide (n - 1) Tryd.prog lo (kidEnc N l i s m x) W fun e W' =>
      (e = .returned (.bool true) ∧ J (pre ++ [x]) W' ∧ KpB n₀ Bh Bp W W') ∨ (e = .returned (.bool false) ∧ Jx (pre ++ [x]) W'))
    (W : World) (hn₀ : n₀ ≤ W.heap.size) (hh : Box W Bh 57 #[.slice (some ⟨b, off, none⟩) N cap]) (hpt : Box W Bp 61 #[.int .i64 (i : Int), .int .u32 (s : Int), .int .i64 m]) (hS : Segs n₀ W (.slice (some ⟨b, off, none⟩) N cap) (segsL N l)) (h0 : J [] W) :
    CallsIn Fence.wide n Tryd.prog 87 #[.func (.yield lo) #[] #[], .pointer (some ⟨Bh, 0, none⟩), .pointer (some ⟨Bp, 0, none⟩)] W fun e W' => (∃ v, e = .returned v) ∧
      ((∃ ys, ys = List.range 16 ∧ J ys W') ∨ (∃ pre, pre <+: List.range 16 ∧ Jx pre W')) := by
  have HP : Hid (PileOk (N : Int) p l) := hp
  have HS : Hid (Segs n₀ W (.slice (some ⟨b, off, none⟩) N cap) (segsL N l)) := hS
  have HJ : Hid (∀ pre A B, J pre A → Below A.heap.size A B → J pre B) := hJ
  clear hp hS hJ
  refine callsIn_of_wp Tryd.func87 rfl trivial ?_ rfl
  simp only [Tryd.ntmps87, List.size_toArray, List.length_cons, List.length_nil, Nat.reduceAdd, Nat.reduceSub, Array.replicate_succ, Array.replicate_zero, List.push_toArray, List.append_toArray, List.nil_append, List.cons_append]
  gi_wp2
  gi_loopw [7] (fun v wr => ∃ k : Nat, k ≤ 16 ∧ v = .int .i64 k ∧ J (List.range k) wr ∧ KpB n₀ Bh Bp W wr) (fun i _ => 16 - (intOf i).toNat)
  case atStart => exact ⟨0, by omega, rfl, h0, KpB.refl _ _ _ _⟩
  case round =>
    obtain ⟨k, hk, rfl, hJs, bw⟩ := hrel
    have hszw := bw.1.size
    have xh : Box wr Bh 57 #[.slice (some ⟨b, off, none⟩) N cap] := bw.2.1.trans hh
    have xp : Box wr Bp 61 #[.int .i64 (i : Int), .int .u32 (s : Int), .int .i64 m] := bw.2.2.trans hpt
    have hlh := xh.lt
    have hlp := xp.lt
    have ch := xh.cell 0 _ rfl
    have cp0 := xp.cell 0 _ rfl
    have cp1 := xp.cell 1 _ rfl
    have cp2 := xp.cell 2 _ rfl
    by_cases hlt : k < 16
    · have d16 : decide ((k : Int) < 16) = true := decide_eq_true (by omega)
      have HCH := (callsIn_wide (n := n - 1)).2 (child_ok b off N cap l p HP.out i s k hi hs hlt m hm0 hm1 wr ((HS.out.below bw.1).mono (by omega)))
      have f1 : Fence.wide.fn 43 := trivial
      have HYK : Hid (∀ W', J (List.range k) W' → YieldAt Fence.wide (n - 1) Tryd.prog lo (kidEnc N l i s m k) W' fun e W'' => (e = .returned (.bool true) ∧ J (List.range k ++ [k]) W'' ∧ KpB n₀ Bh Bp W' W'') ∨ (e = .returned (.bool false) ∧ Jx (List.range k ++ [k]) W'')) := fun W' h => hY _ _ W' h (by simp; omega)
      have hkE : kidEnc N l i s m k = #[.int .i64 (k : Int), kidPt N l i s m k] := rfl
      rw [hkE] at HYK
      have hkP : kidPt N l i s m k = .agg #[.int .i64 ((i + 1 : Nat) : Int), .int .u32 ((stepN s k : Nat) : Int), .int .i64 (m + ((costN (stepN s k) (ofL N l i) : Nat) : Int))] := rfl
      rw [hkP] at HYK
      obtain ⟨ct, hct⟩ : ∃ ct, costN (stepN s k) (ofL N l i) = ct := ⟨_, rfl⟩
      rw [hct] at HCH HYK
      obtain ⟨tt, htt⟩ : ∃ tt, stepN s k = tt := ⟨_, rfl⟩
      rw [htt] at HCH HYK
      obtain ⟨I, hI⟩ : ∃ I, i + 1 = I := ⟨_, rfl⟩
      rw [hI] at HCH HYK
      have HLT : Hid (k < 16) := hlt
      clear hkE hkP hct htt hI hlt
      gi_wp2_with (gi_at_call 43; refine HCH.mono ?_; rintro e w2 ⟨rfl, b2⟩)
      have bA : Below wr.heap.size wr (w2.alloc (.cells #[.int .i64 (I : Int), .int .u32 (tt : Int), .int .i64 (m + (ct : Int))] 61)) := b2.alloc b2.size _
      obtain ⟨fn, tmps, assign, body, hy, hR⟩ := HYK.out _ (HJ.out _ _ _ hJs bA)
      have HBA : Hid (KpB n₀ Bh Bp W (w2.alloc (.cells #[.int .i64 (I : Int), .int .u32 (tt : Int), .int .i64 (m + (ct : Int))] 61))) := bw.trans (KpB.of_below bA (by omega) hlh hlp)
      clear HYK HCH hJs bA
      gi_wp2
      rw [hy]
      gi_wp2
      refine hR.mono ?_
      rintro e W3 (⟨rfl, hJ3, hk3⟩ | ⟨rfl, hJx3⟩)
      · gi_wp2
        go_roundw
        case rel => exact ⟨k + 1, HLT.out, by go_num, by rw [range_snoc16]; exact hJ3, HBA.out.trans hk3⟩
        case measure => have := HLT.out; simp [intOf]; omega
      · gi_wp2
        refine bodyPost_ret (results_none rfl _ _ _) rfl ?_
        exact ⟨⟨_, rfl⟩, .inr ⟨List.range k ++ [k], by rw [← range_snoc16]; exact range_pre HLT.out, hJx3⟩⟩
    · obtain rfl : k = 16 := by omega
      gi_wp2
      go_end0
      exact ⟨⟨_, rfl⟩, .inl ⟨_, rfl, hJs⟩⟩

set_option maxHeartbeats 400000 in
theorem children_in (n : Nat) (v : Value) (hv : SliceV v) (i s : Nat) (m : Int) (w : World) : CallsIn Fence.wide n Tryd.prog 64 #[v, .agg #[.int .i64 (i : Int), .int .u32 (s : Int), .int .i64 m]] w fun e w' => e = .returned (.func (.func 87) #[] #[.pointer (some ⟨w.heap.size, 0, none⟩), .pointer (some ⟨w.heap.size + 1, 0, none⟩)]) ∧ w' = (w.alloc (.cells #[v] 57)).alloc (.cells #[.int .i64 (i : Int), .int .u32 (s : Int), .int .i64 m] 61) := by
  obtain ⟨a, k, c, rfl⟩ := hv
  refine callsIn_of_wp Tryd.func64 rfl trivial ?_ rfl
  simp only [Tryd.ntmps64, List.size_toArray, List.length_cons, List.length_nil, Nat.reduceAdd, Nat.reduceSub, Array.replicate_succ, Array.replicate_zero, List.push_toArray, List.append_toArray, List.nil_append, List.cons_append]
  gi_wp2
  go_ret
  exact ⟨rfl, rfl⟩

theorem abides_below {α : Type} {B : Nat} {J : List α → World → Prop} (h : AbidesFrom B J) : ∀ pre (A C : World), J pre A → Below A.heap.size A C → J pre C := fun pre A C hj hb => h pre A C none hj ⟨hb.os, hb.tape, hb.output, hb.size, fun k hk _ => hb.block k hk⟩ (fun r e => by cases e)

theorem children_stops (n : Nat) (hn : 1 ≤ n) (Bh Bp b off N cap : Nat) (l : List (Int × Int)) (p : Int) (hp : PileOk (N : Int) p l) (i s : Nat) (hi : i < N) (hs : s < 4294967296) (m : Int) (hm0 : 0 ≤ m) (hm1 : m ≤ 1099511627776) (n₀ : Nat) (w : World) (hn₀ : n₀ ≤ w.heap.size) (hh : Box w Bh 57 #[.slice (some ⟨b, off, none⟩) N cap]) (hpt : Box w Bp 61 #[.int .i64 (i : Int), .int .u32 (s : Int), .int .i64 m]) (hS : Segs n₀ w (.slice (some ⟨b, off, none⟩) N cap) (segsL N l)) :
    SeqStopsK Fence.wide n Tryd.prog 87 #[.pointer (some ⟨Bh, 0, none⟩), .pointer (some ⟨Bp, 0, none⟩)] (kidEnc N l i s m) (KpB n₀ Bh Bp) (fun ys => ys = List.range 16) (fun pre => pre <+: List.range 16) 16 w := fun lo J Jx W hW hJ _ hY h0 =>
  children1_in n hn lo Bh Bp b off N cap l p hp i s hi hs m hm0 hm1 n₀ J Jx (abides_below hJ) hY W (Nat.le_trans hn₀ hW.size) (hh.next hW) (hpt.next hW) (hS.below (hW.mono hn₀)) h0

end Go.Proofs.YtddcloanbpkecaaDoor
