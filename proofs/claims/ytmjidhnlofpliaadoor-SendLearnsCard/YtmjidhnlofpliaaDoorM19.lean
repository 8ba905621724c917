/-
  What sched.pass tells, range by range: the segments of a pass, in order, each behind its place; as long as the package's table reads as it was laid.
-/
import Derived.Test.YtmjidhnlofpliaaDoorM02
import Derived.LoopIn
import Derived.LoopNIn
import Derived.Maps.AppendAt
import Derived.OwnWalkIn
import Derived.RangeFuncBound
import Derived.RangeFuncBox
import Derived.RangeFuncCalls
import Derived.RangeFuncLeaves
import Derived.RangeFuncNested
import Derived.Shelf.Abstract
import Derived.Shelf.RegionOpen
import Derived.TacticsInMore
import Derived.WalkKit
namespace Go.Proofs.YtmjidhnlofpliaaDoor
open Go.RowKit Go.Shelf
attribute [local go_sem] Oper.semAt_some

/-- The package's table reads as it was laid. -/
def Firsts (W : World) : Prop := ∀ c f : Nat, firsts[c]? = some f → W.cell? ⟨0, c, none⟩ = some (.int .i64 (f : Int))
theorem Firsts.next {w w' : World} (h : Firsts w) (b : Below w.heap.size w w') : Firsts w' := fun c f hc => (b.cell (p := ⟨0, c, none⟩) (cell_block_lt (h c f hc))).trans (h c f hc)
theorem Firsts.drewN {w : World} (h : Firsts w) (n : Nat) : Firsts (w.drewN n) := h

/-- A row, each number behind its place. -/
def numbered (L : List Nat) : List (Nat × Nat) := L.zipIdx.map fun p => (p.2, p.1)
theorem numbered_snoc (L : List Nat) (x : Nat) : numbered (L ++ [x]) = numbered L ++ [(L.length, x)] := by simp [numbered, List.zipIdx_append]
theorem numbered_len (L : List Nat) : (numbered L).length = L.length := by simp [numbered]
theorem numbered_get (L : List Nat) (k : Nat) : (numbered L)[k]? = L[k]?.map fun x => (k, x) := by
  simp [numbered, List.getElem?_zipIdx]
  cases L[k]? <;> rfl
theorem numbered_prefix {L M : List Nat} (h : L <+: M) : numbered L <+: numbered M := by
  obtain ⟨r, rfl⟩ := h
  exact ⟨(r.zipIdx L.length).map fun p => (p.2, p.1), by simp [numbered, List.zipIdx_append]⟩
theorem ahead_prefix {n c f j : Nat} (hf : firsts[c]? = some f) : aheadN n c ++ (eighth n f).take j <+: orderN n := by
  have e : orderN n = aheadN n (c + 1) ++ (firsts.drop (c + 1)).flatMap (eighth n) := by
    unfold orderN aheadN
    rw [← List.flatMap_append, List.take_append_drop]
  rw [e, aheadN_next hf, List.append_assoc]
  refine (List.prefix_append_right_inj _).2 ?_
  exact (List.take_prefix _ _).trans (List.prefix_append _ _)

set_option maxRecDepth 100000 in
/-- The table, as the walk reads it at a place. -/
theorem firsts_index (c f : Nat) (h : firsts[c]? = some f) (w : World) : Sem.run Tryd.prog (Instr.index 137 (.agg #[.int .i64 0, .int .i64 4, .int .i64 2, .int .i64 6, .int .i64 1, .int .i64 5, .int .i64 3, .int .i64 7]) (.int .i64 (c : Int))) w = .ok (.int .i64 (f : Int)) w := by
  have hc := (List.getElem?_eq_some_iff.1 h).1
  match c, hc with
  | 0, _ => cases h; rfl
  | 1, _ => cases h; rfl
  | 2, _ => cases h; rfl
  | 3, _ => cases h; rfl
  | 4, _ => cases h; rfl
  | 5, _ => cases h; rfl
  | 6, _ => cases h; rfl
  | 7, _ => cases h; rfl

set_option maxRecDepth 100000 in
set_option maxHeartbeats 4000000 in
theorem pass1_in (n : Nat) (hn : 1 ≤ n) (l Bn m : Nat) (hm : m < 65) (J Jx : List (Nat × Nat) → World → Prop)
    (hY : ∀ pre x W, J pre W → pre.length < m → YieldAt Fence.wide (n - 1) Tryd.prog l #[.int .i64 (x.1 : Nat), .int .i64 (x.2 : Nat)] W fun e W' =>
      (e = .returned (.bool true) ∧ J (pre ++ [x]) W' ∧ W'.heap[Bn]? = W.heap[Bn]?) ∨ (e = .returned (.bool false) ∧ Jx (pre ++ [x]) W'))
    (W : World) (hF : Firsts W) (hBn : W.cell? ⟨Bn, 0, none⟩ = some (.int .i64 m)) (h0 : J [] W) :
    CallsIn Fence.wide n Tryd.prog 98 #[.func (.yield l) #[] #[], .pointer (some ⟨Bn, 0, none⟩)] W fun e W' => (∃ v, e = .returned v) ∧
      ((∃ ys, ys = numbered (orderN m) ∧ J ys W') ∨ (∃ pre, pre <+: numbered (orderN m) ∧ Jx pre W')) := by
  have c0 := hF 0 0 rfl
  have c1 := hF 1 4 rfl
  have c2 := hF 2 2 rfl
  have c3 := hF 3 6 rfl
  have c4 := hF 4 1 rfl
  have c5 := hF 5 5 rfl
  have c6 := hF 6 3 rfl
  have c7 := hF 7 7 rfl
  refine callsIn_of_wp Tryd.func98 rfl trivial ?_ rfl
  simp only [Tryd.ntmps98, List.size_toArray, List.length_cons, List.length_nil, Nat.reduceAdd, Nat.reduceSub, Array.replicate_succ, Array.replicate_zero, List.push_toArray, List.append_toArray, List.nil_append, List.cons_append]
  gi_wp2
  clear c0 c1 c2 c3 c4 c5 c6 c7
  gi_loopw [3, 8] (fun v i wr => ∃ c : Nat, c ≤ 8 ∧ i = .int .i64 c ∧ v = .int .i64 ((aheadN m c).length : Nat) ∧ J (numbered (aheadN m c)) wr ∧ wr.heap[Bn]? = W.heap[Bn]?) (fun _ i _ => 8 - (intOf i).toNat)
  case atStart => exact ⟨0, by omega, rfl, rfl, h0, rfl⟩
  case round =>
    obtain ⟨c, hc, rfl, rfl, hJs, hkp⟩ := hrel
    by_cases hlt : c < 8
    · obtain ⟨f, hf, hf8⟩ := firsts_get c hlt
      have d8 : decide ((c : Int) < 8) = true := decide_eq_true (by omega)
      have hix := firsts_index c f hf wr
      have HNX : Hid _ := aheadN_next (n := m) hf
      have HPX : Hid (∀ j, aheadN m c ++ (eighth m f).take j <+: orderN m) := fun j => ahead_prefix hf
      have hel := eighth_len m f
      have hcn : wr.cell? ⟨Bn, 0, none⟩ = some (.int .i64 m) := by rw [← hBn]; simp [World.cell?, hkp]
      have HOL : Hid ((orderN m).length = m) := orderN_len m hm
      have hal := aheadN_few m hm c (by omega)
      have hef := eighth_few (f := f) hm
      clear hf
      gi_wp2
      gi_loopw [3, 6] (fun v i wq => ∃ j : Nat, j ≤ (eighth m f).length ∧ i = .int .i64 ((f + 8 * j : Nat) : Int) ∧ v = .int .i64 (((aheadN m c).length + j : Nat) : Int) ∧ J (numbered (aheadN m c ++ (eighth m f).take j)) wq ∧ wq.heap[Bn]? = W.heap[Bn]?) (fun _ i _ => 100 - (intOf i).toNat)
      case atStart => exact ⟨0, Nat.zero_le _, rfl, rfl, by rw [List.take_zero, List.append_nil]; exact hJs, hkp⟩
      case round =>
        clear hJs hkp hcn hix
        obtain ⟨j, hj, rfl, rfl, hJ2, hkp2⟩ := hrel
        have hcn : wr.cell? ⟨Bn, 0, none⟩ = some (.int .i64 m) := by rw [← hBn]; simp [World.cell?, hkp2]
        by_cases hjl : j < (eighth m f).length
        · have hjn : f + 8 * j < m := by rw [hel] at hjl; omega
          have HN : Hid _ := eighth_next hjn
          have hlen : (aheadN m c ++ (eighth m f).take j).length = (aheadN m c).length + j := by rw [List.length_append, List.length_take]; omega
          have hsn := numbered_snoc (aheadN m c ++ (eighth m f).take j) (f + 8 * j)
          rw [List.append_assoc, ← HN.out, hlen] at hsn
          have hpl : (numbered (aheadN m c ++ (eighth m f).take j)).length < m := by
            have h1 := (HPX.out (j + 1)).length_le
            rw [HOL.out, HN.out, ← List.append_assoc, List.length_append] at h1
            rw [numbered_len]
            simp at h1 ⊢
            omega
          have hpp := numbered_prefix (HPX.out (j + 1))
          obtain ⟨fn, tmps, assign, body, hy, hR⟩ := hY _ ((aheadN m c).length + j, f + 8 * j) wr hJ2 hpl
          dsimp only at hy hR
          rw [← hsn] at hR
          have e8 : ((f + 8 * j : Nat) : Int) + 8 = ((f + 8 * (j + 1) : Nat) : Int) := by omega
          have e1 : (((aheadN m c).length + j : Nat) : Int) + 1 = (((aheadN m c).length + (j + 1) : Nat) : Int) := by omega
          obtain ⟨x, hx⟩ : ∃ x, f + 8 * j = x := ⟨_, rfl⟩
          obtain ⟨p, hp⟩ : ∃ p, (aheadN m c).length + j = p := ⟨_, rfl⟩
          have hp65 : p ≤ 72 := by omega
          rw [hx] at hjn e8 hy ⊢
          rw [hp] at e1 hy ⊢
          have HE8 : Hid ((x : Int) + 8 = ((f + 8 * (j + 1) : Nat) : Int)) := e8
          have HE1 : Hid ((p : Int) + 1 = (((aheadN m c).length + (j + 1) : Nat) : Int)) := e1
          have HPP : Hid _ := hpp
          have HX : Hid (f + 8 * j = x) := hx
          clear e8 e1 HN hlen hsn hpl hpp hx hp hel
          gi_wp2
          refine hR.mono ?_
          rintro e W3 (⟨rfl, hJ3, hk3⟩ | ⟨rfl, hJx3⟩)
          · gi_wp2
            go_roundw
            case rel => exact ⟨j + 1, by omega, by rw [← HE8.out], by rw [← HE1.out], hJ3, hk3.trans hkp2⟩
            case measure => have := HX.out; simp [intOf]; omega
          · gi_wp2
            refine bodyPost_ret (results_none rfl _ _ _) rfl ?_
            exact ⟨⟨_, rfl⟩, .inr ⟨_, HPP.out, hJx3⟩⟩
        · obtain rfl : j = (eighth m f).length := by omega
          have hjn : ¬ ((f + 8 * (eighth m f).length : Nat) : Int) < (m : Int) := by rw [hel]; omega
          have ht : aheadN m c ++ (eighth m f).take (eighth m f).length = aheadN m (c + 1) := by rw [List.take_length, HNX.out]
          rw [ht] at hJ2
          have hln : (aheadN m c).length + (eighth m f).length = (aheadN m (c + 1)).length := by rw [HNX.out, List.length_append]
          rw [hln]
          obtain ⟨y, hy⟩ : ∃ y, f + 8 * (eighth m f).length = y := ⟨_, rfl⟩
          rw [hy] at hjn ⊢
          clear ht hln hy hjl hel HNX HPX
          gi_wp2
          go_roundw
          case rel => exact ⟨c + 1, by omega, by go_num, rfl, hJ2, hkp2⟩
          case measure => simp [intOf]; omega
    · obtain rfl : c = 8 := by omega
      rw [aheadN_all] at hJs
      gi_wp2
      go_end0
      exact ⟨⟨_, rfl⟩, .inl ⟨_, rfl, hJs⟩⟩

end Go.Proofs.YtmjidhnlofpliaaDoor
