/-
  What sched.Order, At, Place answer, as long as the package's table reads as it was laid.
-/
import Derived.Test.YtmjidhnlofpliaaDoorM19
import Derived.BigQuiet
import Derived.Deep.QuietTactic
import Derived.OwnWalk
import Derived.WalkLawsBesides
import Derived.WalkSpells
namespace Go.Proofs.YtmjidhnlofpliaaDoor
open Go.RowKit Go.Shelf
attribute [local go_sem] Oper.semAt_some

set_option maxHeartbeats 400000 in
theorem isCount_in (n : Nat) (m : Int) (w : World) : CallsIn Fence.wide n Tryd.prog 93 #[.int .i64 m] w fun e w' => e = .returned (.bool (decide (1 ≤ m ∧ m ≤ 64))) ∧ w = w' := by
  by_cases h1 : 1 ≤ m
  · refine callsIn_of_wp Tryd.func93 rfl trivial ?_ rfl
    simp only [Tryd.ntmps93, List.size_toArray, List.length_cons, List.length_nil, Nat.reduceAdd, Nat.reduceSub, Array.replicate_succ, Array.replicate_zero, List.push_toArray, List.append_toArray, List.nil_append, List.cons_append]
    gi_wp2
    go_ret
    exact ⟨by simp [h1], rfl⟩
  · refine callsIn_of_wp Tryd.func93 rfl trivial ?_ rfl
    simp only [Tryd.ntmps93, List.size_toArray, List.length_cons, List.length_nil, Nat.reduceAdd, Nat.reduceSub, Array.replicate_succ, Array.replicate_zero, List.push_toArray, List.append_toArray, List.nil_append, List.cons_append]
    gi_wp2
    go_ret
    have e : decide (1 ≤ m) = false := decide_eq_false (by omega)
    simp [e]

theorem isCount_yes (n : Nat) (m : Nat) (h1 : 1 ≤ m) (hm : m < 65) (w : World) : CallsIn Fence.wide n Tryd.prog 93 #[.int .i64 (m : Int)] w fun e w' => e = .returned (.bool true) ∧ w = w' := by
  have e := isCount_in n (m : Int) w
  rw [decide_eq_true (by omega)] at e
  exact e
set_option maxHeartbeats 400000 in
theorem pass_in (n : Nat) (m : Int) (w : World) : CallsIn Fence.wide n Tryd.prog 94 #[.int .i64 m] w fun e w' => e = .returned (.func (.func 98) #[] #[.pointer (some ⟨w.heap.size, 0, none⟩)]) ∧ w' = w.alloc (.cells #[.int .i64 m] 3) := by
  refine callsIn_of_wp Tryd.func94 rfl trivial ?_ rfl
  simp only [Tryd.ntmps94, List.size_toArray, List.length_cons, List.length_nil, Nat.reduceAdd, Nat.reduceSub, Array.replicate_succ, Array.replicate_zero, List.push_toArray, List.append_toArray, List.nil_append, List.cons_append]
  gi_wp2
  go_ret
  exact ⟨rfl, rfl⟩

theorem pass_stops (n : Nat) (hn : 1 ≤ n) (Bn m : Nat) (hm : m < 65) (w : World) (hF : Firsts w) (hBn : Bn < w.heap.size) (hc : w.cell? ⟨Bn, 0, none⟩ = some (.int .i64 (m : Int))) :
    SeqStopsK Fence.wide n Tryd.prog 98 #[.pointer (some ⟨Bn, 0, none⟩)] (fun x : Nat × Nat => #[Value.int .i64 (x.1 : Nat), Value.int .i64 (x.2 : Nat)]) (fun A B => B.heap[Bn]? = A.heap[Bn]?) (fun ys => ys = numbered (orderN m)) (fun pre => pre <+: numbered (orderN m)) m w := fun l J Jx W hW _ _ hY h0 =>
  pass1_in n hn l Bn m hm J Jx hY W (hF.next hW) ((hW.cell (p := ⟨Bn, 0, none⟩) hBn).trans hc) h0

/-- Three results, the first a number in a box. -/
theorem results_box3 {fn : Func} {p u v : Tmp} (h : fn.results = #[.cell p 3, .tmp u, .tmp v]) (tmps : Array Value) (w : World) (B : Nat) (x : Int) (hp : tmps.getD p undef = .pointer (some ⟨B, 0, none⟩)) (hb : Boxed w B 3 (.int .i64 x)) :
    (results fn tmps).run Tryd.prog w = .ok (.tuple #[.int .i64 x, tmps.getD u undef, tmps.getD v undef]) w := by
  have hp' : tmps[p]?.getD undef = .pointer (some ⟨B, 0, none⟩) := by simpa using hp
  have hc := hb.cell
  have hl : (loadVar 3 ⟨B, 0, none⟩).run Tryd.prog w = .ok (.int .i64 x) w := by
    have ha : (isAgg 3).run Tryd.prog w = .ok false w := by kernel_rfl
    simp [loadVar, Sem.run_bind, ha, go_sem, hc]
  simp [results, h, hp', asAddr, hl]

set_option maxRecDepth 100000 in
set_option maxHeartbeats 4000000 in
theorem At_in (n : Nat) (hn : 3 ≤ n) (m k x : Nat) (h1 : 1 ≤ m) (hm : m < 65) (hk : k < m * 16) (hx : (orderN m)[k % m]? = some x) (w : World) (hF : Firsts w) : CallsIn Fence.wide n Tryd.prog 88 #[.int .i64 m, .int .i64 k] w fun e w' => e = .returned (.tuple #[.int .i64 (x : Int), .int .i64 ((k / m : Nat) : Int), .int .i64 0]) ∧ Below w.heap.size w w' := by
  have hn1 : 1 ≤ n := by omega
  have hj : k % m < m := Nat.mod_lt _ (by omega)
  have e1 : (k : Int).tmod (m : Int) = ((k % m : Nat) : Int) := by rw [Int.tmod_eq_emod_of_nonneg (by omega)]; simp
  have e2 : (k : Int).tdiv (m : Int) = ((k / m : Nat) : Int) := by rw [Int.tdiv_eq_ediv_of_nonneg (by omega)]; simp
  have hle : k / m ≤ k := Nat.div_le_self _ _
  have g0 : decide ((k : Int) < 0) = false := decide_eq_false (by omega)
  have g1 : decide ((m : Int) * 16 ≤ (k : Int)) = false := decide_eq_false (by omega)
  have n0 : ¬ (m : Int) = 0 := by omega
  obtain ⟨j, hjk⟩ : ∃ j, k % m = j := ⟨_, rfl⟩
  obtain ⟨d, hdk⟩ : ∃ d, k / m = d := ⟨_, rfl⟩
  rw [hjk] at hj e1 hx
  rw [hdk] at e2 hle ⊢
  clear hjk hdk
  refine callsIn_of_wp_marks Tryd.func88 rfl trivial ?_ rfl
  simp only [Tryd.ntmps88, List.size_toArray, List.length_cons, List.length_nil, Nat.reduceAdd, Nat.reduceSub, Array.replicate_succ, Array.replicate_zero, List.push_toArray, List.append_toArray, List.nil_append, List.cons_append]
  have f1 : Fence.wide.fn 93 := trivial
  have f2 : Fence.wide.fn 94 := trivial
  gi_wp2_with (first | (gi_at_call 93; refine (isCount_yes (n - 1) m h1 hm _).mono ?_; rintro e w' ⟨rfl, rfl⟩) | (gi_at_call 94; refine (pass_in (n - 1) m _).mono ?_; rintro e w2 ⟨rfl, rfl⟩))
  have b0 := (((Boxed.new w 3 (.int .i64 (m : Int))).alloc (.cells #[.int .i64 (k : Int)] 3)).alloc (.cells #[.int .i64 0] 3)).alloc (.cells #[.int .i64 (m : Int)] 3)
  have b1 := ((Boxed.new (w.alloc (.cells #[.int .i64 (m : Int)] 3)) 3 (.int .i64 (k : Int))).alloc (.cells #[.int .i64 0] 3)).alloc (.cells #[.int .i64 (m : Int)] 3)
  have b2 := (Boxed.new ((w.alloc (.cells #[.int .i64 (m : Int)] 3)).alloc (.cells #[.int .i64 (k : Int)] 3)) 3 (.int .i64 0)).alloc (.cells #[.int .i64 (m : Int)] 3)
  have b3 := Boxed.new (((w.alloc (.cells #[.int .i64 (m : Int)] 3)).alloc (.cells #[.int .i64 (k : Int)] 3)).alloc (.cells #[.int .i64 0] 3)) 3 (.int .i64 (m : Int))
  have hB04 := ((((Below.refl _ w).alloc (Nat.le_refl _) (.cells #[.int .i64 (m : Int)] 3)).alloc (by simp) (.cells #[.int .i64 (k : Int)] 3)).alloc (by simp; omega) (.cells #[.int .i64 0] 3)).alloc (by simp; omega) (.cells #[.int .i64 (m : Int)] 3)
  simp only [World.size_alloc] at b1 b2 b3
  obtain ⟨w4, hw4⟩ : ∃ w4, (((w.alloc (.cells #[.int .i64 (m : Int)] 3)).alloc (.cells #[.int .i64 (k : Int)] 3)).alloc (.cells #[.int .i64 0] 3)).alloc (.cells #[.int .i64 (m : Int)] 3) = w4 := ⟨_, rfl⟩
  have hsz : w4.heap.size = w.heap.size + 1 + 1 + 1 + 1 := by rw [← hw4]; simp
  rw [hw4] at b0 b1 b2 b3 hB04 ⊢
  clear hw4
  have hsz4 : w.heap.size + 4 ≤ w4.heap.size := by omega
  clear hsz
  have HX : Hid ((orderN m)[j]? = some x) := hx
  clear hx
  refine wpIn_rangeFunc_ownG rfl hn1 (gf := 98) (lb := #[.pointer (some ⟨w.heap.size + 1 + 1 + 1, 0, none⟩)]) rfl trivial (enters_of Tryd.func98 (by kernel_rfl) rfl)
    (pass_stops (n - 1) (by omega) (w.heap.size + 1 + 1 + 1) m hm w4 (hF.next hB04) (by omega) b3.cell)
    (fun h k => k.trans h) (fun W l o o' hl ho hc hw => World.putObj_heap_other (by omega)) (Below.refl _ _) (fun _ => rfl)
    (fun pre W => Boxed W w.heap.size 3 (.int .i64 (m : Int)) ∧ Boxed W (w.heap.size + 1) 3 (.int .i64 (k : Int)) ∧ Boxed W (w.heap.size + 1 + 1) 3 (.int .i64 0) ∧ (∀ p ∈ pre, p.1 ≠ j) ∧ Below w.heap.size w4 W)
    (fun c pre W => (c = .exit 0 ∧ ∃ q y, pre = q ++ [y] ∧ y.1 = j) ∧ Boxed W w.heap.size 3 (.int .i64 (m : Int)) ∧ Boxed W (w.heap.size + 1) 3 (.int .i64 (k : Int)) ∧ Boxed W (w.heap.size + 1 + 1) 3 (.int .i64 ((pre.getLast?.getD (0, 0)).2 : Nat)) ∧ Below w.heap.size w4 W)
    (OwnFrom.and (Own.from (boxed_own _ _ _) _) (OwnFrom.and (Own.from (boxed_own _ _ _) _) (OwnFrom.and (Own.from (boxed_own _ _ _) _) (OwnFrom.and (ownFrom_pure _ _) (ownFrom_below (by omega) (by omega))))))
    (fun c => OwnFrom.and (ownFrom_pure _ _) (OwnFrom.and (Own.from (boxed_own _ _ _) _) (OwnFrom.and (Own.from (boxed_own _ _ _) _) (OwnFrom.and (Own.from (boxed_own _ _ (fun pre : List (Nat × Nat) => .int .i64 ((pre.getLast?.getD (0, 0)).2 : Nat))) _) (ownFrom_below (by omega) (by omega))))))
    ⟨b0, b1, b2, by simp, Below.refl _ _⟩
    (fun x => { tmps := #[.int .i64 (m : Int), .int .i64 (k : Int), .pointer (some ⟨w.heap.size, 0, none⟩), .pointer (some ⟨w.heap.size + 1, 0, none⟩), .pointer (some ⟨w.heap.size + 1 + 1, 0, none⟩), .int .i64 0, .int .i64 0, .int .i64 (x.1 : Nat), .int .i64 (x.2 : Nat), .int .i64 (m : Int), .bool true, .bool false, .bool false, .int .i64 (k : Int), .bool false, .bool false, .bool false, .int .i64 (k : Int), .int .i64 (m : Int), .int .i64 ((m : Int) * 16), .bool false, .bool false, .int .i64 (m : Int), .func (.func 98) #[] #[.pointer (some ⟨w.heap.size + 1 + 1 + 1, 0, none⟩)], .int .i64 (x.1 : Nat), .int .i64 (x.2 : Nat), undef, undef, undef, undef, undef, undef, undef, undef, undef, undef], defers := [] }) ?assign ?body ?done ?stop
  case assign =>
    intro l x W K hK
    gi_wp2
    exact hK
  case body =>
    rintro l pre ⟨p, s⟩ W ⟨c0, c1, c2, hno, hB⟩ hlt
    have d0 := c0.cell
    have d1 := c1.cell
    have d2 := c2.cell
    have d2' := c2.frozen
    dsimp only
    by_cases hp : p = j
    · have q : ((p : Int) == (j : Int)) = true := by rw [beq_iff_eq]; omega
      gi_wp2
      exact ⟨(KeepsOthers.setCell _ _ _).from _, ⟨rfl, pre, (p, s), rfl, hp⟩, c0.other (by omega) _, c1.other (by omega) _, by rw [List.getLast?_append, List.getLast?_singleton]; exact c2.set _, hB.setCell (p := ⟨w.heap.size + 1 + 1, 0, none⟩) (by show w.heap.size ≤ w.heap.size + 1 + 1; omega) _⟩
    · have q : ((p : Int) == (j : Int)) = false := by rw [beq_eq_false_iff_ne]; omega
      gi_wp2
      refine ⟨KeepsFrom.refl _ _, rfl, c0, c1, c2, fun y hy => ?_, hB⟩
      rcases List.mem_append.1 hy with h | h
      · exact hno y h
      · rw [List.mem_singleton.1 h]; exact hp
  case done =>
    rintro D ys W hD rfl ⟨c0, c1, c2, hno, hB⟩ hK
    exact absurd rfl (hno (j, x) (List.mem_of_getElem? (by rw [numbered_get, HX.out]; rfl)))
  case stop =>
    rintro D c pre W hD hpre ⟨⟨rfl, q, y, rfl, hy⟩, c0, c1, c2, hB⟩ hK
    have hyx : y.2 = x := by
      have h1 : (numbered (orderN m))[q.length]? = some y := by
        obtain ⟨r, hr⟩ := hpre
        rw [← hr]; simp
      rw [numbered_get] at h1
      cases hq : (orderN m)[q.length]? with
      | none => rw [hq] at h1; cases h1
      | some z =>
        rw [hq] at h1
        have h2 := Option.some.inj h1
        rw [← h2] at hy ⊢
        have h3 : q.length = j := hy
        rw [h3, HX.out] at hq
        exact (Option.some.inj hq).symm
    have c2' : Boxed W (w.heap.size + 1 + 1) 3 (.int .i64 (x : Int)) := by rw [List.getLast?_append, List.getLast?_singleton] at c2; rw [← hyx]; exact c2
    have d0 := c0.cell
    have d1 := c1.cell
    have d2 := c2'.cell
    have d2' := c2'.frozen
    clear c2 hpre hy hyx
    have hmix : Tryd.prog.follows .mixedOrders = true := by kernel_rfl
    gi_wp2
    gi_region
    gi_wp2
    have hK2 : ((W.setCell ⟨w.heap.size + 1 + 1, 0, none⟩ (.int .i64 (x : Int))).drew).heap[D]? = some (.deferred (some [])) := (Below.heap_setCell W ⟨w.heap.size + 1 + 1, 0, none⟩ _ D (by show D ≠ w.heap.size + 1 + 1; omega)).trans hK
    have b5 : Boxed (W.setCell ⟨w.heap.size + 1 + 1, 0, none⟩ (.int .i64 (x : Int))).drew (w.heap.size + 1 + 1) 3 (.int .i64 (x : Int)) := c2'.set _
    have hB5 : Below w.heap.size w4 (W.setCell ⟨w.heap.size + 1 + 1, 0, none⟩ (.int .i64 (x : Int))).drew := (hB.setCell (p := ⟨w.heap.size + 1 + 1, 0, none⟩) (by show w.heap.size ≤ w.heap.size + 1 + 1; omega) _).drew
    refine ⟨by simp, .inl ⟨_, _, rfl, run_takeDeferred hK2, ?_⟩⟩
    refine ⟨_, results_box3 rfl _ _ _ _ rfl (b5.kept (grownBy_putObj' _ D _) (by simp; omega)), rfl, (hB04.trans hB5).trans (belowK_b (w := w4) (by omega) _ D _ _ hD hK2 rfl rfl)⟩

theorem At_ok (n k x : Nat) (h1 : 1 ≤ n) (hn : n < 65) (hk : k < n * 16) (hx : (orderN n)[k % n]? = some x) (w : World) (hF : Firsts w) : Calls Tryd.prog 88 #[.int .i64 n, .int .i64 k] w fun e w' => e = .returned (.tuple #[.int .i64 (x : Int), .int .i64 ((k / n : Nat) : Int), .int .i64 0]) ∧ Below w.heap.size w w' := callsIn_wide.1 (At_in 3 (Nat.le_refl _) n k x h1 hn hk hx w hF)

end Go.Proofs.YtmjidhnlofpliaaDoor
