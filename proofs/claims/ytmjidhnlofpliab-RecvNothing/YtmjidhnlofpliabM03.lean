/-
  Lists of symbols (a place and a value each) in memory. No function of the program is spoken of.
-/
import Derived.Test.YtmjidhnlofpliabM01
import Derived.BigQuiet
import Derived.Deep.QuietTactic
import Derived.Deep.SlicePairs
import Derived.Laws.AppendOwnNone
import Derived.OwnWalk
import Derived.WalkLawsBesides
import Derived.WalkSpells
namespace Go.Proofs.Ytmjidhnlofpliab
open Go.RowKit

/-- The cells of symbols. -/
def symCells (l : List (Int × Int)) : List Value := l.flatMap fun x => [.int .i64 x.1, .int .i64 x.2]
theorem symCells_len : ∀ l : List (Int × Int), (symCells l).length = l.length * 2
  | [] => rfl
  | x :: l => by
    have := symCells_len l
    unfold symCells at this ⊢
    rw [List.flatMap_cons, List.length_append, this, List.length_cons]
    simp only [List.length_cons, List.length_nil]
    omega
theorem symCells_get : ∀ {l : List (Int × Int)} {j : Nat} {x : Int × Int}, l[j]? = some x → (symCells l)[j * 2]? = some (.int .i64 x.1) ∧ (symCells l)[j * 2 + 1]? = some (.int .i64 x.2)
  | [], j, x, h => by simp at h
  | y :: l, 0, x, h => by simp at h; subst h; exact ⟨rfl, rfl⟩
  | y :: l, j + 1, x, h => by
    have ih := symCells_get (l := l) (j := j) (x := x) (by simpa using h)
    have e : symCells (y :: l) = .int .i64 y.1 :: .int .i64 y.2 :: symCells l := rfl
    rw [e, show (j + 1) * 2 = j * 2 + 2 by omega, show j * 2 + 2 + 1 = j * 2 + 1 + 2 by omega]
    simpa using ih
theorem symCells_append (l m : List (Int × Int)) : symCells (l ++ m) = symCells l ++ symCells m := by simp [symCells]
theorem symCells_one (l : List (Int × Int)) : ∀ u ∈ symCells l, u.oneCell' = true := by
  intro u hu
  obtain ⟨x, _, hx⟩ := List.mem_flatMap.1 hu
  rcases List.mem_cons.1 hx with rfl | hx
  · rfl
  · simp at hx; subst hx; rfl

/-- The slice v holds the symbols l in a block below n₀ (or it is of length 0, and they are none). -/
def Syms (n₀ : Nat) (W : World) (v : Value) (l : List (Int × Int)) : Prop :=
  ((∃ a cap, v = .slice a 0 cap ∧ (a = none → cap = 0)) ∧ l = []) ∨ ∃ b off cap, v = .slice (some ⟨b, off, none⟩) l.length cap ∧ b < n₀ ∧ ∀ (j : Nat) (x : Int × Int), l[j]? = some x → W.cell? ⟨b, off + j * 2, none⟩ = some (.int .i64 x.1) ∧ W.cell? ⟨b, off + j * 2 + 1, none⟩ = some (.int .i64 x.2)

theorem Syms.below {n₀ : Nat} {W W' : World} {v : Value} {l : List (Int × Int)} (h : Syms n₀ W v l) (hb : Below n₀ W W') : Syms n₀ W' v l := by
  rcases h with h | ⟨b, off, cap, hv, hlt, hc⟩
  · exact .inl h
  · exact .inr ⟨b, off, cap, hv, hlt, fun j x hj => ⟨(hb.cell (p := ⟨b, off + j * 2, none⟩) hlt).trans (hc j x hj).1, (hb.cell (p := ⟨b, off + j * 2 + 1, none⟩) hlt).trans (hc j x hj).2⟩⟩
theorem Syms.mono {n₀ n₁ : Nat} {W : World} {v : Value} {l : List (Int × Int)} (h : Syms n₀ W v l) (hn : n₀ ≤ n₁) : Syms n₁ W v l := by
  rcases h with h | ⟨b, off, cap, hv, hlt, hc⟩
  · exact .inl h
  · exact .inr ⟨b, off, cap, hv, by omega, hc⟩
theorem Syms.next {W W' : World} {v : Value} {l : List (Int × Int)} (h : Syms W.heap.size W v l) (hb : Below W.heap.size W W') : Syms W'.heap.size W' v l := (h.below hb).mono hb.size
theorem Syms.shape {n₀ : Nat} {W : World} {v : Value} {l : List (Int × Int)} (h : Syms n₀ W v l) : ∃ a cap, v = .slice a l.length cap := by
  rcases h with ⟨⟨a, cap, rfl, _⟩, rfl⟩ | ⟨b, off, cap, rfl, _, _⟩
  · exact ⟨_, _, rfl⟩
  · exact ⟨_, _, rfl⟩
theorem syms_nil (n₀ : Nat) (W : World) : Syms n₀ W (.slice none 0 0) [] := .inl ⟨⟨_, _, rfl, fun _ => rfl⟩, rfl⟩

/-- Where symbols that are held lie. -/
theorem syms_at {n₀ n cap : Nat} {W : World} {a : Option Addr} {l : List (Int × Int)} (h : Syms n₀ W (.slice a n cap) l) (hl : l.length = n) (h0 : 0 < n) :
    ∃ b off, a = some ⟨b, off, none⟩ ∧ b < n₀ ∧ ∀ (j : Nat) (x : Int × Int), l[j]? = some x → W.cell? ⟨b, off + j * 2, none⟩ = some (.int .i64 x.1) ∧ W.cell? ⟨b, off + j * 2 + 1, none⟩ = some (.int .i64 x.2) := by
  subst hl
  rcases h with ⟨_, e⟩ | ⟨b, off, c', e, hb, hcs⟩
  · rw [e] at h0; simp at h0
  · cases e
    exact ⟨b, off, rfl, hb, hcs⟩

/-- A row of symbols of the call's own is held. -/
theorem syms_of_row {W : World} {base k : Nat} {e : TypeId} {v : Value} {l : List (Int × Int)} (h : W.ownsRow base e 2 v k (symCells l)) : Syms W.heap.size W v l := by
  have hl : l.length = k := by have := h.1; rw [symCells_len] at this; omega
  rcases h.2 with ⟨rfl, rfl⟩ | ⟨g, cap, cur, rfl, hb, hg, hk, _, hs, ht⟩
  · exact .inl ⟨⟨_, _, rfl, fun _ => rfl⟩, List.length_eq_zero_iff.1 hl⟩
  · refine .inr ⟨g, 0, cap, by rw [hl], (Array.getElem?_eq_some_iff.1 hg).1, fun j x hj => ?_⟩
    obtain ⟨h1, h2⟩ := symCells_get hj
    have c1 := h.cells (g := g) rfl (j * 2) _ h1
    have c2 := h.cells (g := g) rfl (j * 2 + 1) _ h2
    rw [Addr.add_lit] at c1 c2
    exact ⟨c1, c2⟩
theorem symRow_below {W W' : World} {base k n₀ : Nat} {e : TypeId} {v : Value} {xs : List Value} (h : W.ownsRow base e 2 v k xs) (hb : Below n₀ W W') (hn : W.heap.size ≤ n₀) : W'.ownsRow base e 2 v k xs := by
  refine ⟨h.1, ?_⟩
  rcases h.2 with h0 | ⟨g, cap, cur, hv, hbs, hg, hk, hm, hs, ht⟩
  · exact .inl h0
  · exact .inr ⟨g, cap, cur, hv, hbs, (hb.block g (by have := (Array.getElem?_eq_some_iff.1 hg).1; omega)).trans hg, hk, hm, hs, ht⟩
theorem symRow_base {W : World} {base base' k : Nat} {e : TypeId} {v : Value} {xs : List Value} (h : W.ownsRow base e 2 v k xs) (hn : base' ≤ base) : W.ownsRow base' e 2 v k xs := by
  refine ⟨h.1, ?_⟩
  rcases h.2 with h0 | ⟨g, cap, cur, hv, hbs, hg, hk, hm, hs, ht⟩
  · exact .inl h0
  · exact .inr ⟨g, cap, cur, hv, by omega, hg, hk, hm, hs, ht⟩

theorem row_cap2 {w : World} {base e n cap : Nat} {a : Option Addr} {xs : List Value} (h : w.ownsRow base e 2 (.slice a n cap) n xs) : n ≤ cap := by
  rcases h.2 with ⟨e, _⟩ | ⟨g, c, cur, e, _, _, hk, _⟩
  · cases e; exact Nat.le_refl _
  · cases e; exact hk

end Go.Proofs.Ytmjidhnlofpliab

/-
  What volutekeep.Syms and volutekeep.TwinSyms answer, for all symbols in memory.
-/
namespace Go.Proofs.Ytmjidhnlofpliab
open Go.RowKit

theorem take_eq_syms {xs ys : List (Int × Int)} {k : Nat} {x y : Int × Int} (hx : xs[k]? = some x) (hy : ys[k]? = some y) (h : xs.take k = ys.take k) (e : x = y) : xs.take (k + 1) = ys.take (k + 1) := by
  rw [List.take_add_one, List.take_add_one, hx, hy, h, e]

set_option maxHeartbeats 1000000 in
theorem syms_differ (a b : Option Addr) (m n cap cap' : Nat) (w : World) (hne : m ≠ n) :
    Calls Try.prog 62 #[.slice a m cap, .slice b n cap'] w fun e w' => e = .returned (.bool false) ∧ w = w' := by
  have hb : ((m : Int) != (n : Int)) = true := by rw [bne_iff_ne]; omega
  go_enter Try.func62, Try.ntmps62
  go_wp2
  go_ret
  exact ⟨rfl, rfl⟩

set_option maxHeartbeats 1000000 in
theorem syms_none (a b : Option Addr) (cap cap' : Nat) (w : World) :
    Calls Try.prog 62 #[.slice a 0 cap, .slice b 0 cap'] w fun e w' => e = .returned (.bool true) ∧ w = w' := by
  go_enter Try.func62, Try.ntmps62
  go_wp2
  go_loop [5] (fun i => i = .int .i64 0) (fun _ => 0)
  case atStart => rfl
  case round =>
    obtain rfl := hrel
    go_wp2
    go_ret
    exact ⟨rfl, rfl⟩

set_option maxRecDepth 100000 in
set_option maxHeartbeats 2000000 in
theorem syms_some (b off cap b' off' cap' len : Nat) (xs ys : List (Int × Int)) (hx : xs.length = len) (hy : ys.length = len) (hl : len ≤ 4611686018427387904) (w : World)
    (hcx : ∀ (j : Nat) (x : Int × Int), xs[j]? = some x → w.cell? ⟨b, off + j * 2, none⟩ = some (.int .i64 x.1) ∧ w.cell? ⟨b, off + j * 2 + 1, none⟩ = some (.int .i64 x.2))
    (hcy : ∀ (j : Nat) (x : Int × Int), ys[j]? = some x → w.cell? ⟨b', off' + j * 2, none⟩ = some (.int .i64 x.1) ∧ w.cell? ⟨b', off' + j * 2 + 1, none⟩ = some (.int .i64 x.2)) :
    Calls Try.prog 62 #[.slice (some ⟨b, off, none⟩) len cap, .slice (some ⟨b', off', none⟩) len cap'] w fun e w' => e = .returned (.bool (decide (xs = ys))) ∧ ∃ n, w' = w.drewN n := by
  have hb : ((len : Int) != (len : Int)) = false := by simp
  have HCX : Hid _ := hcx
  have HCY : Hid _ := hcy
  clear hcx hcy
  go_enter Try.func62, Try.ntmps62
  go_wp2
  go_loopw [5] (fun i wr => ∃ k nd : Nat, k ≤ len ∧ i = .int .i64 k ∧ xs.take k = ys.take k ∧ wr = w.drewN nd) (fun i _ => len - (intOf i).toNat)
  case atStart => exact ⟨0, 0, Nat.zero_le _, rfl, rfl, rfl⟩
  case round =>
    obtain ⟨k, nd, hk, rfl, heq, rfl⟩ := hrel
    by_cases hlt : k < len
    · obtain ⟨⟨x0, x1⟩, hxk⟩ : ∃ x, xs[k]? = some x := ⟨xs[k], by simp⟩
      obtain ⟨⟨y0, y1⟩, hyk⟩ : ∃ y, ys[k]? = some y := ⟨ys[k], by simp⟩
      obtain ⟨c1, c2⟩ := HCX.out _ _ hxk
      obtain ⟨c3, c4⟩ := HCY.out _ _ hyk
      have d1 : ∀ q, (w.drewN q).cell? ⟨b, off + k * 2, none⟩ = some (.int .i64 x0) := fun q => c1
      have d2 : ∀ q, (w.drewN q).cell? ⟨b, off + k * 2 + 1, none⟩ = some (.int .i64 x1) := fun q => c2
      have d3 : ∀ q, (w.drewN q).cell? ⟨b', off' + k * 2, none⟩ = some (.int .i64 y0) := fun q => c3
      have d4 : ∀ q, (w.drewN q).cell? ⟨b', off' + k * 2 + 1, none⟩ = some (.int .i64 y1) := fun q => c4
      have HX : Hid (xs[k]? = some (x0, x1)) := hxk
      have HY : Hid (ys[k]? = some (y0, y1)) := hyk
      have HE : Hid (xs.take k = ys.take k) := heq
      clear hxk hyk heq c1 c2 c3 c4
      by_cases hxy : x0 = y0
      · have hq : (x0 != y0) = false := by simp [hxy]
        by_cases hxy1 : x1 = y1
        · have hq1 : (x1 != y1) = false := by simp [hxy1]
          have HQ : Hid ((x0, x1) = (y0, y1)) := by
            show (x0, x1) = (y0, y1)
            rw [hxy, hxy1]
          clear hxy hxy1
          go_wp2
          go_quiet (fail)
          go_wp2
          go_roundw
          case rel => exact ⟨k + 1, nd + nq, by omega, by go_num, take_eq_syms HX.out HY.out HE.out HQ.out, by simp⟩
          case measure => simp [intOf]; omega
        · have hq1 : (x1 != y1) = true := by simp [hxy1]
          have HQ : Hid (xs ≠ ys) := fun e => hxy1 (by have := HX.out; rw [e, HY.out] at this; cases this; rfl)
          clear hxy hxy1
          go_wp2
          go_quiet (fail)
          go_wp2
          go_ret
          exact ⟨by rw [decide_eq_false HQ.out]; rfl, nd + nq, by simp⟩
      · have hq : (x0 != y0) = true := by simp [hxy]
        have HQ : Hid (xs ≠ ys) := fun e => hxy (by have := HX.out; rw [e, HY.out] at this; cases this; rfl)
        clear hxy
        go_wp2
        go_quiet (fail)
        go_wp2
        go_ret
        exact ⟨by rw [decide_eq_false HQ.out]; rfl, nd + nq, by simp⟩
    · obtain rfl : k = len := by omega
      have HE : Hid (xs = ys) := by rw [List.take_of_length_le (by omega), List.take_of_length_le (by omega)] at heq; exact heq
      clear heq
      go_wp2
      go_ret
      exact ⟨by rw [decide_eq_true HE.out]; rfl, nd, rfl⟩

/-- volutekeep.Syms. -/
theorem syms_any (va vb : Value) (xs ys : List (Int × Int)) (n₀ n₁ : Nat) (w : World) (hy : ys.length ≤ 4611686018427387904) (ha : Syms n₀ w va xs) (hb : Syms n₁ w vb ys) :
    Calls Try.prog 62 #[va, vb] w fun e w' => e = .returned (.bool (decide (xs = ys))) ∧ ∃ n, w' = w.drewN n := by
  obtain ⟨a, cap, rfl⟩ := ha.shape
  obtain ⟨b, cap', rfl⟩ := hb.shape
  by_cases hne : xs.length = ys.length
  · rcases ha with ⟨_, e2⟩ | ⟨b1, off, c1, e1, _, h1⟩
    · have z1 : xs.length = 0 := by rw [e2]; rfl
      have z2 : ys.length = 0 := by omega
      rw [z1, z2]
      refine (syms_none a b cap cap' w).mono ?_
      rintro e w' ⟨rfl, rfl⟩
      exact ⟨by rw [decide_eq_true (by rw [e2, List.length_eq_zero_iff.1 z2])], 0, rfl⟩
    · rcases hb with ⟨_, e4⟩ | ⟨b2, off', c2, e3, _, h2⟩
      · have z2 : ys.length = 0 := by rw [e4]; rfl
        have z1 : xs.length = 0 := by omega
        rw [z1, z2]
        refine (syms_none a b cap cap' w).mono ?_
        rintro e w' ⟨rfl, rfl⟩
        exact ⟨by rw [decide_eq_true (by rw [e4, List.length_eq_zero_iff.1 z1])], 0, rfl⟩
      · cases e1
        cases e3
        rw [hne]
        exact syms_some b1 off cap b2 off' cap' ys.length xs ys hne rfl hy w h1 h2
  · refine (syms_differ a b xs.length ys.length cap cap' w hne).mono ?_
    rintro e w' ⟨rfl, rfl⟩
    exact ⟨by rw [decide_eq_false (fun e => hne (by rw [e]))], 0, rfl⟩

theorem infoSym : (Try.prog.info? 75).map (fun i => (i.zero, i.size, i.bytes)) = some (some (.agg #[.int .i64 0, .int .i64 0]), 2, 16) := by kernel_rfl

theorem syms_cells {W : World} {b off : Nat} {l : List (Int × Int)} (h : ∀ (j : Nat) (x : Int × Int), l[j]? = some x → W.cell? ⟨b, off + j * 2, none⟩ = some (.int .i64 x.1) ∧ W.cell? ⟨b, off + j * 2 + 1, none⟩ = some (.int .i64 x.2)) :
    ∀ (j : Nat) (u : Value), (symCells l)[j]? = some u → W.cell? ((⟨b, off, none⟩ : Addr).add j) = some u := by
  intro j u hj
  rw [Go.WideShapes.add_plain]
  have hlt : j < l.length * 2 := by have := (List.getElem?_eq_some_iff.1 hj).1; rwa [symCells_len] at this
  have hq : j / 2 < l.length := by omega
  obtain ⟨x, hx⟩ : ∃ x, l[j / 2]? = some x := ⟨l[j / 2], by simp⟩
  have hc := h _ _ hx
  have hg := symCells_get hx
  by_cases h2 : j % 2 = 0
  · rw [show j / 2 * 2 = j by omega] at hc hg
    rw [hg.1] at hj
    cases hj
    exact hc.1
  · rw [show j / 2 * 2 + 1 = j by omega] at hg
    rw [show off + j / 2 * 2 + 1 = off + j by omega] at hc
    rw [hg.2] at hj
    cases hj
    exact hc.2

end Go.Proofs.Ytmjidhnlofpliab

/-
  append to a row of symbols of the call's own: its run; parts of rows of symbols. No function of the program is spoken of.
-/
namespace Go.Proofs.Ytmjidhnlofpliab
open Go.RowKit

/-- append whose run is known: for the walk, guarded or not. -/
theorem wpList_append_known {P : Program} {w : World} {ops : Array Oper} {rest : List Oper} {o : Oper} {a : Act} {Q : Exit → Act → World → Prop} (hw : Region.wanted o (yielded ops a.tmps) = true) (s x : Operand) (t : TypeId)
    (ho : o.op = .call { callee := .builtin .append, args := #[s, x], argTypes := #[t, t] }) (v src : Value) (hs : a.eval s = v) (hx : a.eval x = src) (v' : Value) (w' : World)
    (hrun : (Builtin.append_ #[t, t] o.type #[v, src]).run P w = .ok v' w') (h : wpList P ops Q rest (a.put o.dst v') w') : wpList P ops Q (o :: rest) a w := by
  refine wpList_step fun K hK => ?_
  rw [if_pos hw]
  unfold Oper.wp
  simp [execOp, ho, resolve, invoke, builtin, hs, hx, hrun, Result.andThen]
  exact hK _ _ h

theorem run_append_syms (v src : Value) (n base n₀ : Nat) (xs ys : List (Int × Int)) (ty : TypeId) (w : World) (hown : w.ownsRow base 75 2 v n (symCells xs)) (hH : Syms n₀ w src ys) (hb : base ≤ w.heap.size) (h1 : n ≤ 4294967296) (h2 : ys.length ≤ 4294967296) :
    ∃ v' w', (Builtin.append_ #[42, 42] ty #[v, src]).run Try.prog w = .ok v' w' ∧ w'.ownsRow base 75 2 v' (n + ys.length) (symCells (xs ++ ys)) ∧ w.grownBy w' v.ownBlock := by
  obtain ⟨i0, hi, hz0, hz1, hz2⟩ := info_parts infoSym
  rcases hH with ⟨⟨a, cap, rfl, ha⟩, rfl⟩ | ⟨b, off, cap, rfl, _, hcs⟩
  · cases a with
    | none =>
      obtain rfl := ha rfl
      exact ⟨v, w, run_append_owned_none w base 42 ty 75 i0 2 Try.underlying42 hi v n _ hown, by simpa using hown, World.grownBy.refl _ _⟩
    | some ad =>
      obtain ⟨v', w', hr, ho, hg, _⟩ := run_append_own (P := Try.prog) w base 42 ty 75 i0 (.agg #[.int .i64 0, .int .i64 0]) 2 16 Try.underlying42 hi hz0 hz1 hz2 rfl (by decide) v n _ hown ad 0 cap [] rfl (by simp) (by simp) (by unfold maxLen; omega) (by omega) hb
      exact ⟨v', w', hr, by simpa using ho, hg⟩
  · obtain ⟨v', w', hr, ho, hg, _⟩ := run_append_own (P := Try.prog) w base 42 ty 75 i0 (.agg #[.int .i64 0, .int .i64 0]) 2 16 Try.underlying42 hi hz0 hz1 hz2 rfl (by decide) v n _ hown ⟨b, off, none⟩ ys.length cap (symCells ys) (symCells_len ys) (syms_cells hcs) (symCells_one ys) (by unfold maxLen; omega) (by omega) hb
    exact ⟨v', w', hr, by rw [symCells_append]; exact ho, hg⟩

end Go.Proofs.Ytmjidhnlofpliab

/-
  What volutekeep.Pile, TwinPile, SpoilSyms answer, for all piles in memory.
-/
namespace Go.Proofs.Ytmjidhnlofpliab
open Go.RowKit

set_option maxRecDepth 100000 in
set_option maxHeartbeats 2000000 in
/-- volutekeep.Pile. -/
theorem keepPile_any (n p n' p' : Int) (v v' : Value) (xs ys : List (Int × Int)) (w : World) (hy : ys.length ≤ 4611686018427387904) (ha : Syms w.heap.size w v xs) (hb : Syms w.heap.size w v' ys) :
    Calls Try.prog 39 #[.agg #[.int .i64 n, .int .i64 p, v], .agg #[.int .i64 n', .int .i64 p', v']] w fun e w' => e = .returned (.bool (decide (n = n' ∧ p = p' ∧ xs = ys))) ∧ Below w.heap.size w w' := by
  have b1 := ((Below.refl w.heap.size w).alloc (Nat.le_refl _) (.cells #[.int .i64 n, .int .i64 p, v] 44)).alloc (by simp) (.cells #[.int .i64 n', .int .i64 p', v'] 44)
  have ha1 := ha.next b1
  have hb1 := hb.next b1
  obtain ⟨a, cap, rfl⟩ := ha.shape
  obtain ⟨a', cap', rfl⟩ := hb.shape
  clear ha hb
  by_cases hn : n = n'
  · have e1 : (n == n') = true := by simp [hn]
    by_cases hp : p = p'
    · have e2 : (p == p') = true := by simp [hp]
      have HD : Hid (decide (n = n' ∧ p = p' ∧ xs = ys) = decide (xs = ys)) := by
        show decide (n = n' ∧ p = p' ∧ xs = ys) = decide (xs = ys)
        exact decide_eq_decide.2 ⟨fun h => h.2.2, fun h => ⟨hn, hp, h⟩⟩
      clear hn hp
      go_enter Try.func39, Try.ntmps39
      go_wp2_with fail
      refine (syms_any _ _ xs ys _ _ _ hy ha1 hb1).mono ?_
      rw [← HD.out]
      obtain ⟨D, hD⟩ : ∃ D, decide (n = n' ∧ p = p' ∧ xs = ys) = D := ⟨_, rfl⟩
      have HDD : Hid (decide (n = n' ∧ p = p' ∧ xs = ys) = D) := hD
      rw [hD]
      clear hD HD
      rintro e w2 ⟨rfl, q, rfl⟩
      go_wp2
      go_ret
      exact ⟨by rw [HDD.out]; rfl, below_drewN b1 q⟩
    · have e2 : (p == p') = false := by simp [hp]
      have HD : Hid (decide (n = n' ∧ p = p' ∧ xs = ys) = false) := decide_eq_false fun h => hp h.2.1
      clear hn hp ha1 hb1
      go_enter Try.func39, Try.ntmps39
      go_wp2
      go_ret
      exact ⟨by rw [HD.out]; rfl, b1⟩
  · have e1 : (n == n') = false := by simp [hn]
    have HD : Hid (decide (n = n' ∧ p = p' ∧ xs = ys) = false) := decide_eq_false fun h => hn h.1
    clear hn ha1 hb1
    go_enter Try.func39, Try.ntmps39
    go_wp2
    go_ret
    exact ⟨by rw [HD.out]; rfl, b1⟩

end Go.Proofs.Ytmjidhnlofpliab
