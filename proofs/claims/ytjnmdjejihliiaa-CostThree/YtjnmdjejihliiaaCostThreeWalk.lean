/-
  CostThree: the walk: whatever the states and the places, the law answers true, and nothing that lay has turned. (Written by tpl_costthree.py.)
-/
import Derived.Test.YtjnmdjejihliiaaCostWakes
import Derived.Test.YtjnmdjejihliiaaCostThreeNums
import Derived.Test.YtjnmdjejihliiaaCostPlaces
import Derived.Test.YtjnmdjejihliiaaSymbolCode
import Derived.Test.YtjnmdjejihliiaaPlaces
import Derived.Test.YtjnmdjejihliiaaSymAppend
namespace Go.Proofs.Ytjnmdjejihliiaa
open Go.RowKit

set_option maxRecDepth 100000 in
set_option maxHeartbeats 2000000 in
theorem own_any (s : Nat) (hs : s < 4294967296) (a : Option Addr) (cap : Nat) (zs : List Int) (h16 : zs.length ≤ 16) (w : World) (hz : Holds .i64 w.heap.size w (.slice a zs.length cap) zs) :
    Calls Try.prog 12 #[.int .u32 s, .slice a zs.length cap] w fun e W' => ∃ r, e = .returned (.tuple #[r, .bool true]) ∧ W'.ownsRow w.heap.size 31 2 r zs.length (symCells (ownL s zs)) ∧ Below w.heap.size w W' := by
  obtain ⟨i0, hi, hz0, hz1, hz2⟩ := info_parts infoSym
  go_enter Try.func12, Try.ntmps12
  go_wp2
  go_loopw [6, 7] (fun v i wr => ∃ k : Nat, k ≤ zs.length ∧ i = .int .i64 k ∧ wr.ownsRow w.heap.size 31 2 v k (symCells (ownL s (zs.take k))) ∧ Below w.heap.size w wr) (fun _ i _ => zs.length - (intOf i).toNat)
  case atStart => exact ⟨0, Nat.zero_le _, rfl, World.ownsRow_nil _ _ _ _, Below.refl _ _⟩
  case round =>
    obtain ⟨k, hk, rfl, ho, bb⟩ := hrel
    by_cases hlt : k < zs.length
    · obtain ⟨z, hzk⟩ : ∃ z, zs[k]? = some z := ⟨zs[k], by simp⟩
      obtain ⟨b, off, rfl, hb, hcell⟩ := holds_at hz rfl (by omega)
      have c1 : wr.cell? ⟨b, off + k, none⟩ = some (.int .i64 z) := (bb.cell (p := ⟨b, off + k, none⟩) hb).trans (hcell k z hzk)
      have ea := place_walk z
      have hAl := placeN_lt z
      have HBN : Hid (ownL s (zs.take (k + 1)) = ownL s (zs.take k) ++ [((placeN z : Int), ((symN s (placeN z) : Nat) : Int))]) := by
        show ownL s (zs.take (k + 1)) = _
        unfold ownL
        rw [List.take_add_one, hzk, List.map_append]
        rfl
      obtain ⟨A, hA⟩ : ∃ A, placeN z = A := ⟨_, rfl⟩
      rw [hA] at ea hAl HBN
      have ewA : IntKind.i64.wrap (A : Int) = (A : Int) := by rw [IntKind.wrap_i64]; omega
      have hvl := symN_lt s A
      obtain ⟨v, hv⟩ : ∃ v, symN s A = v := ⟨_, rfl⟩
      have HV : Hid (symN s A = v) := hv
      rw [hv] at HBN hvl
      clear hcell hzk hA hv
      go_wp2_with fail
      refine (Of_ok s A hs (by omega) wr).mono ?_
      rw [HV.out]
      rintro e wz ⟨rfl, rfl⟩
      go_wp2_with (at_builtin; refine wpList_append_own _ rfl _ _ 23 rfl w.heap.size 31 i0 (.agg #[.int .i64 0, .int .i64 0]) 2 16 Try.underlying23 hi hz0 hz1 hz2 rfl (by decide) _ k _ rfl (ho.alloc _) ⟨wr.heap.size, 0, none⟩ 1 1 [.int .i64 A, .int .i64 v] rfl rfl (cell_two_new _ _ _ _) (by simp [Value.oneCell']) (by unfold maxLen; omega) (by omega) (by have := bb.size; simp; omega) ?_; intro v3 w3 hown3 hgrow3 _)
      have b3 : Below w.heap.size w w3 := (bb.alloc bb.size _).trans ((Below.refl _ _).grown hgrow3 (by have := bb.size; simp; omega) (fun q e => (ho.lt q e).1))
      refine ⟨⟨k + 1, by omega, by go_num, ?_, b3⟩, by simp [intOf]; omega⟩
      rw [HBN.out, symCells_snoc]
      exact hown3
    · obtain rfl : k = zs.length := by omega
      rw [List.take_length] at ho
      clear hz
      go_wp2
      go_ret2
      exact ⟨_, rfl, ho, bb⟩

set_option maxRecDepth 100000 in
set_option maxHeartbeats 2000000 in
theorem costThree_far (x y z : Nat) (a : Option Addr) (n cap : Nat) (h : 16 < n) (w : World) :
    Calls Try.prog 5 #[.int .u32 x, .int .u32 y, .int .u32 z, .slice a n cap] w fun e w' => e = .returned (.bool true) ∧ Below w.heap.size w w' := by
  go_enter Try.func5, Try.ntmps5
  go_wp2
  go_ret
  exact ⟨rfl, Below.refl _ _⟩

set_option maxRecDepth 100000 in
set_option maxHeartbeats 4000000 in
theorem costThree_in (x y z : Nat) (hx : x < 4294967296) (hy : y < 4294967296) (hzz : z < 4294967296) (a : Option Addr) (cap : Nat) (zs : List Int) (h16 : zs.length ≤ 16) (w : World) (hz : Holds .i64 w.heap.size w (.slice a zs.length cap) zs) :
    Calls Try.prog 5 #[.int .u32 x, .int .u32 y, .int .u32 z, .slice a zs.length cap] w fun e w' => e = .returned (.bool true) ∧ Below w.heap.size w w' := by
  have bb := Below.refl w.heap.size w
  have HLx : Hid ((ownL x zs).length = zs.length) := ownL_len x zs
  have HKx : Hid (CostOk (ownL x zs)) := ownL_ok x zs
  have HLy : Hid ((ownL y zs).length = zs.length) := ownL_len y zs
  have HKy : Hid (CostOk (ownL y zs)) := ownL_ok y zs
  have HLz : Hid ((ownL z zs).length = zs.length) := ownL_len z zs
  have HKz : Hid (CostOk (ownL z zs)) := ownL_ok z zs
  have H0 : Hid (costN x (ownL x zs) = 0) := cost_own x zs
  have H3 := cost_three x y z zs
  have HSW := cost_swap x y zs
  have hle1 := costN_le (s := x) HKy.out
  have hle2 := costN_le (s := x) HKz.out
  have hle3 := costN_le (s := z) HKy.out
  rw [HLy.out] at hle1 hle3
  rw [HLz.out] at hle2
  obtain ⟨P, hP⟩ : ∃ P, costN x (ownL y zs) = P := ⟨_, rfl⟩
  obtain ⟨Q, hQ⟩ : ∃ Q, costN x (ownL z zs) = Q := ⟨_, rfl⟩
  obtain ⟨R, hR⟩ : ∃ R, costN z (ownL y zs) = R := ⟨_, rfl⟩
  have HP : Hid (costN x (ownL y zs) = P) := hP
  have HP2 : Hid (costN y (ownL x zs) = P) := by
    show costN y (ownL x zs) = P
    rw [← HSW, hP]
  have HQ : Hid (costN x (ownL z zs) = Q) := hQ
  have HR : Hid (costN z (ownL y zs) = R) := hR
  rw [hP, hQ, hR] at H3
  rw [hP] at hle1
  rw [hQ] at hle2
  rw [hR] at hle3
  have d3 : decide ((P : Int) ≤ (Q : Int) + (R : Int)) = true := decide_eq_true (by omega)
  have dP : ((P : Int) == (P : Int)) = true := by simp
  have hP128 : P ≤ 128 := by omega
  have hQ128 : Q ≤ 128 := by omega
  have hR128 : R ≤ 128 := by omega
  clear hP hQ hR HSW H3 hle1 hle2 hle3
  go_enter Try.func5, Try.ntmps5
  go_wp2_with fail
  refine (own_any x hx a cap zs h16 w hz).mono ?_
  rintro e w2 ⟨rx, rfl, ox, b1⟩
  replace hz := hz.next b1
  replace bb := bb.trans (b1.mono bb.size)
  clear b1
  obtain ⟨ax, cx, rfl⟩ : ∃ a c, rx = .slice a zs.length c := by have := (syms_of_row ox).shape; rwa [HLx.out] at this
  go_wp2_with fail
  refine (own_any y hy a cap zs h16 w2 hz).mono ?_
  rintro e w4 ⟨ry, rfl, oy, b3⟩
  replace hz := hz.next b3
  replace ox := symRow_below ox b3 (Nat.le_refl _)
  replace bb := bb.trans (b3.mono bb.size)
  clear b3
  obtain ⟨ay, cy, rfl⟩ : ∃ a c, ry = .slice a zs.length c := by have := (syms_of_row oy).shape; rwa [HLy.out] at this
  go_wp2_with fail
  refine (own_any z hzz a cap zs h16 w4 hz).mono ?_
  rintro e w6 ⟨rz, rfl, oz, b5⟩
  replace hz := hz.next b5
  replace ox := symRow_below ox b5 (Nat.le_refl _)
  replace oy := symRow_below oy b5 (Nat.le_refl _)
  replace bb := bb.trans (b5.mono bb.size)
  clear b5
  obtain ⟨az, cz, rfl⟩ : ∃ a c, rz = .slice a zs.length c := by have := (syms_of_row oz).shape; rwa [HLz.out] at this
  go_wp2_with fail
  have hS : Syms w6.heap.size w6 (.slice ax (ownL x zs).length cx) (ownL x zs) := by rw [HLx.out]; exact syms_of_row ox
  rw [show Value.slice ax zs.length cx = Value.slice ax (ownL x zs).length cx by rw [HLx.out]]
  skip
  refine (CostOf_ok x hx ax cx (ownL x zs) (by rw [HLx.out]; exact h16) HKx.out w6 hS).mono ?_
  rw [H0.out]
  rintro e w8 ⟨rfl, b7⟩
  replace hz := hz.next b7
  replace ox := symRow_below ox b7 (Nat.le_refl _)
  replace oy := symRow_below oy b7 (Nat.le_refl _)
  replace oz := symRow_below oz b7 (Nat.le_refl _)
  replace bb := bb.trans (b7.mono bb.size)
  clear b7
  clear hS
  go_wp2_with fail
  have hS : Syms w8.heap.size w8 (.slice ay (ownL y zs).length cy) (ownL y zs) := by rw [HLy.out]; exact syms_of_row oy
  rw [show Value.slice ay zs.length cy = Value.slice ay (ownL y zs).length cy by rw [HLy.out]]
  skip
  refine (CostOf_ok x hx ay cy (ownL y zs) (by rw [HLy.out]; exact h16) HKy.out w8 hS).mono ?_
  rw [HP.out]
  rintro e w10 ⟨rfl, b9⟩
  replace hz := hz.next b9
  replace ox := symRow_below ox b9 (Nat.le_refl _)
  replace oy := symRow_below oy b9 (Nat.le_refl _)
  replace oz := symRow_below oz b9 (Nat.le_refl _)
  replace bb := bb.trans (b9.mono bb.size)
  clear b9
  clear hS
  go_wp2_with fail
  have hS : Syms w10.heap.size w10 (.slice ax (ownL x zs).length cx) (ownL x zs) := by rw [HLx.out]; exact syms_of_row ox
  skip
  refine (CostOf_ok y hy ax cx (ownL x zs) (by rw [HLx.out]; exact h16) HKx.out w10 hS).mono ?_
  rw [HP2.out]
  rintro e w12 ⟨rfl, b11⟩
  replace hz := hz.next b11
  replace ox := symRow_below ox b11 (Nat.le_refl _)
  replace oy := symRow_below oy b11 (Nat.le_refl _)
  replace oz := symRow_below oz b11 (Nat.le_refl _)
  replace bb := bb.trans (b11.mono bb.size)
  clear b11
  clear hS
  go_wp2_with fail
  have hS : Syms w12.heap.size w12 (.slice az (ownL z zs).length cz) (ownL z zs) := by rw [HLz.out]; exact syms_of_row oz
  rw [show Value.slice az zs.length cz = Value.slice az (ownL z zs).length cz by rw [HLz.out]]
  skip
  refine (CostOf_ok x hx az cz (ownL z zs) (by rw [HLz.out]; exact h16) HKz.out w12 hS).mono ?_
  rw [HQ.out]
  rintro e w14 ⟨rfl, b13⟩
  replace hz := hz.next b13
  replace ox := symRow_below ox b13 (Nat.le_refl _)
  replace oy := symRow_below oy b13 (Nat.le_refl _)
  replace oz := symRow_below oz b13 (Nat.le_refl _)
  replace bb := bb.trans (b13.mono bb.size)
  clear b13
  clear hS
  go_wp2_with fail
  have hS : Syms w14.heap.size w14 (.slice ay (ownL y zs).length cy) (ownL y zs) := by rw [HLy.out]; exact syms_of_row oy
  skip
  refine (CostOf_ok z hzz ay cy (ownL y zs) (by rw [HLy.out]; exact h16) HKy.out w14 hS).mono ?_
  rw [HR.out]
  rintro e w16 ⟨rfl, b15⟩
  replace hz := hz.next b15
  replace ox := symRow_below ox b15 (Nat.le_refl _)
  replace oy := symRow_below oy b15 (Nat.le_refl _)
  replace oz := symRow_below oz b15 (Nat.le_refl _)
  replace bb := bb.trans (b15.mono bb.size)
  clear b15
  clear hS
  go_wp2_with fail
  refine (costWakes_any w16).mono ?_
  rintro e w18 ⟨rfl, b17⟩
  replace hz := hz.next b17
  replace ox := symRow_below ox b17 (Nat.le_refl _)
  replace oy := symRow_below oy b17 (Nat.le_refl _)
  replace oz := symRow_below oz b17 (Nat.le_refl _)
  replace bb := bb.trans (b17.mono bb.size)
  clear b17
  go_wp2
  go_ret
  exact ⟨rfl, bb⟩

/-- The law, of whatever states and places. -/
theorem costThree_walk (x y z : Int) (a3 : Option Addr) (len3 cap3 : Nat) (z3 : List Int) (w : World) (hx : (Lit.int .u32 x).wf = true) (hy : (Lit.int .u32 y).wf = true) (hz : (Lit.int .u32 z).wf = true) (w3 : IsRow .i64 w a3 len3 cap3 z3) :
    Calls Try.prog 5 #[.int .u32 x, .int .u32 y, .int .u32 z, .slice a3 len3 cap3] w fun e w' => e = .returned (.bool true) ∧ Below w.heap.size w w' := by
  have bx := bounds_u32 hx
  have byy := bounds_u32 hy
  have bz := bounds_u32 hz
  obtain ⟨X, rfl⟩ := Int.eq_ofNat_of_zero_le (a := x) bx.1
  obtain ⟨Y, rfl⟩ := Int.eq_ofNat_of_zero_le (a := y) byy.1
  obtain ⟨Z, rfl⟩ := Int.eq_ofNat_of_zero_le (a := z) bz.1
  obtain ⟨zs, rfl, h, _⟩ := holds_of_isRow w3
  by_cases h16 : 16 < zs.length
  · exact costThree_far X Y Z a3 _ cap3 h16 w
  · exact costThree_in X Y Z (by omega) (by omega) (by omega) a3 cap3 zs (by omega) w h

end Go.Proofs.Ytjnmdjejihliiaa
