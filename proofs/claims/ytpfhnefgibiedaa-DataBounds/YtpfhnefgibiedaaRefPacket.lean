/-
  What the page's Packet answers, of data that may be. (Written by tpl_refdata.py.)
-/
import Derived.Test.YtpfhnefgibiedaaRefData
import Derived.Test.YtpfhnefgibiedaaRefSums
import Derived.Test.YtpfhnefgibiedaaIntRow
import Derived.Test.YtpfhnefgibiedaaRegionHand
import Derived.Deep.Cut
import Derived.Deep.CutRange
import Derived.Deep.DeepCutAuto
namespace Go.Proofs.Ytpfhnefgibiedaa
open Go.RowKit

theorem row_shapeP {W : World} {base k : Nat} {e : TypeId} {v : Value} {xs : List Value} (h : W.ownsRow base e 1 v k xs) : ∃ a c, v = .slice a k c := by
  rcases h.2 with ⟨e, e0⟩ | ⟨g, c, cur, e, _⟩
  · exact ⟨_, _, by rw [e, e0]⟩
  · exact ⟨_, _, e⟩
/-- A row of more cells than a block has lies in another block. -/
theorem row_not_box {W : World} {base k B : Nat} {v : Value} {xs : List Value} {t : TypeId} {cs : Array Value} (h : W.ownsRow base 5 1 v k xs) (x : Box W B t cs) (hk : cs.size < k) : v.ownBlock ≠ some B := by
  rcases h.2 with ⟨e, e0⟩ | ⟨g, c, cur, e, _, hg, hkc, _, hs, _⟩
  · omega
  · subst e
    intro e
    cases e
    have hx : W.heap[g]? = some (.cells cs t) := x
    rw [hg] at hx
    cases hx
    omega
theorem Box.grown {W W' : World} {B : Nat} {t : TypeId} {cs : Array Value} {ob : Option Nat} (h : Box W B t cs) (hg : W.grownBy W' ob) (hne : ob ≠ some B) : Box W' B t cs := (hg.block B h.lt hne.symm).trans h
theorem row_box {W : World} {B base : Nat} {x : Int} (h : Box W B 5 #[.int .u8 x]) (hb : base ≤ B) : W.ownsRow base 5 1 (.slice (some ⟨B, 0, none⟩) 1 1) 1 ([x].map (Value.int .u8)) :=
  ⟨rfl, .inr ⟨B, 1, #[.int .u8 x], rfl, hb, h, Nat.le_refl _, by unfold maxLen; omega, rfl, rfl⟩⟩
theorem box_holds1 {W : World} {B : Nat} {t : TypeId} {x : Int} (h : Box W B t #[.int .u8 x]) : Holds .u8 W.heap.size W (.slice (some ⟨B, 0, none⟩) 1 1) [x] :=
  .inr ⟨B, 0, 1, rfl, h.lt, fun j hj => by
    have : j = 0 := by simpa using hj
    subst this
    exact h.cell 0 _ rfl⟩

set_option maxRecDepth 100000 in
set_option maxHeartbeats 8000000 in
theorem refPacket_any (s r f : Int) (a : Option Addr) (cap : Nat) (xs : List Int) (h : RightD s r f xs) (bx : ∀ z ∈ xs, 0 ≤ z ∧ z ≤ 255) (w : World) (ha : Holds .u8 w.heap.size w (.slice a xs.length cap) xs) :
    Calls Try.prog 15 #[.agg #[.int .i64 s, .int .i64 r, .int .i64 f, .slice a xs.length cap]] w fun e W' => ∃ q, e = .returned q ∧ W'.ownsRow w.heap.size 5 1 q (xs.length + 11) ((packD s r f xs).map (Value.int .u8)) ∧ Below w.heap.size w W' := by
  obtain ⟨_, hr, _, hx1, hx2⟩ := h
  have ewr : IntKind.u8.wrap r = r := by rw [IntKind.wrap_u8]; omega
  have ewl : IntKind.u8.wrap (xs.length : Int) = (xs.length : Int) := by rw [IntKind.wrap_u8]; omega
  have b1 : Below w.heap.size w (w.alloc (.cells #[.int .i64 s, .int .i64 r, .int .i64 f, .slice a xs.length cap] 24)) := (Below.refl w.heap.size w).alloc (Nat.le_refl _) _
  have x1 := Box.new w 24 #[.int .i64 s, .int .i64 r, .int .i64 f, .slice a xs.length cap]
  have HBX : Hid (∀ z ∈ xs, 0 ≤ z ∧ z ≤ 255) := bx
  have HHB : Hid (∀ z ∈ headD s r f xs.length, 0 ≤ z ∧ z ≤ 255) := headD_bd hr (by omega)
  clear bx
  go_enter Try.func15, Try.ntmps15
  go_wp2_with fail
  obtain ⟨W1, hW1⟩ : ∃ W, w.alloc (.cells #[.int .i64 s, .int .i64 r, .int .i64 f, .slice a xs.length cap] 24) = W := ⟨_, rfl⟩
  have hs1 : W1.heap.size = w.heap.size + 1 := by rw [← hW1]; simp
  rw [hW1] at b1 x1 ⊢
  clear hW1
  obtain ⟨n1, hn1⟩ : ∃ n, w.heap.size + 1 = n := ⟨_, rfl⟩
  rw [hn1] at hs1 ⊢
  have hwn : w.heap.size ≤ n1 := by omega
  have hlt1 : w.heap.size < n1 := by omega
  have k1 := x1.cell 1 _ rfl
  have k2 := x1.cell 2 _ rfl
  have k3 := x1.cell 3 _ rfl
  clear hn1
  refine (refBe_any s 4 (by decide) _).mono ?_
  rintro e w2 ⟨q, rfl, oq, b2⟩
  have xA : Box w2 n1 5 #[.int .u8 68] := hs1 ▸ (Box.new W1 5 #[.int .u8 68]).next b2
  have bA : Below n1 W1 (W1.alloc (.cells #[.int .u8 68] 5)) := (Below.refl _ _).alloc (by omega) _
  have hS : Below n1 W1 w2 := bA.trans (b2.mono (by simp; omega))
  have hn2 : n1 ≤ w2.heap.size := by have := hS.size; omega
  obtain ⟨v3, w3, hr3, o3, hg3⟩ := run_append_u8 _ _ 1 n1 _ _ _ 22 w2 (row_box xA (Nat.le_refl _)) (holds_of_row oq) hn2 (by decide) (by simp [beBytes_len])
  replace hS := hS.trans ((Below.refl _ _).grown hg3 hn2 (fun z e => by cases e; exact Nat.le_refl _))
  obtain ⟨oa, oc, rfl⟩ := row_shapeP o3
  clear xA bA hg3 oq b2 hn2
  go_wp2_with (at_builtin; refine wpList_append_run rfl _ _ 22 rfl _ _ rfl rfl _ _ hr3 ?_)
  clear hr3
  rw [beBytes_len] at o3 ⊢
  go_cut [3] (fun v wx => ∃ va vc, v = .slice va 9 vc ∧ wx.ownsRow n1 5 1 (.slice va 9 vc) 9 ((headD s r f xs.length).map (Value.int .u8)) ∧ Below n1 W1 wx)
  case first =>
    refine wp_region_held_drew (S := fun w' => Below n1 W1 w') (by kernel_rfl) (hS.drew) (fun hHeld => ?_)
    replace hS := hS.drew
    have oO : w3.drew.ownsRow n1 5 1 (.slice oa 5 oc) 5 ((68 :: beBytes 4 s).map (Value.int .u8)) := o3
    clear o3
    generalize w3.drew = wk0 at *
    refine held_take (i := 0) (d := 9) (v := ?v1) rfl rfl (by kernel_rfl) (by kernel_rfl) (by kernel_rfl) (fun _ _ _ h => h) (Or.inl ⟨by kernel_rfl, ?hy1⟩) hHeld ?rest1
    case hy1 =>
      intro wx hSw
      clear hSw
      go_simp
      with_reducible rfl
    simp only [List.setIfInBounds_toArray, List.set_cons_zero, List.set_cons_succ]
    refine held_take (i := 1) (d := 10) (v := ?v2) rfl rfl (by kernel_rfl) (by kernel_rfl) (by kernel_rfl) (fun _ _ _ h => h) (Or.inl ⟨by kernel_rfl, ?hy2⟩) hHeld ?rest2
    case hy2 =>
      intro wx hSw
      clear hSw
      go_simp
      with_reducible rfl
    simp only [List.setIfInBounds_toArray, List.set_cons_zero, List.set_cons_succ]
    refine held_take (i := 2) (d := 11) (v := ?v3) rfl rfl (by kernel_rfl) (by kernel_rfl) (by kernel_rfl) (fun _ _ _ h => h) (Or.inl ⟨by kernel_rfl, ?hy3⟩) hHeld ?rest3
    case hy3 =>
      intro wx hSw
      have q0 := (hSw.cell (p := ⟨w.heap.size, 1, none⟩) hlt1).trans k1
      clear hSw
      go_simp
      with_reducible rfl
    simp only [List.setIfInBounds_toArray, List.set_cons_zero, List.set_cons_succ]
    refine held_take (i := 3) (d := 12) (v := ?v4) rfl rfl (by kernel_rfl) (by kernel_rfl) (by kernel_rfl) (fun _ _ _ h => h) (Or.inl ⟨by kernel_rfl, ?hy4⟩) hHeld ?rest4
    case hy4 =>
      intro wx hSw
      clear hSw
      go_simp
      with_reducible rfl
    simp only [List.setIfInBounds_toArray, List.set_cons_zero, List.set_cons_succ]
    refine held_take (i := 6) (d := 15) (v := ?v5) rfl rfl (by kernel_rfl) (by kernel_rfl) (by kernel_rfl) (fun _ _ _ h => h) (Or.inl ⟨by kernel_rfl, ?hy5⟩) hHeld ?rest5
    case hy5 =>
      intro wx hSw
      clear hSw
      go_simp
      with_reducible rfl
    simp only [List.setIfInBounds_toArray, List.set_cons_zero, List.set_cons_succ]
    refine held_take (i := 7) (d := 16) (v := ?v6) rfl rfl (by kernel_rfl) (by kernel_rfl) (by kernel_rfl) (fun _ _ _ h => h) (Or.inl ⟨by kernel_rfl, ?hy6⟩) hHeld ?rest6
    case hy6 =>
      intro wx hSw
      have q0 := (hSw.cell (p := ⟨w.heap.size, 2, none⟩) hlt1).trans k2
      clear hSw
      go_simp
      with_reducible rfl
    simp only [List.setIfInBounds_toArray, List.set_cons_zero, List.set_cons_succ]
    refine held_take (i := 10) (d := 19) (v := ?v7) rfl rfl (by kernel_rfl) (by kernel_rfl) (by kernel_rfl) (fun _ _ _ h => h) (Or.inl ⟨by kernel_rfl, ?hy7⟩) hHeld ?rest7
    case hy7 =>
      intro wx hSw
      clear hSw
      go_simp
      with_reducible rfl
    simp only [List.setIfInBounds_toArray, List.set_cons_zero, List.set_cons_succ]
    refine held_take (i := 11) (d := 20) (v := ?v8) rfl rfl (by kernel_rfl) (by kernel_rfl) (by kernel_rfl) (fun _ _ _ h => h) (Or.inl ⟨by kernel_rfl, ?hy8⟩) hHeld ?rest8
    case hy8 =>
      intro wx hSw
      have q0 := (hSw.cell (p := ⟨w.heap.size, 3, none⟩) hlt1).trans k3
      clear hSw
      go_simp
      with_reducible rfl
    simp only [List.setIfInBounds_toArray, List.set_cons_zero, List.set_cons_succ]
    refine held_take (i := 12) (d := 21) (v := ?v9) rfl rfl (by kernel_rfl) (by kernel_rfl) (by kernel_rfl) (fun _ _ _ h => h) (Or.inl ⟨by kernel_rfl, ?hy9⟩) hHeld ?rest9
    case hy9 =>
      intro wx hSw
      clear hSw
      go_simp
      with_reducible rfl
    simp only [List.setIfInBounds_toArray, List.set_cons_zero, List.set_cons_succ]
    refine held_take (i := 13) (d := 22) (v := ?v10) rfl rfl (by kernel_rfl) (by kernel_rfl) (by kernel_rfl) (fun _ _ _ h => h) (Or.inl ⟨by kernel_rfl, ?hy10⟩) hHeld ?rest10
    case hy10 =>
      intro wx hSw
      clear hSw
      go_simp
      with_reducible rfl
    simp only [List.setIfInBounds_toArray, List.set_cons_zero, List.set_cons_succ]
    refine wpAnyH_ready (rs := [4, 14]) (by kernel_rfl) (by simp) ?_
    refine AllReadyH.cons rfl (fun K hK => ?_) ?_
    · go_simp
      have xB1 := Box.new wk0 5 #[.int .u8 r]
      have bA : Below wk0.heap.size wk0 (wk0.alloc (.cells #[.int .u8 r] 5)) := (Below.refl _ _).alloc (Nat.le_refl _) _
      replace oO := oO.alloc (.cells #[.int .u8 r] 5)
      replace hS := hS.trans (bA.mono (by have := hS.size; omega))
      clear bA hHeld
      generalize (wk0.alloc (.cells #[.int .u8 r] 5)) = wk1 at *
      refine hK.out _ _ (hS) (fun hHeld => ?_)
      clear hK K
      refine wpAnyH_ready (rs := [5, 14]) (by kernel_rfl) (by simp) ?_
      refine AllReadyH.cons rfl (fun K hK => ?_) ?_
      · obtain ⟨v9, wk2, hr9, o9, g9⟩ := run_append_u8 _ _ 5 n1 _ _ _ 22 wk1 oO (box_holds1 xB1) (by have := hS.size; omega) (by decide) (by simp)
        replace hS := hS.trans ((Below.refl _ _).grown g9 (by have := hS.size; omega) (fun z e => (oO.lt z e).1))
        obtain ⟨va, vc, rfl⟩ := row_shapeP o9
        refine step_append_known rfl _ _ 22 rfl _ _ rfl rfl _ _ hr9 ?_
        simp only [Act.put, List.setIfInBounds_toArray]
        replace oO := o9
        clear hr9 g9 o9
        clear xB1
        refine hK.out _ _ (hS) (fun hHeld => ?_)
        clear hK K
        refine wpAnyH_ready (rs := [8, 14]) (by kernel_rfl) (by simp) ?_
        refine AllReadyH.cons rfl (fun K hK => ?_) ?_
        · go_simp
          go_wp2_with (go_at_call 25; refine (refBe_any f 2 (by decide) _).mono ?_; rintro e wk3 ⟨q, rfl, oE, b8⟩)
          obtain ⟨qa, qc, rfl⟩ := row_shapeP oE
          replace oO := row_below oO b8 (Nat.le_refl _)
          replace oE := row_base oE (Nat.zero_le _)
          replace hS := hS.trans (b8.mono (by have := hS.size; omega))
          clear b8
          refine hK.out _ _ (hS) (fun hHeld => ?_)
          clear hK K
          refine wpAnyH_ready (rs := [9, 14]) (by kernel_rfl) (by simp) ?_
          refine AllReadyH.cons rfl (fun K hK => ?_) ?_
          · obtain ⟨v9, wk4, hr9, o9, g9⟩ := run_append_u8 _ _ 6 n1 _ _ _ 22 wk3 oO (holds_of_row oE) (by have := hS.size; omega) (by decide) (by simp [beBytes_len])
            replace hS := hS.trans ((Below.refl _ _).grown g9 (by have := hS.size; omega) (fun z e => (oO.lt z e).1))
            obtain ⟨va, vc, rfl⟩ := row_shapeP o9
            refine step_append_known rfl _ _ 22 rfl _ _ rfl rfl _ _ hr9 ?_
            simp only [Act.put, List.setIfInBounds_toArray]
            replace oO := o9
            clear hr9 g9 o9
            clear oE
            refine hK.out _ _ (hS) (fun hHeld => ?_)
            clear hK K
            refine wpAnyH_ready (rs := [14]) (by kernel_rfl) (by simp) ?_
            refine AllReadyH.cons rfl (fun K hK => ?_) AllReadyH.nil
            go_simp
            have xB2 := Box.new wk4 5 #[.int .u8 (xs.length : Int)]
            have bA : Below wk4.heap.size wk4 (wk4.alloc (.cells #[.int .u8 (xs.length : Int)] 5)) := (Below.refl _ _).alloc (Nat.le_refl _) _
            replace oO := oO.alloc (.cells #[.int .u8 (xs.length : Int)] 5)
            replace hS := hS.trans (bA.mono (by have := hS.size; omega))
            clear bA hHeld
            generalize (wk4.alloc (.cells #[.int .u8 (xs.length : Int)] 5)) = wk5 at *
            refine hK.out _ _ (hS) (fun hHeld => ?_)
            clear hK K
            refine wpAnyH_ready (rs := [15]) (by kernel_rfl) (by simp) ?_
            refine AllReadyH.cons rfl (fun K hK => ?_) AllReadyH.nil
            obtain ⟨v9, wk6, hr9, o9, g9⟩ := run_append_u8 _ _ 8 n1 _ _ _ 22 wk5 oO (box_holds1 xB2) (by have := hS.size; omega) (by decide) (by simp)
            replace hS := hS.trans ((Below.refl _ _).grown g9 (by have := hS.size; omega) (fun z e => (oO.lt z e).1))
            obtain ⟨va, vc, rfl⟩ := row_shapeP o9
            refine step_append_known rfl _ _ 22 rfl _ _ rfl rfl _ _ hr9 ?_
            simp only [Act.put, List.setIfInBounds_toArray]
            replace oO := o9
            clear hr9 g9 o9
            refine hK.out _ _ (hS) (fun hHeld => ?_)
            clear hK K
            refine wpAnyH_ready (rs := [16]) (by kernel_rfl) (by simp) ?_
            refine AllReadyH.cons rfl (fun K hK => ?_) AllReadyH.nil
            go_simp
            refine hK.out _ _ hHeld (fun hHeld => ?_)
            clear hK K
            refine wpAnyH_done (by kernel_rfl) ?_ _
            go_wp2_with fail
            go_meet
            exact ⟨_, _, rfl, by simpa [headD, List.append_assoc] using oO, hS⟩
          refine AllReadyH.cons rfl (fun K hK => ?_) ?_
          · go_simp
            have xB2 := Box.new wk3 5 #[.int .u8 (xs.length : Int)]
            have bA : Below wk3.heap.size wk3 (wk3.alloc (.cells #[.int .u8 (xs.length : Int)] 5)) := (Below.refl _ _).alloc (Nat.le_refl _) _
            replace oO := oO.alloc (.cells #[.int .u8 (xs.length : Int)] 5)
            replace oE := row_below oE bA (Nat.le_refl _)
            replace hS := hS.trans (bA.mono (by have := hS.size; omega))
            clear bA hHeld
            generalize (wk3.alloc (.cells #[.int .u8 (xs.length : Int)] 5)) = wk4 at *
            refine hK.out _ _ (hS) (fun hHeld => ?_)
            clear hK K
            refine wpAnyH_ready (rs := [9]) (by kernel_rfl) (by simp) ?_
            refine AllReadyH.cons rfl (fun K hK => ?_) AllReadyH.nil
            obtain ⟨v9, wk5, hr9, o9, g9⟩ := run_append_u8 _ _ 6 n1 _ _ _ 22 wk4 oO (holds_of_row oE) (by have := hS.size; omega) (by decide) (by simp [beBytes_len])
            replace xB2 := xB2.grown g9 (row_not_box oO xB2 (by simp))
            replace hS := hS.trans ((Below.refl _ _).grown g9 (by have := hS.size; omega) (fun z e => (oO.lt z e).1))
            obtain ⟨va, vc, rfl⟩ := row_shapeP o9
            refine step_append_known rfl _ _ 22 rfl _ _ rfl rfl _ _ hr9 ?_
            simp only [Act.put]
            replace oO := o9
            clear hr9 g9 o9
            clear oE
            refine hK.out _ _ (hS) (fun hHeld => ?_)
            clear hK K
            refine wpAnyH_ready (rs := [15]) (by kernel_rfl) (by simp) ?_
            refine AllReadyH.cons rfl (fun K hK => ?_) AllReadyH.nil
            obtain ⟨v9, wk6, hr9, o9, g9⟩ := run_append_u8 _ _ 8 n1 _ _ _ 22 wk5 oO (box_holds1 xB2) (by have := hS.size; omega) (by decide) (by simp)
            replace hS := hS.trans ((Below.refl _ _).grown g9 (by have := hS.size; omega) (fun z e => (oO.lt z e).1))
            obtain ⟨va, vc, rfl⟩ := row_shapeP o9
            refine step_append_known rfl _ _ 22 rfl _ _ rfl rfl _ _ hr9 ?_
            simp only [Act.put, List.setIfInBounds_toArray]
            replace oO := o9
            clear hr9 g9 o9
            refine hK.out _ _ (hS) (fun hHeld => ?_)
            clear hK K
            refine wpAnyH_ready (rs := [16]) (by kernel_rfl) (by simp) ?_
            refine AllReadyH.cons rfl (fun K hK => ?_) AllReadyH.nil
            go_simp
            refine hK.out _ _ hHeld (fun hHeld => ?_)
            clear hK K
            refine wpAnyH_done (by kernel_rfl) ?_ _
            go_wp2_with fail
            go_meet
            exact ⟨_, _, rfl, by simpa [headD, List.append_assoc] using oO, hS⟩
          exact AllReadyH.nil
        refine AllReadyH.cons rfl (fun K hK => ?_) ?_
        · go_simp
          have xB2 := Box.new wk2 5 #[.int .u8 (xs.length : Int)]
          have bA : Below wk2.heap.size wk2 (wk2.alloc (.cells #[.int .u8 (xs.length : Int)] 5)) := (Below.refl _ _).alloc (Nat.le_refl _) _
          replace oO := oO.alloc (.cells #[.int .u8 (xs.length : Int)] 5)
          replace hS := hS.trans (bA.mono (by have := hS.size; omega))
          clear bA hHeld
          generalize (wk2.alloc (.cells #[.int .u8 (xs.length : Int)] 5)) = wk3 at *
          refine hK.out _ _ (hS) (fun hHeld => ?_)
          clear hK K
          refine wpAnyH_ready (rs := [8]) (by kernel_rfl) (by simp) ?_
          refine AllReadyH.cons rfl (fun K hK => ?_) AllReadyH.nil
          go_simp
          go_wp2_with (go_at_call 25; refine (refBe_any f 2 (by decide) _).mono ?_; rintro e wk4 ⟨q, rfl, oE, b8⟩)
          obtain ⟨qa, qc, rfl⟩ := row_shapeP oE
          replace oO := row_below oO b8 (Nat.le_refl _)
          replace oE := row_base oE (Nat.zero_le _)
          replace xB2 := xB2.next b8
          replace hS := hS.trans (b8.mono (by have := hS.size; omega))
          clear b8
          refine hK.out _ _ (hS) (fun hHeld => ?_)
          clear hK K
          refine wpAnyH_ready (rs := [9]) (by kernel_rfl) (by simp) ?_
          refine AllReadyH.cons rfl (fun K hK => ?_) AllReadyH.nil
          obtain ⟨v9, wk5, hr9, o9, g9⟩ := run_append_u8 _ _ 6 n1 _ _ _ 22 wk4 oO (holds_of_row oE) (by have := hS.size; omega) (by decide) (by simp [beBytes_len])
          replace xB2 := xB2.grown g9 (row_not_box oO xB2 (by simp))
          replace hS := hS.trans ((Below.refl _ _).grown g9 (by have := hS.size; omega) (fun z e => (oO.lt z e).1))
          obtain ⟨va, vc, rfl⟩ := row_shapeP o9
          refine step_append_known rfl _ _ 22 rfl _ _ rfl rfl _ _ hr9 ?_
          simp only [Act.put]
          replace oO := o9
          clear hr9 g9 o9
          clear oE
          refine hK.out _ _ (hS) (fun hHeld => ?_)
          clear hK K
          refine wpAnyH_ready (rs := [15]) (by kernel_rfl) (by simp) ?_
          refine AllReadyH.cons rfl (fun K hK => ?_) AllReadyH.nil
          obtain ⟨v9, wk6, hr9, o9, g9⟩ := run_append_u8 _ _ 8 n1 _ _ _ 22 wk5 oO (box_holds1 xB2) (by have := hS.size; omega) (by decide) (by simp)
          replace hS := hS.trans ((Below.refl _ _).grown g9 (by have := hS.size; omega) (fun z e => (oO.lt z e).1))
          obtain ⟨va, vc, rfl⟩ := row_shapeP o9
          refine step_append_known rfl _ _ 22 rfl _ _ rfl rfl _ _ hr9 ?_
          simp only [Act.put, List.setIfInBounds_toArray]
          replace oO := o9
          clear hr9 g9 o9
          refine hK.out _ _ (hS) (fun hHeld => ?_)
          clear hK K
          refine wpAnyH_ready (rs := [16]) (by kernel_rfl) (by simp) ?_
          refine AllReadyH.cons rfl (fun K hK => ?_) AllReadyH.nil
          go_simp
          refine hK.out _ _ hHeld (fun hHeld => ?_)
          clear hK K
          refine wpAnyH_done (by kernel_rfl) ?_ _
          go_wp2_with fail
          go_meet
          exact ⟨_, _, rfl, by simpa [headD, List.append_assoc] using oO, hS⟩
        exact AllReadyH.nil
      refine AllReadyH.cons rfl (fun K hK => ?_) ?_
      · go_simp
        have xB2 := Box.new wk1 5 #[.int .u8 (xs.length : Int)]
        have bA : Below wk1.heap.size wk1 (wk1.alloc (.cells #[.int .u8 (xs.length : Int)] 5)) := (Below.refl _ _).alloc (Nat.le_refl _) _
        replace oO := oO.alloc (.cells #[.int .u8 (xs.length : Int)] 5)
        replace xB1 := xB1.next bA
        replace hS := hS.trans (bA.mono (by have := hS.size; omega))
        clear bA hHeld
        generalize (wk1.alloc (.cells #[.int .u8 (xs.length : Int)] 5)) = wk2 at *
        refine hK.out _ _ (hS) (fun hHeld => ?_)
        clear hK K
        refine wpAnyH_ready (rs := [5]) (by kernel_rfl) (by simp) ?_
        refine AllReadyH.cons rfl (fun K hK => ?_) AllReadyH.nil
        obtain ⟨v9, wk3, hr9, o9, g9⟩ := run_append_u8 _ _ 5 n1 _ _ _ 22 wk2 oO (box_holds1 xB1) (by have := hS.size; omega) (by decide) (by simp)
        replace xB2 := xB2.grown g9 (row_not_box oO xB2 (by simp))
        replace hS := hS.trans ((Below.refl _ _).grown g9 (by have := hS.size; omega) (fun z e => (oO.lt z e).1))
        obtain ⟨va, vc, rfl⟩ := row_shapeP o9
        refine step_append_known rfl _ _ 22 rfl _ _ rfl rfl _ _ hr9 ?_
        simp only [Act.put, List.setIfInBounds_toArray]
        replace oO := o9
        clear hr9 g9 o9
        clear xB1
        refine hK.out _ _ (hS) (fun hHeld => ?_)
        clear hK K
        refine wpAnyH_ready (rs := [8]) (by kernel_rfl) (by simp) ?_
        refine AllReadyH.cons rfl (fun K hK => ?_) AllReadyH.nil
        go_simp
        go_wp2_with (go_at_call 25; refine (refBe_any f 2 (by decide) _).mono ?_; rintro e wk4 ⟨q, rfl, oE, b8⟩)
        obtain ⟨qa, qc, rfl⟩ := row_shapeP oE
        replace oO := row_below oO b8 (Nat.le_refl _)
        replace oE := row_base oE (Nat.zero_le _)
        replace xB2 := xB2.next b8
        replace hS := hS.trans (b8.mono (by have := hS.size; omega))
        clear b8
        refine hK.out _ _ (hS) (fun hHeld => ?_)
        clear hK K
        refine wpAnyH_ready (rs := [9]) (by kernel_rfl) (by simp) ?_
        refine AllReadyH.cons rfl (fun K hK => ?_) AllReadyH.nil
        obtain ⟨v9, wk5, hr9, o9, g9⟩ := run_append_u8 _ _ 6 n1 _ _ _ 22 wk4 oO (holds_of_row oE) (by have := hS.size; omega) (by decide) (by simp [beBytes_len])
        replace xB2 := xB2.grown g9 (row_not_box oO xB2 (by simp))
        replace hS := hS.trans ((Below.refl _ _).grown g9 (by have := hS.size; omega) (fun z e => (oO.lt z e).1))
        obtain ⟨va, vc, rfl⟩ := row_shapeP o9
        refine step_append_known rfl _ _ 22 rfl _ _ rfl rfl _ _ hr9 ?_
        simp only [Act.put]
        replace oO := o9
        clear hr9 g9 o9
        clear oE
        refine hK.out _ _ (hS) (fun hHeld => ?_)
        clear hK K
        refine wpAnyH_ready (rs := [15]) (by kernel_rfl) (by simp) ?_
        refine AllReadyH.cons rfl (fun K hK => ?_) AllReadyH.nil
        obtain ⟨v9, wk6, hr9, o9, g9⟩ := run_append_u8 _ _ 8 n1 _ _ _ 22 wk5 oO (box_holds1 xB2) (by have := hS.size; omega) (by decide) (by simp)
        replace hS := hS.trans ((Below.refl _ _).grown g9 (by have := hS.size; omega) (fun z e => (oO.lt z e).1))
        obtain ⟨va, vc, rfl⟩ := row_shapeP o9
        refine step_append_known rfl _ _ 22 rfl _ _ rfl rfl _ _ hr9 ?_
        simp only [Act.put, List.setIfInBounds_toArray]
        replace oO := o9
        clear hr9 g9 o9
        refine hK.out _ _ (hS) (fun hHeld => ?_)
        clear hK K
        refine wpAnyH_ready (rs := [16]) (by kernel_rfl) (by simp) ?_
        refine AllReadyH.cons rfl (fun K hK => ?_) AllReadyH.nil
        go_simp
        refine hK.out _ _ hHeld (fun hHeld => ?_)
        clear hK K
        refine wpAnyH_done (by kernel_rfl) ?_ _
        go_wp2_with fail
        go_meet
        exact ⟨_, _, rfl, by simpa [headD, List.append_assoc] using oO, hS⟩
      exact AllReadyH.nil
    refine AllReadyH.cons rfl (fun K hK => ?_) ?_
    · go_simp
      have xB2 := Box.new wk0 5 #[.int .u8 (xs.length : Int)]
      have bA : Below wk0.heap.size wk0 (wk0.alloc (.cells #[.int .u8 (xs.length : Int)] 5)) := (Below.refl _ _).alloc (Nat.le_refl _) _
      replace oO := oO.alloc (.cells #[.int .u8 (xs.length : Int)] 5)
      replace hS := hS.trans (bA.mono (by have := hS.size; omega))
      clear bA hHeld
      generalize (wk0.alloc (.cells #[.int .u8 (xs.length : Int)] 5)) = wk1 at *
      refine hK.out _ _ (hS) (fun hHeld => ?_)
      clear hK K
      refine wpAnyH_ready (rs := [4]) (by kernel_rfl) (by simp) ?_
      refine AllReadyH.cons rfl (fun K hK => ?_) AllReadyH.nil
      go_simp
      have xB1 := Box.new wk1 5 #[.int .u8 r]
      have bA : Below wk1.heap.size wk1 (wk1.alloc (.cells #[.int .u8 r] 5)) := (Below.refl _ _).alloc (Nat.le_refl _) _
      replace oO := oO.alloc (.cells #[.int .u8 r] 5)
      replace xB2 := xB2.next bA
      replace hS := hS.trans (bA.mono (by have := hS.size; omega))
      clear bA hHeld
      generalize (wk1.alloc (.cells #[.int .u8 r] 5)) = wk2 at *
      refine hK.out _ _ (hS) (fun hHeld => ?_)
      clear hK K
      refine wpAnyH_ready (rs := [5]) (by kernel_rfl) (by simp) ?_
      refine AllReadyH.cons rfl (fun K hK => ?_) AllReadyH.nil
      obtain ⟨v9, wk3, hr9, o9, g9⟩ := run_append_u8 _ _ 5 n1 _ _ _ 22 wk2 oO (box_holds1 xB1) (by have := hS.size; omega) (by decide) (by simp)
      replace xB2 := xB2.grown g9 (row_not_box oO xB2 (by simp))
      replace hS := hS.trans ((Below.refl _ _).grown g9 (by have := hS.size; omega) (fun z e => (oO.lt z e).1))
      obtain ⟨va, vc, rfl⟩ := row_shapeP o9
      refine step_append_known rfl _ _ 22 rfl _ _ rfl rfl _ _ hr9 ?_
      simp only [Act.put, List.setIfInBounds_toArray]
      replace oO := o9
      clear hr9 g9 o9
      clear xB1
      refine hK.out _ _ (hS) (fun hHeld => ?_)
      clear hK K
      refine wpAnyH_ready (rs := [8]) (by kernel_rfl) (by simp) ?_
      refine AllReadyH.cons rfl (fun K hK => ?_) AllReadyH.nil
      go_simp
      go_wp2_with (go_at_call 25; refine (refBe_any f 2 (by decide) _).mono ?_; rintro e wk4 ⟨q, rfl, oE, b8⟩)
      obtain ⟨qa, qc, rfl⟩ := row_shapeP oE
      replace oO := row_below oO b8 (Nat.le_refl _)
      replace oE := row_base oE (Nat.zero_le _)
      replace xB2 := xB2.next b8
      replace hS := hS.trans (b8.mono (by have := hS.size; omega))
      clear b8
      refine hK.out _ _ (hS) (fun hHeld => ?_)
      clear hK K
      refine wpAnyH_ready (rs := [9]) (by kernel_rfl) (by simp) ?_
      refine AllReadyH.cons rfl (fun K hK => ?_) AllReadyH.nil
      obtain ⟨v9, wk5, hr9, o9, g9⟩ := run_append_u8 _ _ 6 n1 _ _ _ 22 wk4 oO (holds_of_row oE) (by have := hS.size; omega) (by decide) (by simp [beBytes_len])
      replace xB2 := xB2.grown g9 (row_not_box oO xB2 (by simp))
      replace hS := hS.trans ((Below.refl _ _).grown g9 (by have := hS.size; omega) (fun z e => (oO.lt z e).1))
      obtain ⟨va, vc, rfl⟩ := row_shapeP o9
      refine step_append_known rfl _ _ 22 rfl _ _ rfl rfl _ _ hr9 ?_
      simp only [Act.put]
      replace oO := o9
      clear hr9 g9 o9
      clear oE
      refine hK.out _ _ (hS) (fun hHeld => ?_)
      clear hK K
      refine wpAnyH_ready (rs := [15]) (by kernel_rfl) (by simp) ?_
      refine AllReadyH.cons rfl (fun K hK => ?_) AllReadyH.nil
      obtain ⟨v9, wk6, hr9, o9, g9⟩ := run_append_u8 _ _ 8 n1 _ _ _ 22 wk5 oO (box_holds1 xB2) (by have := hS.size; omega) (by decide) (by simp)
      replace hS := hS.trans ((Below.refl _ _).grown g9 (by have := hS.size; omega) (fun z e => (oO.lt z e).1))
      obtain ⟨va, vc, rfl⟩ := row_shapeP o9
      refine step_append_known rfl _ _ 22 rfl _ _ rfl rfl _ _ hr9 ?_
      simp only [Act.put, List.setIfInBounds_toArray]
      replace oO := o9
      clear hr9 g9 o9
      refine hK.out _ _ (hS) (fun hHeld => ?_)
      clear hK K
      refine wpAnyH_ready (rs := [16]) (by kernel_rfl) (by simp) ?_
      refine AllReadyH.cons rfl (fun K hK => ?_) AllReadyH.nil
      go_simp
      refine hK.out _ _ hHeld (fun hHeld => ?_)
      clear hK K
      refine wpAnyH_done (by kernel_rfl) ?_ _
      go_wp2_with fail
      go_meet
      exact ⟨_, _, rfl, by simpa [headD, List.append_assoc] using oO, hS⟩
    exact AllReadyH.nil
  case rest =>
    obtain ⟨va, vc, rfl, o4, b4⟩ := hcut
    have HS16 := refSum16_any va vc (headD s r f xs.length) (by rw [headD_len]; decide) HHB.out wc (by rw [headD_len]; exact holds_of_row o4)
    rw [headD_len] at HS16
    have hn4 : n1 ≤ wc.heap.size := by have := b4.size; omega
    clear k1 k2 k3 hS o3
    go_wp2_with fail
    refine HS16.mono ?_
    rintro e w5 ⟨rfl, b5⟩
    have o5 := row_below o4 b5 (Nat.le_refl _)
    have hn5 : n1 ≤ w5.heap.size := by have := b5.size; omega
    replace b4 := b4.trans (b5.mono hn4)
    clear HS16 o4 b5
    obtain ⟨S16, hS16⟩ : ∃ x, sum16 (headD s r f xs.length) = x := ⟨_, rfl⟩
    have HS : Hid (sum16 (headD s r f xs.length) = S16) := hS16
    rw [hS16]
    clear hS16
    go_wp2_with fail
    refine (refBe_any (S16 : Int) 2 (by decide) _).mono ?_
    rintro e w6 ⟨q6, rfl, oq6, b6⟩
    have o6 := row_below o5 b6 (Nat.le_refl _)
    have hn6 : n1 ≤ w6.heap.size := by have := b6.size; omega
    replace b4 := b4.trans (b6.mono hn5)
    obtain ⟨v7, w7, hr7, o7, g7⟩ := run_append_u8 _ _ 9 n1 _ _ _ 22 w6 o6 (holds_of_row oq6) hn6 (by decide) (by simp [beBytes_len])
    replace b4 := b4.trans ((Below.refl _ _).grown g7 hn6 (fun z e => (o6.lt z e).1))
    have hn7 : n1 ≤ w7.heap.size := by have := b4.size; omega
    rw [beBytes_len] at o7
    clear o5 b6 oq6 g7 o6
    have c3 := (x1.below b4 hlt1).cell 3 _ rfl
    have ha7 : Holds .u8 w.heap.size w7 (.slice a xs.length cap) xs := (ha.below b1).below (b4.mono hwn)
    obtain ⟨v8, w8, hr8, o8, g8⟩ := run_append_u8 _ _ 11 n1 _ _ _ 22 w7 o7 ha7 hn7 (by decide) (by omega)
    replace b4 := b4.trans ((Below.refl _ _).grown g8 hn7 (fun z e => (o7.lt z e).1))
    have o9 : w8.ownsRow w.heap.size 5 1 v8 (xs.length + 11) ((packD s r f xs).map (Value.int .u8)) := by
      have := row_base o8 hwn
      rw [Nat.add_comm 11] at this
      unfold packD
      rw [HS.out, ← List.append_assoc]
      exact this
    have b9 := b1.trans (b4.mono hwn)
    clear ha ha7 o7 o8 g8 b4 b1 HS HHB HBX
    go_wp2_with (first | (at_builtin; refine wpList_append_run rfl _ _ 22 rfl _ _ rfl rfl _ _ hr7 ?_) | (at_builtin; refine wpList_append_run rfl _ _ 22 rfl _ _ rfl rfl _ _ hr8 ?_))
    go_ret
    exact ⟨_, rfl, o9, b9⟩

end Go.Proofs.Ytpfhnefgibiedaa
