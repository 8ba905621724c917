/-
  DataExact: the walk: whatever the data, the law answers true, and nothing that lay has turned. (Written by tpl_dataexact.py.)
-/
import Derived.Test.YtpfhnefgibiedaaDataWakes
import Derived.Deep.RegionHeldLaw
import Derived.Deep.Cut
import Derived.Deep.CutRange
import Derived.Deep.DeepCutAuto
namespace Go.Proofs.Ytpfhnefgibiedaa
open Go.RowKit

set_option maxRecDepth 100000 in
set_option maxHeartbeats 4000000 in
theorem dataExact_no (s r f : Int) (a : Option Addr) (cap : Nat) (xs : List Int) (hl : xs.length ≤ 200) (bx : ∀ z ∈ xs, 0 ≤ z ∧ z ≤ 255) (hE : errD s r f xs.length ≠ 0) (w : World) (ha : Holds .u8 w.heap.size w (.slice a xs.length cap) xs) :
    Calls Try.prog 3 #[.agg #[.int .i64 s, .int .i64 r, .int .i64 f, .slice a xs.length cap]] w fun e w' => e = .returned (.bool true) ∧ Below w.heap.size w w' := by
  have HBX : Hid (∀ z ∈ xs, 0 ≤ z ∧ z ≤ 255) := bx
  have dl : decide (200 < (xs.length : Int)) = false := decide_eq_false (by omega)
  have dl' : decide (200 < xs.length) = false := decide_eq_false (by omega)
  obtain ⟨E, hEe⟩ : ∃ E, errD s r f xs.length = E := ⟨_, rfl⟩
  have HE : Hid (errD s r f xs.length = E) := hEe
  have HNE : Hid (errD s r f xs.length ≠ 0) := hE
  rw [hEe] at hE
  have dE : (E != 0) = true := by simp [hE]
  have dEE : (E != E) = false := by simp
  clear hE hEe
  clear bx
  have bb : Below w.heap.size w (w.alloc (.cells #[.int .i64 s, .int .i64 r, .int .i64 f, .slice a xs.length cap] 24)) := (Below.refl w.heap.size w).alloc (Nat.le_refl _) _
  have xa := Box.new w 24 #[.int .i64 s, .int .i64 r, .int .i64 f, .slice a xs.length cap]
  replace ha := ha.next bb
  go_enter Try.func3, Try.ntmps3
  go_wp2
  obtain ⟨w1, hw1⟩ : ∃ W, w.alloc (.cells #[.int .i64 s, .int .i64 r, .int .i64 f, .slice a xs.length cap] 24) = W := ⟨_, rfl⟩
  rw [hw1] at bb xa ha ⊢
  clear hw1
  have cxa0 := xa.cell 0 _ rfl
  have cxa1 := xa.cell 1 _ rfl
  have cxa2 := xa.cell 2 _ rfl
  have cxa3 := xa.cell 3 _ rfl
  have hlt1 := xa.lt
  have HA1 : Hid (Holds .u8 w1.heap.size w1.drew (.slice a xs.length cap) xs) := ha
  have HN : Hid (Below w1.heap.size w1 (w1.alloc (.cells #[.int .i64 0, .int .i64 0, .int .i64 0, .slice none 0 0] 24))) := (Below.refl _ _).alloc (Nat.le_refl _) _
  have HX : Hid (Box (w1.alloc (.cells #[.int .i64 0, .int .i64 0, .int .i64 0, .slice none 0 0] 24)) w1.heap.size 24 #[.int .i64 0, .int .i64 0, .int .i64 0, .slice none 0 0]) := Box.new w1 _ _
  have HA2 : Hid (Holds .u8 w1.heap.size (w1.alloc (.cells #[.int .i64 0, .int .i64 0, .int .i64 0, .slice none 0 0] 24)) (.slice a xs.length cap) xs) := ha.below HN.out
  go_cut [3] (fun v wx => ∃ (B : Nat) (ra : Option Addr) (rc : Nat), v = .pointer (some ⟨B, 0, none⟩) ∧ Box wx B 24 #[.int .i64 s, .int .i64 r, .int .i64 f, .slice ra xs.length rc] ∧ Holds .u8 wx.heap.size wx (.slice ra xs.length rc) xs ∧ Below w1.heap.size w1 wx)
  case first =>
    refine wp_region_held_drew (S := fun w' => Below w1.heap.size w1 w') (by kernel_rfl) ((Below.refl _ _).drew) (fun hHeld => ?_)
    refine wpAnyH_take (i := 0) (v := (.pointer (some ⟨w.heap.size, 0, none⟩))) rfl (by kernel_rfl) (by kernel_rfl) (by kernel_rfl) (fun _ _ _ h => h) (Or.inl ⟨by kernel_rfl, ?_⟩) hHeld ?_
    · intro wx hSw
      clear hSw
      go_simp
      try with_reducible rfl
    refine wpAnyH_take (i := 1) (v := (.int .i64 s)) rfl (by kernel_rfl) (by kernel_rfl) (by kernel_rfl) (fun _ _ _ h => h) (Or.inl ⟨by kernel_rfl, ?_⟩) hHeld ?_
    · intro wx hSw
      have q0 := (hSw.cell (p := ⟨w.heap.size, 0, none⟩) hlt1).trans cxa0
      clear hSw
      go_simp
      try with_reducible rfl
    refine wpAnyH_take (i := 2) (v := (.pointer (some ⟨w.heap.size, 1, none⟩))) rfl (by kernel_rfl) (by kernel_rfl) (by kernel_rfl) (fun _ _ _ h => h) (Or.inl ⟨by kernel_rfl, ?_⟩) hHeld ?_
    · intro wx hSw
      clear hSw
      go_simp
      try with_reducible rfl
    refine wpAnyH_take (i := 3) (v := (.int .i64 r)) rfl (by kernel_rfl) (by kernel_rfl) (by kernel_rfl) (fun _ _ _ h => h) (Or.inl ⟨by kernel_rfl, ?_⟩) hHeld ?_
    · intro wx hSw
      have q0 := (hSw.cell (p := ⟨w.heap.size, 1, none⟩) hlt1).trans cxa1
      clear hSw
      go_simp
      try with_reducible rfl
    refine wpAnyH_take (i := 4) (v := (.pointer (some ⟨w.heap.size, 2, none⟩))) rfl (by kernel_rfl) (by kernel_rfl) (by kernel_rfl) (fun _ _ _ h => h) (Or.inl ⟨by kernel_rfl, ?_⟩) hHeld ?_
    · intro wx hSw
      clear hSw
      go_simp
      try with_reducible rfl
    refine wpAnyH_take (i := 5) (v := (.int .i64 f)) rfl (by kernel_rfl) (by kernel_rfl) (by kernel_rfl) (fun _ _ _ h => h) (Or.inl ⟨by kernel_rfl, ?_⟩) hHeld ?_
    · intro wx hSw
      have q0 := (hSw.cell (p := ⟨w.heap.size, 2, none⟩) hlt1).trans cxa2
      clear hSw
      go_simp
      try with_reducible rfl
    refine wpAnyH_take (i := 6) (v := (.pointer (some ⟨w.heap.size, 3, none⟩))) rfl (by kernel_rfl) (by kernel_rfl) (by kernel_rfl) (fun _ _ _ h => h) (Or.inl ⟨by kernel_rfl, ?_⟩) hHeld ?_
    · intro wx hSw
      clear hSw
      go_simp
      try with_reducible rfl
    refine wpAnyH_take (i := 7) (v := (.slice a xs.length cap)) rfl (by kernel_rfl) (by kernel_rfl) (by kernel_rfl) (fun _ _ _ h => h) (Or.inl ⟨by kernel_rfl, ?_⟩) hHeld ?_
    · intro wx hSw
      have q0 := (hSw.cell (p := ⟨w.heap.size, 3, none⟩) hlt1).trans cxa3
      clear hSw
      go_simp
      try with_reducible rfl
    refine wpAnyH_ready (rs := [8, 10]) (by kernel_rfl) (by simp) ?_
    refine AllReadyH.cons rfl (fun K hK => ?_) ?_
    · go_simp
      go_wp2_with (go_at_call 9; refine (twin_any _ xs w1.heap.size (by omega) _ (by exact HA1.out)).mono ?_; rintro e w2 ⟨q, rfl, o2, b2⟩)
      obtain ⟨ra, rc, rfl⟩ := row_shapeP o2
      have BX : Below w1.heap.size w1 w2 := (Below.refl _ _).drew.trans b2
      refine hK.out _ _ (BX) (fun hHeld => ?_)
      clear hK K
      refine wpAnyH_take (i := 9) (v := (.agg #[.int .i64 s, .int .i64 r, .int .i64 f, .slice ra xs.length rc])) rfl (by kernel_rfl) (by kernel_rfl) (by kernel_rfl) (fun _ _ _ h => h) (Or.inl ⟨by kernel_rfl, ?_⟩) hHeld ?_
      · intro wx hSw
        clear hSw
        go_simp
        try with_reducible rfl
      refine wpAnyH_ready (rs := [10]) (by kernel_rfl) (by simp) ?_
      refine AllReadyH.cons rfl (fun K hK => ?_) AllReadyH.nil
      go_simp
      refine hK.out _ _ (BX.alloc BX.size _) (fun hHeld => ?_)
      clear hK K
      refine wpAnyH_ready (rs := [11]) (by kernel_rfl) (by simp) ?_
      refine AllReadyH.cons rfl (fun K hK => ?_) AllReadyH.nil
      go_simp
      refine hK.out _ _ (BX.alloc BX.size _) (fun hHeld => ?_)
      clear hK K
      refine wpAnyH_done (by kernel_rfl) ?_ _
      go_wp2_with fail
      go_meet
      exact ⟨w2.heap.size, ra, rc, rfl, Box.new w2 _ _, (holds_of_row o2).next ((Below.refl _ _).alloc (Nat.le_refl _) _), BX.alloc BX.size _⟩
    refine AllReadyH.cons rfl (fun K hK => ?_) ?_
    · go_simp
      refine hK.out _ _ (HN.out.drew) (fun hHeld => ?_)
      clear hK K
      refine wpAnyH_ready (rs := [8]) (by kernel_rfl) (by simp) ?_
      refine AllReadyH.cons rfl (fun K hK => ?_) AllReadyH.nil
      go_simp
      go_wp2_with (go_at_call 9; refine (twin_any _ xs w1.heap.size (by omega) _ (by exact HA2.out)).mono ?_; rintro e w2 ⟨q, rfl, o2, b2⟩)
      obtain ⟨ra, rc, rfl⟩ := row_shapeP o2
      have BX : Below w1.heap.size w1 w2 := HN.out.drew.trans (b2.mono (by simp))
      have XB : Box w2 w1.heap.size 24 #[.int .i64 0, .int .i64 0, .int .i64 0, .slice none 0 0] := (show Box (w1.alloc (.cells #[.int .i64 0, .int .i64 0, .int .i64 0, .slice none 0 0] 24)).drew w1.heap.size 24 #[.int .i64 0, .int .i64 0, .int .i64 0, .slice none 0 0] from HX.out).next b2
      refine hK.out _ _ (BX) (fun hHeld => ?_)
      clear hK K
      refine wpAnyH_take (i := 9) (v := (.agg #[.int .i64 s, .int .i64 r, .int .i64 f, .slice ra xs.length rc])) rfl (by kernel_rfl) (by kernel_rfl) (by kernel_rfl) (fun _ _ _ h => h) (Or.inl ⟨by kernel_rfl, ?_⟩) hHeld ?_
      · intro wx hSw
        clear hSw
        go_simp
        try with_reducible rfl
      have y0 := XB.cell 0 _ rfl
      have y1 := XB.cell 1 _ rfl
      have y2 := XB.cell 2 _ rfl
      have y3 := XB.cell 3 _ rfl
      have g0 := XB.free 0
      have g1 := XB.free 1
      have g2 := XB.free 2
      have g3 := XB.free 3
      refine wpAnyH_ready (rs := [11]) (by kernel_rfl) (by simp) ?_
      refine AllReadyH.cons rfl (fun K hK => ?_) AllReadyH.nil
      go_simp
      refine hK.out _ _ (below_set4 BX (Nat.le_refl _) _ _ _ _) (fun hHeld => ?_)
      clear hK K
      refine wpAnyH_done (by kernel_rfl) ?_ _
      go_wp2_with fail
      go_meet
      have o3 := row_set4 o2 (D := w1.heap.size) (by simp) (.int .i64 s) (.int .i64 r) (.int .i64 f) (.slice ra xs.length rc)
      exact ⟨w1.heap.size, ra, rc, rfl, XB.set4 _ _ _ _, holds_of_row o3, below_set4 BX (Nat.le_refl _) _ _ _ _⟩
    exact AllReadyH.nil
  case rest =>
    obtain ⟨B, ra, rc, rfl, xi, hi, b9⟩ := hcut
    clear HA1 HA2 HN HX
    clear cxa0 cxa1 cxa2 cxa3
    replace xa := xa.next b9
    replace ha := ha.next b9
    replace bb := bb.trans (b9.mono bb.size)
    clear b9
    generalize wc = w2 at *
    have HC := DataMake_no s r f ra xs.length rc HNE.out w2
    rw [HE.out] at HC
    have cxi0 := xi.cell 0 _ rfl
    have cxi1 := xi.cell 1 _ rfl
    have cxi2 := xi.cell 2 _ rfl
    have cxi3 := xi.cell 3 _ rfl
    go_wp2_with fail
    refine (HC).mono ?_
    rintro e w3 ⟨rfl, b9⟩
    clear cxi0 cxi1 cxi2 cxi3
    replace xa := xa.next b9
    replace ha := ha.next b9
    replace xi := xi.next b9
    replace hi := hi.next b9
    replace bb := bb.trans (b9.mono bb.size)
    clear b9
    clear HC
    have cxa0 := xa.cell 0 _ rfl
    have cxa1 := xa.cell 1 _ rfl
    have cxa2 := xa.cell 2 _ rfl
    have cxa3 := xa.cell 3 _ rfl
    go_wp2_with fail
    refine (refData_any s r f a xs.length cap w3).mono ?_
    rintro e w4 ⟨rfl, b9⟩
    clear cxa0 cxa1 cxa2 cxa3
    replace xa := xa.next b9
    replace ha := ha.next b9
    replace xi := xi.next b9
    replace hi := hi.next b9
    replace bb := bb.trans (b9.mono bb.size)
    clear b9
    rw [HE.out]
    have HC := keepData_any s r f s r f (.slice ra xs.length rc) (.slice a xs.length cap) xs xs w4 _ _ (Nat.le_refl _) (Nat.le_refl _) (by omega) hi ha
    rw [decide_eq_true ⟨rfl, rfl, rfl, rfl⟩] at HC
    have cxi0 := xi.cell 0 _ rfl
    have cxi1 := xi.cell 1 _ rfl
    have cxi2 := xi.cell 2 _ rfl
    have cxi3 := xi.cell 3 _ rfl
    have cxa0 := xa.cell 0 _ rfl
    have cxa1 := xa.cell 1 _ rfl
    have cxa2 := xa.cell 2 _ rfl
    have cxa3 := xa.cell 3 _ rfl
    go_wp2_with fail
    refine (HC).mono ?_
    rintro e w5 ⟨rfl, b9⟩
    clear cxi0 cxi1 cxi2 cxi3
    clear cxa0 cxa1 cxa2 cxa3
    replace xa := xa.next b9
    replace ha := ha.next b9
    replace xi := xi.next b9
    replace hi := hi.next b9
    replace bb := bb.trans (b9.mono bb.size)
    clear b9
    clear HC
    have HWK := dataWakes_any w5
    go_wp2_with (go_at_call 13; refine HWK.mono ?_; rintro e w99 ⟨rfl, b99⟩)
    go_ret
    exact ⟨rfl, bb.trans (b99.mono bb.size)⟩

set_option maxRecDepth 100000 in
set_option maxHeartbeats 4000000 in
theorem dataExact_ok (s r f : Int) (a : Option Addr) (cap : Nat) (xs : List Int) (hl : xs.length ≤ 200) (bx : ∀ z ∈ xs, 0 ≤ z ∧ z ≤ 255) (hR : RightD s r f xs) (w : World) (ha : Holds .u8 w.heap.size w (.slice a xs.length cap) xs) :
    Calls Try.prog 3 #[.agg #[.int .i64 s, .int .i64 r, .int .i64 f, .slice a xs.length cap]] w fun e w' => e = .returned (.bool true) ∧ Below w.heap.size w w' := by
  have HBX : Hid (∀ z ∈ xs, 0 ≤ z ∧ z ≤ 255) := bx
  have dl : decide (200 < (xs.length : Int)) = false := decide_eq_false (by omega)
  have dl' : decide (200 < xs.length) = false := decide_eq_false (by omega)
  have HR : Hid (RightD s r f xs) := hR
  have hE : errD s r f xs.length = 0 := (rightD_iff _ _ _ _).2 hR
  have HE : Hid (errD s r f xs.length = 0) := hE
  clear hR hE
  clear bx
  have bb : Below w.heap.size w (w.alloc (.cells #[.int .i64 s, .int .i64 r, .int .i64 f, .slice a xs.length cap] 24)) := (Below.refl w.heap.size w).alloc (Nat.le_refl _) _
  have xa := Box.new w 24 #[.int .i64 s, .int .i64 r, .int .i64 f, .slice a xs.length cap]
  replace ha := ha.next bb
  go_enter Try.func3, Try.ntmps3
  go_wp2
  obtain ⟨w1, hw1⟩ : ∃ W, w.alloc (.cells #[.int .i64 s, .int .i64 r, .int .i64 f, .slice a xs.length cap] 24) = W := ⟨_, rfl⟩
  rw [hw1] at bb xa ha ⊢
  clear hw1
  have cxa0 := xa.cell 0 _ rfl
  have cxa1 := xa.cell 1 _ rfl
  have cxa2 := xa.cell 2 _ rfl
  have cxa3 := xa.cell 3 _ rfl
  have hlt1 := xa.lt
  have HA1 : Hid (Holds .u8 w1.heap.size w1.drew (.slice a xs.length cap) xs) := ha
  have HN : Hid (Below w1.heap.size w1 (w1.alloc (.cells #[.int .i64 0, .int .i64 0, .int .i64 0, .slice none 0 0] 24))) := (Below.refl _ _).alloc (Nat.le_refl _) _
  have HX : Hid (Box (w1.alloc (.cells #[.int .i64 0, .int .i64 0, .int .i64 0, .slice none 0 0] 24)) w1.heap.size 24 #[.int .i64 0, .int .i64 0, .int .i64 0, .slice none 0 0]) := Box.new w1 _ _
  have HA2 : Hid (Holds .u8 w1.heap.size (w1.alloc (.cells #[.int .i64 0, .int .i64 0, .int .i64 0, .slice none 0 0] 24)) (.slice a xs.length cap) xs) := ha.below HN.out
  go_cut [3] (fun v wx => ∃ (B : Nat) (ra : Option Addr) (rc : Nat), v = .pointer (some ⟨B, 0, none⟩) ∧ Box wx B 24 #[.int .i64 s, .int .i64 r, .int .i64 f, .slice ra xs.length rc] ∧ Holds .u8 wx.heap.size wx (.slice ra xs.length rc) xs ∧ Below w1.heap.size w1 wx)
  case first =>
    refine wp_region_held_drew (S := fun w' => Below w1.heap.size w1 w') (by kernel_rfl) ((Below.refl _ _).drew) (fun hHeld => ?_)
    refine wpAnyH_take (i := 0) (v := (.pointer (some ⟨w.heap.size, 0, none⟩))) rfl (by kernel_rfl) (by kernel_rfl) (by kernel_rfl) (fun _ _ _ h => h) (Or.inl ⟨by kernel_rfl, ?_⟩) hHeld ?_
    · intro wx hSw
      clear hSw
      go_simp
      try with_reducible rfl
    refine wpAnyH_take (i := 1) (v := (.int .i64 s)) rfl (by kernel_rfl) (by kernel_rfl) (by kernel_rfl) (fun _ _ _ h => h) (Or.inl ⟨by kernel_rfl, ?_⟩) hHeld ?_
    · intro wx hSw
      have q0 := (hSw.cell (p := ⟨w.heap.size, 0, none⟩) hlt1).trans cxa0
      clear hSw
      go_simp
      try with_reducible rfl
    refine wpAnyH_take (i := 2) (v := (.pointer (some ⟨w.heap.size, 1, none⟩))) rfl (by kernel_rfl) (by kernel_rfl) (by kernel_rfl) (fun _ _ _ h => h) (Or.inl ⟨by kernel_rfl, ?_⟩) hHeld ?_
    · intro wx hSw
      clear hSw
      go_simp
      try with_reducible rfl
    refine wpAnyH_take (i := 3) (v := (.int .i64 r)) rfl (by kernel_rfl) (by kernel_rfl) (by kernel_rfl) (fun _ _ _ h => h) (Or.inl ⟨by kernel_rfl, ?_⟩) hHeld ?_
    · intro wx hSw
      have q0 := (hSw.cell (p := ⟨w.heap.size, 1, none⟩) hlt1).trans cxa1
      clear hSw
      go_simp
      try with_reducible rfl
    refine wpAnyH_take (i := 4) (v := (.pointer (some ⟨w.heap.size, 2, none⟩))) rfl (by kernel_rfl) (by kernel_rfl) (by kernel_rfl) (fun _ _ _ h => h) (Or.inl ⟨by kernel_rfl, ?_⟩) hHeld ?_
    · intro wx hSw
      clear hSw
      go_simp
      try with_reducible rfl
    refine wpAnyH_take (i := 5) (v := (.int .i64 f)) rfl (by kernel_rfl) (by kernel_rfl) (by kernel_rfl) (fun _ _ _ h => h) (Or.inl ⟨by kernel_rfl, ?_⟩) hHeld ?_
    · intro wx hSw
      have q0 := (hSw.cell (p := ⟨w.heap.size, 2, none⟩) hlt1).trans cxa2
      clear hSw
      go_simp
      try with_reducible rfl
    refine wpAnyH_take (i := 6) (v := (.pointer (some ⟨w.heap.size, 3, none⟩))) rfl (by kernel_rfl) (by kernel_rfl) (by kernel_rfl) (fun _ _ _ h => h) (Or.inl ⟨by kernel_rfl, ?_⟩) hHeld ?_
    · intro wx hSw
      clear hSw
      go_simp
      try with_reducible rfl
    refine wpAnyH_take (i := 7) (v := (.slice a xs.length cap)) rfl (by kernel_rfl) (by kernel_rfl) (by kernel_rfl) (fun _ _ _ h => h) (Or.inl ⟨by kernel_rfl, ?_⟩) hHeld ?_
    · intro wx hSw
      have q0 := (hSw.cell (p := ⟨w.heap.size, 3, none⟩) hlt1).trans cxa3
      clear hSw
      go_simp
      try with_reducible rfl
    refine wpAnyH_ready (rs := [8, 10]) (by kernel_rfl) (by simp) ?_
    refine AllReadyH.cons rfl (fun K hK => ?_) ?_
    · go_simp
      go_wp2_with (go_at_call 9; refine (twin_any _ xs w1.heap.size (by omega) _ (by exact HA1.out)).mono ?_; rintro e w2 ⟨q, rfl, o2, b2⟩)
      obtain ⟨ra, rc, rfl⟩ := row_shapeP o2
      have BX : Below w1.heap.size w1 w2 := (Below.refl _ _).drew.trans b2
      refine hK.out _ _ (BX) (fun hHeld => ?_)
      clear hK K
      refine wpAnyH_take (i := 9) (v := (.agg #[.int .i64 s, .int .i64 r, .int .i64 f, .slice ra xs.length rc])) rfl (by kernel_rfl) (by kernel_rfl) (by kernel_rfl) (fun _ _ _ h => h) (Or.inl ⟨by kernel_rfl, ?_⟩) hHeld ?_
      · intro wx hSw
        clear hSw
        go_simp
        try with_reducible rfl
      refine wpAnyH_ready (rs := [10]) (by kernel_rfl) (by simp) ?_
      refine AllReadyH.cons rfl (fun K hK => ?_) AllReadyH.nil
      go_simp
      refine hK.out _ _ (BX.alloc BX.size _) (fun hHeld => ?_)
      clear hK K
      refine wpAnyH_ready (rs := [11]) (by kernel_rfl) (by simp) ?_
      refine AllReadyH.cons rfl (fun K hK => ?_) AllReadyH.nil
      go_simp
      refine hK.out _ _ (BX.alloc BX.size _) (fun hHeld => ?_)
      clear hK K
      refine wpAnyH_done (by kernel_rfl) ?_ _
      go_wp2_with fail
      go_meet
      exact ⟨w2.heap.size, ra, rc, rfl, Box.new w2 _ _, (holds_of_row o2).next ((Below.refl _ _).alloc (Nat.le_refl _) _), BX.alloc BX.size _⟩
    refine AllReadyH.cons rfl (fun K hK => ?_) ?_
    · go_simp
      refine hK.out _ _ (HN.out.drew) (fun hHeld => ?_)
      clear hK K
      refine wpAnyH_ready (rs := [8]) (by kernel_rfl) (by simp) ?_
      refine AllReadyH.cons rfl (fun K hK => ?_) AllReadyH.nil
      go_simp
      go_wp2_with (go_at_call 9; refine (twin_any _ xs w1.heap.size (by omega) _ (by exact HA2.out)).mono ?_; rintro e w2 ⟨q, rfl, o2, b2⟩)
      obtain ⟨ra, rc, rfl⟩ := row_shapeP o2
      have BX : Below w1.heap.size w1 w2 := HN.out.drew.trans (b2.mono (by simp))
      have XB : Box w2 w1.heap.size 24 #[.int .i64 0, .int .i64 0, .int .i64 0, .slice none 0 0] := (show Box (w1.alloc (.cells #[.int .i64 0, .int .i64 0, .int .i64 0, .slice none 0 0] 24)).drew w1.heap.size 24 #[.int .i64 0, .int .i64 0, .int .i64 0, .slice none 0 0] from HX.out).next b2
      refine hK.out _ _ (BX) (fun hHeld => ?_)
      clear hK K
      refine wpAnyH_take (i := 9) (v := (.agg #[.int .i64 s, .int .i64 r, .int .i64 f, .slice ra xs.length rc])) rfl (by kernel_rfl) (by kernel_rfl) (by kernel_rfl) (fun _ _ _ h => h) (Or.inl ⟨by kernel_rfl, ?_⟩) hHeld ?_
      · intro wx hSw
        clear hSw
        go_simp
        try with_reducible rfl
      have y0 := XB.cell 0 _ rfl
      have y1 := XB.cell 1 _ rfl
      have y2 := XB.cell 2 _ rfl
      have y3 := XB.cell 3 _ rfl
      have g0 := XB.free 0
      have g1 := XB.free 1
      have g2 := XB.free 2
      have g3 := XB.free 3
      refine wpAnyH_ready (rs := [11]) (by kernel_rfl) (by simp) ?_
      refine AllReadyH.cons rfl (fun K hK => ?_) AllReadyH.nil
      go_simp
      refine hK.out _ _ (below_set4 BX (Nat.le_refl _) _ _ _ _) (fun hHeld => ?_)
      clear hK K
      refine wpAnyH_done (by kernel_rfl) ?_ _
      go_wp2_with fail
      go_meet
      have o3 := row_set4 o2 (D := w1.heap.size) (by simp) (.int .i64 s) (.int .i64 r) (.int .i64 f) (.slice ra xs.length rc)
      exact ⟨w1.heap.size, ra, rc, rfl, XB.set4 _ _ _ _, holds_of_row o3, below_set4 BX (Nat.le_refl _) _ _ _ _⟩
    exact AllReadyH.nil
  case rest =>
    obtain ⟨B, ra, rc, rfl, xi, hi, b9⟩ := hcut
    clear HA1 HA2 HN HX
    clear cxa0 cxa1 cxa2 cxa3
    replace xa := xa.next b9
    replace ha := ha.next b9
    replace bb := bb.trans (b9.mono bb.size)
    clear b9
    generalize wc = w2 at *
    have cxi0 := xi.cell 0 _ rfl
    have cxi1 := xi.cell 1 _ rfl
    have cxi2 := xi.cell 2 _ rfl
    have cxi3 := xi.cell 3 _ rfl
    go_wp2_with fail
    refine (DataMake_ok s r f ra rc xs HR.out HBX.out _ hi).mono ?_
    rintro e w3 ⟨q, rfl, o9, b9⟩
    clear cxi0 cxi1 cxi2 cxi3
    replace xa := xa.next b9
    replace ha := ha.next b9
    replace xi := xi.next b9
    replace hi := hi.next b9
    replace bb := bb.trans (b9.mono bb.size)
    clear b9
    obtain ⟨qa, qc, rfl⟩ := row_shapeP o9
    have hq := holds_of_row o9
    have hqc := row_cap o9
    clear o9
    have cxa0 := xa.cell 0 _ rfl
    have cxa1 := xa.cell 1 _ rfl
    have cxa2 := xa.cell 2 _ rfl
    have cxa3 := xa.cell 3 _ rfl
    go_wp2_with fail
    refine (refData_any s r f a xs.length cap w3).mono ?_
    rintro e w4 ⟨rfl, b9⟩
    clear cxa0 cxa1 cxa2 cxa3
    replace xa := xa.next b9
    replace ha := ha.next b9
    replace xi := xi.next b9
    replace hi := hi.next b9
    replace hq := hq.next b9
    replace bb := bb.trans (b9.mono bb.size)
    clear b9
    rw [HE.out]
    have HC := keepData_any s r f s r f (.slice ra xs.length rc) (.slice a xs.length cap) xs xs w4 _ _ (Nat.le_refl _) (Nat.le_refl _) (by omega) hi ha
    rw [decide_eq_true ⟨rfl, rfl, rfl, rfl⟩] at HC
    have cxi0 := xi.cell 0 _ rfl
    have cxi1 := xi.cell 1 _ rfl
    have cxi2 := xi.cell 2 _ rfl
    have cxi3 := xi.cell 3 _ rfl
    have cxa0 := xa.cell 0 _ rfl
    have cxa1 := xa.cell 1 _ rfl
    have cxa2 := xa.cell 2 _ rfl
    have cxa3 := xa.cell 3 _ rfl
    go_wp2_with fail
    refine (HC).mono ?_
    rintro e w5 ⟨rfl, b9⟩
    clear cxi0 cxi1 cxi2 cxi3
    clear cxa0 cxa1 cxa2 cxa3
    replace xa := xa.next b9
    replace ha := ha.next b9
    replace xi := xi.next b9
    replace hi := hi.next b9
    replace hq := hq.next b9
    replace bb := bb.trans (b9.mono bb.size)
    clear b9
    clear HC
    have cxa0 := xa.cell 0 _ rfl
    have cxa1 := xa.cell 1 _ rfl
    have cxa2 := xa.cell 2 _ rfl
    have cxa3 := xa.cell 3 _ rfl
    go_wp2_with fail
    refine (refPacket_any s r f a cap xs HR.out HBX.out _ ha).mono ?_
    rintro e w6 ⟨r5, rfl, o9, b9⟩
    clear cxa0 cxa1 cxa2 cxa3
    replace xa := xa.next b9
    replace ha := ha.next b9
    replace xi := xi.next b9
    replace hi := hi.next b9
    replace hq := hq.next b9
    replace bb := bb.trans (b9.mono bb.size)
    clear b9
    have h5 := holds_of_row o9
    clear o9
    have HC := bytes_any (.slice qa (xs.length + 11) qc) r5 (packD s r f xs) (packD s r f xs) _ _ w6 (by rw [packD_len]; omega) hq h5
    rw [decide_eq_true rfl] at HC
    go_wp2_with fail
    refine (HC).mono ?_
    rintro e wx ⟨rfl, q, rfl⟩
    have b9 : Below w6.heap.size w6 (w6.drewN q) := below_drewN (Below.refl _ _) q
    replace xa := xa.next b9
    replace ha := ha.next b9
    replace xi := xi.next b9
    replace hi := hi.next b9
    replace hq := hq.next b9
    replace bb := bb.trans (b9.mono bb.size)
    clear b9
    generalize w6.drewN q = w7 at *
    clear HC
    have HC := DataRead_ok qa qc (packD s r f xs) (by rw [packD_len]; exact hqc) (packD_bd HR.out HBX.out) (okD_pack HR.out) w7 (by rw [packD_len]; exact hq)
    rw [packD_len, dS_pack HR.out, dR_pack, dF_pack HR.out, dX_pack] at HC
    go_wp2_with fail
    refine (HC).mono ?_
    rintro e w8 ⟨ya, yc, rfl, oy, b9⟩
    replace xa := xa.next b9
    replace ha := ha.next b9
    replace xi := xi.next b9
    replace hi := hi.next b9
    replace hq := hq.next b9
    replace bb := bb.trans (b9.mono bb.size)
    clear b9
    clear HC
    have hy := holds_of_row oy
    clear oy
    have b9 : Below w8.heap.size w8 (w8.alloc (.cells #[.int .i64 s, .int .i64 r, .int .i64 f, .slice ya xs.length yc] 24)) := (Below.refl _ _).alloc (Nat.le_refl _) _
    have xy := Box.new w8 24 #[.int .i64 s, .int .i64 r, .int .i64 f, .slice ya xs.length yc]
    replace xa := xa.next b9
    replace ha := ha.next b9
    replace xi := xi.next b9
    replace hi := hi.next b9
    replace hq := hq.next b9
    replace hy := hy.next b9
    replace bb := bb.trans (b9.mono bb.size)
    clear b9
    have HC := keepData_any s r f s r f (.slice ya xs.length yc) (.slice a xs.length cap) xs xs _ _ _ (Nat.le_refl _) (Nat.le_refl _) (by omega) hy ha
    rw [decide_eq_true ⟨rfl, rfl, rfl, rfl⟩] at HC
    have cxy0 := xy.cell 0 _ rfl
    have cxy1 := xy.cell 1 _ rfl
    have cxy2 := xy.cell 2 _ rfl
    have cxy3 := xy.cell 3 _ rfl
    have cxa0 := xa.cell 0 _ rfl
    have cxa1 := xa.cell 1 _ rfl
    have cxa2 := xa.cell 2 _ rfl
    have cxa3 := xa.cell 3 _ rfl
    go_wp2_with fail
    refine (HC).mono ?_
    rintro e w9 ⟨rfl, b9⟩
    clear cxy0 cxy1 cxy2 cxy3
    clear cxa0 cxa1 cxa2 cxa3
    replace xa := xa.next b9
    replace ha := ha.next b9
    replace xi := xi.next b9
    replace hi := hi.next b9
    replace hq := hq.next b9
    replace hy := hy.next b9
    replace xy := xy.next b9
    replace bb := bb.trans (b9.mono bb.size)
    clear b9
    clear HC
    have HWK := dataWakes_any w9
    go_wp2_with (go_at_call 13; refine HWK.mono ?_; rintro e w99 ⟨rfl, b99⟩)
    go_ret
    exact ⟨rfl, bb.trans (b99.mono bb.size)⟩

set_option maxRecDepth 100000 in
set_option maxHeartbeats 1000000 in
theorem dataExact_long (s r f : Int) (a : Option Addr) (n cap : Nat) (hl : 200 < n) (w : World) :
    Calls Try.prog 3 #[.agg #[.int .i64 s, .int .i64 r, .int .i64 f, .slice a n cap]] w fun e w' => e = .returned (.bool true) ∧ Below w.heap.size w w' := by
  have dl : decide (200 < (n : Int)) = true := decide_eq_true (by omega)
  have dl' : decide (200 < n) = true := decide_eq_true hl
  have bb := (Below.refl w.heap.size w).alloc (Nat.le_refl _) (.cells #[.int .i64 s, .int .i64 r, .int .i64 f, .slice a n cap] 24)
  clear hl
  go_enter Try.func3, Try.ntmps3
  go_wp2
  go_ret
  exact ⟨rfl, bb⟩

/-- The law, of whatever data. -/
theorem dataExact_walk (s r f : Int) (a : Option Addr) (len cap : Nat) (z1 : List Int) (w : World) (h1 : IsRow .u8 w a len cap z1) :
    Calls Try.prog 3 #[.agg #[.int .i64 s, .int .i64 r, .int .i64 f, .slice a len cap]] w fun e w' => e = .returned (.bool true) ∧ Below w.heap.size w w' := by
  obtain ⟨xs, rfl, hx, bx⟩ := holds_of_isRow h1
  by_cases hl : 200 < xs.length
  · exact dataExact_long s r f a _ cap hl w
  by_cases hE : errD s r f xs.length = 0
  · exact dataExact_ok s r f a cap xs (by omega) (bytes_bd bx) ((rightD_iff _ _ _ _).1 hE) w hx
  · exact dataExact_no s r f a cap xs (by omega) (bytes_bd bx) hE w hx

end Go.Proofs.Ytpfhnefgibiedaa
