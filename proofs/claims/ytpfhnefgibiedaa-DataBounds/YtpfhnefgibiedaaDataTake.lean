/-
  What data's isSummed and take answer. (Written by tpl_datatake.py.)
-/
import Derived.Test.YtpfhnefgibiedaaDataMake
namespace Go.Proofs.Ytpfhnefgibiedaa
open Go.RowKit

theorem byte_at {zs : List Int} (bz : ∀ z ∈ zs, 0 ≤ z ∧ z ≤ 255) {k : Nat} (h : k < zs.length) : 0 ≤ (zs[k]?.getD 0 : Int) ∧ (zs[k]?.getD 0 : Int) ≤ 255 := by
  rw [List.getElem?_eq_getElem h]
  exact bz _ (List.getElem_mem h)

set_option maxRecDepth 100000 in
set_option maxHeartbeats 2000000 in
theorem isSummed_yes (a : Option Addr) (cap : Nat) (zs : List Int) (hl : dLen zs) (hc : zs.length ≤ cap) (bz : ∀ z ∈ zs, 0 ≤ z ∧ z ≤ 255) (hS : dSum zs) (w : World) (ha : Holds .u8 w.heap.size w (.slice a zs.length cap) zs) :
    Calls Try.prog 27 #[.slice a zs.length cap] w fun e w' => e = .returned (.tuple #[.bool true, .int .i64 0]) ∧ w = w' := by
  obtain ⟨hl1, hl2⟩ := hl
  rcases id ha with ⟨_, e⟩ | ⟨b, off, cap', e, hb, hcs⟩
  · rw [e] at hl1; simp at hl1
  cases e
  have HG : Calls Try.prog 37 #[.slice (some ⟨b, off, none⟩) zs.length cap, .int .i64 9, .int .i64 2] w fun e w' => e = .returned (.tuple #[.int .i64 (dC zs), .int .i64 0]) ∧ w = w' := get_ok b off cap zs 9 2 w (by decide) (by decide) (by omega) hc (by omega) bz hcs
  have h9 := holds_takeB ha 9 (by omega)
  rw [show (zs.take 9).length = 9 by rw [List.length_take]; omega] at h9
  have HS := Sum16_at (some ⟨b, off, none⟩) 9 cap (zs.take 9) (by rw [List.length_take]; omega) (by decide) (fun z hz => bz z (List.mem_of_mem_take hz)) w _ h9
  unfold dSum at hS
  have hi9 : (9 : Int) ≤ (zs.length : Int) := by omega
  have hi9' : 9 ≤ zs.length := by omega
  have hi9c : (9 : Int) ≤ (cap : Int) := by omega
  have hi9c' : 9 ≤ cap := by omega
  obtain ⟨C, hC⟩ : ∃ C, dC zs = C := ⟨_, rfl⟩
  obtain ⟨Q, hQ⟩ : ∃ Q, ((sum16 (zs.take 9) : Nat) : Int) = Q := ⟨_, rfl⟩
  rw [hC] at HG hS
  rw [hQ] at HS hS
  have d1 : (C == Q) = true := by rw [beq_iff_eq]; exact hS.symm
  clear hS hC hQ bz hcs ha h9
  go_enter Try.func27, Try.ntmps27
  go_wp2_with fail
  refine HS.mono ?_
  rintro e w1 ⟨rfl, rfl⟩
  go_wp2_with fail
  refine HG.mono ?_
  rintro e w1 ⟨rfl, rfl⟩
  go_wp2
  go_ret2
  exact ⟨by rfl, rfl⟩

set_option maxRecDepth 100000 in
set_option maxHeartbeats 2000000 in
theorem isSummed_no (a : Option Addr) (cap : Nat) (zs : List Int) (hl : dLen zs) (hc : zs.length ≤ cap) (bz : ∀ z ∈ zs, 0 ≤ z ∧ z ≤ 255) (hS : ¬ dSum zs) (w : World) (ha : Holds .u8 w.heap.size w (.slice a zs.length cap) zs) :
    Calls Try.prog 27 #[.slice a zs.length cap] w fun e w' => e = .returned (.tuple #[.bool false, .int .i64 0]) ∧ w = w' := by
  obtain ⟨hl1, hl2⟩ := hl
  rcases id ha with ⟨_, e⟩ | ⟨b, off, cap', e, hb, hcs⟩
  · rw [e] at hl1; simp at hl1
  cases e
  have HG : Calls Try.prog 37 #[.slice (some ⟨b, off, none⟩) zs.length cap, .int .i64 9, .int .i64 2] w fun e w' => e = .returned (.tuple #[.int .i64 (dC zs), .int .i64 0]) ∧ w = w' := get_ok b off cap zs 9 2 w (by decide) (by decide) (by omega) hc (by omega) bz hcs
  have h9 := holds_takeB ha 9 (by omega)
  rw [show (zs.take 9).length = 9 by rw [List.length_take]; omega] at h9
  have HS := Sum16_at (some ⟨b, off, none⟩) 9 cap (zs.take 9) (by rw [List.length_take]; omega) (by decide) (fun z hz => bz z (List.mem_of_mem_take hz)) w _ h9
  unfold dSum at hS
  have hi9 : (9 : Int) ≤ (zs.length : Int) := by omega
  have hi9' : 9 ≤ zs.length := by omega
  have hi9c : (9 : Int) ≤ (cap : Int) := by omega
  have hi9c' : 9 ≤ cap := by omega
  obtain ⟨C, hC⟩ : ∃ C, dC zs = C := ⟨_, rfl⟩
  obtain ⟨Q, hQ⟩ : ∃ Q, ((sum16 (zs.take 9) : Nat) : Int) = Q := ⟨_, rfl⟩
  rw [hC] at HG hS
  rw [hQ] at HS hS
  have d1 : (C == Q) = false := by rw [beq_eq_false_iff_ne]; exact fun e => hS e.symm
  clear hS hC hQ bz hcs ha h9
  go_enter Try.func27, Try.ntmps27
  go_wp2_with fail
  refine HS.mono ?_
  rintro e w1 ⟨rfl, rfl⟩
  go_wp2_with fail
  refine HG.mono ?_
  rintro e w1 ⟨rfl, rfl⟩
  go_wp2
  go_ret2
  exact ⟨by rfl, rfl⟩

theorem heap_row {W : World} {g n base : Nat} {ys : List Int} (h : W.heap[g]? = some (.cells (ys.map (Value.int .u8)).toArray 5 (0, 0))) (hl : ys.length = n) (hn : n ≤ 4096) (hb : base ≤ g) : W.ownsRow base 5 1 (.slice (some ⟨g, 0, none⟩) n n) n (ys.map (Value.int .u8)) := by
  subst hl
  exact ⟨by simp, .inr ⟨g, ys.length, (ys.map (Value.int .u8)).toArray, rfl, hb, h, Nat.le_refl _, by unfold maxLen; omega, by simp, by simp [List.take_of_length_le]⟩⟩

set_option maxRecDepth 100000 in
set_option maxHeartbeats 4000000 in
theorem dtake_at (a : Option Addr) (L cap : Nat) (zs : List Int) (hL : zs.length = L + 11) (hl : dLen zs) (hc : zs.length ≤ cap) (bz : ∀ z ∈ zs, 0 ≤ z ∧ z ≤ 255) (w : World) (ha : Holds .u8 w.heap.size w (.slice a zs.length cap) zs) :
    Calls Try.prog 28 #[.slice a zs.length cap] w fun e W' => ∃ g, e = .returned (.tuple #[.agg #[.int .i64 (dS zs), .int .i64 (dR zs), .int .i64 (dF zs), .slice (some ⟨g, 0, none⟩) L L], .int .i64 0]) ∧ W'.ownsRow w.heap.size 5 1 (.slice (some ⟨g, 0, none⟩) L L) L ((dX zs).map (Value.int .u8)) ∧ Below w.heap.size w W' := by
  obtain ⟨i0, hi, hz0, hz1, hz2⟩ := info_parts infoU8
  obtain ⟨hl1, hl2⟩ := hl
  have b0 := (Below.refl w.heap.size w).alloc (Nat.le_refl _) (.cells #[.int .i64 0, .int .i64 0, .int .i64 0, .slice none 0 0] 24)
  have x0 := Box.new w 24 #[.int .i64 0, .int .i64 0, .int .i64 0, .slice none 0 0]
  rcases id ha with ⟨_, e⟩ | ⟨b, off, cap', e, hb, hcs⟩
  · rw [e] at hl1; simp at hl1
  cases e
  have c5 : w.cell? ⟨b, off + 5, none⟩ = some (.int .u8 (dR zs)) := hcs 5 (by omega)
  have hR0 := byte_at bz (k := 5) (by omega)
  have hR0 : 0 ≤ dR zs ∧ dR zs ≤ 255 := hR0
  have HG1 : Calls Try.prog 37 #[.slice (some ⟨b, off, none⟩) zs.length cap, .int .i64 1, .int .i64 4] (w.alloc (.cells #[.int .i64 0, .int .i64 0, .int .i64 0, .slice none 0 0] 24)) fun e w' => e = .returned (.tuple #[.int .i64 (dS zs), .int .i64 0]) ∧ (w.alloc (.cells #[.int .i64 0, .int .i64 0, .int .i64 0, .slice none 0 0] 24)) = w' := get_ok b off cap zs 1 4 _ (by decide) (by decide) (by omega) hc (by omega) bz (fun j hj => (b0.cell (p := ⟨b, off + j, none⟩) hb).trans (hcs j hj))
  have HG2 : Calls Try.prog 37 #[.slice (some ⟨b, off, none⟩) zs.length cap, .int .i64 6, .int .i64 2] (w.alloc (.cells #[.int .i64 0, .int .i64 0, .int .i64 0, .slice none 0 0] 24)) fun e w' => e = .returned (.tuple #[.int .i64 (dF zs), .int .i64 0]) ∧ (w.alloc (.cells #[.int .i64 0, .int .i64 0, .int .i64 0, .slice none 0 0] 24)) = w' := get_ok b off cap zs 6 2 _ (by decide) (by decide) (by omega) hc (by omega) bz (fun j hj => (b0.cell (p := ⟨b, off + j, none⟩) hb).trans (hcs j hj))
  have e5 := (b0.cell (p := ⟨b, off + 5, none⟩) hb).trans c5
  have HXL : Hid ((dX zs).length = L) := by show (dX zs).length = L; unfold dX; rw [List.length_drop]; omega
  have HCS : Hid (∀ (j : Nat) (v : Value), ((dX zs).map (Value.int .u8))[j]? = some v → w.cell? ((⟨b, off + 11, none⟩ : Addr).add j) = some v) := fun j v hj => by
    have hj1 : j < (dX zs).length := by simpa using (List.getElem?_eq_some_iff.1 hj).1
    have hj2 : j < L := HXL.out ▸ hj1
    rw [Addr.add_lit, Nat.add_assoc, hcs (11 + j) (by omega)]
    unfold dX at hj
    rw [List.getElem?_map, List.getElem?_drop, List.getElem?_eq_getElem (by omega : 11 + j < zs.length)] at hj
    rw [List.getElem?_eq_getElem (by omega : 11 + j < zs.length)]
    exact hj
  obtain ⟨S, hS⟩ : ∃ S, dS zs = S := ⟨_, rfl⟩
  obtain ⟨R, hR⟩ : ∃ M, dR zs = M := ⟨_, rfl⟩
  obtain ⟨F, hF⟩ : ∃ n, dF zs = n := ⟨_, rfl⟩
  obtain ⟨X, hX⟩ : ∃ X, dX zs = X := ⟨_, rfl⟩
  rw [hS] at HG1
  rw [hF] at HG2
  rw [hR] at e5 hR0
  rw [hX] at HXL HCS
  rw [hS, hR, hF, hX]
  have ewR : IntKind.i64.wrap R = R := by rw [IntKind.wrap_i64]; omega
  obtain ⟨Z, hZ⟩ : ∃ Z, zs.length = Z := ⟨_, rfl⟩
  rw [hZ] at hL hl1 hl2 hc HG1 HG2 ⊢
  have HL : Hid (Z = L + 11) := hL
  have hL64 : L ≤ 64 := by omega
  have eL : (Z : Int) - 11 = (L : Int) := by omega
  have eL2 : Z - 11 = L := by omega
  have hi5 : (5 : Int) < (Z : Int) := by omega
  have hi5' : 5 < Z := by omega
  have hi11 : (11 : Int) ≤ (Z : Int) := by omega
  have hi11' : 11 ≤ Z := by omega
  have hcap11 : ¬ cap = 11 := by omega
  clear bz hcs ha c5 hS hR hF hX hZ hL
  go_enter Try.func28, Try.ntmps28
  go_wp2_with fail
  refine HG1.mono ?_
  rintro e w1 ⟨rfl, rfl⟩
  clear HG1
  go_wp2_with fail
  refine HG2.mono ?_
  rintro e w1 ⟨rfl, rfl⟩
  clear HG2
  go_wp2_with (at_make; refine wpList_make_full _ rfl _ _ 22 rfl (w.heap.size + 1) 5 i0 (.int .u8 0) 1 Try.underlying22 hi hz0 hz1 .i64 .i64 _ _ L rfl rfl rfl rfl (by rw [hz2]; omega) (by unfold maxLen; omega) (by simp) ?_; intro w2 hown2 hgrow2)
  have b2 : Below (w.heap.size + 1) (w.alloc (.cells #[.int .i64 0, .int .i64 0, .int .i64 0, .slice none 0 0] 24)) w2 := (Below.refl _ _).grown hgrow2 (by simp) (fun k e => by cases e)
  have o2 := made_noughts hown2
  rw [show (w.alloc (.cells #[.int .i64 0, .int .i64 0, .int .i64 0, .slice none 0 0] 24)).heap.size = w.heap.size + 1 by simp] at o2
  obtain ⟨w3, hr3, hg3, b3'⟩ := run_copy_over (w.heap.size + 1) b (off + 11) L L (cap - 11) X w2 (row_heap o2) (by rw [HXL.out]; exact (Nat.min_self L).symm) (by rw [HXL.out]; exact Nat.le_refl _) (fun j v hj => (b2.cell (p := (⟨b, off + 11, none⟩ : Addr).add j) (by rw [Addr.add_lit]; show b < w.heap.size + 1; omega)).trans ((b0.cell (p := (⟨b, off + 11, none⟩ : Addr).add j) (by rw [Addr.add_lit]; exact hb)).trans (HCS.out j v hj)))
  rw [HXL.out, Nat.sub_self, List.replicate_zero, List.append_nil] at hg3
  have b3 := b2.trans b3'
  have z5 := (b3.cell (p := ⟨b, off + 5, none⟩) (by show b < w.heap.size + 1; omega)).trans e5
  have y3 := x0.below b3 (by simp)
  have z0 := y3.cell 0 _ rfl
  have z1 := y3.cell 1 _ rfl
  have z2 := y3.cell 2 _ rfl
  have z3 := y3.cell 3 _ rfl
  have f0 := y3.free 0
  have f1 := y3.free 1
  have f2 := y3.free 2
  have f3 := y3.free 3
  have hs3 : w.heap.size + 1 < w3.heap.size := (Array.getElem?_eq_some_iff.1 hg3).1
  have bb3 : Below w.heap.size w w3 := b0.trans (b3.mono (by omega))
  have HH : Hid (w3.ownsRow (w.heap.size + 1) 5 1 (.slice (some ⟨w.heap.size + 1, 0, none⟩) L L) L (X.map (Value.int .u8))) := heap_row hg3 HXL.out (by omega) (Nat.le_refl _)
  clear hown2 hgrow2 o2 b2 b3' hg3 e5 HCS b3 b0 x0
  rw [hr3]
  clear hr3
  go_wp2
  refine bodyPost_ret (v := .tuple #[.agg #[.int .i64 S, .int .i64 R, .int .i64 F, .slice (some ⟨w.heap.size + 1, 0, none⟩) L L], .int .i64 0]) (by simp [results, Try.results28, go_sem, z0, z1, z2, z3]) rfl ⟨_, rfl, ?_, below_set4 bb3 (Nat.le_refl _) _ _ _ _⟩
  exact row_base (row_set4 HH.out (Nat.lt_succ_self _) _ _ _ _) (Nat.le_succ _)

end Go.Proofs.Ytpfhnefgibiedaa
