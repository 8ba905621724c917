/-
  What package block's take answers: what bytes say, right or not.
-/
import Derived.Test.YtejpnjegahbaoaaBlockMake
namespace Go.Proofs.Ytejpnjegahbaoaa
open Go.RowKit

/-- The text that bytes say, with noughts behind it where they are too few. -/
def tkX (zs : List Int) : List Int := (zs.drop 6).take (rdN zs) ++ List.replicate (rdN zs - (zs.length - 6)) 0
theorem tkX_len (zs : List Int) : (tkX zs).length = rdN zs := by
  unfold tkX; rw [List.length_append, List.length_take, List.length_drop, List.length_replicate]; omega
theorem tkX_fits {Z : Nat} {zs : List Int} (hl : zs.length = Z + 10) (h : rdN zs ≤ Z) : tkX zs = rdX zs := by
  unfold tkX rdX
  rw [show rdN zs - (zs.length - 6) = 0 by omega]
  simp

theorem row_heap {W : World} {base n g : Nat} (h : W.ownsRow base 5 1 (.slice (some ⟨g, 0, none⟩) n n) n ((List.replicate n (0 : Int)).map (Value.int .u8))) : W.heap[g]? = some (.cells (List.replicate n (Value.int .u8 0)).toArray 5 (0, 0)) := by
  rw [List.map_replicate] at h
  rcases h.2 with ⟨e, _⟩ | ⟨g', c, cur, e, _, hg, _, _, hs, ht⟩
  · cases e
  · cases e
    rw [hg]
    congr 2
    have hc : cur.toList = List.replicate n (.int .u8 0) := by
      rw [← ht, List.take_of_length_le]
      simp [hs]
    rw [← hc]

theorem heap_holds {W : World} {g n cap : Nat} {ys : List Int} (h : W.heap[g]? = some (.cells (ys.map (Value.int .u8)).toArray 5 (0, 0))) (hl : ys.length = n) : Holds .u8 W.heap.size W (.slice (some ⟨g, 0, none⟩) n cap) ys := by
  subst hl
  refine .inr ⟨g, 0, cap, rfl, (Array.getElem?_eq_some_iff.1 h).1, fun j hj => ?_⟩
  simp [World.cell?, h, hj]

/-- copy over a row of noughts: its run. -/
theorem run_copy_over (g b off n L cap : Nat) (cs : List Int) (w : World) (hg : w.heap[g]? = some (.cells (List.replicate n (Value.int .u8 0)).toArray 5 (0, 0))) (hl : cs.length = Nat.min L n) (hn : cs.length ≤ n)
    (hc : ∀ (j : Nat) (v : Value), (cs.map (Value.int .u8))[j]? = some v → w.cell? ((⟨b, off, none⟩ : Addr).add j) = some v) :
    ∃ w2, (Builtin.copy_ #[22, 22] 3 #[.slice (some ⟨g, 0, none⟩) n n, .slice (some ⟨b, off, none⟩) L cap]).run Try.prog w = .ok (.int .i64 cs.length) w2 ∧ w2.heap[g]? = some (.cells ((cs ++ List.replicate (n - cs.length) 0).map (Value.int .u8)).toArray 5 (0, 0)) ∧ Below g w w2 := by
  obtain ⟨i0, hi, hz0, hz1, hz2⟩ := info_parts infoU8
  have hsz : (Try.prog.info? 5).map (·.size) = some 1 := by rw [hi]; simp [hz1]
  have hr := run_copy_row (P := Try.prog) w 22 22 3 5 g 0 n n ⟨b, off, none⟩ L cap _ 5 (cs.map (Value.int .u8)) Try.underlying22 hsz hg (by rw [List.length_map]; exact hl) hc (by simp; omega) (oneCells _ _)
  have e0 : ((List.replicate n (Value.int .u8 0)).toArray.toList.take 0 ++ cs.map (Value.int .u8) ++ (List.replicate n (Value.int .u8 0)).toArray.toList.drop (0 + (cs.map (Value.int .u8)).length)) = (cs ++ List.replicate (n - cs.length) 0).map (Value.int .u8) := by
    simp
  rw [e0, List.length_map] at hr
  exact ⟨_, hr, setRow_heap w g _ _ _ _ hg, below_setRow (Below.refl g w) (Nat.le_refl _) _⟩

theorem holds_set3 {kd : IntKind} {W : World} {D g n cap : Nat} {ys : List Int} (h : Holds kd W.heap.size W (.slice (some ⟨g, 0, none⟩) n cap) ys) (hD : g ≠ D) (x y z : Value) : Holds kd (((W.setCell ⟨D, 0, none⟩ x).setCell ⟨D, 1, none⟩ y).setCell ⟨D, 2, none⟩ z).heap.size (((W.setCell ⟨D, 0, none⟩ x).setCell ⟨D, 1, none⟩ y).setCell ⟨D, 2, none⟩ z) (.slice (some ⟨g, 0, none⟩) n cap) ys := by
  rcases h with h | ⟨b, off, c, e, hb, hc⟩
  · exact .inl h
  · cases e
    refine .inr ⟨g, 0, cap, rfl, by simpa [World.setCell] using hb, fun j hj => ?_⟩
    rw [World.cell?_setCell_other _ _ _ _ (fun e => hD (congrArg Addr.block e).symm), World.cell?_setCell_other _ _ _ _ (fun e => hD (congrArg Addr.block e).symm), World.cell?_setCell_other _ _ _ _ (fun e => hD (congrArg Addr.block e).symm)]
    exact hc j hj

set_option maxRecDepth 100000 in
set_option maxHeartbeats 4000000 in
theorem take_any (Z : Nat) (hZ2 : Z ≤ 16) (a : Option Addr) (cap : Nat) (zs : List Int) (hl : zs.length = Z + 10) (hc : zs.length ≤ cap) (bz : ∀ z ∈ zs, 0 ≤ z ∧ z ≤ 255) (w : World) (ha : Holds .u8 w.heap.size w (.slice a zs.length cap) zs) :
    Calls Try.prog 25 #[.slice a zs.length cap] w fun e W' => ∃ g, e = .returned (.tuple #[.agg #[.int .i64 (rdS zs), .int .i64 (rdM zs), .slice (some ⟨g, 0, none⟩) (rdN zs) (rdN zs)], .int .i64 0]) ∧ Holds .u8 W'.heap.size W' (.slice (some ⟨g, 0, none⟩) (rdN zs) (rdN zs)) (tkX zs) ∧ w.heap.size ≤ g ∧ Below w.heap.size w W' := by
  obtain ⟨i0, hi, hz0, hz1, hz2⟩ := info_parts infoU8
  have hsz : (Try.prog.info? 5).map (·.size) = some 1 := by rw [hi]; simp [hz1]
  have b0 := (Below.refl w.heap.size w).alloc (Nat.le_refl _) (.cells #[.int .i64 0, .int .i64 0, .slice none 0 0] 24)
  have x0 := Box.new w 24 #[.int .i64 0, .int .i64 0, .slice none 0 0]
  have hcap6 : ¬ cap = 6 := by omega
  rcases id ha with ⟨_, e⟩ | ⟨b, off, cap', e, hb, hcs⟩
  · rw [e] at hl; simp at hl
  cases e
  have c4 : w.cell? ⟨b, off + 4, none⟩ = some (.int .u8 (rdM zs)) := hcs 4 (by omega)
  have hN0 : 0 ≤ (zs[5]?.getD 0 : Int) ∧ (zs[5]?.getD 0 : Int) ≤ 255 := by
    have h5 : 5 < zs.length := by omega
    rw [List.getElem?_eq_getElem h5]
    exact bz _ (List.getElem_mem h5)
  have c5 : w.cell? ⟨b, off + 5, none⟩ = some (.int .u8 (rdN zs : Int)) := by
    rw [show (rdN zs : Int) = zs[5]?.getD 0 by unfold rdN; omega]; exact hcs 5 (by omega)
  have hM0 : 0 ≤ rdM zs ∧ rdM zs ≤ 255 := by
    unfold rdM
    have h5 : 4 < zs.length := by omega
    rw [List.getElem?_eq_getElem h5]
    exact bz _ (List.getElem_mem h5)
  have hN1 : rdN zs ≤ 255 := by unfold rdN; omega
  have HGet : Calls Try.prog 36 #[.slice (some ⟨b, off, none⟩) zs.length cap, .int .i64 0, .int .i64 4] (w.alloc (.cells #[.int .i64 0, .int .i64 0, .slice none 0 0] 24)) fun e w' => e = .returned (.tuple #[.int .i64 (rdS zs), .int .i64 0]) ∧ (w.alloc (.cells #[.int .i64 0, .int .i64 0, .slice none 0 0] 24)) = w' := get_ok b off cap zs 0 4 _ (by decide) (by decide) (by omega) hc (by omega) bz (fun j hj => (b0.cell (p := ⟨b, off + j, none⟩) hb).trans (hcs j hj))
  have e4 := (b0.cell (p := ⟨b, off + 4, none⟩) hb).trans c4
  have e5 := (b0.cell (p := ⟨b, off + 5, none⟩) hb).trans c5
  obtain ⟨cs, hcse⟩ : ∃ cs, (zs.drop 6).take (rdN zs) = cs := ⟨_, rfl⟩
  have hcl : cs.length = Nat.min (zs.length - 6) (rdN zs) := by rw [← hcse, List.length_take, List.length_drop, Nat.min_comm]
  have HCL : Hid (cs.length = Nat.min (zs.length - 6) (rdN zs)) := hcl
  have HCS : Hid (∀ (j : Nat) (v : Value), (cs.map (Value.int .u8))[j]? = some v → w.cell? ((⟨b, off + 6, none⟩ : Addr).add j) = some v) := fun j v hj => by
    have hj1 : j < cs.length := by simpa using (List.getElem?_eq_some_iff.1 hj).1
    have hj2 : j < zs.length - 6 := Nat.lt_of_lt_of_le (hcl ▸ hj1) (Nat.min_le_left _ _)
    have hj3 : j < rdN zs := Nat.lt_of_lt_of_le (hcl ▸ hj1) (Nat.min_le_right _ _)
    rw [Addr.add_lit, Nat.add_assoc, hcs (6 + j) (by omega)]
    rw [← hcse] at hj
    rw [List.getElem?_map, List.getElem?_take_of_lt hj3, List.getElem?_drop, List.getElem?_eq_getElem (by omega : 6 + j < zs.length)] at hj
    rw [List.getElem?_eq_getElem (by omega : 6 + j < zs.length)]
    exact hj
  have HT : Hid (cs ++ List.replicate (rdN zs - cs.length) 0 = tkX zs) := by
    show _ = _
    unfold tkX
    rw [hcse]
    congr 2
    rw [hcl]
    show rdN zs - min (zs.length - 6) (rdN zs) = _
    omega
  have HTL : Hid ((tkX zs).length = rdN zs) := tkX_len zs
  have HCN : Hid (cs.length ≤ rdN zs) := by show cs.length ≤ _; rw [hcl]; exact Nat.min_le_right _ _
  obtain ⟨S, hS⟩ : ∃ S, rdS zs = S := ⟨_, rfl⟩
  obtain ⟨M, hM⟩ : ∃ M, rdM zs = M := ⟨_, rfl⟩
  obtain ⟨n, hn⟩ : ∃ n, rdN zs = n := ⟨_, rfl⟩
  obtain ⟨X, hX⟩ : ∃ X, tkX zs = X := ⟨_, rfl⟩
  rw [hS] at HGet
  rw [hM] at e4 hM0
  rw [hn] at e5 hN1 HCL HT HTL HCN
  rw [hX] at HT HTL
  rw [hS, hM, hn, hX]
  have ewM : IntKind.i64.wrap M = M := by rw [IntKind.wrap_i64]; omega
  have hi5 : (5 : Int) < (zs.length : Int) := by omega
  have hi5' : 5 < zs.length := by omega
  have hi4 : (4 : Int) < (zs.length : Int) := by omega
  have hi4' : 4 < zs.length := by omega
  have hi6 : (6 : Int) ≤ (zs.length : Int) := by omega
  have hi6' : 6 ≤ zs.length := by omega
  clear bz hl hcs ha hN0 hS hM hn hX hcse hcl c4 c5
  go_enter Try.func25, Try.ntmps25
  go_wp2_with fail
  refine HGet.mono ?_
  rintro e w1 ⟨rfl, rfl⟩
  clear HGet
  go_wp2_with (at_make; refine wpList_make_full _ rfl _ _ 22 rfl (w.heap.size + 1) 5 i0 (.int .u8 0) 1 Try.underlying22 hi hz0 hz1 .i64 .i64 _ _ n rfl rfl rfl rfl (by rw [hz2]; omega) (by unfold maxLen; omega) (by simp) ?_; intro w2 hown2 hgrow2)
  have b2 : Below (w.heap.size + 1) (w.alloc (.cells #[.int .i64 0, .int .i64 0, .slice none 0 0] 24)) w2 := (Below.refl _ _).grown hgrow2 (by simp) (fun k e => by cases e)
  have o2 := made_noughts hown2
  rw [show (w.alloc (.cells #[.int .i64 0, .int .i64 0, .slice none 0 0] 24)).heap.size = w.heap.size + 1 by simp] at o2
  obtain ⟨w3, hr3, hg3, b3'⟩ := run_copy_over (w.heap.size + 1) b (off + 6) n (zs.length - 6) (cap - 6) cs w2 (row_heap o2) HCL.out HCN.out (fun j v hj => (b2.cell (p := (⟨b, off + 6, none⟩ : Addr).add j) (by rw [Addr.add_lit]; show b < w.heap.size + 1; omega)).trans ((b0.cell (p := (⟨b, off + 6, none⟩ : Addr).add j) (by rw [Addr.add_lit]; exact hb)).trans (HCS.out j v hj)))
  have b3 := b2.trans b3'
  have z4 := (b3.cell (p := ⟨b, off + 4, none⟩) (by show b < w.heap.size + 1; omega)).trans e4
  have y3 := x0.below b3 (by simp)
  have z0 := y3.cell 0 _ rfl
  have z1 := y3.cell 1 _ rfl
  have z2 := y3.cell 2 _ rfl
  have f0 := y3.free 0
  have f1 := y3.free 1
  have f2 := y3.free 2
  have hs3 : w.heap.size + 1 < w3.heap.size := (Array.getElem?_eq_some_iff.1 hg3).1
  have bb3 : Below w.heap.size w w3 := b0.trans (b3.mono (by omega))
  have HH : Hid (Holds .u8 w3.heap.size w3 (.slice (some ⟨w.heap.size + 1, 0, none⟩) n n) X) := heap_holds (HT.out ▸ hg3) HTL.out
  clear hown2 hgrow2 o2 b2 b3' hg3 e4 e5 HCS HCL HCN HT HTL b3 b0 x0
  rw [hr3]
  clear hr3
  go_wp2
  refine bodyPost_ret (v := .tuple #[.agg #[.int .i64 S, .int .i64 M, .slice (some ⟨w.heap.size + 1, 0, none⟩) n n], .int .i64 0]) (by simp [results, Try.results25, go_sem, z0, z1, z2]) rfl ⟨_, rfl, ?_, Nat.le_succ _, below_set3 bb3 (Nat.le_refl _) _ _ _⟩
  exact holds_set3 HH.out (by omega) _ _ _

end Go.Proofs.Ytejpnjegahbaoaa
