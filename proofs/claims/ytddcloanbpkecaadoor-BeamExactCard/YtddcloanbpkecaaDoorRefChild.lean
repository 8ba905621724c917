/-
  What the page's child answers: a node's child.
-/
import Derived.Test.YtddcloanbpkecaaDoorRefPiles
import Derived.Test.YtddcloanbpkecaaDoorRefCost
import Derived.Test.YtddcloanbpkecaaDoorRefSpine
import Derived.Test.YtddcloanbpkecaaDoorTwinInts
import Derived.RegionTactic
import Derived.BigRegion
import Derived.Deep.RegionWith
import Derived.Deep.RegionHeldLaw
import Derived.Deep.AppendLies
namespace Go.Proofs.YtddcloanbpkecaaDoor
open Go.RowKit

theorem keep4 {W : World} {D B o : Nat} (h : B ≠ D) (x y z u : Value) {v : Value} (hc : W.cell? ⟨B, o, none⟩ = some v) : ((((W.setCell ⟨D, 0, none⟩ x).setCell ⟨D, 1, none⟩ y).setCell ⟨D, 2, none⟩ z).setCell ⟨D, 3, none⟩ u).cell? ⟨B, o, none⟩ = some v := by
  have hd : ∀ i, (⟨D, i, none⟩ : Addr) ≠ ⟨B, o, none⟩ := fun i e => h (congrArg Addr.block e).symm
  rw [World.cell?_setCell_other _ _ _ _ (hd 3), World.cell?_setCell_other _ _ _ _ (hd 2), World.cell?_setCell_other _ _ _ _ (hd 1), World.cell?_setCell_other _ _ _ _ (hd 0)]
  exact hc

theorem news_at {W : World} {B : Nat} {x : Value} (h : W.cell? ⟨B, 0, none⟩ = some x) : ∀ (j : Nat) (u : Value), [x][j]? = some u → W.cell? ((⟨B, 0, none⟩ : Addr).add j) = some u := by
  intro j u hj
  cases j with
  | zero => simp at hj; subst hj; simpa [Addr.add] using h
  | succ j => simp at hj

set_option maxRecDepth 100000 in
set_option maxHeartbeats 1000000 in
theorem refChild_any (b off n cap : Nat) (S : List (List (Int × Int))) (s : Nat) (hs : s < 4294967296) (m c : Int) (hm0 : 0 ≤ m) (hm1 : m ≤ 1048576) (pa : Option Addr) (pc : Nat) (ps : List Int) (hpl : ps.length ≤ 1048576) (hn : ps.length < n) (hn2 : n ≤ 1048576) (k : Nat) (hk : k < 16) (L : List (Int × Int)) (hL : S[ps.length]? = some L) (hLl : L.length ≤ 1048576) (hLc : CostOk L) (hcb : costN (stepN s k) L ≤ 1048576) (hSn : S.length = n) (w : World)
    (hS : Segs w.heap.size w (.slice (some ⟨b, off, none⟩) n cap) S) (hp : Holds .i64 w.heap.size w (.slice pa ps.length pc) ps) :
    Calls Tryd.prog 37 #[.slice (some ⟨b, off, none⟩) n cap, .agg #[.int .u32 s, .int .i64 m, .int .i64 c, .slice pa ps.length pc], .int .i64 k] w fun e W' => ∃ qa qc, e = .returned (.agg #[.int .u32 ((stepN s k : Nat) : Int), .int .i64 (m + ((costN (stepN s k) L : Nat) : Int)), .int .i64 0, .slice qa (ps.length + 1) qc]) ∧ W'.ownsRow w.heap.size 3 1 (.slice qa (ps.length + 1) qc) (ps.length + 1) ((ps ++ [(k : Int)]).map (Value.int .i64)) ∧ Below w.heap.size w W' := by
  have hst : stepN s k < 4294967296 := stepN_lt s k
  obtain ⟨t, ht⟩ : ∃ t, stepN s k = t := ⟨_, rfl⟩
  obtain ⟨cl, hcl⟩ : ∃ cl, costN t L = cl := ⟨_, rfl⟩
  have HST := refStep_any s k hs hk
  rw [ht] at hst hcb HST ⊢
  rw [hcl] at hcb ⊢
  have HCL : Hid (costN t L = cl) := hcl
  have b1 : Below w.heap.size w ((w.alloc (.cells #[.int .u32 s, .int .i64 m, .int .i64 c, .slice pa ps.length pc] 32)).alloc (.cells #[.int .u32 0, .int .i64 0, .int .i64 0, .slice none 0 0] 32)) := ((Below.refl w.heap.size w).alloc (Nat.le_refl _) _).alloc (by simp) _
  have x1 : Box ((w.alloc (.cells #[.int .u32 s, .int .i64 m, .int .i64 c, .slice pa ps.length pc] 32)).alloc (.cells #[.int .u32 0, .int .i64 0, .int .i64 0, .slice none 0 0] 32)) w.heap.size 32 #[.int .u32 s, .int .i64 m, .int .i64 c, .slice pa ps.length pc] := (Box.new w 32 _).alloc _
  have x2 : Box ((w.alloc (.cells #[.int .u32 s, .int .i64 m, .int .i64 c, .slice pa ps.length pc] 32)).alloc (.cells #[.int .u32 0, .int .i64 0, .int .i64 0, .slice none 0 0] 32)) (w.heap.size + 1) 32 #[.int .u32 0, .int .i64 0, .int .i64 0, .slice none 0 0] := by
    have := Box.new (w.alloc (.cells #[.int .u32 s, .int .i64 m, .int .i64 c, .slice pa ps.length pc] 32)) 32 #[.int .u32 0, .int .i64 0, .int .i64 0, .slice none 0 0]
    simpa using this
  clear ht hcl
  go_enter Tryd.func37, Tryd.ntmps37
  go_wp2_with fail
  refine (HST _).mono ?_
  rintro e wz ⟨rfl, rfl⟩
  go_wp2
  obtain ⟨W1, hW1⟩ : ∃ W, (w.alloc (.cells #[.int .u32 s, .int .i64 m, .int .i64 c, .slice pa ps.length pc] 32)).alloc (.cells #[.int .u32 0, .int .i64 0, .int .i64 0, .slice none 0 0] 32) = W := ⟨_, rfl⟩
  rw [hW1] at b1 x1 x2 ⊢
  clear hW1
  have hp1 := hp.below b1
  have hS1 := hS.below b1
  obtain ⟨la, lc, cS, hSy⟩ := segs_at hS1 hL
  have HPH : Hid (Holds .i64 w.heap.size W1 (.slice pa ps.length pc) ps) := hp1
  have HSY : Hid (Syms w.heap.size W1 (.slice la L.length lc) L) := hSy
  have HLC : Hid (CostOk L) := hLc
  have HCO : Hid (∀ (wx : World), Syms w.heap.size wx (.slice la L.length lc) L → Calls Tryd.prog 53 #[.int .u32 (t : Int), .slice la L.length lc] wx fun e w' => e = .returned (.int .i64 (cl : Int)) ∧ ∃ n, w' = wx.drewN n) := fun wx hx => by
    have := refCost_any t hst la lc L (by omega) hLc wx w.heap.size hx
    rw [HCL.out] at this
    exact this
  have HTW : Hid (∀ (wx : World), Holds .i64 w.heap.size wx (.slice pa ps.length pc) ps → Calls Tryd.prog 7 #[.slice pa ps.length pc] wx fun e W' => ∃ r, e = .returned r ∧ W'.ownsRow wx.heap.size 3 1 r ps.length (ps.map (Value.int .i64)) ∧ Below wx.heap.size wx W') := fun wx hx => twinInts_any _ ps w.heap.size (by omega) wx hx
  have k0 := x1.cell 0 _ rfl
  have k1 := x1.cell 1 _ rfl
  have k2 := x1.cell 2 _ rfl
  have k3 := x1.cell 3 _ rfl
  have hlt1 := x1.lt
  have hlt2 := x2.lt
  have hb0 : b < w.heap.size := by obtain ⟨b', o', c', e, hb'⟩ := hS.shape; cases e; exact hb'
  have hltb : b < W1.heap.size := by have := b1.size; omega
  have ewm : IntKind.i64.wrap (m + (cl : Int)) = m + (cl : Int) := by rw [IntKind.wrap_i64]; omega
  obtain ⟨i0, hi, hz0, hz1, hz2⟩ := info_parts infoI64
  have HBA : Hid (∀ q, Below W1.heap.size W1 ((W1.drewN q).alloc (.cells #[.int .i64 (k : Int)] 3))) := fun q => (below_drewN (Below.refl _ _) q).alloc (Nat.le_refl _) _
  have HPHA : Hid (∀ q, Holds .i64 w.heap.size ((W1.drewN q).alloc (.cells #[.int .i64 (k : Int)] 3)) (.slice pa ps.length pc) ps) := fun q => HPH.out.below ((HBA.out q).mono b1.size)
  have HBB : Hid (Below W1.heap.size W1 (W1.alloc (.cells #[.int .i64 (k : Int)] 3))) := (Below.refl _ _).alloc (Nat.le_refl _) _
  have HPHB : Hid (Holds .i64 w.heap.size (W1.alloc (.cells #[.int .i64 (k : Int)] 3)) (.slice pa ps.length pc) ps) := HPH.out.below (HBB.out.mono b1.size)
  have HSYA : Hid (Syms w.heap.size (W1.alloc (.cells #[.int .i64 (k : Int)] 3)) (.slice la L.length lc) L) := HSY.out.below (HBB.out.mono b1.size)
  have HNC : Hid ((W1.alloc (.cells #[.int .i64 (k : Int)] 3)).cell? ⟨W1.heap.size, 0, none⟩ = some (.int .i64 (k : Int))) := (Box.new W1 3 #[.int .i64 (k : Int)]).cell 0 _ rfl
  have HB1 : Hid (Below w.heap.size w W1) := b1
  have X2 : Hid (Box W1 (w.heap.size + 1) 32 #[.int .u32 0, .int .i64 0, .int .i64 0, .slice none 0 0]) := x2
  clear hp hS hp1 hS1 hSy hL hLc HST
  go_region_held_law (fun w' => w'.cell? ⟨w.heap.size, 1, none⟩ = some (.int .i64 m) ∧ w'.cell? ⟨w.heap.size, 3, none⟩ = some (.slice pa ps.length pc) ∧ w'.cell? ⟨b, off + ps.length, none⟩ = some (.slice la L.length lc)) (first | (go_keep; done) | (refine ⟨keep4 (by omega) _ _ _ _ ?_, keep4 (by omega) _ _ _ _ ?_, keep4 (by omega) _ _ _ _ ?_⟩ <;> assumption)) (first | (go_at_call 53; refine (HCO.out _ (by first | exact HSY.out | exact HSYA.out)).mono ?_; rintro e wc ⟨rfl, nd, rfl⟩) | (go_at_call 7; refine (HTW.out _ (by first | exact HPH.out | exact HPHA.out _ | exact HPHB.out)).mono ?_; rintro e w2 ⟨q, rfl, oq, b2⟩; obtain ⟨qa0, qc0, rfl, _⟩ := (kept_of_row oq).2; have oq' : w2.ownsRow W1.heap.size 3 1 (.slice qa0 ps.length qc0) ps.length (ps.map (Value.int .i64)) := (by first | exact oq | exact rowN_base oq (by simp)); have BX2 : Below W1.heap.size W1 w2 := (by first | exact (below_drewN (Below.refl _ _) _).trans b2 | exact (HBA.out _).trans (b2.mono (by simp)) | exact (below_drewN HBB.out _).trans (b2.mono (by simp))); have m1 := (BX2.cell (p := ⟨w.heap.size, 1, none⟩) hlt1).trans k1; have m3 := (BX2.cell (p := ⟨w.heap.size, 3, none⟩) hlt1).trans k3; have mS := (BX2.cell (p := ⟨b, off + ps.length, none⟩) hltb).trans cS) | (refine step_append_lies _ rfl _ _ 25 rfl W1.heap.size 3 i0 (.int .i64 0) 1 8 Tryd.underlying25 hi hz0 hz1 hz2 rfl (by decide) (.slice qa0 ps.length qc0) ps.length (ps.map (Value.int .i64)) (by simp [Act.eval]) (by exact (oq'.alloc (.cells #[.int .i64 (k : Int)] 3))) ⟨w2.heap.size, 0, none⟩ 1 1 [.int .i64 (k : Int)] (by simp [Act.eval]) rfl (by exact World.news_of_block (World.alloc_heap_new _ _)) (by simp [Value.oneCell']) (by decide) (by unfold maxLen; omega) (by omega) (by have := BX2.size; simp; omega) _ rfl ?_; intro g9 cap9 w9 hown9 hgrow9 hat9 hlt9; have BX9 : Below W1.heap.size W1 w9 := (BX2.alloc BX2.size (.cells #[.int .i64 (k : Int)] 3)).grown hgrow9 (by have := BX2.size; simp; omega) (fun z e => (oq'.lt z e).1); have m1' : w9.cell? ⟨w.heap.size, 1, none⟩ = some (.int .i64 m) := (BX9.cell (p := ⟨w.heap.size, 1, none⟩) hlt1).trans k1; have m3' : w9.cell? ⟨w.heap.size, 3, none⟩ = some (.slice pa ps.length pc) := (BX9.cell (p := ⟨w.heap.size, 3, none⟩) hlt1).trans k3; have mS' : w9.cell? ⟨b, off + ps.length, none⟩ = some (.slice la L.length lc) := (BX9.cell (p := ⟨b, off + ps.length, none⟩) hltb).trans cS; have z0 := (x2.next BX9).cell 0 _ rfl; have z1 := (x2.next BX9).cell 1 _ rfl; have z2 := (x2.next BX9).cell 2 _ rfl; have z3 := (x2.next BX9).cell 3 _ rfl; have f0 := (x2.next BX9).free 0; have f1 := (x2.next BX9).free 1; have f2 := (x2.next BX9).free 2; have f3 := (x2.next BX9).free 3) | (refine step_append_lies _ rfl _ _ 25 rfl W1.heap.size 3 i0 (.int .i64 0) 1 8 Tryd.underlying25 hi hz0 hz1 hz2 rfl (by decide) (.slice qa0 ps.length qc0) ps.length (ps.map (Value.int .i64)) (by simp [Act.eval]) (by exact oq') ⟨W1.heap.size, 0, none⟩ 1 1 [.int .i64 (k : Int)] (by simp [Act.eval]) rfl (by exact news_at ((b2.cell (p := ⟨W1.heap.size, 0, none⟩) (by simp)).trans HNC.out)) (by simp [Value.oneCell']) (by decide) (by unfold maxLen; omega) (by omega) (by have := BX2.size; simp; omega) _ rfl ?_; intro g9 cap9 w9 hown9 hgrow9 hat9 hlt9; have BX9 : Below W1.heap.size W1 w9 := BX2.grown hgrow9 (by have := BX2.size; simp; omega) (fun z e => (oq'.lt z e).1); have m1' : w9.cell? ⟨w.heap.size, 1, none⟩ = some (.int .i64 m) := (BX9.cell (p := ⟨w.heap.size, 1, none⟩) hlt1).trans k1; have m3' : w9.cell? ⟨w.heap.size, 3, none⟩ = some (.slice pa ps.length pc) := (BX9.cell (p := ⟨w.heap.size, 3, none⟩) hlt1).trans k3; have mS' : w9.cell? ⟨b, off + ps.length, none⟩ = some (.slice la L.length lc) := (BX9.cell (p := ⟨b, off + ps.length, none⟩) hltb).trans cS; have z0 := (x2.next BX9).cell 0 _ rfl; have z1 := (x2.next BX9).cell 1 _ rfl; have z2 := (x2.next BX9).cell 2 _ rfl; have z3 := (x2.next BX9).cell 3 _ rfl; have f0 := (x2.next BX9).free 0; have f1 := (x2.next BX9).free 1; have f2 := (x2.next BX9).free 2; have f3 := (x2.next BX9).free 3))
  all_goals (
    have hsW := HB1.out.size
    go_wp2
    refine bodyPost_ret (v := .agg #[.int .u32 (t : Int), .int .i64 (m + (cl : Int)), .int .i64 0, .slice (some ⟨g9, 0, none⟩) (ps.length + 1) cap9]) (by simp [results, Tryd.results37, go_sem, z0, z1, z2, z3]) rfl ⟨_, _, rfl, ?_, ?_⟩
    · rw [List.map_append]
      exact rowN_base (ownsRow_setCell_below (ownsRow_setCell_below (ownsRow_setCell_below (ownsRow_setCell_below hown9 (a := ⟨w.heap.size + 1, 0, none⟩) hlt2 _) (a := ⟨w.heap.size + 1, 1, none⟩) hlt2 _) (a := ⟨w.heap.size + 1, 2, none⟩) hlt2 _) (a := ⟨w.heap.size + 1, 3, none⟩) hlt2 _) hsW
    · exact ((((HB1.out.trans (BX9.mono hsW)).setCell (p := ⟨w.heap.size + 1, 0, none⟩) (by simp) _).setCell (p := ⟨w.heap.size + 1, 1, none⟩) (by simp) _).setCell (p := ⟨w.heap.size + 1, 2, none⟩) (by simp) _).setCell (p := ⟨w.heap.size + 1, 3, none⟩) (by simp) _)

end Go.Proofs.YtddcloanbpkecaaDoor
