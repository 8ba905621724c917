/-
  What the page's child answers: a node's child.
-/
import Derived.Test.YtdnhnnidlangiaaDoorM05
import Derived.Test.YtdnhnnidlangiaaDoorM11
import Derived.Test.YtdnhnnidlangiaaDoorM14
import Derived.Test.YtdnhnnidlangiaaDoorM17
import Derived.Test.YtdnhnnidlangiaaDoorM18
import Derived.BigRegion
import Derived.Deep.AppendLies
import Derived.Deep.RegionHeldLaw
import Derived.Deep.RegionWith
import Derived.RegionTactic
namespace Go.Proofs.YtdnhnnidlangiaaDoor
open Go.RowKit

theorem keep4 {W : World} {D B o : Nat} (h : B ≠ D) (x y z u : Value) {v : Value} (hc : W.cell? ⟨B, o, none⟩ = some v) : ((((W.setCell ⟨D, 0, none⟩ x).setCell ⟨D, 1, none⟩ y).setCell ⟨D, 2, none⟩ z).setCell ⟨D, 3, none⟩ u).cell? ⟨B, o, none⟩ = some v := by
  have hd : ∀ i, (⟨D, i, none⟩ : Addr) ≠ ⟨B, o, none⟩ := fun i e => h (congrArg Addr.block e).symm
  rw [World.cell?_setCell_other _ _ _ _ (hd 3), World.cell?_setCell_other _ _ _ _ (hd 2), World.cell?_setCell_other _ _ _ _ (hd 1), World.cell?_setCell_other _ _ _ _ (hd 0)]
  exact hc

theorem news_at {W : World} {B : Nat} {x : Value} (h : W.cell? ⟨B, 0, none⟩ = some x) : ∀ (j : Nat) (u : Value), [x][j]? = some u → W.cell? ((⟨B, 0, none⟩ : Addr).add j) = some u := by
  intro j u hj
  cases j with
  | zero => simp at hj; subst hj; simpa [Addr.add] using h
  | succ j => simp at hj

set_option maxRecDepth 100000 in
set_option maxHeartbeats 1000000 in
theorem refChild_any (b off n cap : Nat) (S : List (List (Int × Int))) (s : Nat) (hs : s < 4294967296) (m c : Int) (hm0 : 0 ≤ m) (hm1 : m ≤ 1048576) (pa : Option Addr) (pc : Nat) (ps : List Int) (hpl : ps.length ≤ 1048576) (hn : ps.length < n) (hn2 : n ≤ 1048576) (k : Nat) (hk : k < 16) (L : List (Int × Int)) (hL : S[ps.length]? = some L) (hLl : L.length ≤ 1048576) (hLc : CostOk L) (hcb : costN (stepN s k) L ≤ 1048576) (hSn : S.length = n) (w : World)
    (hS : Segs w.heap.size w (.slice (some ⟨b, off, none⟩) n cap) S) (hp : Holds .i64 w.heap.size w (.slice pa ps.length pc) ps) :
    Calls Tryd.prog 47 #[.slice (some ⟨b, off, none⟩) n cap, .agg #[.int .u32 s, .int .i64 m, .int .i64 c, .slice pa ps.length pc], .int .i64 k] w fun e W' => ∃ qa qc, e = .returned (.agg #[.int .u32 ((stepN s k : Nat) : Int), .int .i64 (m + ((costN (stepN s k) L : Nat) : Int)), .int .i64 0, .slice qa (ps.length + 1) qc]) ∧ W'.ownsRow w.heap.size 3 1 (.slice qa (ps.length + 1) qc) (ps.length + 1) ((ps ++ [(k : Int)]).map (Value.int .i64)) ∧ Below w.heap.size w W' := by
  have hst : stepN s k < 4294967296 := stepN_lt s k
  obtain ⟨t, ht⟩ : ∃ t, stepN s k = t := ⟨_, rfl⟩
  obtain ⟨cl, hcl⟩ : ∃ cl, costN t L = cl := ⟨_, rfl⟩
  have HST := refStep_any s k hs hk
  rw [ht] at hst hcb HST ⊢
  rw [hcl] at hcb ⊢
  have HCL : Hid (costN t L = cl) := hcl
  have b1 : Below w.heap.size w ((w.alloc (.cells #[.int .u32 s, .int .i64 m, .int .i64 c, .slice pa ps.length pc] 32)).alloc (.cells #[.int .u32 0, .int .i64 0, .int .i64 0, .slice none 0 0] 32)) := ((Below.refl w.heap.size w).alloc (Nat.le_refl _) _).alloc (by simp) _
  have x1 : Box ((w.alloc (.cells #[.int .u32 s, .int .i64 m, .int .i64 c, .slice pa ps.length pc] 32)).alloc (.cells #[.int .u32 0, .int .i64 0, .int .i64 0, .slice none 0 0] 32)) w.heap.size 32 #[.int .u32 s, .int .i64 m, .int .i64 c, .slice pa ps.length pc] := (Box.new w 32 _).alloc _
  have x2 : Box ((w.alloc (.cells #[.int .u32 s, .int .i64 m, .int .i64 c, .slice pa ps.length pc] 32)).alloc (.cells #[.int .u32 0, .int .i64 0, .int .i64 0, .slice none 0 0] 32)) (w.heap.size + 1) 32 #[.int .u32 0, .int .i64 0, .int .i64 0, .slice none 0 0] := by
    have := Box.new (w.alloc (.cells #[.int .u32 s, .int .i64 m, .int .i64 c, .slice pa ps.length pc] 32)) 32 #[.int .u32 0, .int .i64 0, .int .i64 0, .slice none 0 0]
    simpa using this
  clear ht hcl
  go_enter Tryd.func47, Tryd.ntmps47
  go_wp2_with fail
  refine (HST _).mono ?_
  rintro e wz ⟨rfl, rfl⟩
  go_wp2
  obtain ⟨W1, hW1⟩ : ∃ W, (w.alloc (.cells #[.int .u32 s, .int .i64 m, .int .i64 c, .slice pa ps.length pc] 32)).alloc (.cells #[.int .u32 0, .int .i64 0, .int .i64 0, .slice none 0 0] 32) = W := ⟨_, rfl⟩
  rw [hW1] at b1 x1 x2 ⊢
  clear hW1
  have hp1 := hp.below b1
  have hS1 := hS.below b1
  obtain ⟨la, lc, cS, hSy⟩ := segs_at hS1 hL
  have HPH : Hid (Holds .i64 w.heap.size W1 (.slice pa ps.length pc) ps) := hp1
  have HSY : Hid (Syms w.heap.size W1 (.slice la L.length lc) L) := hSy
  have HLC : Hid (CostOk L) := hLc
  have HCO : Hid (∀ (wx : World), Syms w.heap.size wx (.slice la L.length lc) L → Calls Tryd.prog 66 #[.int .u32 (t : Int), .slice la L.length lc] wx fun e w' => e = .returned (.int .i64 (cl : Int)) ∧ ∃ n, w' = wx.drewN n) := fun wx hx => by
    have := refCost_any t hst la lc L (by omega) hLc wx w.heap.size hx
    rw [HCL.out] at this
    exact this
  have HTW : Hid (∀ (wx : World), Holds .i64 w.heap.size wx (.slice pa ps.length pc) ps → Calls Tryd.prog 12 #[.slice pa ps.length pc] wx fun e W' => ∃ r, e = .returned r ∧ W'.ownsRow wx.heap.size 3 1 r ps.length (ps.map (Value.int .i64)) ∧ Below wx.heap.size wx W') := fun wx hx => twinInts_any _ ps w.heap.size (by omega) wx hx
  have k0 := x1.cell 0 _ rfl
  have k1 := x1.cell 1 _ rfl
  have k2 := x1.cell 2 _ rfl
  have k3 := x1.cell 3 _ rfl
  have hlt1 := x1.lt
  have hlt2 := x2.lt
  have hb0 : b < w.heap.size := by obtain ⟨b', o', c', e, hb'⟩ := hS.shape; cases e; exact hb'
  have hltb : b < W1.heap.size := by have := b1.size; omega
  have ewm : IntKind.i64.wrap (m + (cl : Int)) = m + (cl : Int) := by rw [IntKind.wrap_i64]; omega
  obtain ⟨i0, hi, hz0, hz1, hz2⟩ := info_parts infoI64
  have HBA : Hid (∀ q, Below W1.heap.size W1 ((W1.drewN q).alloc (.cells #[.int .i64 (k : Int)] 3))) := fun q => (below_drewN (Below.refl _ _) q).alloc (Nat.le_refl _) _
  have HPHA : Hid (∀ q, Holds .i64 w.heap.size ((W1.drewN q).alloc (.cells #[.int .i64 (k : Int)] 3)) (.slice pa ps.length pc) ps) := fun q => HPH.out.below ((HBA.out q).mono b1.size)
  have HBB : Hid (Below W1.heap.size W1 (W1.alloc (.cells #[.int .i64 (k : Int)] 3))) := (Below.refl _ _).alloc (Nat.le_refl _) _
  have HPHB : Hid (Holds .i64 w.heap.size (W1.alloc (.cells #[.int .i64 (k : Int)] 3)) (.slice pa ps.length pc) ps) := HPH.out.below (HBB.out.mono b1.size)
  have HSYA : Hid (Syms w.heap.size (W1.alloc (.cells #[.int .i64 (k : Int)] 3)) (.slice la L.length lc) L) := HSY.out.below (HBB.out.mono b1.size)
  have HNC : Hid ((W1.alloc (.cells #[.int .i64 (k : Int)] 3)).cell? ⟨W1.heap.size, 0, none⟩ = some (.int .i64 (k : Int))) := (Box.new W1 3 #[.int .i64 (k : Int)]).cell 0 _ rfl
  have HB1 : Hid (Below w.heap.size w W1) := b1
  have X2 : Hid (Box W1 (w.heap.size + 1) 32 #[.int .u32 0, .int .i64 0, .int .i64 0, .slice none 0 0]) := x2
  clear hp hS hp1 hS1 hSy hL hLc HST
  go_region_held_law (fun w' => w'.cell? ⟨w.heap.size, 1, none⟩ = some (.int .i64 m) ∧ w'.cell? ⟨w.heap.size, 3, none⟩ = some (.slice pa ps.length pc) ∧ w'.cell? ⟨b, off + ps.length, none⟩ = some (.slice la L.length lc)) (first | (go_keep; done) | (refine ⟨keep4 (by omega) _ _ _ _ ?_, keep4 (by omega) _ _ _ _ ?_, keep4 (by omega) _ _ _ _ ?_⟩ <;> assumption)) (first | (go_at_call 66; refine (HCO.out _ (by first | exact HSY.out | exact HSYA.out)).mono ?_; rintro e wc ⟨rfl, nd, rfl⟩) | (go_at_call 12; refine (HTW.out _ (by first | exact HPH.out | exact HPHA.out _ | exact HPHB.out)).mono ?_; rintro e w2 ⟨q, rfl, oq, b2⟩; obtain ⟨qa0, qc0, rfl, _⟩ := (kept_of_row oq).2; have oq' : w2.ownsRow W1.heap.size 3 1 (.slice qa0 ps.length qc0) ps.length (ps.map (Value.int .i64)) := (by first | exact oq | exact rowN_base oq (by simp)); have BX2 : Below W1.heap.size W1 w2 := (by first | exact (below_drewN (Below.refl _ _) _).trans b2 | exact (HBA.out _).trans (b2.mono (by simp)) | exact (below_drewN HBB.out _).trans (b2.mono (by simp))); have m1 := (BX2.cell (p := ⟨w.heap.size, 1, none⟩) hlt1).trans k1; have m3 := (BX2.cell (p := ⟨w.heap.size, 3, none⟩) hlt1).trans k3; have mS := (BX2.cell (p := ⟨b, off + ps.length, none⟩) hltb).trans cS) | (refine step_append_lies _ rfl _ _ 25 rfl W1.heap.size 3 i0 (.int .i64 0) 1 8 Tryd.underlying25 hi hz0 hz1 hz2 rfl (by decide) (.slice qa0 ps.length qc0) ps.length (ps.map (Value.int .i64)) (by simp [Act.eval]) (by exact (oq'.alloc (.cells #[.int .i64 (k : Int)] 3))) ⟨w2.heap.size, 0, none⟩ 1 1 [.int .i64 (k : Int)] (by simp [Act.eval]) rfl (by exact World.news_of_block (World.alloc_heap_new _ _)) (by simp [Value.oneCell']) (by decide) (by unfold maxLen; omega) (by omega) (by have := BX2.size; simp; omega) _ rfl ?_; intro g9 cap9 w9 hown9 hgrow9 hat9 hlt9; have BX9 : Below W1.heap.size W1 w9 := (BX2.alloc BX2.size (.cells #[.int .i64 (k : Int)] 3)).grown hgrow9 (by have := BX2.size; simp; omega) (fun z e => (oq'.lt z e).1); have m1' : w9.cell? ⟨w.heap.size, 1, none⟩ = some (.int .i64 m) := (BX9.cell (p := ⟨w.heap.size, 1, none⟩) hlt1).trans k1; have m3' : w9.cell? ⟨w.heap.size, 3, none⟩ = some (.slice pa ps.length pc) := (BX9.cell (p := ⟨w.heap.size, 3, none⟩) hlt1).trans k3; have mS' : w9.cell? ⟨b, off + ps.length, none⟩ = some (.slice la L.length lc) := (BX9.cell (p := ⟨b, off + ps.length, none⟩) hltb).trans cS; have z0 := (x2.next BX9).cell 0 _ rfl; have z1 := (x2.next BX9).cell 1 _ rfl; have z2 := (x2.next BX9).cell 2 _ rfl; have z3 := (x2.next BX9).cell 3 _ rfl; have f0 := (x2.next BX9).free 0; have f1 := (x2.next BX9).free 1; have f2 := (x2.next BX9).free 2; have f3 := (x2.next BX9).free 3) | (refine step_append_lies _ rfl _ _ 25 rfl W1.heap.size 3 i0 (.int .i64 0) 1 8 Tryd.underlying25 hi hz0 hz1 hz2 rfl (by decide) (.slice qa0 ps.length qc0) ps.length (ps.map (Value.int .i64)) (by simp [Act.eval]) (by exact oq') ⟨W1.heap.size, 0, none⟩ 1 1 [.int .i64 (k : Int)] (by simp [Act.eval]) rfl (by exact news_at ((b2.cell (p := ⟨W1.heap.size, 0, none⟩) (by simp)).trans HNC.out)) (by simp [Value.oneCell']) (by decide) (by unfold maxLen; omega) (by omega) (by have := BX2.size; simp; omega) _ rfl ?_; intro g9 cap9 w9 hown9 hgrow9 hat9 hlt9; have BX9 : Below W1.heap.size W1 w9 := BX2.grown hgrow9 (by have := BX2.size; simp; omega) (fun z e => (oq'.lt z e).1); have m1' : w9.cell? ⟨w.heap.size, 1, none⟩ = some (.int .i64 m) := (BX9.cell (p := ⟨w.heap.size, 1, none⟩) hlt1).trans k1; have m3' : w9.cell? ⟨w.heap.size, 3, none⟩ = some (.slice pa ps.length pc) := (BX9.cell (p := ⟨w.heap.size, 3, none⟩) hlt1).trans k3; have mS' : w9.cell? ⟨b, off + ps.length, none⟩ = some (.slice la L.length lc) := (BX9.cell (p := ⟨b, off + ps.length, none⟩) hltb).trans cS; have z0 := (x2.next BX9).cell 0 _ rfl; have z1 := (x2.next BX9).cell 1 _ rfl; have z2 := (x2.next BX9).cell 2 _ rfl; have z3 := (x2.next BX9).cell 3 _ rfl; have f0 := (x2.next BX9).free 0; have f1 := (x2.next BX9).free 1; have f2 := (x2.next BX9).free 2; have f3 := (x2.next BX9).free 3))
  all_goals (
    have hsW := HB1.out.size
    go_wp2
    refine bodyPost_ret (v := .agg #[.int .u32 (t : Int), .int .i64 (m + (cl : Int)), .int .i64 0, .slice (some ⟨g9, 0, none⟩) (ps.length + 1) cap9]) (by simp [results, Tryd.results47, go_sem, z0, z1, z2, z3]) rfl ⟨_, _, rfl, ?_, ?_⟩
    · rw [List.map_append]
      exact rowN_base (ownsRow_setCell_below (ownsRow_setCell_below (ownsRow_setCell_below (ownsRow_setCell_below hown9 (a := ⟨w.heap.size + 1, 0, none⟩) hlt2 _) (a := ⟨w.heap.size + 1, 1, none⟩) hlt2 _) (a := ⟨w.heap.size + 1, 2, none⟩) hlt2 _) (a := ⟨w.heap.size + 1, 3, none⟩) hlt2 _) hsW
    · exact ((((HB1.out.trans (BX9.mono hsW)).setCell (p := ⟨w.heap.size + 1, 0, none⟩) (by simp) _).setCell (p := ⟨w.heap.size + 1, 1, none⟩) (by simp) _).setCell (p := ⟨w.heap.size + 1, 2, none⟩) (by simp) _).setCell (p := ⟨w.heap.size + 1, 3, none⟩) (by simp) _)

end Go.Proofs.YtdnhnnidlangiaaDoor

/-
  What the page's Node answers: the node of a path.
-/
namespace Go.Proofs.YtdnhnnidlangiaaDoor
open Go.RowKit

/-- The beam over a pile: the state, the metric of a path. -/
def staB (N : Nat) (l : List (Int × Int)) (P : List Int) : Int := sta stB (coB N l) (beginN : Int) P
def metB (N : Nat) (l : List (Int × Int)) (P : List Int) : Int := met stB (coB N l) (beginN : Int) P
theorem staB_nat (N : Nat) (l : List (Int × Int)) (P : List Int) : ∃ s : Nat, s < 4294967296 ∧ staB N l P = (s : Int) := by
  unfold staB
  rcases List.eq_nil_or_concat P with rfl | ⟨Q, k, rfl⟩
  · exact ⟨beginN, by decide, rfl⟩
  · rw [List.concat_eq_append, sta_snoc]
    exact ⟨_, stepN_lt _ _, rfl⟩
theorem metB_le {N : Nat} {p : Int} {l : List (Int × Int)} (h : PileOk (N : Int) p l) : ∀ (n : Nat) (P : List Int), P.length = n → metB N l P ≤ 8192 * (n : Int)
  | 0, P, hP => by
    rw [List.length_eq_zero_iff.1 hP]
    unfold metB
    rw [met_nil]
    omega
  | n + 1, P, hP => by
    rcases List.eq_nil_or_concat P with rfl | ⟨Q, k, rfl⟩
    · simp at hP
    · rw [List.concat_eq_append] at hP ⊢
      have hQ : Q.length = n := by simpa using hP
      have ih := metB_le h n Q hQ
      unfold metB at ih ⊢
      rw [met_snoc]
      have := coB_le h Q.length (stB (sta stB (coB N l) (beginN : Int) Q) k)
      omega
theorem metB_pos (N : Nat) (l : List (Int × Int)) (P : List Int) : 0 ≤ metB N l P := met_pos stB (coB N l) _ (coB_pos N l) P

theorem Box.set4 {W : World} {B : Nat} {t : TypeId} {x y z u : Value} (h : Box W B t #[x, y, z, u]) (x' y' z' u' : Value) : Box ((((W.setCell ⟨B, 0, none⟩ x').setCell ⟨B, 1, none⟩ y').setCell ⟨B, 2, none⟩ z').setCell ⟨B, 3, none⟩ u') B t #[x', y', z', u'] := (((h.set 0 x').set 1 y').set 2 z').set 3 u'
theorem below_set4 {n : Nat} {a w : World} (h : Below n a w) {D : Nat} (hD : n ≤ D) (x y z u : Value) : Below n a ((((w.setCell ⟨D, 0, none⟩ x).setCell ⟨D, 1, none⟩ y).setCell ⟨D, 2, none⟩ z).setCell ⟨D, 3, none⟩ u) := (((h.setCell (p := ⟨D, 0, none⟩) hD x).setCell (p := ⟨D, 1, none⟩) hD y).setCell (p := ⟨D, 2, none⟩) hD z).setCell (p := ⟨D, 3, none⟩) hD u
theorem row_set4 {w : World} {base : Nat} {e : TypeId} {size : Nat} {v : Value} {n : Nat} {xs : List Value} (h : w.ownsRow base e size v n xs) {D : Nat} (hD : D < base) (x y z u : Value) : ((((w.setCell ⟨D, 0, none⟩ x).setCell ⟨D, 1, none⟩ y).setCell ⟨D, 2, none⟩ z).setCell ⟨D, 3, none⟩ u).ownsRow base e size v n xs := ownsRow_setCell_below (ownsRow_setCell_below (ownsRow_setCell_below (ownsRow_setCell_below h (a := ⟨D, 0, none⟩) hD x) (a := ⟨D, 1, none⟩) hD y) (a := ⟨D, 2, none⟩) hD z) (a := ⟨D, 3, none⟩) hD u

set_option maxRecDepth 100000 in
set_option maxHeartbeats 2000000 in
theorem refNode_any (N : Nat) (p : Int) (a : Option Addr) (cap : Nat) (l : List (Int × Int)) (hp : PileOk (N : Int) p l) (pa : Option Addr) (pc : Nat) (ps : List Int) (hps : Path ps) (hlen : ps.length ≤ N) (w : World) (ha : Syms w.heap.size w (.slice a l.length cap) l) (hpp : Holds .i64 w.heap.size w (.slice pa ps.length pc) ps) :
    Calls Tryd.prog 22 #[.agg #[.int .i64 N, .int .i64 p, .slice a l.length cap], .slice pa ps.length pc] w fun e W' => ∃ qa qc, e = .returned (.agg #[.int .u32 (staB N l ps), .int .i64 (metB N l ps), .int .i64 0, .slice qa ps.length qc]) ∧ W'.ownsRow w.heap.size 3 1 (.slice qa ps.length qc) ps.length (ps.map (Value.int .i64)) ∧ Below w.heap.size w W' := by
  have hN2 : N < 65 := by have := hp.1.2.1; omega
  have hN1 : 1 ≤ N := by have := hp.1.1; omega
  have b1 : Below w.heap.size w ((w.alloc (.cells #[.int .i64 N, .int .i64 p, .slice a l.length cap] 24)).alloc (.cells #[.int .u32 0, .int .i64 0, .int .i64 0, .slice none 0 0] 32)) := ((Below.refl w.heap.size w).alloc (Nat.le_refl _) _).alloc (by simp) _
  have x2 : Box ((w.alloc (.cells #[.int .i64 N, .int .i64 p, .slice a l.length cap] 24)).alloc (.cells #[.int .u32 0, .int .i64 0, .int .i64 0, .slice none 0 0] 32)) (w.heap.size + 1) 32 #[.int .u32 0, .int .i64 0, .int .i64 0, .slice none 0 0] := by
    have := Box.new (w.alloc (.cells #[.int .i64 N, .int .i64 p, .slice a l.length cap] 24)) 32 #[.int .u32 0, .int .i64 0, .int .i64 0, .slice none 0 0]
    simpa using this
  have HP : Hid (PileOk (N : Int) p l) := hp
  have HPS : Hid (Path ps) := hps
  have HPP : Hid (Holds .i64 w.heap.size w (.slice pa ps.length pc) ps) := hpp
  have HC := fun wx (b : Below w.heap.size w wx) => refPiles_any N p a cap l hp wx (ha.next b)
  obtain ⟨n, hn⟩ : ∃ n, ps.length = n := ⟨_, rfl⟩
  have HN : Hid (ps.length = n) := hn
  rw [hn] at hlen HPP ⊢
  clear hp hps hpp ha hn
  go_enter Tryd.func22, Tryd.ntmps22
  go_wp2_with fail
  refine (HC _ b1).mono ?_
  rintro e w2 ⟨r, rfl, hS, b2⟩
  clear HC
  obtain ⟨sb, so, scap, e3, hsb⟩ := hS.shape
  rw [segsL_len] at e3
  subst e3
  have bb2 := b1.trans (b2.mono b1.size)
  have x22 := x2.next b2
  have hl2 := x22.lt
  go_wp2_with (go_at_call 46; refine (refBegin_any w2).mono ?_; rintro e wz ⟨rfl, rfl⟩)
  have xD := Box.new w2 32 #[.int .u32 (beginN : Int), .int .i64 0, .int .i64 0, .slice none 0 0]
  have b3 : Below w2.heap.size w2 (w2.alloc (.cells #[.int .u32 (beginN : Int), .int .i64 0, .int .i64 0, .slice none 0 0] 32)) := (Below.refl _ _).alloc (Nat.le_refl _) _
  have HS : Hid (Segs w2.heap.size w2 (.slice (some ⟨sb, so, none⟩) N scap) (segsL N l)) := hS
  clear hS x2 b1 b2
  obtain ⟨W3, hW3⟩ : ∃ W, w2.alloc (.cells #[.int .u32 (beginN : Int), .int .i64 0, .int .i64 0, .slice none 0 0] 32) = W := ⟨_, rfl⟩
  rw [hW3] at xD b3 ⊢
  clear hW3
  go_loopw [7] (fun s7 wr => ∃ (k : Nat) (qa : Option Addr) (qc : Nat), k ≤ n ∧ s7 = .int .i64 k ∧ Box wr w2.heap.size 32 #[.int .u32 (staB N l (ps.take k)), .int .i64 (metB N l (ps.take k)), .int .i64 0, .slice qa k qc] ∧ wr.ownsRow (w2.heap.size + 1) 3 1 (.slice qa k qc) k ((ps.take k).map (Value.int .i64)) ∧ Below w2.heap.size w2 wr) (fun i _ => n - (intOf i).toNat)
  case atStart => exact ⟨0, none, 0, Nat.zero_le _, rfl, by rw [List.take_zero]; exact xD, by rw [List.take_zero]; exact World.ownsRow_nil _ _ _ _, b3⟩
  case round =>
    obtain ⟨k, qa, qc, hk, rfl, xr, ho, bw⟩ := hrel
    have hsz := bw.size
    have hlD := xr.lt
    clear xD b3
    by_cases hlt : k < n
    · obtain ⟨x, hx⟩ : ∃ x, ps[k]? = some x := ⟨ps[k]'(by rw [HN.out]; exact hlt), by simp⟩
      have hx16 := HPS.out x (List.mem_of_getElem? hx)
      obtain ⟨kn, rfl⟩ : ∃ kn : Nat, x = (kn : Int) := ⟨x.toNat, by omega⟩
      obtain ⟨pb, po, rfl, _, hpc⟩ := holds_at (HPP.out.below (bb2.trans (bw.mono bb2.size))) HN.out (by omega)
      have cP := hpc k _ hx
      obtain ⟨s, hs, es⟩ := staB_nat N l (ps.take k)
      have htl : (ps.take k).length = k := by rw [List.length_take, HN.out]; omega
      have hm0 := metB_pos N l (ps.take k)
      have hm1 := metB_le HP.out k (ps.take k) htl
      have HTK : Hid (ps.take (k + 1) = ps.take k ++ [(kn : Int)]) := by
        show ps.take (k + 1) = ps.take k ++ [(kn : Int)]
        rw [List.take_add_one, hx]; rfl
      have HS1 : Hid (staB N l (ps.take (k + 1)) = ((stepN s kn : Nat) : Int)) := by
        show staB N l (ps.take (k + 1)) = ((stepN s kn : Nat) : Int)
        rw [HTK.out]
        unfold staB at es ⊢
        rw [sta_snoc, es, stB_nat]
      have HM1 : Hid (metB N l (ps.take (k + 1)) = metB N l (ps.take k) + ((costN (stepN s kn) (ofL N l k) : Nat) : Int)) := by
        show metB N l (ps.take (k + 1)) = metB N l (ps.take k) + ((costN (stepN s kn) (ofL N l k) : Nat) : Int)
        rw [HTK.out]
        unfold metB
        unfold staB at es
        rw [met_snoc, es, htl, stB_nat, coB_nat]
      have hh : Holds .i64 wr.heap.size wr (.slice qa (ps.take k).length qc) (ps.take k) := by rw [htl]; exact holds_of_row ho
      have HCH := fun (wx : World) (e : wx.heap = wr.heap) (h1 : Segs wx.heap.size wx (.slice (some ⟨sb, so, none⟩) N scap) (segsL N l)) (h2 : Holds .i64 wx.heap.size wx (.slice qa (ps.take k).length qc) (ps.take k)) => refChild_any sb so N scap (segsL N l) s hs (metB N l (ps.take k)) 0 hm0 (by omega) qa qc (ps.take k) (by omega) (by omega) (by omega) kn (by omega) (ofL N l k) (by rw [htl]; exact segsL_get (by omega)) (by have := ofL_len HP.out k; omega) (ofL_ok HP.out k) (by have := costB_le HP.out k (stepN s kn); omega) (segsL_len N l) wx h1 h2
      rw [htl] at HCH hh
      rw [es] at xr
      obtain ⟨M, hM⟩ : ∃ M, metB N l (ps.take k) = M := ⟨_, rfl⟩
      rw [hM] at xr HCH HM1 hm0 hm1
      obtain ⟨ct, hct⟩ : ∃ ct, costN (stepN s kn) (ofL N l k) = ct := ⟨_, rfl⟩
      rw [hct] at HCH HM1
      obtain ⟨tt, htt⟩ : ∃ tt, stepN s kn = tt := ⟨_, rfl⟩
      rw [htt] at HCH HS1
      have HSW : Hid (Segs wr.heap.size wr (.slice (some ⟨sb, so, none⟩) N scap) (segsL N l)) := HS.out.next bw
      have HHH : Hid (Holds .i64 wr.heap.size wr (.slice qa k qc) (ps.take k)) := hh
      have HCC : Hid _ := HCH
      have d0 := xr.cell 0 _ rfl
      have d1 := xr.cell 1 _ rfl
      have d2 := xr.cell 2 _ rfl
      have d3 := xr.cell 3 _ rfl
      clear HCH hh hpc hx es hM hct htt hx16 htl
      go_wp2
      first | go_region_with (go_at_call 47; refine (HCC.out _ (by rfl) (by exact HSW.out) (by exact HHH.out)).mono ?_; rintro e w4 ⟨qa', qc', rfl, oq, b4⟩; have x4 : Box w4 w2.heap.size 32 #[.int .u32 (s : Int), .int .i64 M, .int .i64 0, .slice qa k qc] := (b4.block _ hlD).trans xr; have e0 := x4.cell 0 _ rfl; have e1 := x4.cell 1 _ rfl; have e2 := x4.cell 2 _ rfl; have e3 := x4.cell 3 _ rfl; have g0 := x4.free 0; have g1 := x4.free 1; have g2 := x4.free 2; have g3 := x4.free 3) | fail
      all_goals as_aux_lemma => (
        have b5 : Below w2.heap.size w2 w4 := bw.drew.trans (b4.mono hsz)
        have oq5 : w4.ownsRow (w2.heap.size + 1) 3 1 (.slice qa' (k + 1) qc') (k + 1) ((ps.take (k + 1)).map (Value.int .i64)) := by rw [HTK.out]; exact rowN_base oq hlD
        go_wp2
        go_roundw
        case rel => exact ⟨k + 1, qa', qc', by omega, by go_num, by rw [HS1.out, HM1.out]; exact x4.set4 _ _ _ _, row_set4 oq5 (by omega) _ _ _ _, below_set4 b5 (Nat.le_refl _) _ _ _ _⟩
        case measure => simp [intOf]; omega)
    · obtain rfl : n = k := by omega
      have xR : Box wr (w.heap.size + 1) 32 #[.int .u32 0, .int .i64 0, .int .i64 0, .slice none 0 0] := x22.next bw
      rw [List.take_of_length_le (by rw [HN.out]; exact Nat.le_refl _)] at xr ho
      have d0 := xr.cell 0 _ rfl
      have d1 := xr.cell 1 _ rfl
      have d2 := xr.cell 2 _ rfl
      have d3 := xr.cell 3 _ rfl
      have z0 := xR.cell 0 _ rfl
      have z1 := xR.cell 1 _ rfl
      have z2 := xR.cell 2 _ rfl
      have z3 := xR.cell 3 _ rfl
      have f0 := xR.free 0
      have f1 := xR.free 1
      have f2 := xR.free 2
      have f3 := xR.free 3
      go_wp2
      refine bodyPost_ret (v := .agg #[.int .u32 (staB N l ps), .int .i64 (metB N l ps), .int .i64 0, .slice qa n qc]) (by simp [results, Tryd.results22, go_sem, z0, z1, z2, z3]) rfl ⟨_, _, rfl, ?_, ?_⟩
      · exact rowN_base (row_set4 ho (by omega) _ _ _ _) (by have := bb2.size; omega)
      · exact below_set4 (bb2.trans (bw.mono bb2.size)) (by omega) _ _ _ _

end Go.Proofs.YtdnhnnidlangiaaDoor

/-
  What the page's Beam and Score answer.
-/
namespace Go.Proofs.YtdnhnnidlangiaaDoor
open Go.RowKit

/-- May both be? -/
def beamB (b d : Int) : Bool := decide (1 ≤ b) && decide (b ≤ 16) && decide (1 ≤ d) && decide (d ≤ 3)
set_option maxRecDepth 100000 in
set_option maxHeartbeats 1000000 in
theorem refBeam_any (b d : Int) (w : World) : Calls Tryd.prog 9 #[.int .i64 b, .int .i64 d] w fun e w' => e = .returned (.bool (beamB b d)) ∧ w = w' := by
  by_cases h1 : 1 ≤ b
  · have d1 : decide (1 ≤ b) = true := decide_eq_true h1
    by_cases h2 : b ≤ 16
    · have d2 : decide (b ≤ 16) = true := decide_eq_true h2
      by_cases h3 : 1 ≤ d
      · have d3 : decide (1 ≤ d) = true := decide_eq_true h3
        have HE : Hid (beamB b d = decide (d ≤ 3)) := by
          show beamB b d = decide (d ≤ 3)
          unfold beamB
          rw [d1, d2, d3]
          rfl
        rw [HE.out]
        clear h1 h2 h3
        go_enter Tryd.func9, Tryd.ntmps9
        go_wp2
        go_ret
        exact ⟨rfl, rfl⟩
      · have d3 : decide (1 ≤ d) = false := decide_eq_false h3
        have HE : Hid (beamB b d = false) := by
          show beamB b d = false
          unfold beamB
          rw [d1, d2, d3]
          rfl
        rw [HE.out]
        clear h1 h2 h3
        go_enter Tryd.func9, Tryd.ntmps9
        go_wp2
        go_ret
        exact ⟨rfl, rfl⟩
    · have d2 : decide (b ≤ 16) = false := decide_eq_false h2
      have HE : Hid (beamB b d = false) := by
        show beamB b d = false
        unfold beamB
        rw [d1, d2]
        rfl
      rw [HE.out]
      clear h1 h2
      go_enter Tryd.func9, Tryd.ntmps9
      go_wp2
      go_ret
      exact ⟨rfl, rfl⟩
  · have d1 : decide (1 ≤ b) = false := decide_eq_false h1
    have HE : Hid (beamB b d = false) := by
      show beamB b d = false
      unfold beamB
      rw [d1]
      rfl
    rw [HE.out]
    clear h1
    go_enter Tryd.func9, Tryd.ntmps9
    go_wp2
    go_ret
    exact ⟨rfl, rfl⟩

/-- A path's Score, over a pile. -/
def scoB (N : Nat) (l : List (Int × Int)) (a : Nat) (P : List Int) : Int := scA stB (coB N l) N (beginN : Int) a P
theorem scoB_lst {N : Nat} {l : List (Int × Int)} {P : List Int} {s : Nat} (hs : staB N l P = (s : Int)) (a : Nat) : lst stB (coB N l) N a (s : Int) P.length (metB N l P) = scoB N l a P := by
  unfold scoB scA
  unfold staB at hs
  rw [hs]
  rfl

set_option maxRecDepth 100000 in
set_option maxHeartbeats 2000000 in
theorem refScore_any (N : Nat) (p : Int) (a : Option Addr) (cap : Nat) (l : List (Int × Int)) (hp : PileOk (N : Int) p l) (pa : Option Addr) (pc : Nat) (ps : List Int) (hps : Path ps) (hlen : ps.length ≤ N) (D : Nat) (hD : D ≤ 2) (w : World) (ha : Syms w.heap.size w (.slice a l.length cap) l) (hpp : Holds .i64 w.heap.size w (.slice pa ps.length pc) ps) :
    Calls Tryd.prog 23 #[.agg #[.int .i64 N, .int .i64 p, .slice a l.length cap], .slice pa ps.length pc, .int .i64 ((D + 1 : Nat) : Int)] w fun e W' => e = .returned (.int .i64 (scoB N l D ps)) ∧ Below w.heap.size w W' := by
  have hN2 : N < 65 := by have := hp.1.2.1; omega
  have b1 : Below w.heap.size w (w.alloc (.cells #[.int .i64 N, .int .i64 p, .slice a l.length cap] 24)) := (Below.refl w.heap.size w).alloc (Nat.le_refl _) _
  have x1 := Box.new w 24 #[.int .i64 N, .int .i64 p, .slice a l.length cap]
  have HA : Hid (Syms w.heap.size w (.slice a l.length cap) l) := ha
  have HP : Hid (PileOk (N : Int) p l) := hp
  obtain ⟨s, hs, es⟩ := staB_nat N l ps
  have hm0 := metB_pos N l ps
  have hm1 := metB_le hp ps.length ps rfl
  have HND := refNode_any N p a cap l hp pa pc ps hps hlen _ (ha.next b1) (hpp.next b1)
  have HSC : Hid (lst stB (coB N l) N D (s : Int) ps.length (metB N l ps) = scoB N l D ps) := scoB_lst es D
  rw [es] at HND
  obtain ⟨M, hM⟩ : ∃ M, metB N l ps = M := ⟨_, rfl⟩
  rw [hM] at HND hm0 hm1 HSC
  obtain ⟨V, hV⟩ : ∃ V, scoB N l D ps = V := ⟨_, rfl⟩
  rw [hV] at HSC ⊢
  obtain ⟨n, hn⟩ : ∃ n, ps.length = n := ⟨_, rfl⟩
  rw [hn] at HND hm1 HSC hlen ⊢
  obtain ⟨D1, hD1⟩ : ∃ D1, D + 1 = D1 := ⟨_, rfl⟩
  rw [hD1]
  have eD : (D1 : Int) - 1 = (D : Int) := by omega
  have ewD : IntKind.i64.wrap (D : Int) = (D : Int) := by rw [IntKind.wrap_i64]; omega
  clear ha hpp hp hps es hM hV hn hD1
  go_enter Tryd.func23, Tryd.ntmps23
  go_wp2_with fail
  refine HND.mono ?_
  rintro e w2 ⟨qa, qc, rfl, oq, b2⟩
  clear HND oq
  have bb2 := b1.trans (b2.mono b1.size)
  have x12 := x1.next b2
  have xn := Box.new w2 32 #[.int .u32 (s : Int), .int .i64 M, .int .i64 0, .slice qa n qc]
  have b3 : Below w2.heap.size w2 (w2.alloc (.cells #[.int .u32 (s : Int), .int .i64 M, .int .i64 0, .slice qa n qc] 32)) := (Below.refl _ _).alloc (Nat.le_refl _) _
  have x13 := x12.next b3
  have bb3 := bb2.trans (b3.mono bb2.size)
  clear x1 x12 b1 b2 b3 bb2
  go_wp2
  obtain ⟨W3, hW3⟩ : ∃ W, w2.alloc (.cells #[.int .u32 (s : Int), .int .i64 M, .int .i64 0, .slice qa n qc] 32) = W := ⟨_, rfl⟩
  rw [hW3] at xn x13 bb3 ⊢
  clear hW3
  have d0 := x13.cell 0 _ rfl
  have d1 := x13.cell 1 _ rfl
  have d2 := x13.cell 2 _ rfl
  have n0 := xn.cell 0 _ rfl
  have n1 := xn.cell 1 _ rfl
  have HPL : Hid (∀ wx : World, Syms wx.heap.size wx (.slice a l.length cap) l → Calls Tryd.prog 45 #[.agg #[.int .i64 N, .int .i64 p, .slice a l.length cap]] wx fun e W' => ∃ r, e = .returned r ∧ Segs W'.heap.size W' r (segsL N l) ∧ Below wx.heap.size wx W') := fun wx h => refPiles_any N p a cap l HP.out wx h
  have HAW : Hid (Syms W3.heap.size W3 (.slice a l.length cap) l) := HA.out.next bb3
  have HLE : Hid (∀ (b off c n₀ : Nat) (wx : World), Segs n₀ wx (.slice (some ⟨b, off, none⟩) N c) (segsL N l) → Calls Tryd.prog 48 #[.slice (some ⟨b, off, none⟩) N c, .int .u32 (s : Int), .int .i64 (n : Int), .int .i64 M, .int .i64 (D : Int)] wx fun e w' => e = .returned (.int .i64 V) ∧ ∃ n, w' = wx.drewN n) := fun b off c n₀ wx h => by
    have := refLeast_any b off N c l p HP.out n₀ D (by omega) s n M hs hlen hm0 (by omega) wx h
    rw [HSC.out] at this
    exact this
  have hlp := x13.lt
  have hln := xn.lt
  first | go_region_with (first | (go_at_call 45; refine (HPL.out _ (by exact HAW.out)).mono ?_; rintro e w4 ⟨r4, rfl, hS4, b4⟩; obtain ⟨sb, so, sc4, e4, _⟩ := hS4.shape; rw [segsL_len] at e4; subst e4; have m0 := (b4.cell (p := ⟨w2.heap.size, 0, none⟩) hln).trans n0; have m1 := (b4.cell (p := ⟨w2.heap.size, 1, none⟩) hln).trans n1; have HS4 : Hid (Segs w4.heap.size w4 (.slice (some ⟨sb, so, none⟩) N sc4) (segsL N l)) := hS4; clear hS4) | (go_at_call 48; refine (HLE.out _ _ _ _ _ (by exact HS4.out)).mono ?_; rintro e w5 ⟨rfl, q5, rfl⟩)) | fail
  all_goals (
    have b6 : Below w.heap.size w w4 := bb3.drew.trans (b4.mono bb3.size)
    go_wp2
    go_ret
    exact ⟨rfl, below_drewN b6 q5⟩)

end Go.Proofs.YtdnhnnidlangiaaDoor
