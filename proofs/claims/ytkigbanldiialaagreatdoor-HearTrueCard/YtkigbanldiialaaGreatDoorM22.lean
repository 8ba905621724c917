/-
  What the page's in, Config, Segs, Most, Blocks, Ticks, Cycles answer. (Written by tpl_conf.py.)
-/
import Derived.Test.YtkigbanldiialaaGreatDoorM04
import Derived.Lib.MinMax
set_option maxRecDepth 100000
set_option maxHeartbeats 4000000
namespace Go.Proofs.YtkigbanldiialaaGreatDoor
open Go.RowKit
theorem ZdF (c:Cfg) (h:okC c=true) (w:World):Calls Tryz.prog 8 #[.agg #[.int .i64 c.cB,.int .i64 c.cBeam,.int .i64 c.cDepth,.int .i64 c.cWin,.int .i64 c.cQs,.int .i64 c.cQr,.int .i64 c.cBatch,.int .i64 c.cPass,.int .i64 c.cMsg,.int .i64 c.cSeqs]] w fun e w'=>e=.returned (.int .i64 (segsC c))∧Below w.heap.size w w':=by
 have b1:Below w.heap.size w (w.alloc (.cells #[.int .i64 c.cB,.int .i64 c.cBeam,.int .i64 c.cDepth,.int .i64 c.cWin,.int .i64 c.cQs,.int .i64 c.cQr,.int .i64 c.cBatch,.int .i64 c.cPass,.int .i64 c.cMsg,.int .i64 c.cSeqs] 23)):=(Below.refl w.heap.size w).alloc (Nat.le_refl _) _;have hb:=((ZT c).1 h).1;have h0:=hb.1;have h1:=hb.2;have e1:IntKind.i64.wrap (c.cB+10)=c.cB+10:=by rw [IntKind.wrap_i64]; omega
 clear h hb;go_enter Tryz.func8,Tryz.ntmps8;go_wp2;go_ret;exact ⟨rfl,b1⟩
theorem Zb1 (c:Cfg) (h:okC c=true) (w:World):Calls Tryz.prog 13 #[.agg #[.int .i64 c.cB,.int .i64 c.cBeam,.int .i64 c.cDepth,.int .i64 c.cWin,.int .i64 c.cQs,.int .i64 c.cQr,.int .i64 c.cBatch,.int .i64 c.cPass,.int .i64 c.cMsg,.int .i64 c.cSeqs]] w fun e w'=>e=.returned (.int .i64 (Za0 c))∧Below w.heap.size w w':=by
 have b1:Below w.heap.size w (w.alloc (.cells #[.int .i64 c.cB,.int .i64 c.cBeam,.int .i64 c.cDepth,.int .i64 c.cWin,.int .i64 c.cQs,.int .i64 c.cQr,.int .i64 c.cBatch,.int .i64 c.cPass,.int .i64 c.cMsg,.int .i64 c.cSeqs] 23)):=(Below.refl w.heap.size w).alloc (Nat.le_refl _) _;have x1:=Box.new w 23 #[.int .i64 c.cB,.int .i64 c.cBeam,.int .i64 c.cDepth,.int .i64 c.cWin,.int .i64 c.cQs,.int .i64 c.cQr,.int .i64 c.cBatch,.int .i64 c.cPass,.int .i64 c.cMsg,.int .i64 c.cSeqs];obtain ⟨S,hS⟩:∃ S,segsC c=S:=⟨_,rfl⟩;have hm:=ZfG h;have HM:Hid (S * c.cPass=Za0 c):=by show S * c.cPass=Za0 c; rw [← hS]; rfl
 have eM:IntKind.i64.wrap (S * c.cPass)=S * c.cPass:=by rw [HM.out,IntKind.wrap_i64]; omega
 go_enter Tryz.func13,Tryz.ntmps13;go_wp2;obtain ⟨W1,hW1⟩:∃ W,w.alloc (.cells #[.int .i64 c.cB,.int .i64 c.cBeam,.int .i64 c.cDepth,.int .i64 c.cWin,.int .i64 c.cQs,.int .i64 c.cQr,.int .i64 c.cBatch,.int .i64 c.cPass,.int .i64 c.cMsg,.int .i64 c.cSeqs] 23)=W:=⟨_,rfl⟩;rw [hW1] at b1 x1 ⊢;clear hW1;obtain ⟨k0,k1,k2,k3,k4,k5,k6,k7,k8,k9⟩:=x1.c10;have hlt1:=x1.lt
 have HS:Hid (∀ wx:World,Below W1.heap.size W1 wx→Calls Tryz.prog 8 #[.agg #[.int .i64 c.cB,.int .i64 c.cBeam,.int .i64 c.cDepth,.int .i64 c.cWin,.int .i64 c.cQs,.int .i64 c.cQr,.int .i64 c.cBatch,.int .i64 c.cPass,.int .i64 c.cMsg,.int .i64 c.cSeqs]] wx fun e w'=>e=.returned (.int .i64 S)∧Below W1.heap.size W1 w'):=fun wx hw=>by
  have:=ZdF c h wx;rw [hS] at this;exact this.mono fun e w' ⟨h,b⟩=>⟨h,hw.trans (b.mono hw.size)⟩
 clear hS h hm;refine wp_region_held_drew (S:=fun w'=>Below W1.heap.size W1 w') (by kernel_rfl) ((Below.refl _ _).drew) (fun hHeld=>?_);refine ZL (i:=0) (d:=3) (v:=?v1) rfl rfl (by kernel_rfl) (by kernel_rfl) (by kernel_rfl) (fun _ _ _ h=>h) (Or.inl ⟨by kernel_rfl,?hy1⟩) hHeld ?rest1
 case hy1 =>
  intro wx hSw;have q0:=(hSw.cell (p:=⟨w.heap.size,0,none⟩) hlt1).trans k0;have q1:=(hSw.cell (p:=⟨w.heap.size,1,none⟩) hlt1).trans k1;have q2:=(hSw.cell (p:=⟨w.heap.size,2,none⟩) hlt1).trans k2;have q3:=(hSw.cell (p:=⟨w.heap.size,3,none⟩) hlt1).trans k3;have q4:=(hSw.cell (p:=⟨w.heap.size,4,none⟩) hlt1).trans k4;have q5:=(hSw.cell (p:=⟨w.heap.size,5,none⟩) hlt1).trans k5;have q6:=(hSw.cell (p:=⟨w.heap.size,6,none⟩) hlt1).trans k6;have q7:=(hSw.cell (p:=⟨w.heap.size,7,none⟩) hlt1).trans k7;have q8:=(hSw.cell (p:=⟨w.heap.size,8,none⟩) hlt1).trans k8;have q9:=(hSw.cell (p:=⟨w.heap.size,9,none⟩) hlt1).trans k9;clear hSw;go_simp
  with_reducible rfl
 simp only [List.setIfInBounds_toArray,List.set_cons_zero,List.set_cons_succ];refine ZL (i:=2) (d:=5) (v:=?v2) rfl rfl (by kernel_rfl) (by kernel_rfl) (by kernel_rfl) (fun _ _ _ h=>h) (Or.inl ⟨by kernel_rfl,?hy2⟩) hHeld ?rest2
 case hy2 =>
  intro wx hSw;clear hSw;go_simp
  with_reducible rfl
 simp only [List.setIfInBounds_toArray,List.set_cons_zero,List.set_cons_succ];refine ZL (i:=3) (d:=6) (v:=?v3) rfl rfl (by kernel_rfl) (by kernel_rfl) (by kernel_rfl) (fun _ _ _ h=>h) (Or.inl ⟨by kernel_rfl,?hy3⟩) hHeld ?rest3
 case hy3 =>
  intro wx hSw;have q0:=(hSw.cell (p:=⟨w.heap.size,7,none⟩) hlt1).trans k7;clear hSw;go_simp
  with_reducible rfl
 simp only [List.setIfInBounds_toArray,List.set_cons_zero,List.set_cons_succ];refine wpAnyH_ready (rs:=[1]) (by kernel_rfl) (by simp) ?_;refine AllReadyH.cons rfl (fun K hK=>?_) AllReadyH.nil;go_simp;go_wp2_with (go_at_call 8; refine (HS.out _ (by exact hHeld)).mono ?_; rintro e wb ⟨rfl,b8⟩);refine hK.out _ _ (b8) (fun hHeld=>?_);clear hK K;refine ZL (i:=4) (d:=7) (v:=?v4) rfl rfl (by kernel_rfl) (by kernel_rfl) (by kernel_rfl) (fun _ _ _ h=>h) (Or.inl ⟨by kernel_rfl,?hy4⟩) hHeld ?rest4
 case hy4 =>
  intro wx hSw;clear hSw;go_simp
  with_reducible rfl
 simp only [List.setIfInBounds_toArray,List.set_cons_zero,List.set_cons_succ];refine wpAnyH_ready (rs:=[5]) (by kernel_rfl) (by simp) ?_;refine AllReadyH.cons rfl (fun K hK=>?_) AllReadyH.nil;go_simp;refine hK.out _ _ hHeld (fun hHeld=>?_);clear hK K;refine wpAnyH_done (by kernel_rfl) ?_ _;go_wp2;go_ret;exact ⟨by rw [← HM.out]; rfl,b1.trans (hHeld.mono b1.size)⟩
def okCb (c:Cfg):Bool:=inC c.cB 1 16 && inC c.cBeam 1 16 && inC c.cDepth 1 3 && inC c.cBatch 1 64 && inC c.cPass 4 16
def okCe (c:Cfg):Bool:=inC c.cWin 1 16 && inC c.cQs 1 16 && inC c.cQr 1 16 && inC c.cMsg 0 200 && inC c.cSeqs 0 1073741824
theorem ZfA (c:Cfg):okC c=(okCb c && okCe c):=by
 unfold okC okCb okCe
 cases inC c.cB 1 16 <;> cases inC c.cBeam 1 16 <;> cases inC c.cDepth 1 3 <;> cases inC c.cBatch 1 64 <;> cases inC c.cPass 4 16 <;> simp
theorem Zv (lo n hi:Int) (w:World):Calls Tryz.prog 63 #[.int .i64 lo,.int .i64 n,.int .i64 hi] w fun e w'=>e=.returned (.bool (inC n lo hi))∧w=w':=by
 unfold inC;by_cases h:lo≤n
 ·have d:decide (lo≤n)=true:=decide_eq_true h;rw [d,Bool.true_and];clear h;go_enter Tryz.func63,Tryz.ntmps63;go_wp2;go_ret;exact ⟨rfl,rfl⟩
 ·have d:decide (lo≤n)=false:=decide_eq_false h;rw [d,Bool.false_and];clear h;go_enter Tryz.func63,Tryz.ntmps63;go_wp2;go_ret;exact ⟨rfl,rfl⟩
theorem confBlock_any (c:Cfg) (w:World):Calls Tryz.prog 45 #[.agg #[.int .i64 c.cB,.int .i64 c.cBeam,.int .i64 c.cDepth,.int .i64 c.cWin,.int .i64 c.cQs,.int .i64 c.cQr,.int .i64 c.cBatch,.int .i64 c.cPass,.int .i64 c.cMsg,.int .i64 c.cSeqs]] w fun e w'=>e=.returned (.bool (okCb c))∧Below w.heap.size w w':=by
 have b1:Below w.heap.size w (w.alloc (.cells #[.int .i64 c.cB,.int .i64 c.cBeam,.int .i64 c.cDepth,.int .i64 c.cWin,.int .i64 c.cQs,.int .i64 c.cQr,.int .i64 c.cBatch,.int .i64 c.cPass,.int .i64 c.cMsg,.int .i64 c.cSeqs] 23)):=(Below.refl w.heap.size w).alloc (Nat.le_refl _) _;by_cases h0:inC c.cB 1 16=false
 ·have e0:okCb c=false:=by unfold okCb; rw [h0]; simp
  rw [e0];go_enter Tryz.func45,Tryz.ntmps45;go_wp2_with (go_at_call 63; refine (Zv _ _ _ _).mono ?_; rintro e w9 ⟨rfl,rfl⟩);go_ret;exact ⟨rfl,b1⟩
 have h0:inC c.cB 1 16=true:=by simpa using h0
 by_cases h1:inC c.cBeam 1 16=false
 ·have e0:okCb c=false:=by unfold okCb; rw [h0,h1]; simp
  rw [e0];go_enter Tryz.func45,Tryz.ntmps45;go_wp2_with (go_at_call 63; refine (Zv _ _ _ _).mono ?_; rintro e w9 ⟨rfl,rfl⟩);go_ret;exact ⟨rfl,b1⟩
 have h1:inC c.cBeam 1 16=true:=by simpa using h1
 by_cases h2:inC c.cDepth 1 3=false
 ·have e0:okCb c=false:=by unfold okCb; rw [h0,h1,h2]; simp
  rw [e0];go_enter Tryz.func45,Tryz.ntmps45;go_wp2_with (go_at_call 63; refine (Zv _ _ _ _).mono ?_; rintro e w9 ⟨rfl,rfl⟩);go_ret;exact ⟨rfl,b1⟩
 have h2:inC c.cDepth 1 3=true:=by simpa using h2
 by_cases h3:inC c.cBatch 1 64=false
 ·have e0:okCb c=false:=by unfold okCb; rw [h0,h1,h2,h3]; simp
  rw [e0];go_enter Tryz.func45,Tryz.ntmps45;go_wp2_with (go_at_call 63; refine (Zv _ _ _ _).mono ?_; rintro e w9 ⟨rfl,rfl⟩);go_ret;exact ⟨rfl,b1⟩
 have h3:inC c.cBatch 1 64=true:=by simpa using h3
 by_cases h4:inC c.cPass 4 16=false
 ·have e0:okCb c=false:=by unfold okCb; rw [h0,h1,h2,h3,h4]; simp
  rw [e0];go_enter Tryz.func45,Tryz.ntmps45;go_wp2_with (go_at_call 63; refine (Zv _ _ _ _).mono ?_; rintro e w9 ⟨rfl,rfl⟩);go_ret;exact ⟨rfl,b1⟩
 have h4:inC c.cPass 4 16=true:=by simpa using h4
 have e0:okCb c=true:=by unfold okCb; rw [h0,h1,h2,h3,h4]; rfl
 rw [e0];go_enter Tryz.func45,Tryz.ntmps45;go_wp2_with (go_at_call 63; refine (Zv _ _ _ _).mono ?_; rintro e w9 ⟨rfl,rfl⟩);go_ret;exact ⟨rfl,b1⟩
theorem confEnds_any (c:Cfg) (w:World):Calls Tryz.prog 46 #[.agg #[.int .i64 c.cB,.int .i64 c.cBeam,.int .i64 c.cDepth,.int .i64 c.cWin,.int .i64 c.cQs,.int .i64 c.cQr,.int .i64 c.cBatch,.int .i64 c.cPass,.int .i64 c.cMsg,.int .i64 c.cSeqs]] w fun e w'=>e=.returned (.bool (okCe c))∧Below w.heap.size w w':=by
 have b1:Below w.heap.size w (w.alloc (.cells #[.int .i64 c.cB,.int .i64 c.cBeam,.int .i64 c.cDepth,.int .i64 c.cWin,.int .i64 c.cQs,.int .i64 c.cQr,.int .i64 c.cBatch,.int .i64 c.cPass,.int .i64 c.cMsg,.int .i64 c.cSeqs] 23)):=(Below.refl w.heap.size w).alloc (Nat.le_refl _) _;by_cases h0:inC c.cWin 1 16=false
 ·have e0:okCe c=false:=by unfold okCe; rw [h0]; simp
  rw [e0];go_enter Tryz.func46,Tryz.ntmps46;go_wp2_with (go_at_call 63; refine (Zv _ _ _ _).mono ?_; rintro e w9 ⟨rfl,rfl⟩);go_ret;exact ⟨rfl,b1⟩
 have h0:inC c.cWin 1 16=true:=by simpa using h0
 by_cases h1:inC c.cQs 1 16=false
 ·have e0:okCe c=false:=by unfold okCe; rw [h0,h1]; simp
  rw [e0];go_enter Tryz.func46,Tryz.ntmps46;go_wp2_with (go_at_call 63; refine (Zv _ _ _ _).mono ?_; rintro e w9 ⟨rfl,rfl⟩);go_ret;exact ⟨rfl,b1⟩
 have h1:inC c.cQs 1 16=true:=by simpa using h1
 by_cases h2:inC c.cQr 1 16=false
 ·have e0:okCe c=false:=by unfold okCe; rw [h0,h1,h2]; simp
  rw [e0];go_enter Tryz.func46,Tryz.ntmps46;go_wp2_with (go_at_call 63; refine (Zv _ _ _ _).mono ?_; rintro e w9 ⟨rfl,rfl⟩);go_ret;exact ⟨rfl,b1⟩
 have h2:inC c.cQr 1 16=true:=by simpa using h2
 by_cases h3:inC c.cMsg 0 200=false
 ·have e0:okCe c=false:=by unfold okCe; rw [h0,h1,h2,h3]; simp
  rw [e0];go_enter Tryz.func46,Tryz.ntmps46;go_wp2_with (go_at_call 63; refine (Zv _ _ _ _).mono ?_; rintro e w9 ⟨rfl,rfl⟩);go_ret;exact ⟨rfl,b1⟩
 have h3:inC c.cMsg 0 200=true:=by simpa using h3
 by_cases h4:inC c.cSeqs 0 1073741824=false
 ·have e0:okCe c=false:=by unfold okCe; rw [h0,h1,h2,h3,h4]; simp
  rw [e0];go_enter Tryz.func46,Tryz.ntmps46;go_wp2_with (go_at_call 63; refine (Zv _ _ _ _).mono ?_; rintro e w9 ⟨rfl,rfl⟩);go_ret;exact ⟨rfl,b1⟩
 have h4:inC c.cSeqs 0 1073741824=true:=by simpa using h4
 have e0:okCe c=true:=by unfold okCe; rw [h0,h1,h2,h3,h4]; rfl
 rw [e0];go_enter Tryz.func46,Tryz.ntmps46;go_wp2_with (go_at_call 63; refine (Zv _ _ _ _).mono ?_; rintro e w9 ⟨rfl,rfl⟩);go_ret;exact ⟨rfl,b1⟩
theorem confCodeSegs (k:Int) (h2:0≤k) (h3:k≤32) (w:World):Calls Tryz.prog 27 #[.int .i64 k] w fun e w'=>e=.returned (.int .i64 (2 * k))∧w=w':=by
 have d0:decide (k<0)=false:=decide_eq_false (by omega);have d1:decide (32<k)=false:=decide_eq_false (by omega);go_enter Tryz.func27,Tryz.ntmps27;go_wp2;go_ret;exact ⟨rfl,rfl⟩
theorem Zbb (c:Cfg) (w:World) :
  Calls Tryz.prog 25 #[.agg #[.int .i64 c.cB,.int .i64 c.cBeam,.int .i64 c.cDepth,.int .i64 c.cWin,.int .i64 c.cQs,.int .i64 c.cQr,.int .i64 c.cBatch,.int .i64 c.cPass,.int .i64 c.cMsg,.int .i64 c.cSeqs]] w fun e w'=>e=.returned (.int .i64 (Ze0 c))∧Below w.heap.size w w':=by
 have b1:Below w.heap.size w (w.alloc (.cells #[.int .i64 c.cB,.int .i64 c.cBeam,.int .i64 c.cDepth,.int .i64 c.cWin,.int .i64 c.cQs,.int .i64 c.cQr,.int .i64 c.cBatch,.int .i64 c.cPass,.int .i64 c.cMsg,.int .i64 c.cSeqs] 23)):=(Below.refl w.heap.size w).alloc (Nat.le_refl _) _;have H1:=confBlock_any c (w.alloc (.cells #[.int .i64 c.cB,.int .i64 c.cBeam,.int .i64 c.cDepth,.int .i64 c.cWin,.int .i64 c.cQs,.int .i64 c.cQr,.int .i64 c.cBatch,.int .i64 c.cPass,.int .i64 c.cMsg,.int .i64 c.cSeqs] 23));unfold Ze0;by_cases h0:okCb c=false
 ·rw [h0] at H1;rw [show okC c=false by rw [ZfA,h0]; rfl,if_neg (by simp)];go_enter Tryz.func25,Tryz.ntmps25;go_wp2_with fail;refine H1.mono ?_;rintro e w2 ⟨rfl,b2⟩;go_wp2;go_ret;exact ⟨rfl,b1.trans (b2.mono (by simp))⟩
 have h0:okCb c=true:=by simpa using h0
 rw [h0] at H1;have H2:Hid (∀ wx:World,Calls Tryz.prog 46 #[.agg #[.int .i64 c.cB,.int .i64 c.cBeam,.int .i64 c.cDepth,.int .i64 c.cWin,.int .i64 c.cQs,.int .i64 c.cQr,.int .i64 c.cBatch,.int .i64 c.cPass,.int .i64 c.cMsg,.int .i64 c.cSeqs]] wx fun e w'=>e=.returned (.bool (okCe c))∧Below wx.heap.size wx w'):=fun wx=>confEnds_any c wx
 have x1:=Box.new w 23 #[.int .i64 c.cB,.int .i64 c.cBeam,.int .i64 c.cDepth,.int .i64 c.cWin,.int .i64 c.cQs,.int .i64 c.cQr,.int .i64 c.cBatch,.int .i64 c.cPass,.int .i64 c.cMsg,.int .i64 c.cSeqs];by_cases h1:okCe c=false
 ·rw [h1] at H2;rw [show okC c=false by rw [ZfA,h0,h1]; rfl,if_neg (by simp)];go_enter Tryz.func25,Tryz.ntmps25;go_wp2_with fail;refine H1.mono ?_;rintro e w2 ⟨rfl,b2⟩;have x2:=x1.next b2;obtain ⟨k0,k1,k2,k3,k4,k5,k6,k7,k8,k9⟩:=x2.c10;clear x1 x2;go_wp2_with fail;refine (H2.out _).mono ?_;rintro e w3 ⟨rfl,b3⟩;go_wp2;go_ret;exact ⟨rfl,(b1.trans (b2.mono (by simp))).trans (b3.mono (Nat.le_trans (by simp) b2.size))⟩
 have h1:okCe c=true:=by simpa using h1
 rw [h1] at H2;rw [show okC c=true by rw [ZfA,h0,h1]; rfl,if_pos rfl];go_enter Tryz.func25,Tryz.ntmps25;go_wp2_with fail;refine H1.mono ?_;rintro e w2 ⟨rfl,b2⟩;have x2:=x1.next b2;obtain ⟨k0,k1,k2,k3,k4,k5,k6,k7,k8,k9⟩:=x2.c10;clear x1 x2;go_wp2_with fail;refine (H2.out _).mono ?_;rintro e w3 ⟨rfl,b3⟩;go_wp2;go_ret;exact ⟨rfl,(b1.trans (b2.mono (by simp))).trans (b3.mono (Nat.le_trans (by simp) b2.size))⟩
theorem ZaP (c:Cfg) (w:World) :
  Calls Tryz.prog 18 #[.agg #[.int .i64 c.cB,.int .i64 c.cBeam,.int .i64 c.cDepth,.int .i64 c.cWin,.int .i64 c.cQs,.int .i64 c.cQr,.int .i64 c.cBatch,.int .i64 c.cPass,.int .i64 c.cMsg,.int .i64 c.cSeqs]] w fun e w'=>e=.returned (.int .i64 (segsA c))∧Below w.heap.size w w':=by
 have b1:Below w.heap.size w (w.alloc (.cells #[.int .i64 c.cB,.int .i64 c.cBeam,.int .i64 c.cDepth,.int .i64 c.cWin,.int .i64 c.cQs,.int .i64 c.cQr,.int .i64 c.cBatch,.int .i64 c.cPass,.int .i64 c.cMsg,.int .i64 c.cSeqs] 23)):=(Below.refl w.heap.size w).alloc (Nat.le_refl _) _;have H1:=Zbb c (w.alloc (.cells #[.int .i64 c.cB,.int .i64 c.cBeam,.int .i64 c.cDepth,.int .i64 c.cWin,.int .i64 c.cQs,.int .i64 c.cQr,.int .i64 c.cBatch,.int .i64 c.cPass,.int .i64 c.cMsg,.int .i64 c.cSeqs] 23));unfold segsA;unfold Ze0 at H1;by_cases h0:okC c=true
 ·rw [if_pos h0] at H1;rw [if_pos h0];have hb:=((ZT c).1 h0).1;have h2:=hb.1;have h3:=hb.2;have H2:Hid (∀ wx:World,Calls Tryz.prog 27 #[.int .i64 (c.cB+10)] wx fun e w'=>e=.returned (.int .i64 (segsC c))∧wx=w'):=fun wx=>confCodeSegs (c.cB+10) (by omega) (by omega) wx
  have e1:IntKind.i64.wrap (c.cB+10)=c.cB+10:=by rw [IntKind.wrap_i64]; omega
  have x1:=Box.new w 23 #[.int .i64 c.cB,.int .i64 c.cBeam,.int .i64 c.cDepth,.int .i64 c.cWin,.int .i64 c.cQs,.int .i64 c.cQr,.int .i64 c.cBatch,.int .i64 c.cPass,.int .i64 c.cMsg,.int .i64 c.cSeqs];generalize segsC c=SS at *;clear h0 hb;go_enter Tryz.func18,Tryz.ntmps18;go_wp2_with fail;refine H1.mono ?_;rintro e w2 ⟨rfl,b2⟩;have x2:=x1.next b2;have k0:=x2.cell 0 _ rfl;clear x1 x2;go_wp2_with fail;refine (H2.out _).mono ?_;rintro e w3 ⟨rfl,rfl⟩;go_wp2;go_ret;exact ⟨rfl,b1.trans (b2.mono (by simp))⟩
 ·rw [if_neg h0] at H1;rw [if_neg h0];clear h0;go_enter Tryz.func18,Tryz.ntmps18;go_wp2_with fail;refine H1.mono ?_;rintro e w2 ⟨rfl,b2⟩;go_wp2;go_ret;exact ⟨rfl,b1.trans (b2.mono (by simp))⟩
theorem ConfMost_any (c:Cfg) (w:World) :
  Calls Tryz.prog 12 #[.agg #[.int .i64 c.cB,.int .i64 c.cBeam,.int .i64 c.cDepth,.int .i64 c.cWin,.int .i64 c.cQs,.int .i64 c.cQr,.int .i64 c.cBatch,.int .i64 c.cPass,.int .i64 c.cMsg,.int .i64 c.cSeqs]] w fun e w'=>e=.returned (.int .i64 (mostA c))∧Below w.heap.size w w':=by
 have b1:Below w.heap.size w (w.alloc (.cells #[.int .i64 c.cB,.int .i64 c.cBeam,.int .i64 c.cDepth,.int .i64 c.cWin,.int .i64 c.cQs,.int .i64 c.cQr,.int .i64 c.cBatch,.int .i64 c.cPass,.int .i64 c.cMsg,.int .i64 c.cSeqs] 23)):=(Below.refl w.heap.size w).alloc (Nat.le_refl _) _;have x1:=Box.new w 23 #[.int .i64 c.cB,.int .i64 c.cBeam,.int .i64 c.cDepth,.int .i64 c.cWin,.int .i64 c.cQs,.int .i64 c.cQr,.int .i64 c.cBatch,.int .i64 c.cPass,.int .i64 c.cMsg,.int .i64 c.cSeqs]
 have HM:mostA c=segsA c * c.cPass∧0≤mostA c∧mostA c≤832:=by
  unfold mostA segsA;by_cases h:okC c=true
  ·rw [if_pos h,if_pos h];have:=ZfG h;exact ⟨rfl,by omega,by omega⟩
  ·rw [if_neg h,if_neg h,Int.zero_mul];omega
 have HC:Hid (∀ wx:World,Calls Tryz.prog 18 #[.agg #[.int .i64 c.cB,.int .i64 c.cBeam,.int .i64 c.cDepth,.int .i64 c.cWin,.int .i64 c.cQs,.int .i64 c.cQr,.int .i64 c.cBatch,.int .i64 c.cPass,.int .i64 c.cMsg,.int .i64 c.cSeqs]] wx fun e w'=>e=.returned (.int .i64 (segsA c))∧Below wx.heap.size wx w'):=fun wx=>ZaP c wx
 generalize mostA c=MM at *;generalize segsA c=S at *;obtain ⟨hM,hM0,hM1⟩:=HM;subst hM;have eM:IntKind.i64.wrap (S * c.cPass)=S * c.cPass:=by rw [IntKind.wrap_i64]; omega
 clear hM0 hM1;go_enter Tryz.func12,Tryz.ntmps12;go_wp2;obtain ⟨W1,hW1⟩:∃ W,w.alloc (.cells #[.int .i64 c.cB,.int .i64 c.cBeam,.int .i64 c.cDepth,.int .i64 c.cWin,.int .i64 c.cQs,.int .i64 c.cQr,.int .i64 c.cBatch,.int .i64 c.cPass,.int .i64 c.cMsg,.int .i64 c.cSeqs] 23)=W:=⟨_,rfl⟩;rw [hW1] at b1 x1 ⊢;clear hW1;obtain ⟨k0,k1,k2,k3,k4,k5,k6,k7,k8,k9⟩:=x1.c10;have hlt1:=x1.lt
 have HS:Hid (∀ wx:World,Below W1.heap.size W1 wx→Calls Tryz.prog 18 #[.agg #[.int .i64 c.cB,.int .i64 c.cBeam,.int .i64 c.cDepth,.int .i64 c.cWin,.int .i64 c.cQs,.int .i64 c.cQr,.int .i64 c.cBatch,.int .i64 c.cPass,.int .i64 c.cMsg,.int .i64 c.cSeqs]] wx fun e w'=>e=.returned (.int .i64 S)∧Below W1.heap.size W1 w'):=fun wx hw =>
  (HC.out wx).mono fun e w' ⟨h,b⟩=>⟨h,hw.trans (b.mono hw.size)⟩
 clear HC;refine wp_region_held_drew (S:=fun w'=>Below W1.heap.size W1 w') (by kernel_rfl) ((Below.refl _ _).drew) (fun hHeld=>?_);refine ZL (i:=0) (d:=3) (v:=?v1) rfl rfl (by kernel_rfl) (by kernel_rfl) (by kernel_rfl) (fun _ _ _ h=>h) (Or.inl ⟨by kernel_rfl,?hy1⟩) hHeld ?rest1
 case hy1 =>
  intro wx hSw;have q0:=(hSw.cell (p:=⟨w.heap.size,0,none⟩) hlt1).trans k0;have q1:=(hSw.cell (p:=⟨w.heap.size,1,none⟩) hlt1).trans k1;have q2:=(hSw.cell (p:=⟨w.heap.size,2,none⟩) hlt1).trans k2;have q3:=(hSw.cell (p:=⟨w.heap.size,3,none⟩) hlt1).trans k3;have q4:=(hSw.cell (p:=⟨w.heap.size,4,none⟩) hlt1).trans k4;have q5:=(hSw.cell (p:=⟨w.heap.size,5,none⟩) hlt1).trans k5;have q6:=(hSw.cell (p:=⟨w.heap.size,6,none⟩) hlt1).trans k6;have q7:=(hSw.cell (p:=⟨w.heap.size,7,none⟩) hlt1).trans k7;have q8:=(hSw.cell (p:=⟨w.heap.size,8,none⟩) hlt1).trans k8;have q9:=(hSw.cell (p:=⟨w.heap.size,9,none⟩) hlt1).trans k9;clear hSw;go_simp
  with_reducible rfl
 simp only [List.setIfInBounds_toArray,List.set_cons_zero,List.set_cons_succ];refine ZL (i:=2) (d:=5) (v:=?v2) rfl rfl (by kernel_rfl) (by kernel_rfl) (by kernel_rfl) (fun _ _ _ h=>h) (Or.inl ⟨by kernel_rfl,?hy2⟩) hHeld ?rest2
 case hy2 =>
  intro wx hSw;clear hSw;go_simp
  with_reducible rfl
 simp only [List.setIfInBounds_toArray,List.set_cons_zero,List.set_cons_succ];refine ZL (i:=3) (d:=6) (v:=?v3) rfl rfl (by kernel_rfl) (by kernel_rfl) (by kernel_rfl) (fun _ _ _ h=>h) (Or.inl ⟨by kernel_rfl,?hy3⟩) hHeld ?rest3
 case hy3 =>
  intro wx hSw;have q0:=(hSw.cell (p:=⟨w.heap.size,7,none⟩) hlt1).trans k7;clear hSw;go_simp
  with_reducible rfl
 simp only [List.setIfInBounds_toArray,List.set_cons_zero,List.set_cons_succ];refine wpAnyH_ready (rs:=[1]) (by kernel_rfl) (by simp) ?_;refine AllReadyH.cons rfl (fun K hK=>?_) AllReadyH.nil;go_simp;go_wp2_with (go_at_call 18; refine (HS.out _ (by exact hHeld)).mono ?_; rintro e wb ⟨rfl,b8⟩);refine hK.out _ _ (b8) (fun hHeld=>?_);clear hK K;refine ZL (i:=4) (d:=7) (v:=?v4) rfl rfl (by kernel_rfl) (by kernel_rfl) (by kernel_rfl) (fun _ _ _ h=>h) (Or.inl ⟨by kernel_rfl,?hy4⟩) hHeld ?rest4
 case hy4 =>
  intro wx hSw;clear hSw;go_simp
  with_reducible rfl
 simp only [List.setIfInBounds_toArray,List.set_cons_zero,List.set_cons_succ];refine wpAnyH_ready (rs:=[5]) (by kernel_rfl) (by simp) ?_;refine AllReadyH.cons rfl (fun K hK=>?_) AllReadyH.nil;go_simp;refine hK.out _ _ hHeld (fun hHeld=>?_);clear hK K;refine wpAnyH_done (by kernel_rfl) ?_ _;go_wp2;go_ret;exact ⟨rfl,b1.trans (hHeld.mono b1.size)⟩
end Go.Proofs.YtkigbanldiialaaGreatDoor
