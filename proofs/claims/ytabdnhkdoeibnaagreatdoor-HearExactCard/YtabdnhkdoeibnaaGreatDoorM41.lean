/-
  What beam's least answers: the least metric so many depths further on, or what was found before. (It calls itself, out of a range over a function.)
-/
import Derived.Test.YtabdnhkdoeibnaaGreatDoorM14
import Derived.Test.YtabdnhkdoeibnaaGreatDoorM40
import Derived.Lib.MinMax
import Derived.Scope
set_option maxRecDepth 100000
set_option maxHeartbeats 4000000
namespace Go.Proofs.YtabdnhkdoeibnaaGreatDoor
open Go.RowKit Go.Shelf
attribute [local go_sem] Oper.semAt_some
theorem Zcy {β:Type} (B:Nat) (t:TypeId) (f:β→Array Value):Own (fun s W=>Box W B t (f s)):=fun s X Y row hs hg hrow=>by
 refine (hg.block B (Array.getElem?_eq_some_iff.1 hs).1 (fun e'=>?_)).trans hs
 obtain ⟨o,ho,hc⟩:=hrow B e'.symm
 rw [show X.heap[B]? = _ from hs] at ho
 cases ho
 cases hc
theorem wpIn_scope_wide {P:Program} {n:Nat} {Q:Exit→Act→World→Prop} {a:Act} {w:World} {c:Code} (h:c.wpIn Fence.wide n P (Exit.noGoto Q) a w):(Code.scope c).wpIn Fence.wide n P Q a w:=wpIn_wide.2 (wp_scope_straight (wpIn_wide.1 h))
def Ze9 (b off N cap:Nat) (l:List (Int×Int)) (a:Nat):Prop:=∀ (i s:Nat) (m best:Int),s<4294967296→0≤m→m+8192 * (a:Int)≤1099511627776→i+a≤N→∀ w:World,Segs w.heap.size w (.slice (some ⟨b,off,none⟩) N cap) (Za1 N l) →
 Calls Tryz.prog 154 #[.slice (some ⟨b,off,none⟩) N cap,.agg #[.int .i64 (i:Int),.int .u32 (s:Int),.int .i64 m],.int .i64 ((i+a:Nat):Int),.int .i64 best] w fun e W'=>e=.returned (.int .i64 (min (lst stB (coB N l) N a (s:Int) i m) best))∧Below w.heap.size w W'
theorem least_zero (b off N cap:Nat) (l:List (Int×Int)):Ze9 b off N cap l 0:=by
 intro i s m best _ _ _ _ w _;simp only [lst,Nat.add_zero];have b1:Below w.heap.size w ((((w.alloc (.cells #[.slice (some ⟨b,off,none⟩) N cap] 140)).alloc (.cells #[.int .i64 (i:Int),.int .u32 (s:Int),.int .i64 m] 144)).alloc (.cells #[.int .i64 (i:Int)] 3)).alloc (.cells #[.int .i64 best] 3)):=((((Below.refl w.heap.size w).alloc (Nat.le_refl _) _).alloc (by simp) _).alloc (by simp; omega) _).alloc (by simp; omega) _;have hii:((i:Int) == (i:Int))=true:=by simp
 go_enter Tryz.func154,Tryz.ntmps154;go_wp2;go_step3;go_wp2;rw [Exit.noGoto_ret];go_ret;exact ⟨rfl,b1⟩
theorem least_more (b off N cap:Nat) (l:List (Int×Int)) (p:Int) (hp:Zf (N:Int) p l) (a:Nat) (ih:Ze9 b off N cap l a):Ze9 b off N cap l (a+1):=by
 intro i s m best hs hm0 hm1 hia w hS;have hN2:N<65:=by have:=hp.1.2.1; omega
 refine (callsIn_wide (n:=5)).1 ?_;have HIH:Hid (Ze9 b off N cap l a):=ih;have HP:Hid (Zf (N:Int) p l):=hp;have HS:Hid (Segs w.heap.size w (.slice (some ⟨b,off,none⟩) N cap) (Za1 N l)):=hS;obtain ⟨E,hE⟩:∃ E,i+(a+1)=E:=⟨_,rfl⟩;have hiE:((i:Int) == (E:Int))=false:=by rw [beq_eq_false_iff_ne]; omega
 rw [hE];have HE:Hid (i+(a+1)=E):=hE;have HALL:=bestF_all N l a (s:Int) i m best hm0 (by omega);obtain ⟨V,hV⟩:∃ V,min (lst stB (coB N l) N (a+1) (s:Int) i m) best=V:=⟨_,rfl⟩;rw [hV] at HALL ⊢;have x0:=(((((Box.new w 140 #[.slice (some ⟨b,off,none⟩) N cap]).alloc (.cells #[.int .i64 (i:Int),.int .u32 (s:Int),.int .i64 m] 144)).alloc (.cells #[.int .i64 (E:Int)] 3)).alloc (.cells #[.int .i64 best] 3)).alloc (.cells #[.slice (some ⟨b,off,none⟩) N cap] 140)).alloc (.cells #[.int .i64 (i:Int),.int .u32 (s:Int),.int .i64 m] 144);have x1:=((((Box.new (w.alloc (.cells #[.slice (some ⟨b,off,none⟩) N cap] 140)) 144 #[.int .i64 (i:Int),.int .u32 (s:Int),.int .i64 m]).alloc (.cells #[.int .i64 (E:Int)] 3)).alloc (.cells #[.int .i64 best] 3)).alloc (.cells #[.slice (some ⟨b,off,none⟩) N cap] 140)).alloc (.cells #[.int .i64 (i:Int),.int .u32 (s:Int),.int .i64 m] 144);have x2:=(((Box.new ((w.alloc (.cells #[.slice (some ⟨b,off,none⟩) N cap] 140)).alloc (.cells #[.int .i64 (i:Int),.int .u32 (s:Int),.int .i64 m] 144)) 3 #[.int .i64 (E:Int)]).alloc (.cells #[.int .i64 best] 3)).alloc (.cells #[.slice (some ⟨b,off,none⟩) N cap] 140)).alloc (.cells #[.int .i64 (i:Int),.int .u32 (s:Int),.int .i64 m] 144);have x3:=((Box.new (((w.alloc (.cells #[.slice (some ⟨b,off,none⟩) N cap] 140)).alloc (.cells #[.int .i64 (i:Int),.int .u32 (s:Int),.int .i64 m] 144)).alloc (.cells #[.int .i64 (E:Int)] 3)) 3 #[.int .i64 best]).alloc (.cells #[.slice (some ⟨b,off,none⟩) N cap] 140)).alloc (.cells #[.int .i64 (i:Int),.int .u32 (s:Int),.int .i64 m] 144);have x4:=(Box.new ((((w.alloc (.cells #[.slice (some ⟨b,off,none⟩) N cap] 140)).alloc (.cells #[.int .i64 (i:Int),.int .u32 (s:Int),.int .i64 m] 144)).alloc (.cells #[.int .i64 (E:Int)] 3)).alloc (.cells #[.int .i64 best] 3)) 140 #[.slice (some ⟨b,off,none⟩) N cap]).alloc (.cells #[.int .i64 (i:Int),.int .u32 (s:Int),.int .i64 m] 144);have x5:=Box.new (((((w.alloc (.cells #[.slice (some ⟨b,off,none⟩) N cap] 140)).alloc (.cells #[.int .i64 (i:Int),.int .u32 (s:Int),.int .i64 m] 144)).alloc (.cells #[.int .i64 (E:Int)] 3)).alloc (.cells #[.int .i64 best] 3)).alloc (.cells #[.slice (some ⟨b,off,none⟩) N cap] 140)) 144 #[.int .i64 (i:Int),.int .u32 (s:Int),.int .i64 m];simp only [World.size_alloc] at x1 x2 x3 x4 x5;have hB0:=(((((((Below.refl w.heap.size w).alloc (Nat.le_refl _) (.cells #[.slice (some ⟨b,off,none⟩) N cap] 140)).alloc (by simp) (.cells #[.int .i64 (i:Int),.int .u32 (s:Int),.int .i64 m] 144)).alloc (by simp; omega) (.cells #[.int .i64 (E:Int)] 3)).alloc (by simp; omega) (.cells #[.int .i64 best] 3)).alloc (by simp; omega) (.cells #[.slice (some ⟨b,off,none⟩) N cap] 140)).alloc (by simp; omega) (.cells #[.int .i64 (i:Int),.int .u32 (s:Int),.int .i64 m] 144));clear ih hp hS hE hV;refine callsIn_of_wp_marks Tryz.func154 rfl trivial ?_ rfl;simp only [Tryz.ntmps154,List.size_toArray,List.length_cons,List.length_nil,Nat.reduceAdd,Nat.reduceSub,Array.replicate_succ,Array.replicate_zero,List.push_toArray,List.append_toArray,List.nil_append,List.cons_append];have f1:Fence.wide.fn 147:=trivial;have hn1:(1:Nat)≤5:=by omega
 gi_wp2;refine wpIn_scope_wide ?_;gi_wp2;refine wpIn_label ?_;gi_wp2_with (gi_at_call 147; refine (Ze8 (5-1) _ ⟨_,_,_,rfl⟩ i s m _).mono ?_; rintro e w2 ⟨rfl,rfl⟩);obtain ⟨W0,hW0⟩:∃ W0,((((((w.alloc (.cells #[.slice (some ⟨b,off,none⟩) N cap] 140)).alloc (.cells #[.int .i64 (i:Int),.int .u32 (s:Int),.int .i64 m] 144)).alloc (.cells #[.int .i64 (E:Int)] 3)).alloc (.cells #[.int .i64 best] 3)).alloc (.cells #[.slice (some ⟨b,off,none⟩) N cap] 140)).alloc (.cells #[.int .i64 (i:Int),.int .u32 (s:Int),.int .i64 m] 144))=W0:=⟨_,rfl⟩;have hsz:W0.heap.size=w.heap.size+6:=by rw [← hW0]; simp
 rw [hW0] at x0 x1 x2 x3 x4 x5 hB0 ⊢;clear hW0
 refine wpIn_rangeFunc_ownH rfl hn1 (gf:=151) (lb:=#[.pointer (some ⟨w.heap.size+1+1+1+1,0,none⟩),.pointer (some ⟨w.heap.size+1+1+1+1+1,0,none⟩)]) rfl trivial (enters_of Tryz.func151 (by kernel_rfl) rfl)
  (Zc1 (5-1) (by omega) (w.heap.size+1+1+1+1) (w.heap.size+1+1+1+1+1) b off N cap l p HP.out i s (by omega) hs m hm0 (by omega) w.heap.size W0 (by omega) x4 x5 (HS.out.below hB0))
  KpB.trans (KpB.turn (by omega) (by omega) (by omega)) (Below.refl _ _) (fun _=>rfl)
  (fun pre W=>Box W w.heap.size 140 #[.slice (some ⟨b,off,none⟩) N cap]∧Box W (w.heap.size+1) 144 #[.int .i64 (i:Int),.int .u32 (s:Int),.int .i64 m]∧Box W (w.heap.size+1+1) 3 #[.int .i64 (E:Int)]∧Box W (w.heap.size+1+1+1) 3 #[.int .i64 (Zbf (kidL N l a (s:Int) i m) best pre)]∧Below w.heap.size W0 W)
  (fun c pre W=>(c=.exit 0∧Zbf (kidL N l a (s:Int) i m) best pre=m)∧Box W (w.heap.size+1+1+1) 3 #[.int .i64 m]∧Below w.heap.size W0 W)
  (OwnFrom.and (Own.from (Zcy _ _ _) _) (OwnFrom.and (Own.from (Zcy _ _ _) _) (OwnFrom.and (Own.from (Zcy _ _ _) _) (OwnFrom.and (Own.from (Zcy _ _ (fun pre:List Nat=>#[.int .i64 (Zbf (kidL N l a (s:Int) i m) best pre)])) _) (ownFrom_below (by omega) (by omega))))))
  (fun c=>OwnFrom.and (ownFrom_pure _ _) (OwnFrom.and (Own.from (Zcy _ _ _) _) (ownFrom_below (by omega) (by omega))))
  ⟨x0,x1,x2,x3,Below.refl _ _⟩
  (fun k a' W=>∃ Bx,w.heap.size+1+1+1+1+1<Bx∧Box W Bx 144 #[.int .i64 ((i+1:Nat):Int),.int .u32 ((stepN s k:Nat):Int),.int .i64 (m+((costN (stepN s k) (ofL N l i):Nat):Int))]∧a'={ tmps:=#[.slice (some ⟨b,off,none⟩) N cap,.agg #[.int .i64 (i:Int),.int .u32 (s:Int),.int .i64 m],.int .i64 (E:Int),.int .i64 best,.pointer (some ⟨w.heap.size,0,none⟩),.pointer (some ⟨w.heap.size+1,0,none⟩),.pointer (some ⟨w.heap.size+1+1,0,none⟩),.pointer (some ⟨w.heap.size+1+1+1,0,none⟩),.int .i64 0,undef,.pointer (some ⟨Bx,0,none⟩),.pointer (some ⟨w.heap.size+1,0,none⟩),.int .i64 (i:Int),.int .i64 (E:Int),.bool false,undef,undef,undef,undef,.slice (some ⟨b,off,none⟩) N cap,.agg #[.int .i64 (i:Int),.int .u32 (s:Int),.int .i64 m],.func (.func 151) #[] #[.pointer (some ⟨w.heap.size+1+1+1+1,0,none⟩),.pointer (some ⟨w.heap.size+1+1+1+1+1,0,none⟩)],.int .i64 (k:Int),Zhj N l i s m k,undef,undef,undef,undef,undef,undef,undef,undef,undef,undef,undef,undef,undef,undef],defers:=[] })
  ?hAx ?assign ?body ?done ?stop
 case hAx =>
  rintro k a' u X Y row ⟨Bx,h1,h2,h3⟩ hg hr;exact ⟨Bx,h1,Zcy Bx _ (fun _:Unit=>_) u X Y row h2 hg (fun r e=>(hr r e).2),h3⟩
 case assign =>
  rintro lo pre k W K ⟨y0,y1,y2,y3,hB⟩ hK;have hsW:=hB.size;simp only [ZfR,Zhj];gi_wp2;exact hK _ _ ((KeepsOthers.alloc _ _).from _) (KpB.of_below ((Below.refl W.heap.size W).alloc (Nat.le_refl _) _) (by omega) (by omega) (by omega)) ⟨y0.alloc _,y1.alloc _,y2.alloc _,y3.alloc _,hB.alloc (by omega) _⟩ ⟨W.heap.size,by omega,Box.new W _ _,rfl⟩
 case body =>
  rintro lo pre k a' W hlo ⟨r,hr⟩ ⟨y0,y1,y2,y3,hB⟩ ⟨Bx,hBx,yx,rfl⟩ hlt;have hsW:=hB.size;have hst:=ZbF s k;have hcb:=ZbG HP.out i (stepN s k)
  have HKL:kidL N l a (s:Int) i m k=lst stB (coB N l) N a ((stepN s k:Nat):Int) (i+1) (m+((costN (stepN s k) (ofL N l i):Nat):Int)):=by
   unfold kidL;rw [Zgk,Zgl]
  have HGE:=Zie N l a (s:Int) i m hm0 k;rw [Zgk,Zgl] at HGE;have HSN:=bestF_snoc (kidL N l a (s:Int) i m) best pre k;obtain ⟨ct,hct⟩:∃ ct,costN (stepN s k) (ofL N l i)=ct:=⟨_,rfl⟩;rw [hct] at hcb HKL yx HGE;obtain ⟨tt,htt⟩:∃ tt,stepN s k=tt:=⟨_,rfl⟩;rw [htt] at hst HKL yx;obtain ⟨I,hI⟩:∃ I,i+1=I:=⟨_,rfl⟩;rw [hI] at HKL yx;have hIE:I+a=E:=by have:=HE.out; omega
  have hIN:I+a≤N:=by omega
  obtain ⟨cu,hcu⟩:∃ cu,Zbf (kidL N l a (s:Int) i m) best pre=cu:=⟨_,rfl⟩;rw [hcu] at y3 HSN;have c0:=y0.cell 0 _ rfl;obtain ⟨c10,c11,c12⟩:=y1.c3;have c2:=y2.cell 0 _ rfl;have c3:=y3.cell 0 _ rfl;obtain ⟨cx0,cx1,cx2⟩:=yx.c3;by_cases hge:cu≤m+(ct:Int)
  ·have d0:decide (cu≤m+(ct:Int))=true:=decide_eq_true hge
   have HSK:Hid (Zbf (kidL N l a (s:Int) i m) best (pre++[k])=cu):=by
    show Zbf (kidL N l a (s:Int) i m) best (pre++[k])=cu
    rw [HSN];omega
   clear hge HSN HGE HKL hcu;gi_wp2;exact ⟨KeepsFrom.refl _ _,KpB.refl _ _ _ _,y0,y1,y2,by rw [HSK.out]; exact y3,hB⟩
  ·have d0:decide (cu≤m+(ct:Int))=false:=decide_eq_false hge;have HC:=(callsIn_wide (n:=5-1-1-1)).2 (HIH.out I tt (m+(ct:Int)) cu hst (by omega) (by omega) hIN W ((HS.out.below (hB0.trans hB)).mono (by omega)));rw [hIE,← HKL,← HSN] at HC;obtain ⟨nu,hnu⟩:∃ nu,Zbf (kidL N l a (s:Int) i m) best (pre++[k])=nu:=⟨_,rfl⟩;rw [hnu] at HC;have HNU:Hid (Zbf (kidL N l a (s:Int) i m) best (pre++[k])=nu):=hnu;have HC':=CallsIn.inRound lo HC;have f2:Fence.wide.fn 154:=trivial;have h12:1≤5-1-1:=by omega
   clear hge HSN HGE HKL hcu hct htt hI HC hnu;have HKF:Hid (∀ w2:World,Below W.heap.size W w2→KeepsFrom W0.heap.size W (w2.setCell ⟨w.heap.size+1+1+1,0,none⟩ (.int .i64 nu))):=fun w2 b2=>((Spared.of_below (X:=fun _=>False) b2).keeps (fun _ _ h=>h)).trans ((KeepsOthers.setCell _ _ _).from _)
   have HBB:Hid (∀ w2:World,Below W.heap.size W w2→Below w.heap.size W0 (w2.setCell ⟨w.heap.size+1+1+1,0,none⟩ (.int .i64 nu))):=fun w2 b2=>(hB.trans (b2.mono (by omega))).setCell (p:=⟨w.heap.size+1+1+1,0,none⟩) (by show w.heap.size≤w.heap.size+1+1+1; omega) _
   by_cases hnm:nu=m
   ·have d1:(nu == m)=true:=by simp [hnm]
    have HNM:Hid (nu=m):=hnm;clear hnm;gi_wp2_with (gi_at_call 154; refine HC'.mono ?_; rintro e w2 ⟨rfl,b2⟩; have z3:=y3.next b2; have e3:=z3.cell 0 _ rfl; have g3:=z3.free 0; have e10:=(y1.next b2).cell 0 _ rfl; have e11:=(y1.next b2).cell 1 _ rfl; have e12:=(y1.next b2).cell 2 _ rfl);exact ⟨HKF.out _ b2,⟨rfl,HNU.out.trans HNM.out⟩,by rw [← HNM.out]; exact z3.set 0 (.int .i64 nu),HBB.out _ b2⟩
   ·have d1:(nu == m)=false:=by rw [beq_eq_false_iff_ne]; exact hnm
    clear hnm;gi_wp2_with (gi_at_call 154; refine HC'.mono ?_; rintro e w2 ⟨rfl,b2⟩; have z3:=y3.next b2; have e3:=z3.cell 0 _ rfl; have g3:=z3.free 0; have e10:=(y1.next b2).cell 0 _ rfl; have e11:=(y1.next b2).cell 1 _ rfl; have e12:=(y1.next b2).cell 2 _ rfl);refine ⟨HKF.out _ b2,⟨(b2.mono (show w.heap.size≤W.heap.size by omega)).setCell (p:=⟨w.heap.size+1+1+1,0,none⟩) (by show w.heap.size≤w.heap.size+1+1+1; omega) _,?_,?_⟩,(y0.next b2).other (by simp; omega) _,(y1.next b2).other (by simp) _,(y2.next b2).other (by simp) _,by rw [HNU.out]; exact z3.set 0 (.int .i64 nu),HBB.out _ b2⟩
    ·rw [Below.heap_setCell _ _ _ _ (show _≠w.heap.size+1+1+1 by omega)];exact b2.block _ (by omega)
    ·rw [Below.heap_setCell _ _ _ _ (show _≠w.heap.size+1+1+1 by omega)];exact b2.block _ (by omega)
 case done =>
  rintro D ys W hD rfl ⟨y0,y1,y2,y3,hB⟩ hK;rw [HALL] at y3;have c3:=y3.cell 0 _ rfl;gi_wp2;rw [Exit.noGoto_ret];refine ⟨by simp,.inl ⟨_,_,rfl,run_takeDeferred hK,?_⟩⟩;exact ⟨_,results_tmp rfl _ _ _,rfl,(hB0.trans hB).trans (belowK_b (w:=W0) (by omega) W D _ _ hD hK rfl rfl)⟩
 case stop =>
  rintro D c pre W hD hpre ⟨⟨rfl,hbe⟩,y3,hB⟩ hK;have hV:=bestF_stop (ZhF N l a (s:Int) i m hm0) hpre hbe;rw [HALL] at hV;subst hV;have c3:=y3.cell 0 _ rfl;gi_wp2;rw [Exit.noGoto_ret];refine ⟨by simp,.inl ⟨_,_,rfl,run_takeDeferred hK,?_⟩⟩;exact ⟨_,results_tmp rfl _ _ _,rfl,(hB0.trans hB).trans (belowK_b (w:=W0) (by omega) W D _ _ hD hK rfl rfl)⟩
theorem ZgV (b off N cap:Nat) (l:List (Int×Int)) (p:Int) (hp:Zf (N:Int) p l):∀ a,Ze9 b off N cap l a
 | 0=>least_zero b off N cap l
 | a+1=>least_more b off N cap l p hp a (ZgV b off N cap l p hp a)
end Go.Proofs.YtabdnhkdoeibnaaGreatDoor
namespace Go.Proofs.YtabdnhkdoeibnaaGreatDoor
open Go.RowKit
theorem score_ok (b off N cap:Nat) (l:List (Int×Int)) (p:Int) (hp:Zf (N:Int) p l) (D:Nat) (hD:D≤2) (i s:Nat) (hi:i≤N) (hs:s<4294967296) (m:Int) (hm0:0≤m) (hm1:m≤1048576) (w:World) (hS:Segs w.heap.size w (.slice (some ⟨b,off,none⟩) N cap) (Za1 N l)) :
  Calls Tryz.prog 149 #[.slice (some ⟨b,off,none⟩) N cap,.agg #[.int .i64 (i:Int),.int .u32 (s:Int),.int .i64 m],.int .i64 ((D+1:Nat):Int)] w fun e W'=>e=.returned (.int .i64 (lst stB (coB N l) N D (s:Int) i m))∧Below w.heap.size w W':=by
 have hN2:N<65:=by have:=hp.1.2.1; omega
 have HCP:=Zid stB (coB N l) N D (s:Int) i m hi;have hbd:=ZhE N l hp (min D (N-i)) (s:Int) i m hm0;have b1:Below w.heap.size w (w.alloc (.cells #[.int .i64 (i:Int),.int .u32 (s:Int),.int .i64 m] 144)):=(Below.refl w.heap.size w).alloc (Nat.le_refl _) _;have HL:=ZgV b off N cap l p hp (min D (N-i)) i s m 9223372036854775807 hs hm0 (by omega) (by omega) _ (hS.next b1);rw [← HCP] at HL hbd;have e1:min (lst stB (coB N l) N D (s:Int) i m) 9223372036854775807=lst stB (coB N l) N D (s:Int) i m:=by omega
 rw [e1] at HL;obtain ⟨V,hV⟩:∃ V,lst stB (coB N l) N D (s:Int) i m=V:=⟨_,rfl⟩;rw [hV] at HL ⊢;obtain ⟨D1,hD1⟩:∃ D1,D+1=D1:=⟨_,rfl⟩;rw [hD1];have e2:min ((i:Int)+(D1:Int)-1) (N:Int)=((i+min D (N-i):Nat):Int):=by omega
 obtain ⟨E,hE⟩:∃ E,i+min D (N-i)=E:=⟨_,rfl⟩;rw [hE] at HL e2;have hD3:D1≤3:=by omega
 clear HCP hbd e1 hV hD1 hE hS hp;go_enter Tryz.func149,Tryz.ntmps149;go_wp2_with fail;refine HL.mono ?_;rintro e w2 ⟨rfl,b2⟩;go_wp2;go_ret;exact ⟨rfl,b1.trans (b2.mono b1.size)⟩
theorem growInts_new (k:Nat) (h0:0<k) (hk:k≤4294967296) (w:World) :
  Calls Tryz.prog 153 #[.slice none 0 0,.int .i64 (k:Int)] w fun e W'=>∃ r,e=.returned r∧W'.ownsRow w.heap.size 3 1 r 0 []∧Below w.heap.size w W':=by
 obtain ⟨i0,hi,hz0,hz1,hz2⟩:=info_parts Zf9;have hold:(Builtin.firstCells i0.size 0 (.slice none 0 0)).run Tryz.prog w.drew=.ok ([]:List Value).toArray w.drew:=Go.run_firstCells_none w.drew i0.size 0 0 0;have hrz:=Lib.run_append_grow_zeros w 74 3 74 3 i0 (.int .i64 0) .i64 .i64 Tryz.underlying74 Tryz.underlying3 hi hz0 none 0 0 [] hold k h0 (by rw [hz1]; decide) (by omega) (by omega) (by rw [hz2]; omega) (growslice_fits (by omega) (by rw [hz2]; omega));have hGm:=grownCap_le_maxLen w (0+k) 0 3 (by unfold maxLen; omega);have hGn:0+k≤grownCap w (0+k) 0 3:=grownCap_ge w _ _ _;obtain ⟨G,hG⟩:∃ G,grownCap w (0+k) 0 3=G:=⟨_,rfl⟩;rw [hG] at hrz hGm hGn;obtain ⟨cur,hcur⟩:∃ cur,(([]:List Value).toArray++Builtin.zeroCells (Value.int .i64 0).cells k++Builtin.zeroCells (Value.int .i64 0).cells (G-(0+k)))=cur:=⟨_,rfl⟩
 have hcs:cur.size=G * 1:=by
  rw [← hcur];simp only [Array.size_append,List.size_toArray,size_zeroCells,List.length_nil];have:(Value.int .i64 0).cells.size=1:=rfl;rw [this];omega
 rw [hcur] at hrz;have o1:(w.drew.alloc (.cells cur 3)).ownsRow w.heap.size 3 1 (.slice (some ⟨w.drew.heap.size,0,none⟩) 0 G) 0 []:=World.ownsRow_made w.drew cur G (Nat.le_refl _) hGm hcs;have b1:=(Below.refl w.heap.size w).drew.alloc (Nat.le_refl _) (.cells cur 3);have hG2:G≤9223372036854775807:=by unfold maxLen at hGm; omega
 have e0:0+k=k:=by omega
 rw [e0] at hrz;clear hcur hG hGm hGn hold hcs;go_enter Tryz.func153,Tryz.ntmps153;go_wp2_with (at_builtin; refine Lib.wpList_append_run _ rfl _ _ _ _ rfl _ _ rfl rfl _ _ hrz ?_)
 all_goals (go_ret; exact ⟨_,rfl,o1,b1⟩)
theorem concatInts_ok (g:Nat) (a1 a2:Option Addr) (c1 c2:Nat) (l1 l2:List Int) (p1:l1.length≤1048576) (p2:l2.length≤1048576) (h0:0<l1.length+l2.length) (w:World)
  (k1:w.cell? ⟨g,0,none⟩=some (.slice a1 l1.length c1)) (k2:w.cell? ⟨g,1,none⟩=some (.slice a2 l2.length c2))
  (h1:Zb .i64 w.heap.size w (.slice a1 l1.length c1) l1) (h2:Zb .i64 w.heap.size w (.slice a2 l2.length c2) l2) :
  Calls Tryz.prog 148 #[.slice (some ⟨g,0,none⟩) 2 2] w fun e W'=>∃ r,e=.returned r∧W'.ownsRow w.heap.size 3 1 r (l1.length+l2.length) ((l1++l2).map (Value.int .i64))∧Below w.heap.size w W':=by
 have hg:g<w.heap.size:=Zgb k1;have H1:Hid (Zb .i64 w.heap.size w (.slice a1 l1.length c1) l1):=h1;have H2:Hid (Zb .i64 w.heap.size w (.slice a2 l2.length c2) l2):=h2;obtain ⟨n1,e1⟩:∃ n,l1.length=n:=⟨_,rfl⟩;obtain ⟨n2,e2⟩:∃ n,l2.length=n:=⟨_,rfl⟩;rw [e1] at H1 p1 h0 k1 ⊢;rw [e2] at H2 p2 h0 k2 ⊢;have E1:Hid (l1.length=n1):=e1;have E2:Hid (l2.length=n2):=e2;clear e1 e2 h1 h2;go_enter Tryz.func148,Tryz.ntmps148;go_wp2;go_loop [3,11] (fun s i=>(s=.int .i64 0∧i=.int .i64 0)∨(s=.int .i64 n1∧i=.int .i64 1)∨(s=.int .i64 ((n1+n2:Nat):Int)∧i=.int .i64 2)) (fun _ i=>2-(intOf i).toNat)
 case atStart=>exact .inl ⟨rfl,rfl⟩
 case round =>
  rcases hrel with ⟨rfl,rfl⟩ | ⟨rfl,rfl⟩ | ⟨rfl,rfl⟩
  ·go_wp2;go_round
   case rel=>exact .inr (.inl ⟨by go_num,by go_num⟩)
   case measure=>simp [intOf]
  ·go_wp2;go_round
   case rel=>exact .inr (.inr ⟨by go_num,by go_num⟩)
   case measure=>simp [intOf]
  ·obtain ⟨m,hm⟩:∃ m,n1+n2=m:=⟨_,rfl⟩;have HG:=growInts_new m (by omega) (by omega) w;rw [hm] at h0 ⊢;go_wp2_with fail;refine HG.mono ?_;rintro e w1 ⟨r,rfl,o1,b1⟩;have hs1:=b1.size;have q1:=(b1.cell (p:=⟨g,0,none⟩) hg).trans k1;have q2:=(b1.cell (p:=⟨g,1,none⟩) hg).trans k2;clear HG k1 k2;go_wp2;go_loopw [6,27] (fun v i wr=>((i=.int .i64 0∧wr.ownsRow w.heap.size 3 1 v 0 (([]:List Int).map (Value.int .i64)))∨(i=.int .i64 1∧wr.ownsRow w.heap.size 3 1 v n1 (l1.map (Value.int .i64)))∨(i=.int .i64 2∧wr.ownsRow w.heap.size 3 1 v (n1+n2) ((l1++l2).map (Value.int .i64))))∧Below w.heap.size w wr) (fun _ i _=>2-(intOf i).toNat)
   case atStart=>exact ⟨.inl ⟨rfl,o1⟩,b1⟩
   case round =>
    obtain ⟨hc,hbw⟩:=hrel;have r1:=(hbw.cell (p:=⟨g,0,none⟩) hg).trans ((b1.cell (p:=⟨g,0,none⟩) hg).symm.trans q1);have r2:=(hbw.cell (p:=⟨g,1,none⟩) hg).trans ((b1.cell (p:=⟨g,1,none⟩) hg).symm.trans q2);clear q1 q2 o1;rcases hc with ⟨rfl,ho⟩ | ⟨rfl,ho⟩ | ⟨rfl,ho⟩
    ·obtain ⟨v3,w3,hr3,ho3,hg3⟩:=ZbL _ (.slice a1 n1 c1) 0 w.heap.size _ [] l1 74 wr ho (H1.out.below hbw) hbw.size (by omega) (by rw [E1.out]; omega);rw [E1.out,List.nil_append,Nat.zero_add] at ho3;have b3:=hbw.trans ((Below.refl w.heap.size _).grown hg3 hbw.size (fun q e=>(ho.lt q e).1));have HR3:Hid _:=hr3;clear hr3 ho hg3;go_wp2_with (at_builtin; refine Zc rfl _ _ 74 rfl _ _ rfl rfl _ _ HR3.out ?_);exact ⟨⟨.inr (.inl ⟨by go_num,ho3⟩),b3⟩,by simp [intOf]⟩
    ·obtain ⟨v3,w3,hr3,ho3,hg3⟩:=ZbL _ (.slice a2 n2 c2) n1 w.heap.size _ l1 l2 74 wr ho (H2.out.below hbw) hbw.size (by omega) (by rw [E2.out]; omega);rw [E2.out] at ho3;have b3:=hbw.trans ((Below.refl w.heap.size _).grown hg3 hbw.size (fun q e=>(ho.lt q e).1));have HR3:Hid _:=hr3;clear hr3 ho hg3;go_wp2_with (at_builtin; refine Zc rfl _ _ 74 rfl _ _ rfl rfl _ _ HR3.out ?_);exact ⟨⟨.inr (.inr ⟨by go_num,ho3⟩),b3⟩,by simp [intOf]⟩
    ·go_wp2;go_ret;rw [← hm];exact ⟨_,rfl,ho,hbw⟩
end Go.Proofs.YtabdnhkdoeibnaaGreatDoor
