/-
  What beam's inner functions answer: isDepth, root, child.
-/
import Derived.Test.YtabdnhkdoeibnaaGreatDoorM20
import Derived.Test.YtabdnhkdoeibnaaGreatDoorM38
import Derived.Test.YtabdnhkdoeibnaaGreatDoorM39
set_option maxRecDepth 100000
set_option maxHeartbeats 4000000
namespace Go.Proofs.YtabdnhkdoeibnaaGreatDoor
open Go.RowKit
theorem isDepth_yes (d:Int) (h1:1≤d) (h3:d≤3) (w:World):Calls Tryz.prog 106 #[.int .i64 d] w fun e w'=>e=.returned (.bool true)∧w=w':=by
 have d1:decide (1≤d)=true:=decide_eq_true h1;have d3:decide (d≤3)=true:=decide_eq_true h3;clear h1 h3;go_enter Tryz.func106,Tryz.ntmps106;go_wp2;go_ret;exact ⟨rfl,rfl⟩
theorem root_any (w:World):Calls Tryz.prog 107 #[] w fun e w'=>e=.returned (.agg #[.int .i64 0,.int .u32 (beginN:Int),.int .i64 0])∧Below w.heap.size w w':=by
 have HB:=Begin_any (w.alloc (.cells #[.int .i64 0,.int .u32 0,.int .i64 0] 144));have b1:Below w.heap.size w (w.alloc (.cells #[.int .i64 0,.int .u32 0,.int .i64 0] 144)):=(Below.refl w.heap.size w).alloc (Nat.le_refl _) _;have x1:=Box.new w 144 #[.int .i64 0,.int .u32 0,.int .i64 0];go_enter Tryz.func107,Tryz.ntmps107;go_wp2_with fail;refine HB.mono ?_;rintro e w2 ⟨rfl,rfl⟩;clear HB;obtain ⟨W1,hW1⟩:∃ W,w.alloc (.cells #[.int .i64 0,.int .u32 0,.int .i64 0] 144)=W:=⟨_,rfl⟩;rw [hW1] at b1 x1 ⊢;clear hW1;obtain ⟨k0,k1,k2⟩:=x1.c3;obtain ⟨f0,f1,f2⟩:=x1.f3;go_wp2;refine bodyPost_ret (v:=.agg #[.int .i64 0,.int .u32 (beginN:Int),.int .i64 0]) (by simp [results,Tryz.results107,go_sem,k0,k1,k2]) rfl ⟨rfl,?_⟩;exact Zx b1 (Nat.le_refl _) _ _ _
theorem child_ok (b off N cap:Nat) (l:List (Int×Int)) (p:Int) (hp:Zf (N:Int) p l) (i s k:Nat) (hi:i<N) (hs:s<4294967296) (hk:k<16) (m:Int) (hm0:0≤m) (hm1:m≤1099511627776) (w:World)
  (hS:Segs w.heap.size w (.slice (some ⟨b,off,none⟩) N cap) (Za1 N l)) :
  Calls Tryz.prog 152 #[.slice (some ⟨b,off,none⟩) N cap,.agg #[.int .i64 (i:Int),.int .u32 (s:Int),.int .i64 m],.int .i64 (k:Int)] w fun e W'=>e=.returned (.tuple #[.agg #[.int .i64 ((i+1:Nat):Int),.int .u32 ((stepN s k:Nat):Int),.int .i64 (m+((costN (stepN s k) (ofL N l i):Nat):Int))],.int .i64 0])∧Below w.heap.size w W':=by
 have hN2:N<65:=by have:=hp.1.2.1; omega
 have hst:=ZbF s k;have hcb:=ZbG hp i (stepN s k);have hlen:=ofL_16 hp hi;have hok:=ZhD hp i;have hget:=Zco (l:=l) hi;have HST:=Zia s k hs hk;obtain ⟨t,ht⟩:∃ t,stepN s k=t:=⟨_,rfl⟩;rw [ht] at hst hcb HST ⊢;have HCO:=fun la lc w' h=>CostOf_ok t hst la lc (ofL N l i) hlen hok w' h
 obtain ⟨cl,hcl⟩:∃ cl,costN t (ofL N l i)=cl:=⟨_,rfl⟩;rw [hcl] at hcb HCO ⊢;obtain ⟨I,hI⟩:∃ I,i+1=I:=⟨_,rfl⟩;rw [hI];have e1i:(i:Int)+1=(I:Int):=by omega
 have b1:Below w.heap.size w ((w.alloc (.cells #[.int .i64 (i:Int),.int .u32 (s:Int),.int .i64 m] 144)).alloc (.cells #[.int .i64 0,.int .u32 0,.int .i64 0] 144)):=((Below.refl w.heap.size w).alloc (Nat.le_refl _) _).alloc (by simp) _;have x1:Box ((w.alloc (.cells #[.int .i64 (i:Int),.int .u32 (s:Int),.int .i64 m] 144)).alloc (.cells #[.int .i64 0,.int .u32 0,.int .i64 0] 144)) w.heap.size 144 #[.int .i64 (i:Int),.int .u32 (s:Int),.int .i64 m]:=(Box.new w 144 _).alloc _
 have x2:Box ((w.alloc (.cells #[.int .i64 (i:Int),.int .u32 (s:Int),.int .i64 m] 144)).alloc (.cells #[.int .i64 0,.int .u32 0,.int .i64 0] 144)) (w.heap.size+1) 144 #[.int .i64 0,.int .u32 0,.int .i64 0]:=by
  have:=Box.new (w.alloc (.cells #[.int .i64 (i:Int),.int .u32 (s:Int),.int .i64 m] 144)) 144 #[.int .i64 0,.int .u32 0,.int .i64 0];simpa using this
 clear ht hcl hI hp;go_enter Tryz.func152,Tryz.ntmps152;go_wp2_with fail;refine (HST _).mono ?_;rintro e wz ⟨rfl,rfl⟩;obtain ⟨W1,hW1⟩:∃ W,(w.alloc (.cells #[.int .i64 (i:Int),.int .u32 (s:Int),.int .i64 m] 144)).alloc (.cells #[.int .i64 0,.int .u32 0,.int .i64 0] 144)=W:=⟨_,rfl⟩;rw [hW1] at b1 x1 x2 ⊢;clear hW1;have k0:=x1.cell 0 _ rfl;have k2:=x1.cell 2 _ rfl;have hS1:=hS.below b1;obtain ⟨la,lc,cS,hSy⟩:=Zhb hS1 hget;have HSY:Hid (Syms W1.heap.size W1 (.slice la (ofL N l i).length lc) (ofL N l i)):=hSy.mono b1.size;obtain ⟨ln,hln⟩:∃ ln,(ofL N l i).length=ln:=⟨_,rfl⟩;rw [hln] at cS HSY;have HC:=HCO la lc W1 (by rw [hln]; exact HSY.out);rw [hln] at HC;clear HCO hln hSy hS1 hS hget hlen hok;go_wp2_with fail;refine HC.mono ?_;rintro e w2 ⟨rfl,b2⟩;have y1:=x1.next b2;have y2:=x2.next b2;have q0:=y1.cell 0 _ rfl;have q2:=y1.cell 2 _ rfl;obtain ⟨z0,z1,z2⟩:=y2.c3;obtain ⟨f0,f1,f2⟩:=y2.f3;clear k0 k2 cS;go_wp2;refine bodyPost_ret (v:=.tuple #[.agg #[.int .i64 (I:Int),.int .u32 (t:Int),.int .i64 (m+(cl:Int))],.int .i64 0]) (by simp [results,Tryz.results152,go_sem,z0,z1,z2]) rfl ⟨rfl,?_⟩;exact Zx (b1.trans (b2.mono b1.size)) (by simp) _ _ _
theorem run_append_heard (v:Value) (n base:Nat) (vs:List Value) (x:Value) (hx:ZcZ x) (ty:TypeId) (w:World) (hown:w.ownsRow base 24 1 v n vs) (hb:base≤w.heap.size) (h1:n≤1048576) :
  ∃ v' w',(Builtin.append_ #[140,140] ty #[v,.slice (some ⟨w.heap.size,0,none⟩) 1 1]).run Tryz.prog (w.alloc (.cells #[x] 24))=.ok v' w'∧w'.ownsRow base 24 1 v' (n+1) (vs++[x])∧(w.alloc (.cells #[x] 24)).grownBy w' v.ownBlock:=by
 obtain ⟨i0,hi,hz0,hz1,hz2⟩:=info_parts Zgh;obtain ⟨a,m,c,rfl⟩:=hx;obtain ⟨v',w',hr,ho,hg,_⟩:=run_append_own (P:=Tryz.prog) (w.alloc (.cells #[.slice a m c] 24)) base 140 ty 24 i0 (.slice none 0 0) 1 24 Tryz.underlying140 hi hz0 hz1 hz2 rfl (by decide) v n _ (hown.alloc _) ⟨w.heap.size,0,none⟩ 1 1 [.slice a m c] rfl (World.news_of_block (World.alloc_heap_new _ _)) (by simp [Value.oneCell']) (by unfold maxLen; omega) (by omega) (by simp; omega);exact ⟨v',w',hr,ho,hg⟩
theorem bySegment_ok (N:Nat) (p:Int) (a:Option Addr) (cap:Nat) (l:List (Int×Int)) (hp:Zf (N:Int) p l) (w:World) (ha:Syms w.heap.size w (.slice a l.length cap) l) (hF:ZA w) :
  Calls Tryz.prog 105 #[.agg #[.int .i64 N,.int .i64 p,.slice a l.length cap]] w fun e W'=>∃ r,e=.returned (.tuple #[r,.int .i64 0])∧Segs W'.heap.size W' r (Za1 N l)∧Below w.heap.size w W':=by
 obtain ⟨i0,hi,hz0,hz1,hz2⟩:=info_parts Zgh;have hN1:1≤N:=by have:=hp.1.1; omega
 have hN2:N<65:=by have:=hp.1.2.1; omega
 have hll:l.length≤4294967296:=by have:=Zag hp; have:=hp.1.prod; omega
 have HP:Hid (Zf (N:Int) p l):=hp;have xB:=Box.new w 26 #[.int .i64 N,.int .i64 p,.slice a l.length cap];have b0:Below w.heap.size w (w.alloc (.cells #[.int .i64 N,.int .i64 p,.slice a l.length cap] 26)):=(Below.refl _ _).alloc (Nat.le_refl _) _;have HC:=Zas N p a cap l hll hp _ (ha.next b0);have HA:Hid (Syms w.heap.size w (.slice a l.length cap) l):=ha;have HF:Hid (ZA w):=hF;clear hp ha hF;go_enter Tryz.func105,Tryz.ntmps105;go_wp2_with fail;refine HC.mono ?_;rintro e w1 ⟨rfl,b1⟩;have x1:=xB.next b1;have bb1:=b0.trans (b1.mono b0.size);have hx1:=x1.lt;have c0:=x1.cell 0 _ rfl;clear HC xB b0 b1;go_wp2_with (at_make; refine wpList_make_own _ rfl _ _ 140 rfl w1.heap.size 24 i0 (.slice none 0 0) 1 Tryz.underlying140 hi hz0 hz1 .i64 .i64 _ N rfl rfl (by omega) (by rw [hz2]; omega) (by unfold maxLen; omega) (Nat.le_refl _) ?_; intro w2 hown2 hgrow2; have b2:Below w1.heap.size w1 w2:=(Below.refl _ w1).grown hgrow2 (Nat.le_refl _) (fun q e=>by cases e); have m0:=(b2.cell (p:=⟨w.heap.size,0,none⟩) hx1).trans c0);clear c0 m0;go_loopw [5,19] (fun s3 s4 wr=>∃ (k:Nat) (vs:List Value),k≤N∧s4=.int .i64 k∧wr.ownsRow w1.heap.size 24 1 s3 k vs∧(∀ (j:Nat) (q:Value),vs[j]? = some q→∃ m,wr.ownsRow w1.heap.size 87 2 q m (Za (ofL N l j)))∧Below w1.heap.size w1 wr) (fun _ i _=>N-(intOf i).toNat)
 case atStart=>exact ⟨0,[],Nat.zero_le _,rfl,hown2,fun j q h=>by simp at h,b2⟩
 case round =>
  obtain ⟨k,vs,hk,rfl,ho,hq,bw⟩:=hrel;have hsz:=bw.size;have xr:=x1.next bw;obtain ⟨c0,c1,c2⟩:=xr.c3;have bbw:=bb1.trans (bw.mono bb1.size);by_cases hlt:k<N
  ·have hvl:vs.length=k:=by have:=ho.1; omega
   have HC:=PileOf_in N p k hlt a cap l HP.out wr (HA.out.next bbw) (HF.out.next bbw);have HVL:Hid (vs.length=k):=hvl;clear hvl;go_wp2_with fail;refine HC.mono ?_;rintro e w3 ⟨r,rfl,o3,b3⟩;clear HC;have hsv:ZcZ r:=by obtain ⟨a2,c2,e2⟩:=(Zj o3).shape; exact ⟨_,_,_,e2⟩
   obtain ⟨a2,n2,c2',rfl⟩:=hsv;have ho3:=ZL ho b3 (Nat.le_refl _);obtain ⟨v4,w4,hr4,ho4,hg4⟩:=run_append_heard _ k w1.heap.size vs (.slice a2 n2 c2') ⟨_,_,_,rfl⟩ 140 w3 ho3 (Nat.le_trans hsz b3.size) (by omega);have b4:Below w1.heap.size w1 w4:=((bw.trans (b3.mono hsz)).alloc (Nat.le_trans hsz b3.size) _).grown hg4 (by have:=b3.size; simp only [World.size_alloc]; omega) (fun z e=>(ho3.lt z e).1)
   have HQ4:Hid (∀ (j:Nat) (q:Value),(vs++[.slice a2 n2 c2'])[j]? = some q→∃ m,w4.ownsRow w1.heap.size 87 2 q m (Za (ofL N l j))):=by
    intro j q hjq;by_cases hj:j<vs.length
    ·rw [List.getElem?_append_left hj] at hjq;obtain ⟨m,hm⟩:=hq j q hjq;have h1:=(ZL hm b3 (Nat.le_refl _)).alloc (.cells #[.slice a2 n2 c2'] 24);exact ⟨m,h1.kept hg4 (Zbs h1 (ho3.alloc _) (by decide))⟩
    ·rw [List.getElem?_append_right (by omega)] at hjq;have h0:j-vs.length=0:=by have:=(List.getElem?_eq_some_iff.1 hjq).1; simp at this; omega
     have ej:j=k:=by rw [← HVL.out]; omega
     rw [h0] at hjq;simp at hjq;subst hjq;have h1:=(Zaa o3 hsz).alloc (.cells #[.slice a2 n2 c2'] 24);rw [ej];exact ⟨_,h1.kept hg4 (Zbs h1 (ho3.alloc _) (by decide))⟩
   have HR:Hid _:=hr4;clear hr4 ho3 o3 b3 hg4 hq ho c0 c1 c2;go_wp2_with (at_builtin; refine Zc rfl _ _ 140 rfl _ _ rfl rfl _ _ HR.out ?_);exact ⟨⟨k+1,_,by omega,by go_num,ho4,HQ4.out,b4⟩,by simp [intOf]; omega⟩
  ·obtain rfl:k=N:=by omega
   go_wp2;go_ret2;refine ⟨_,rfl,ZeN ho (Zbu _ _) (by omega) (fun j q l' hjq hl'=>?_),bbw⟩;have hj:j<k:=by have:=(List.getElem?_eq_some_iff.1 hl').1; rwa [Zbu] at this
   rw [Zco hj] at hl'
   cases hl'
   obtain ⟨m,hm⟩:=hq j q hjq;exact Zj hm
end Go.Proofs.YtabdnhkdoeibnaaGreatDoor
namespace Go.Proofs.YtabdnhkdoeibnaaGreatDoor
open Go.RowKit Go.Shelf
attribute [local go_sem] Oper.semAt_some
def Zhj (N:Nat) (l:List (Int×Int)) (i s:Nat) (m:Int) (k:Nat):Value:=.agg #[.int .i64 ((i+1:Nat):Int),.int .u32 ((stepN s k:Nat):Int),.int .i64 (m+((costN (stepN s k) (ofL N l i):Nat):Int))]
def ZfR (N:Nat) (l:List (Int×Int)) (i s:Nat) (m:Int) (k:Nat):Array Value:=#[.int .i64 (k:Int),Zhj N l i s m k]
def KpB (n₀ Bh Bp:Nat) (A B:World):Prop:=Below n₀ A B∧B.heap[Bh]? = A.heap[Bh]?∧B.heap[Bp]? = A.heap[Bp]?
theorem KpB.refl (n₀ Bh Bp:Nat) (A:World):KpB n₀ Bh Bp A A:=⟨Below.refl _ _,rfl,rfl⟩
theorem KpB.trans {n₀ Bh Bp:Nat} {A B C:World} (h:KpB n₀ Bh Bp A B) (k:KpB n₀ Bh Bp B C):KpB n₀ Bh Bp A C:=⟨h.1.trans k.1,k.2.1.trans h.2.1,k.2.2.trans h.2.2⟩
theorem KpB.of_below {n₀ Bh Bp n₁:Nat} {A B:World} (h:Below n₁ A B) (h0:n₀≤n₁) (h1:Bh<n₁) (h2:Bp<n₁):KpB n₀ Bh Bp A B:=⟨h.mono h0,h.block _ h1,h.block _ h2⟩
theorem KpB.turn {n₀ Bh Bp:Nat} {w:World} (h0:n₀≤w.heap.size) (h1:Bh<w.heap.size) (h2:Bp<w.heap.size) (W:World) (l:Nat) (o o':Obj) (hl:w.heap.size≤l) (h:W.heap[l]? = some o) (hc:o.isCells=false) (hw:o.isWalk=false):KpB n₀ Bh Bp W (W.putObj l o') :=
 ⟨belowK_b h0 W l o o' hl h hc hw,World.putObj_heap_other (by omega),World.putObj_heap_other (by omega)⟩
theorem range_pre {k n:Nat} (h:k≤n):List.range k <+: List.range n:=by
 obtain ⟨d,rfl⟩:=Nat.exists_eq_add_of_le h;rw [List.range_add];exact List.prefix_append _ _
theorem Zea {k:Nat}:List.range (k+1)=List.range k++[k]:=List.range_succ
theorem children1_in (n:Nat) (hn:1≤n) (lo Bh Bp b off N cap:Nat) (l:List (Int×Int)) (p:Int) (hp:Zf (N:Int) p l) (i s:Nat) (hi:i<N) (hs:s<4294967296) (m:Int) (hm0:0≤m) (hm1:m≤1099511627776) (n₀:Nat) (J Jx:List Nat→World→Prop)
  (hJ:∀ pre A B,J pre A→Below A.heap.size A B→J pre B)
  (hY:∀ pre x W,J pre W→pre.length<16→YieldAt Fence.wide (n-1) Tryz.prog lo (ZfR N l i s m x) W fun e W' =>
   (e=.returned (.bool true)∧J (pre++[x]) W'∧KpB n₀ Bh Bp W W')∨(e=.returned (.bool false)∧Jx (pre++[x]) W'))
  (W:World) (hn₀:n₀≤W.heap.size) (hh:Box W Bh 140 #[.slice (some ⟨b,off,none⟩) N cap]) (hpt:Box W Bp 144 #[.int .i64 (i:Int),.int .u32 (s:Int),.int .i64 m]) (hS:Segs n₀ W (.slice (some ⟨b,off,none⟩) N cap) (Za1 N l)) (h0:J [] W) :
  CallsIn Fence.wide n Tryz.prog 151 #[.func (.yield lo) #[] #[],.pointer (some ⟨Bh,0,none⟩),.pointer (some ⟨Bp,0,none⟩)] W fun e W'=>(∃ v,e=.returned v) ∧
   ((∃ ys,ys=List.range 16∧J ys W')∨(∃ pre,pre <+: List.range 16∧Jx pre W')):=by
 have HP:Hid (Zf (N:Int) p l):=hp;have HS:Hid (Segs n₀ W (.slice (some ⟨b,off,none⟩) N cap) (Za1 N l)):=hS;have HJ:Hid (∀ pre A B,J pre A→Below A.heap.size A B→J pre B):=hJ;clear hp hS hJ;refine callsIn_of_wp Tryz.func151 rfl trivial ?_ rfl;simp only [Tryz.ntmps151,List.size_toArray,List.length_cons,List.length_nil,Nat.reduceAdd,Nat.reduceSub,Array.replicate_succ,Array.replicate_zero,List.push_toArray,List.append_toArray,List.nil_append,List.cons_append];gi_wp2;gi_loopw [7] (fun v wr=>∃ k:Nat,k≤16∧v=.int .i64 k∧J (List.range k) wr∧KpB n₀ Bh Bp W wr) (fun i _=>16-(intOf i).toNat)
 case atStart=>exact ⟨0,by omega,rfl,h0,KpB.refl _ _ _ _⟩
 case round =>
  obtain ⟨k,hk,rfl,hJs,bw⟩:=hrel;have hszw:=bw.1.size;have xh:Box wr Bh 140 #[.slice (some ⟨b,off,none⟩) N cap]:=bw.2.1.trans hh;have xp:Box wr Bp 144 #[.int .i64 (i:Int),.int .u32 (s:Int),.int .i64 m]:=bw.2.2.trans hpt;have hlh:=xh.lt;have hlp:=xp.lt;have ch:=xh.cell 0 _ rfl;obtain ⟨cp0,cp1,cp2⟩:=xp.c3;by_cases hlt:k<16
  ·have d16:decide ((k:Int)<16)=true:=decide_eq_true (by omega);have HCH:=(callsIn_wide (n:=n-1)).2 (child_ok b off N cap l p HP.out i s k hi hs hlt m hm0 hm1 wr ((HS.out.below bw.1).mono (by omega)));have f1:Fence.wide.fn 152:=trivial;have HYK:Hid (∀ W',J (List.range k) W'→YieldAt Fence.wide (n-1) Tryz.prog lo (ZfR N l i s m k) W' fun e W''=>(e=.returned (.bool true)∧J (List.range k++[k]) W''∧KpB n₀ Bh Bp W' W'')∨(e=.returned (.bool false)∧Jx (List.range k++[k]) W'')):=fun W' h=>hY _ _ W' h (by simp; omega)
   have hkE:ZfR N l i s m k=#[.int .i64 (k:Int),Zhj N l i s m k]:=rfl;rw [hkE] at HYK;have hkP:Zhj N l i s m k=.agg #[.int .i64 ((i+1:Nat):Int),.int .u32 ((stepN s k:Nat):Int),.int .i64 (m+((costN (stepN s k) (ofL N l i):Nat):Int))]:=rfl;rw [hkP] at HYK;obtain ⟨ct,hct⟩:∃ ct,costN (stepN s k) (ofL N l i)=ct:=⟨_,rfl⟩;rw [hct] at HCH HYK;obtain ⟨tt,htt⟩:∃ tt,stepN s k=tt:=⟨_,rfl⟩;rw [htt] at HCH HYK;obtain ⟨I,hI⟩:∃ I,i+1=I:=⟨_,rfl⟩;rw [hI] at HCH HYK;have HLT:Hid (k<16):=hlt;clear hkE hkP hct htt hI hlt;gi_wp2_with (gi_at_call 152; refine HCH.mono ?_; rintro e w2 ⟨rfl,b2⟩);have bA:Below wr.heap.size wr (w2.alloc (.cells #[.int .i64 (I:Int),.int .u32 (tt:Int),.int .i64 (m+(ct:Int))] 144)):=b2.alloc b2.size _;obtain ⟨fn,tmps,assign,body,hy,hR⟩:=HYK.out _ (HJ.out _ _ _ hJs bA);have HBA:Hid (KpB n₀ Bh Bp W (w2.alloc (.cells #[.int .i64 (I:Int),.int .u32 (tt:Int),.int .i64 (m+(ct:Int))] 144))):=bw.trans (KpB.of_below bA (by omega) hlh hlp);clear HYK HCH hJs bA;gi_wp2;rw [hy];gi_wp2;refine hR.mono ?_;rintro e W3 (⟨rfl,hJ3,hk3⟩ | ⟨rfl,hJx3⟩)
   ·gi_wp2;go_roundw
    case rel=>exact ⟨k+1,HLT.out,by go_num,by rw [Zea]; exact hJ3,HBA.out.trans hk3⟩
    case measure=>have:=HLT.out; simp [intOf]; omega
   ·gi_wp2;refine bodyPost_ret (results_none rfl _ _ _) rfl ?_;exact ⟨⟨_,rfl⟩,.inr ⟨List.range k++[k],by rw [← Zea]; exact range_pre HLT.out,hJx3⟩⟩
  ·obtain rfl:k=16:=by omega
   gi_wp2;go_end0;exact ⟨⟨_,rfl⟩,.inl ⟨_,rfl,hJs⟩⟩
theorem Ze8 (n:Nat) (v:Value) (hv:ZcZ v) (i s:Nat) (m:Int) (w:World):CallsIn Fence.wide n Tryz.prog 147 #[v,.agg #[.int .i64 (i:Int),.int .u32 (s:Int),.int .i64 m]] w fun e w'=>e=.returned (.func (.func 151) #[] #[.pointer (some ⟨w.heap.size,0,none⟩),.pointer (some ⟨w.heap.size+1,0,none⟩)])∧w'=(w.alloc (.cells #[v] 140)).alloc (.cells #[.int .i64 (i:Int),.int .u32 (s:Int),.int .i64 m] 144):=by
 obtain ⟨a,k,c,rfl⟩:=hv;refine callsIn_of_wp Tryz.func147 rfl trivial ?_ rfl;simp only [Tryz.ntmps147,List.size_toArray,List.length_cons,List.length_nil,Nat.reduceAdd,Nat.reduceSub,Array.replicate_succ,Array.replicate_zero,List.push_toArray,List.append_toArray,List.nil_append,List.cons_append];gi_wp2;go_ret;exact ⟨rfl,rfl⟩
theorem abides_below {α:Type} {B:Nat} {J:List α→World→Prop} (h:AbidesFrom B J):∀ pre (A C:World),J pre A→Below A.heap.size A C→J pre C:=fun pre A C hj hb=>h pre A C none hj ⟨hb.os,hb.tape,hb.output,hb.size,fun k hk _=>hb.block k hk⟩ (fun r e=>by cases e)
theorem Zc1 (n:Nat) (hn:1≤n) (Bh Bp b off N cap:Nat) (l:List (Int×Int)) (p:Int) (hp:Zf (N:Int) p l) (i s:Nat) (hi:i<N) (hs:s<4294967296) (m:Int) (hm0:0≤m) (hm1:m≤1099511627776) (n₀:Nat) (w:World) (hn₀:n₀≤w.heap.size) (hh:Box w Bh 140 #[.slice (some ⟨b,off,none⟩) N cap]) (hpt:Box w Bp 144 #[.int .i64 (i:Int),.int .u32 (s:Int),.int .i64 m]) (hS:Segs n₀ w (.slice (some ⟨b,off,none⟩) N cap) (Za1 N l)) :
  SeqStopsK Fence.wide n Tryz.prog 151 #[.pointer (some ⟨Bh,0,none⟩),.pointer (some ⟨Bp,0,none⟩)] (ZfR N l i s m) (KpB n₀ Bh Bp) (fun ys=>ys=List.range 16) (fun pre=>pre <+: List.range 16) 16 w:=fun lo J Jx W hW hJ _ hY h0 =>
 children1_in n hn lo Bh Bp b off N cap l p hp i s hi hs m hm0 hm1 n₀ J Jx (abides_below hJ) hY W (Nat.le_trans hn₀ hW.size) (hh.next hW) (hpt.next hW) (hS.below (hW.mono hn₀)) h0
end Go.Proofs.YtabdnhkdoeibnaaGreatDoor
