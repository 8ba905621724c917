/-
  Lists of lists of symbols in memory. No function of the program is spoken of.
-/
import Derived.Test.YtkigbanldiialaaGreatDoorM19
import Derived.Test.YtkigbanldiialaaGreatDoorM24
import Derived.Test.YtkigbanldiialaaGreatDoorM26
import Derived.Test.YtkigbanldiialaaGreatDoorM27
import Derived.Test.YtkigbanldiialaaGreatDoorM28
set_option maxRecDepth 100000
set_option maxHeartbeats 4000000
namespace Go.Proofs.YtkigbanldiialaaGreatDoor
open Go.RowKit
def Segs (n₀:Nat) (W:World) (v:Value) (S:List (List (Int×Int))):Prop:=∃ (b off cap:Nat) (vs:List Value),v=.slice (some ⟨b,off,none⟩) S.length cap∧b<n₀∧vs.length=S.length∧(∀ (j:Nat) (q:Value),vs[j]? = some q→W.cell? ⟨b,off+j,none⟩=some q)∧∀ (j:Nat) (q:Value) (l:List (Int×Int)),vs[j]? = some q→S[j]? = some l→Syms n₀ W q l
theorem Segs.below {n₀:Nat} {W W':World} {v:Value} {S:List (List (Int×Int))} (h:Segs n₀ W v S) (hb:Below n₀ W W'):Segs n₀ W' v S:=by
 obtain ⟨b,off,cap,vs,h1,h2,h3,h4,h5⟩:=h;exact ⟨b,off,cap,vs,h1,h2,h3,fun j q hq=>(hb.cell (p:=⟨b,off+j,none⟩) h2).trans (h4 j q hq),fun j q l hq hl=>(h5 j q l hq hl).below hb⟩
theorem Segs.mono {n₀ n₁:Nat} {W:World} {v:Value} {S:List (List (Int×Int))} (h:Segs n₀ W v S) (hn:n₀≤n₁):Segs n₁ W v S:=by
 obtain ⟨b,off,cap,vs,h1,h2,h3,h4,h5⟩:=h;exact ⟨b,off,cap,vs,h1,by omega,h3,h4,fun j q l hq hl=>(h5 j q l hq hl).mono hn⟩
theorem Segs.next {W W':World} {v:Value} {S:List (List (Int×Int))} (h:Segs W.heap.size W v S) (hb:Below W.heap.size W W'):Segs W'.heap.size W' v S:=(h.below hb).mono hb.size
theorem Segs.shape {n₀:Nat} {W:World} {v:Value} {S:List (List (Int×Int))} (h:Segs n₀ W v S):∃ b off cap,v=.slice (some ⟨b,off,none⟩) S.length cap∧b<n₀:=by
 obtain ⟨b,off,cap,vs,h1,h2,_⟩:=h;exact ⟨b,off,cap,h1,h2⟩
theorem segs_at {n₀ b off n cap:Nat} {W:World} {S:List (List (Int×Int))} (h:Segs n₀ W (.slice (some ⟨b,off,none⟩) n cap) S) {j:Nat} {l:List (Int×Int)} (hl:S[j]? = some l):∃ a c,W.cell? ⟨b,off+j,none⟩=some (.slice a l.length c)∧Syms n₀ W (.slice a l.length c) l:=by
 obtain ⟨b',off',cap',vs,h1,h2,h3,h4,h5⟩:=h
 cases h1
 have hj:j<vs.length:=by rw [h3]; exact (List.getElem?_eq_some_iff.1 hl).1
 obtain ⟨q,hq⟩:∃ q,vs[j]? = some q:=⟨vs[j],by simp⟩;have hs:=h5 j q l hq hl;obtain ⟨a,c,e⟩:=hs.shape;have hc:=h4 j q hq;rw [e] at hc hs;exact ⟨a,c,hc,hs⟩
theorem ZfW:(Tryz.prog.info? 35).map (fun i=>(i.zero,i.size,i.bytes))=some (some (.slice none 0 0),1,24):=by kernel_rfl
theorem segs_of_row {W:World} {base k:Nat} {v:Value} {vs:List Value} {S:List (List (Int×Int))} (h:W.ownsRow base 35 1 v k vs) (hk:S.length=k) (h0:0<k) (hS:∀ (j:Nat) (q:Value) (l:List (Int×Int)),vs[j]? = some q→S[j]? = some l→Syms W.heap.size W q l):Segs W.heap.size W v S:=by
 have hl:vs.length=k:=by have:=h.1; omega
 rcases h.2 with ⟨rfl,rfl⟩ | ⟨g,cap,cur,rfl,hb,hg,hkc,_,hs,ht⟩
 ·omega
 ·refine ⟨g,0,cap,vs,by rw [hk],(Array.getElem?_eq_some_iff.1 hg).1,by rw [hl,hk],fun j q hq=>?_,hS⟩;have:=h.cells (g:=g) rfl j q hq;rw [Addr.add_lit] at this;exact this
def Zbd (N:Nat) (l:List (Int×Int)):List (List (Int×Int)):=(List.range N).map (ofL N l)
theorem ZdN (N:Nat) (l:List (Int×Int)):(Zbd N l).length=N:=by simp [Zbd]
theorem Zfh {N:Nat} {l:List (Int×Int)} {j:Nat} (h:j<N):(Zbd N l)[j]? = some (ofL N l j):=by
 unfold Zbd;rw [List.getElem?_map,List.getElem?_range h];rfl
theorem Zgs (N:Nat) (l:List (Int×Int)) {p:Int} (h:Zc (N:Int) p l):∀ (a:Nat) (s:Int) (i:Nat) (m:Int),0≤m→0≤lst stB (coB N l) N a s i m∧lst stB (coB N l) N a s i m≤m+8192 * (a:Int)
 | 0,s,i,m,hm=>by simp only [lst]; exact ⟨hm,by omega⟩
 | a+1,s,i,m,hm=>by
  simp only [lst]
  split
  ·exact ⟨hm,by omega⟩
  ·have each:∀ k:Int,0≤lst stB (coB N l) N a (stB s k) (i+1) (m+coB N l i (stB s k))∧lst stB (coB N l) N a (stB s k) (i+1) (m+coB N l i (stB s k))≤m+8192 * ((a+1:Nat):Int):=fun k=>by
    have h1:=ZaI N l i (stB s k)
    have h2:coB N l i (stB s k)≤8192:=by
     unfold coB;have:=Zch h i (stB s k).toNat;omega
    have ih:=Zgs N l h a (stB s k) (i+1) (m+coB N l i (stB s k)) (by omega);omega
   obtain ⟨hm1,_⟩:=Zc5 (l:=Za7.map fun k=>lst stB (coB N l) N a (stB s k) (i+1) (m+coB N l i (stB s k))) (fun x hx=>by obtain ⟨k,_,rfl⟩:=List.mem_map.1 hx; exact (each k).1) (by simp [ZeD]);obtain ⟨k,_,e⟩:=List.mem_map.1 hm1;rw [← e];exact each k
def staB (N:Nat) (l:List (Int×Int)) (P:List Int):Int:=sta stB (coB N l) (beginN:Int) P
def metB (N:Nat) (l:List (Int×Int)) (P:List Int):Int:=met stB (coB N l) (beginN:Int) P
theorem staB_nat (N:Nat) (l:List (Int×Int)) (P:List Int):∃ s:Nat,s<4294967296∧staB N l P=(s:Int):=by
 unfold staB;rcases List.eq_nil_or_concat P with rfl | ⟨Q,k,rfl⟩
 ·exact ⟨beginN,by decide,rfl⟩
 ·rw [List.concat_eq_append,ZaM];exact ⟨_,Zcc _ _,rfl⟩
theorem Zgt {N:Nat} {p:Int} {l:List (Int×Int)} (h:Zc (N:Int) p l):∀ (n:Nat) (P:List Int),P.length=n→metB N l P≤8192 * (n:Int)
 | 0,P,hP=>by
  rw [List.length_eq_zero_iff.1 hP]
  unfold metB
  rw [Zga]
  omega
 | n+1,P,hP=>by
  rcases List.eq_nil_or_concat P with rfl | ⟨Q,k,rfl⟩
  ·simp at hP
  ·rw [List.concat_eq_append] at hP ⊢
   have hQ:Q.length=n:=by simpa using hP
   have ih:=Zgt h n Q hQ
   unfold metB at ih ⊢
   rw [Za6]
   have:=coB_le h Q.length (stB (sta stB (coB N l) (beginN:Int) Q) k)
   omega
theorem metB_pos (N:Nat) (l:List (Int×Int)) (P:List Int):0≤metB N l P:=ZbS stB (coB N l) _ (ZaI N l) P
theorem isDepth_yes (d:Int) (h1:1≤d) (h3:d≤3) (w:World):Calls Tryz.prog 86 #[.int .i64 d] w fun e w'=>e=.returned (.bool true)∧w=w':=by
 have d1:decide (1≤d)=true:=decide_eq_true h1;have d3:decide (d≤3)=true:=decide_eq_true h3;clear h1 h3;go_enter Tryz.func86,Tryz.ntmps86;go_wp2;go_ret;exact ⟨rfl,rfl⟩
theorem root_any (w:World):Calls Tryz.prog 87 #[] w fun e w'=>e=.returned (.agg #[.int .i64 0,.int .u32 (beginN:Int),.int .i64 0])∧Below w.heap.size w w':=by
 have HB:=Begin_any (w.alloc (.cells #[.int .i64 0,.int .u32 0,.int .i64 0] 140));have b1:Below w.heap.size w (w.alloc (.cells #[.int .i64 0,.int .u32 0,.int .i64 0] 140)):=(Below.refl w.heap.size w).alloc (Nat.le_refl _) _;have x1:=Box.new w 140 #[.int .i64 0,.int .u32 0,.int .i64 0];go_enter Tryz.func87,Tryz.ntmps87;go_wp2_with fail;refine HB.mono ?_;rintro e w2 ⟨rfl,rfl⟩;clear HB;obtain ⟨W1,hW1⟩:∃ W,w.alloc (.cells #[.int .i64 0,.int .u32 0,.int .i64 0] 140)=W:=⟨_,rfl⟩;rw [hW1] at b1 x1 ⊢;clear hW1;obtain ⟨k0,k1,k2⟩:=x1.c3;obtain ⟨f0,f1,f2⟩:=x1.f3;go_wp2;refine bodyPost_ret (v:=.agg #[.int .i64 0,.int .u32 (beginN:Int),.int .i64 0]) (by simp [results,Tryz.results87,go_sem,k0,k1,k2]) rfl ⟨rfl,?_⟩;exact Zx b1 (Nat.le_refl _) _ _ _
theorem child_ok (b off N cap:Nat) (l:List (Int×Int)) (p:Int) (hp:Zc (N:Int) p l) (i s k:Nat) (hi:i<N) (hs:s<4294967296) (hk:k<16) (m:Int) (hm0:0≤m) (hm1:m≤1099511627776) (w:World)
  (hS:Segs w.heap.size w (.slice (some ⟨b,off,none⟩) N cap) (Zbd N l)) :
  Calls Tryz.prog 114 #[.slice (some ⟨b,off,none⟩) N cap,.agg #[.int .i64 (i:Int),.int .u32 (s:Int),.int .i64 m],.int .i64 (k:Int)] w fun e W'=>e=.returned (.tuple #[.agg #[.int .i64 ((i+1:Nat):Int),.int .u32 ((stepN s k:Nat):Int),.int .i64 (m+((costN (stepN s k) (ofL N l i):Nat):Int))],.int .i64 0])∧Below w.heap.size w W':=by
 have hN2:N<65:=by have:=hp.1.2.1; omega
 have hst:=Zcc s k;have hcb:=Zch hp i (stepN s k);have hlen:=ofL_16 hp hi;have hok:=ZgG hp i;have hget:=Zfh (l:=l) hi;have HST:=Zgq s k hs hk;obtain ⟨t,ht⟩:∃ t,stepN s k=t:=⟨_,rfl⟩;rw [ht] at hst hcb HST ⊢;have HCO:=fun la lc w' h=>CostOf_ok t hst la lc (ofL N l i) hlen hok w' h
 obtain ⟨cl,hcl⟩:∃ cl,costN t (ofL N l i)=cl:=⟨_,rfl⟩;rw [hcl] at hcb HCO ⊢;obtain ⟨I,hI⟩:∃ I,i+1=I:=⟨_,rfl⟩;rw [hI];have e1i:(i:Int)+1=(I:Int):=by omega
 have b1:Below w.heap.size w ((w.alloc (.cells #[.int .i64 (i:Int),.int .u32 (s:Int),.int .i64 m] 140)).alloc (.cells #[.int .i64 0,.int .u32 0,.int .i64 0] 140)):=((Below.refl w.heap.size w).alloc (Nat.le_refl _) _).alloc (by simp) _;have x1:Box ((w.alloc (.cells #[.int .i64 (i:Int),.int .u32 (s:Int),.int .i64 m] 140)).alloc (.cells #[.int .i64 0,.int .u32 0,.int .i64 0] 140)) w.heap.size 140 #[.int .i64 (i:Int),.int .u32 (s:Int),.int .i64 m]:=(Box.new w 140 _).alloc _
 have x2:Box ((w.alloc (.cells #[.int .i64 (i:Int),.int .u32 (s:Int),.int .i64 m] 140)).alloc (.cells #[.int .i64 0,.int .u32 0,.int .i64 0] 140)) (w.heap.size+1) 140 #[.int .i64 0,.int .u32 0,.int .i64 0]:=by
  have:=Box.new (w.alloc (.cells #[.int .i64 (i:Int),.int .u32 (s:Int),.int .i64 m] 140)) 140 #[.int .i64 0,.int .u32 0,.int .i64 0];simpa using this
 clear ht hcl hI hp;go_enter Tryz.func114,Tryz.ntmps114;go_wp2_with fail;refine (HST _).mono ?_;rintro e wz ⟨rfl,rfl⟩;obtain ⟨W1,hW1⟩:∃ W,(w.alloc (.cells #[.int .i64 (i:Int),.int .u32 (s:Int),.int .i64 m] 140)).alloc (.cells #[.int .i64 0,.int .u32 0,.int .i64 0] 140)=W:=⟨_,rfl⟩;rw [hW1] at b1 x1 x2 ⊢;clear hW1;have k0:=x1.cell 0 _ rfl;have k2:=x1.cell 2 _ rfl;have hS1:=hS.below b1;obtain ⟨la,lc,cS,hSy⟩:=segs_at hS1 hget;have HSY:Hid (Syms W1.heap.size W1 (.slice la (ofL N l i).length lc) (ofL N l i)):=hSy.mono b1.size;obtain ⟨ln,hln⟩:∃ ln,(ofL N l i).length=ln:=⟨_,rfl⟩;rw [hln] at cS HSY;have HC:=HCO la lc W1 (by rw [hln]; exact HSY.out);rw [hln] at HC;clear HCO hln hSy hS1 hS hget hlen hok;go_wp2_with fail;refine HC.mono ?_;rintro e w2 ⟨rfl,b2⟩;have y1:=x1.next b2;have y2:=x2.next b2;have q0:=y1.cell 0 _ rfl;have q2:=y1.cell 2 _ rfl;obtain ⟨z0,z1,z2⟩:=y2.c3;obtain ⟨f0,f1,f2⟩:=y2.f3;clear k0 k2 cS;go_wp2;refine bodyPost_ret (v:=.tuple #[.agg #[.int .i64 (I:Int),.int .u32 (t:Int),.int .i64 (m+(cl:Int))],.int .i64 0]) (by simp [results,Tryz.results114,go_sem,z0,z1,z2]) rfl ⟨rfl,?_⟩;exact Zx (b1.trans (b2.mono b1.size)) (by simp) _ _ _
theorem run_append_heard (v:Value) (n base:Nat) (vs:List Value) (x:Value) (hx:ZcY x) (ty:TypeId) (w:World) (hown:w.ownsRow base 35 1 v n vs) (hb:base≤w.heap.size) (h1:n≤1048576) :
  ∃ v' w',(Builtin.append_ #[136,136] ty #[v,.slice (some ⟨w.heap.size,0,none⟩) 1 1]).run Tryz.prog (w.alloc (.cells #[x] 35))=.ok v' w'∧w'.ownsRow base 35 1 v' (n+1) (vs++[x])∧(w.alloc (.cells #[x] 35)).grownBy w' v.ownBlock:=by
 obtain ⟨i0,hi,hz0,hz1,hz2⟩:=info_parts ZfW;obtain ⟨a,m,c,rfl⟩:=hx;obtain ⟨v',w',hr,ho,hg,_⟩:=run_append_own (P:=Tryz.prog) (w.alloc (.cells #[.slice a m c] 35)) base 136 ty 35 i0 (.slice none 0 0) 1 24 Tryz.underlying136 hi hz0 hz1 hz2 rfl (by decide) v n _ (hown.alloc _) ⟨w.heap.size,0,none⟩ 1 1 [.slice a m c] rfl (World.news_of_block (World.alloc_heap_new _ _)) (by simp [Value.oneCell']) (by unfold maxLen; omega) (by omega) (by simp; omega);exact ⟨v',w',hr,ho,hg⟩
theorem bySegment_ok (N:Nat) (p:Int) (a:Option Addr) (cap:Nat) (l:List (Int×Int)) (hp:Zc (N:Int) p l) (w:World) (ha:Syms w.heap.size w (.slice a l.length cap) l) (hF:Zm w) :
  Calls Tryz.prog 85 #[.agg #[.int .i64 N,.int .i64 p,.slice a l.length cap]] w fun e W'=>∃ r,e=.returned (.tuple #[r,.int .i64 0])∧Segs W'.heap.size W' r (Zbd N l)∧Below w.heap.size w W':=by
 obtain ⟨i0,hi,hz0,hz1,hz2⟩:=info_parts ZfW;have hN1:1≤N:=by have:=hp.1.1; omega
 have hN2:N<65:=by have:=hp.1.2.1; omega
 have hll:l.length≤4294967296:=by have:=Zap hp; have:=hp.1.prod; omega
 have HP:Hid (Zc (N:Int) p l):=hp;have xB:=Box.new w 37 #[.int .i64 N,.int .i64 p,.slice a l.length cap];have b0:Below w.heap.size w (w.alloc (.cells #[.int .i64 N,.int .i64 p,.slice a l.length cap] 37)):=(Below.refl _ _).alloc (Nat.le_refl _) _;have HC:=Zai N p a cap l hll hp _ (ha.next b0);have HA:Hid (Syms w.heap.size w (.slice a l.length cap) l):=ha;have HF:Hid (Zm w):=hF;clear hp ha hF;go_enter Tryz.func85,Tryz.ntmps85;go_wp2_with fail;refine HC.mono ?_;rintro e w1 ⟨rfl,b1⟩;have x1:=xB.next b1;have bb1:=b0.trans (b1.mono b0.size);have hx1:=x1.lt;have c0:=x1.cell 0 _ rfl;clear HC xB b0 b1;go_wp2_with (at_make; refine wpList_make_own _ rfl _ _ 136 rfl w1.heap.size 35 i0 (.slice none 0 0) 1 Tryz.underlying136 hi hz0 hz1 .i64 .i64 _ N rfl rfl (by omega) (by rw [hz2]; omega) (by unfold maxLen; omega) (Nat.le_refl _) ?_; intro w2 hown2 hgrow2; have b2:Below w1.heap.size w1 w2:=(Below.refl _ w1).grown hgrow2 (Nat.le_refl _) (fun q e=>by cases e); have m0:=(b2.cell (p:=⟨w.heap.size,0,none⟩) hx1).trans c0);clear c0 m0;go_loopw [5,19] (fun s3 s4 wr=>∃ (k:Nat) (vs:List Value),k≤N∧s4=.int .i64 k∧wr.ownsRow w1.heap.size 35 1 s3 k vs∧(∀ (j:Nat) (q:Value),vs[j]? = some q→∃ m,wr.ownsRow w1.heap.size 79 2 q m (Zb (ofL N l j)))∧Below w1.heap.size w1 wr) (fun _ i _=>N-(intOf i).toNat)
 case atStart=>exact ⟨0,[],Nat.zero_le _,rfl,hown2,fun j q h=>by simp at h,b2⟩
 case round =>
  obtain ⟨k,vs,hk,rfl,ho,hq,bw⟩:=hrel;have hsz:=bw.size;have xr:=x1.next bw;obtain ⟨c0,c1,c2⟩:=xr.c3;have bbw:=bb1.trans (bw.mono bb1.size);by_cases hlt:k<N
  ·have hvl:vs.length=k:=by have:=ho.1; omega
   have HC:=PileOf_in N p k hlt a cap l HP.out wr (HA.out.next bbw) (HF.out.next bbw);have HVL:Hid (vs.length=k):=hvl;clear hvl;go_wp2_with fail;refine HC.mono ?_;rintro e w3 ⟨r,rfl,o3,b3⟩;clear HC;have hsv:ZcY r:=by obtain ⟨a2,c2,e2⟩:=(ZE o3).shape; exact ⟨_,_,_,e2⟩
   obtain ⟨a2,n2,c2',rfl⟩:=hsv;have ho3:=ZJ ho b3 (Nat.le_refl _);obtain ⟨v4,w4,hr4,ho4,hg4⟩:=run_append_heard _ k w1.heap.size vs (.slice a2 n2 c2') ⟨_,_,_,rfl⟩ 136 w3 ho3 (Nat.le_trans hsz b3.size) (by omega);have b4:Below w1.heap.size w1 w4:=((bw.trans (b3.mono hsz)).alloc (Nat.le_trans hsz b3.size) _).grown hg4 (by have:=b3.size; simp only [World.size_alloc]; omega) (fun z e=>(ho3.lt z e).1)
   have HQ4:Hid (∀ (j:Nat) (q:Value),(vs++[.slice a2 n2 c2'])[j]? = some q→∃ m,w4.ownsRow w1.heap.size 79 2 q m (Zb (ofL N l j))):=by
    intro j q hjq;by_cases hj:j<vs.length
    ·rw [List.getElem?_append_left hj] at hjq;obtain ⟨m,hm⟩:=hq j q hjq;have h1:=(ZJ hm b3 (Nat.le_refl _)).alloc (.cells #[.slice a2 n2 c2'] 35);exact ⟨m,h1.kept hg4 (Zb2 h1 (ho3.alloc _) (by decide))⟩
    ·rw [List.getElem?_append_right (by omega)] at hjq;have h0:j-vs.length=0:=by have:=(List.getElem?_eq_some_iff.1 hjq).1; simp at this; omega
     have ej:j=k:=by rw [← HVL.out]; omega
     rw [h0] at hjq;simp at hjq;subst hjq;have h1:=(Za3 o3 hsz).alloc (.cells #[.slice a2 n2 c2'] 35);rw [ej];exact ⟨_,h1.kept hg4 (Zb2 h1 (ho3.alloc _) (by decide))⟩
   have HR:Hid _:=hr4;clear hr4 ho3 o3 b3 hg4 hq ho c0 c1 c2;go_wp2_with (at_builtin; refine Zd rfl _ _ 136 rfl _ _ rfl rfl _ _ HR.out ?_);exact ⟨⟨k+1,_,by omega,by go_num,ho4,HQ4.out,b4⟩,by simp [intOf]; omega⟩
  ·obtain rfl:k=N:=by omega
   go_wp2;go_ret2;refine ⟨_,rfl,segs_of_row ho (ZdN _ _) (by omega) (fun j q l' hjq hl'=>?_),bbw⟩;have hj:j<k:=by have:=(List.getElem?_eq_some_iff.1 hl').1; rwa [ZdN] at this
   rw [Zfh hj] at hl'
   cases hl'
   obtain ⟨m,hm⟩:=hq j q hjq;exact ZE hm
end Go.Proofs.YtkigbanldiialaaGreatDoor
namespace Go.Proofs.YtkigbanldiialaaGreatDoor
open Go.RowKit Go.Shelf
attribute [local go_sem] Oper.semAt_some
def ZfB (N:Nat) (l:List (Int×Int)) (i s:Nat) (m:Int) (k:Nat):Value:=.agg #[.int .i64 ((i+1:Nat):Int),.int .u32 ((stepN s k:Nat):Int),.int .i64 (m+((costN (stepN s k) (ofL N l i):Nat):Int))]
def Zeo (N:Nat) (l:List (Int×Int)) (i s:Nat) (m:Int) (k:Nat):Array Value:=#[.int .i64 (k:Int),ZfB N l i s m k]
def KpB (n₀ Bh Bp:Nat) (A B:World):Prop:=Below n₀ A B∧B.heap[Bh]? = A.heap[Bh]?∧B.heap[Bp]? = A.heap[Bp]?
theorem KpB.refl (n₀ Bh Bp:Nat) (A:World):KpB n₀ Bh Bp A A:=⟨Below.refl _ _,rfl,rfl⟩
theorem KpB.trans {n₀ Bh Bp:Nat} {A B C:World} (h:KpB n₀ Bh Bp A B) (k:KpB n₀ Bh Bp B C):KpB n₀ Bh Bp A C:=⟨h.1.trans k.1,k.2.1.trans h.2.1,k.2.2.trans h.2.2⟩
theorem KpB.of_below {n₀ Bh Bp n₁:Nat} {A B:World} (h:Below n₁ A B) (h0:n₀≤n₁) (h1:Bh<n₁) (h2:Bp<n₁):KpB n₀ Bh Bp A B:=⟨h.mono h0,h.block _ h1,h.block _ h2⟩
theorem KpB.turn {n₀ Bh Bp:Nat} {w:World} (h0:n₀≤w.heap.size) (h1:Bh<w.heap.size) (h2:Bp<w.heap.size) (W:World) (l:Nat) (o o':Obj) (hl:w.heap.size≤l) (h:W.heap[l]? = some o) (hc:o.isCells=false) (hw:o.isWalk=false):KpB n₀ Bh Bp W (W.putObj l o') :=
 ⟨belowK_b h0 W l o o' hl h hc hw,World.putObj_heap_other (by omega),World.putObj_heap_other (by omega)⟩
theorem range_pre {k n:Nat} (h:k≤n):List.range k <+: List.range n:=by
 obtain ⟨d,rfl⟩:=Nat.exists_eq_add_of_le h;rw [List.range_add];exact List.prefix_append _ _
theorem ZcZ {k:Nat}:List.range (k+1)=List.range k++[k]:=List.range_succ
theorem children1_in (n:Nat) (hn:1≤n) (lo Bh Bp b off N cap:Nat) (l:List (Int×Int)) (p:Int) (hp:Zc (N:Int) p l) (i s:Nat) (hi:i<N) (hs:s<4294967296) (m:Int) (hm0:0≤m) (hm1:m≤1099511627776) (n₀:Nat) (J Jx:List Nat→World→Prop)
  (hJ:∀ pre A B,J pre A→Below A.heap.size A B→J pre B)
  (hY:∀ pre x W,J pre W→pre.length<16→YieldAt Fence.wide (n-1) Tryz.prog lo (Zeo N l i s m x) W fun e W' =>
   (e=.returned (.bool true)∧J (pre++[x]) W'∧KpB n₀ Bh Bp W W')∨(e=.returned (.bool false)∧Jx (pre++[x]) W'))
  (W:World) (hn₀:n₀≤W.heap.size) (hh:Box W Bh 136 #[.slice (some ⟨b,off,none⟩) N cap]) (hpt:Box W Bp 140 #[.int .i64 (i:Int),.int .u32 (s:Int),.int .i64 m]) (hS:Segs n₀ W (.slice (some ⟨b,off,none⟩) N cap) (Zbd N l)) (h0:J [] W) :
  CallsIn Fence.wide n Tryz.prog 113 #[.func (.yield lo) #[] #[],.pointer (some ⟨Bh,0,none⟩),.pointer (some ⟨Bp,0,none⟩)] W fun e W'=>(∃ v,e=.returned v) ∧
   ((∃ ys,ys=List.range 16∧J ys W')∨(∃ pre,pre <+: List.range 16∧Jx pre W')):=by
 have HP:Hid (Zc (N:Int) p l):=hp;have HS:Hid (Segs n₀ W (.slice (some ⟨b,off,none⟩) N cap) (Zbd N l)):=hS;have HJ:Hid (∀ pre A B,J pre A→Below A.heap.size A B→J pre B):=hJ;clear hp hS hJ;refine callsIn_of_wp Tryz.func113 rfl trivial ?_ rfl;simp only [Tryz.ntmps113,List.size_toArray,List.length_cons,List.length_nil,Nat.reduceAdd,Nat.reduceSub,Array.replicate_succ,Array.replicate_zero,List.push_toArray,List.append_toArray,List.nil_append,List.cons_append];gi_wp2;gi_loopw [7] (fun v wr=>∃ k:Nat,k≤16∧v=.int .i64 k∧J (List.range k) wr∧KpB n₀ Bh Bp W wr) (fun i _=>16-(intOf i).toNat)
 case atStart=>exact ⟨0,by omega,rfl,h0,KpB.refl _ _ _ _⟩
 case round =>
  obtain ⟨k,hk,rfl,hJs,bw⟩:=hrel;have hszw:=bw.1.size;have xh:Box wr Bh 136 #[.slice (some ⟨b,off,none⟩) N cap]:=bw.2.1.trans hh;have xp:Box wr Bp 140 #[.int .i64 (i:Int),.int .u32 (s:Int),.int .i64 m]:=bw.2.2.trans hpt;have hlh:=xh.lt;have hlp:=xp.lt;have ch:=xh.cell 0 _ rfl;obtain ⟨cp0,cp1,cp2⟩:=xp.c3;by_cases hlt:k<16
  ·have d16:decide ((k:Int)<16)=true:=decide_eq_true (by omega);have HCH:=(callsIn_wide (n:=n-1)).2 (child_ok b off N cap l p HP.out i s k hi hs hlt m hm0 hm1 wr ((HS.out.below bw.1).mono (by omega)));have f1:Fence.wide.fn 114:=trivial;have HYK:Hid (∀ W',J (List.range k) W'→YieldAt Fence.wide (n-1) Tryz.prog lo (Zeo N l i s m k) W' fun e W''=>(e=.returned (.bool true)∧J (List.range k++[k]) W''∧KpB n₀ Bh Bp W' W'')∨(e=.returned (.bool false)∧Jx (List.range k++[k]) W'')):=fun W' h=>hY _ _ W' h (by simp; omega)
   have hkE:Zeo N l i s m k=#[.int .i64 (k:Int),ZfB N l i s m k]:=rfl;rw [hkE] at HYK;have hkP:ZfB N l i s m k=.agg #[.int .i64 ((i+1:Nat):Int),.int .u32 ((stepN s k:Nat):Int),.int .i64 (m+((costN (stepN s k) (ofL N l i):Nat):Int))]:=rfl;rw [hkP] at HYK;obtain ⟨ct,hct⟩:∃ ct,costN (stepN s k) (ofL N l i)=ct:=⟨_,rfl⟩;rw [hct] at HCH HYK;obtain ⟨tt,htt⟩:∃ tt,stepN s k=tt:=⟨_,rfl⟩;rw [htt] at HCH HYK;obtain ⟨I,hI⟩:∃ I,i+1=I:=⟨_,rfl⟩;rw [hI] at HCH HYK;have HLT:Hid (k<16):=hlt;clear hkE hkP hct htt hI hlt;gi_wp2_with (gi_at_call 114; refine HCH.mono ?_; rintro e w2 ⟨rfl,b2⟩);have bA:Below wr.heap.size wr (w2.alloc (.cells #[.int .i64 (I:Int),.int .u32 (tt:Int),.int .i64 (m+(ct:Int))] 140)):=b2.alloc b2.size _;obtain ⟨fn,tmps,assign,body,hy,hR⟩:=HYK.out _ (HJ.out _ _ _ hJs bA);have HBA:Hid (KpB n₀ Bh Bp W (w2.alloc (.cells #[.int .i64 (I:Int),.int .u32 (tt:Int),.int .i64 (m+(ct:Int))] 140))):=bw.trans (KpB.of_below bA (by omega) hlh hlp);clear HYK HCH hJs bA;gi_wp2;rw [hy];gi_wp2;refine hR.mono ?_;rintro e W3 (⟨rfl,hJ3,hk3⟩ | ⟨rfl,hJx3⟩)
   ·gi_wp2;go_roundw
    case rel=>exact ⟨k+1,HLT.out,by go_num,by rw [ZcZ]; exact hJ3,HBA.out.trans hk3⟩
    case measure=>have:=HLT.out; simp [intOf]; omega
   ·gi_wp2;refine bodyPost_ret (results_none rfl _ _ _) rfl ?_;exact ⟨⟨_,rfl⟩,.inr ⟨List.range k++[k],by rw [← ZcZ]; exact range_pre HLT.out,hJx3⟩⟩
  ·obtain rfl:k=16:=by omega
   gi_wp2;go_end0;exact ⟨⟨_,rfl⟩,.inl ⟨_,rfl,hJs⟩⟩
theorem ZdO (n:Nat) (v:Value) (hv:ZcY v) (i s:Nat) (m:Int) (w:World):CallsIn Fence.wide n Tryz.prog 110 #[v,.agg #[.int .i64 (i:Int),.int .u32 (s:Int),.int .i64 m]] w fun e w'=>e=.returned (.func (.func 113) #[] #[.pointer (some ⟨w.heap.size,0,none⟩),.pointer (some ⟨w.heap.size+1,0,none⟩)])∧w'=(w.alloc (.cells #[v] 136)).alloc (.cells #[.int .i64 (i:Int),.int .u32 (s:Int),.int .i64 m] 140):=by
 obtain ⟨a,k,c,rfl⟩:=hv;refine callsIn_of_wp Tryz.func110 rfl trivial ?_ rfl;simp only [Tryz.ntmps110,List.size_toArray,List.length_cons,List.length_nil,Nat.reduceAdd,Nat.reduceSub,Array.replicate_succ,Array.replicate_zero,List.push_toArray,List.append_toArray,List.nil_append,List.cons_append];gi_wp2;go_ret;exact ⟨rfl,rfl⟩
theorem abides_below {α:Type} {B:Nat} {J:List α→World→Prop} (h:AbidesFrom B J):∀ pre (A C:World),J pre A→Below A.heap.size A C→J pre C:=fun pre A C hj hb=>h pre A C none hj ⟨hb.os,hb.tape,hb.output,hb.size,fun k hk _=>hb.block k hk⟩ (fun r e=>by cases e)
theorem ZbR (n:Nat) (hn:1≤n) (Bh Bp b off N cap:Nat) (l:List (Int×Int)) (p:Int) (hp:Zc (N:Int) p l) (i s:Nat) (hi:i<N) (hs:s<4294967296) (m:Int) (hm0:0≤m) (hm1:m≤1099511627776) (n₀:Nat) (w:World) (hn₀:n₀≤w.heap.size) (hh:Box w Bh 136 #[.slice (some ⟨b,off,none⟩) N cap]) (hpt:Box w Bp 140 #[.int .i64 (i:Int),.int .u32 (s:Int),.int .i64 m]) (hS:Segs n₀ w (.slice (some ⟨b,off,none⟩) N cap) (Zbd N l)) :
  SeqStopsK Fence.wide n Tryz.prog 113 #[.pointer (some ⟨Bh,0,none⟩),.pointer (some ⟨Bp,0,none⟩)] (Zeo N l i s m) (KpB n₀ Bh Bp) (fun ys=>ys=List.range 16) (fun pre=>pre <+: List.range 16) 16 w:=fun lo J Jx W hW hJ _ hY h0 =>
 children1_in n hn lo Bh Bp b off N cap l p hp i s hi hs m hm0 hm1 n₀ J Jx (abides_below hJ) hY W (Nat.le_trans hn₀ hW.size) (hh.next hW) (hpt.next hW) (hS.below (hW.mono hn₀)) h0
end Go.Proofs.YtkigbanldiialaaGreatDoor
