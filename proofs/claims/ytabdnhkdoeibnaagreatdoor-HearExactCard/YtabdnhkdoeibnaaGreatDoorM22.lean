/-
  What the page's Walk answers: the list at the end, and the cut.
-/
import Derived.Test.YtabdnhkdoeibnaaGreatDoorM20
import Derived.Test.YtabdnhkdoeibnaaGreatDoorM21
set_option maxRecDepth 100000
set_option maxHeartbeats 4000000
namespace Go.Proofs.YtabdnhkdoeibnaaGreatDoor
open Go.RowKit
def ZH (N:Nat) (l:List (Int×Int)) (b D i:Nat):List Nd×Int:=Zt stB (coB N l) N (beginN:Int) b D i
def ZY (N:Nat) (l:List (Int×Int)) (D i:Nat) (L:List Nd):List Nd:=Z6 stB (coB N l) N D i L
def kidB (N:Nat) (l:List (Int×Int)) (D i:Nat) (n:Nd) (k:Int):Nd:=kidS stB (coB N l) N D i n k
theorem ZfJ (N:Nat) (l:List (Int×Int)) (b D i:Nat):ZH N l b D (i+1)=(ZaZ b (ZY N l D i (ZH N l b D i).1),lmin (ZH N l b D i).2 (cutK sc b (ZY N l D i (ZH N l b D i).1))):=rfl
theorem ZfK (N:Nat) (l:List (Int×Int)) (D i:Nat) (L:List Nd) (n:Nd):ZY N l D i (L++[n])=ZY N l D i L++ZaF.map (kidB N l D i n):=by
 unfold ZY Z6;rw [List.flatMap_append];simp [kidB]
theorem Zhg {N:Nat} {l:List (Int×Int)} {D i s k:Nat} {n:Nd} (hs:n.1=(s:Int)) (hl:n.2.2.2.length=i):kidB N l D i n (k:Int)=(((stepN s k:Nat):Int),n.2.1+((costN (stepN s k) (ofL N l i):Nat):Int),lst stB (coB N l) N D ((stepN s k:Nat):Int) (i+1) (n.2.1+((costN (stepN s k) (ofL N l i):Nat):Int)),n.2.2.2++[(k:Int)]):=by
 unfold kidB kidS kid;rw [hs,hl,Zgk,Zgl]
theorem ZdN {N:Nat} {p:Int} {l:List (Int×Int)} (hp:Zf (N:Int) p l) {b D i:Nat} (hb:1≤b) {n:Nd} (h:n∈(ZH N l b D i).1):(∃ s:Nat,s<4294967296∧n.1=(s:Int))∧0≤n.2.1∧n.2.1≤8192 * (i:Int)∧n.2.2.2.length=i:=by
 obtain ⟨P,h1,h2,h3,_⟩:=(Zao stB (coB N l) N (beginN:Int) D b hb i).node n h;obtain ⟨s,hs,es⟩:=staB_nat N l P;have e:n.2.1=metB N l P:=h3.2.1;refine ⟨⟨s,hs,h3.1.trans es⟩,by rw [e]; exact metB_pos N l P,by rw [e]; exact Zic hp i P h1,by rw [h3.2.2]; exact h1⟩
theorem Zdp (N:Nat) (l:List (Int×Int)) {b D i:Nat} (hb:1≤b) (hb2:b≤16):(ZH N l b D i).1.length≤16:=by
 have:=(Zao stB (coB N l) N (beginN:Int) D b hb i).most;unfold ZH;omega
theorem ZhH {N:Nat} {p:Int} {l:List (Int×Int)} (hp:Zf (N:Int) p l) {b D i:Nat} (hb:1≤b):∀ x∈ZY N l D i (ZH N l b D i).1,0≤sc x∧x.2.2.2.length=i+1:=by
 intro x hx;obtain ⟨n,hn,k,hk,rfl⟩:=ZbW stB (coB N l) N hx;obtain ⟨⟨s,hs,es⟩,h1,h2,h3⟩:=ZdN hp hb hn;obtain ⟨kn,rfl⟩:∃ kn:Nat,k=(kn:Int):=⟨k.toNat,by omega⟩;have e:=Zhg (N:=N) (l:=l) (D:=D) (k:=kn) es h3;unfold kidB at e;rw [e];refine ⟨?_,by simp [h3]⟩
 show 0≤lst stB (coB N l) N D _ _ _
 exact (ZhE N l hp D _ _ _ (by omega)).1
theorem refWalk_any (N:Nat) (p:Int) (a:Option Addr) (cap:Nat) (l:List (Int×Int)) (hp:Zf (N:Int) p l) (b:Nat) (hb1:1≤b) (hb2:b≤16) (D:Nat) (hD:D≤2) (w:World) (ha:Syms w.heap.size w (.slice a l.length cap) l) :
  Calls Tryz.prog 69 #[.agg #[.int .i64 N,.int .i64 p,.slice a l.length cap],.int .i64 (b:Int),.int .i64 ((D+1:Nat):Int)] w fun e W'=>∃ r,e=.returned (.tuple #[r,.int .i64 (ZH N l b D N).2])∧Zae W'.heap.size W' r (ZH N l b D N).1∧Below w.heap.size w W':=by
 have hN2:N<65:=by have:=hp.1.2.1; omega
 have b1:Below w.heap.size w (w.alloc (.cells #[.int .i64 N,.int .i64 p,.slice a l.length cap] 26)):=(Below.refl w.heap.size w).alloc (Nat.le_refl _) _;have x1:=Box.new w 26 #[.int .i64 N,.int .i64 p,.slice a l.length cap];have HP:Hid (Zf (N:Int) p l):=hp;have HPI:=refPiles_any N p a cap l hp _ (ha.next b1);obtain ⟨D1,hD1⟩:∃ D1,D+1=D1:=⟨_,rfl⟩;rw [hD1];have eD:(D1:Int)-1=(D:Int):=by omega
 clear hp ha hD1;go_enter Tryz.func69,Tryz.ntmps69;go_wp2_with fail;refine HPI.mono ?_;rintro e w2 ⟨r,rfl,hS,b2⟩;clear HPI;obtain ⟨sb,so,scap,e3,hsb⟩:=hS.shape;rw [Zbu] at e3;subst e3;have bb2:=b1.trans (b2.mono b1.size);have x12:=x1.next b2;have b3:Below w2.heap.size w2 (w2.alloc (.cells #[.int .u32 (beginN:Int),.int .i64 0,.int .i64 0,.slice none 0 0] 103)):=(Below.refl _ _).alloc (Nat.le_refl _) _
 have hR:Zae (w2.alloc (.cells #[.int .u32 (beginN:Int),.int .i64 0,.int .i64 0,.slice none 0 0] 103)).heap.size (w2.alloc (.cells #[.int .u32 (beginN:Int),.int .i64 0,.int .i64 0,.slice none 0 0] 103)) (.slice (some ⟨w2.heap.size,0,none⟩) 1 1) [((beginN:Int),0,0,[])]:=by
  refine ⟨[((beginN:Int),0,0,.slice none 0 0)],ZaK (base:=0) (k:=1) (e:=103) ⟨rfl,.inr ⟨w2.heap.size,1,#[.int .u32 (beginN:Int),.int .i64 0,.int .i64 0,.slice none 0 0],rfl,Nat.zero_le _,World.alloc_heap_new _ _,Nat.le_refl _,by unfold maxLen; omega,rfl,rfl⟩⟩,(Zdi _ _).snoc (x:=((beginN:Int),0,0,.slice none 0 0)) (y:=((beginN:Int),0,0,[])) ⟨rfl,rfl,rfl,.inl ⟨⟨_,_,rfl,fun _=>rfl⟩,rfl⟩⟩⟩
 go_wp2_with (go_at_call 94; refine (refBegin_any w2).mono ?_; rintro e wz ⟨rfl,rfl⟩);obtain ⟨W3,hW3⟩:∃ W,w2.alloc (.cells #[.int .u32 (beginN:Int),.int .i64 0,.int .i64 0,.slice none 0 0] 103)=W:=⟨_,rfl⟩;rw [hW3] at b3 hR ⊢;clear hW3;have bb3:=bb2.trans (b3.mono bb2.size);have x13:=x12.next b3;have HS3:Hid (Segs W3.heap.size W3 (.slice (some ⟨sb,so,none⟩) N scap) (Za1 N l)):=hS.next b3;clear hS x1 x12 b1 b2 bb2 b3;go_loopw [9,10,11] (fun s9 s10 s11 wr=>∃ i:Nat,i≤N∧s11=.int .i64 i∧s10=.int .i64 (ZH N l b D i).2∧Zae wr.heap.size wr s9 (ZH N l b D i).1∧Below W3.heap.size W3 wr) (fun _ _ i _=>N-(intOf i).toNat)
 case atStart=>exact ⟨0,Nat.zero_le _,rfl,rfl,hR,Below.refl _ _⟩
 case round =>
  obtain ⟨i,hi,rfl,rfl,hL,bw⟩:=hrel;clear hR;have x1r:=x13.next bw;have hc0:=x1r.cell 0 _ rfl;by_cases hlt:i<N
  ·have hwl:=Zdp N l (D:=D) (i:=i) hb1 hb2;have HNB:Hid (∀ n∈(ZH N l b D i).1,(∃ s:Nat,s<4294967296∧n.1=(s:Int))∧0≤n.2.1∧n.2.1≤8192 * (i:Int)∧n.2.2.2.length=i):=fun n hn=>ZdN HP.out hb1 hn
   have HKO:Hid (∀ x∈ZY N l D i (ZH N l b D i).1,0≤sc x∧x.2.2.2.length=i+1):=ZhH HP.out hb1;have HNX:Hid (ZH N l b D (i+1)=(ZaZ b (ZY N l D i (ZH N l b D i).1),lmin (ZH N l b D i).2 (cutK sc b (ZY N l D i (ZH N l b D i).1)))):=ZfJ N l b D i;obtain ⟨L,hLe⟩:∃ L,(ZH N l b D i).1=L:=⟨_,rfl⟩;obtain ⟨cu,hcu⟩:∃ cu,(ZH N l b D i).2=cu:=⟨_,rfl⟩;rw [hLe] at hwl HNB HKO HNX hL;rw [hcu] at HNX ⊢;obtain ⟨la,lc,e9⟩:=hL.shape;obtain ⟨m,hm⟩:∃ m,L.length=m:=⟨_,rfl⟩;rw [hm] at e9 hwl;subst e9;have HML:Hid (L.length=m):=hm;have HL:Hid (Zae wr.heap.size wr (.slice la m lc) L):=hL;clear hLe hcu hm hL;generalize hwo:wr=wo at *;clear hwo wr;go_wp2;go_loopw [12,13] (fun s12 s13 wx=>∃ (k:Nat) (rr:List Rn),k≤m∧s13=.int .i64 k∧wx.ownsRow wo.heap.size 103 4 s12 (k * 16) (ZG rr)∧ZQ wo.heap.size wx rr (ZY N l D i (L.take k))∧Below wo.heap.size wo wx) (fun _ i _=>m-(intOf i).toNat)
   case atStart=>exact ⟨0,[],Nat.zero_le _,rfl,World.ownsRow_nil _ _ _ _,by rw [List.take_zero]; exact ZcN _ _,Below.refl _ _⟩
   case round =>
    obtain ⟨k,rr,hk,rfl,ho,hr,bx⟩:=hrel;clear hc0;by_cases hlt2:k<m
    ·obtain ⟨n,hn⟩:∃ n,L[k]? = some n:=⟨L[k]'(by rw [HML.out]; exact hlt2),by simp⟩;obtain ⟨⟨s,hs,es⟩,hM0,hM1,hpl⟩:=HNB.out n (List.mem_of_getElem? hn);obtain ⟨ns,M,nsc,ps⟩:=n;have es':ns=(s:Int):=es;subst es';have hpl':ps.length=i:=hpl
     have HTK:Hid (L.take (k+1)=L.take k++[((s:Int),M,nsc,ps)]):=by
      show L.take (k+1)=L.take k++[((s:Int),M,nsc,ps)]
      rw [List.take_add_one,hn]; rfl
     have HPL:Hid (ps.length=i):=hpl';have hM0':0≤M:=hM0;have hM1':M≤8192 * (i:Int):=hM1;have HNK:Hid (L[k]? = some ((s:Int),M,nsc,ps)):=hn;generalize hwx:wr=wx at *;clear hwx wr hn hpl hpl' es hM0 hM1;go_wp2;go_loopw [12,14] (fun s12 s14 wy=>∃ (j:Nat) (rr:List Rn),j≤16∧s14=.int .i64 j∧wy.ownsRow wo.heap.size 103 4 s12 (k * 16+j) (ZG rr)∧ZQ wo.heap.size wy rr (ZY N l D i (L.take k)++(ZaF.take j).map (kidB N l D i ((s:Int),M,nsc,ps)))∧Below wo.heap.size wo wy) (fun _ i _=>16-(intOf i).toNat)
     case atStart=>exact ⟨0,rr,by omega,rfl,ho,by rw [List.take_zero,List.map_nil,List.append_nil]; exact hr,bx⟩
     case round =>
      obtain ⟨j,r2,hj,rfl,ho2,hr2,by2⟩:=hrel;clear ho hr bx;have hsz:=by2.size;by_cases hlt3:j<16
      ·obtain ⟨lb,lo,rfl,_,hcl⟩:=ZaA (HL.out.below by2) HML.out (by omega);obtain ⟨pv,hpv,c0,c1,c2,c3⟩:=hcl k _ HNK.out;obtain ⟨pa,pc,e8⟩:=hpv.shape;have hpl:=HPL.out;have e8':pv=.slice pa i pc:=by rw [e8]; show Value.slice pa ps.length pc=_; rw [hpl]
       subst e8';have hbb:=bw.trans (by2.mono bw.size);have HCH:=refChild_any sb so N scap (Za1 N l) s hs M nsc hM0' (by omega) pa pc ps (by omega) (by omega) (by omega) j hlt3 (ofL N l i) (by rw [hpl]; exact Zco hlt) (by have:=Zhf HP.out i; omega) (ZhD HP.out i) (by have:=ZbG HP.out i (stepN s j); omega) (Zbu N l) wr (HS3.out.next hbb) (by have:=hpv.mono hsz; rw [← hpl] at this; exact this);have HKE:=Zhg (N:=N) (l:=l) (D:=D) (i:=i) (s:=s) (k:=j) (n:=((s:Int),M,nsc,ps)) rfl hpl;have hst:=ZbF s j;have hcb:=ZbG HP.out i (stepN s j);rw [hpl] at HCH;obtain ⟨ct,hct⟩:∃ ct,costN (stepN s j) (ofL N l i)=ct:=⟨_,rfl⟩;rw [hct] at HCH HKE hcb;obtain ⟨tt,htt⟩:∃ tt,stepN s j=tt:=⟨_,rfl⟩;rw [htt] at HCH HKE hst;obtain ⟨I,hI⟩:∃ I,i+1=I:=⟨_,rfl⟩;rw [hI] at HCH HKE;have e1i:(i:Int)+1=(I:Int):=by omega
       have hIN:I≤N:=by omega
       have HI:Hid (i+1=I):=hI;obtain ⟨V,hV⟩:∃ V,lst stB (coB N l) N D (tt:Int) I (M+(ct:Int))=V:=⟨_,rfl⟩;have HV:Hid (lst stB (coB N l) N D (tt:Int) I (M+(ct:Int))=V):=hV;rw [hV] at HKE;have HKE':Hid (kidB N l D i ((s:Int),M,nsc,ps) (j:Int)=((tt:Int),M+(ct:Int),V,ps++[(j:Int)])):=HKE;clear hcl hct htt HKE hpv e8 hpl hI hV;go_wp2_with fail;refine HCH.mono ?_;rintro e w4 ⟨qa,qc,rfl,oq,b4⟩;clear HCH c0 c1 c2 c3;have xn:=Box.new w4 103 #[.int .u32 (tt:Int),.int .i64 (M+(ct:Int)),.int .i64 0,.slice qa I qc];have b5:Below w4.heap.size w4 (w4.alloc (.cells #[.int .u32 (tt:Int),.int .i64 (M+(ct:Int)),.int .i64 0,.slice qa I qc] 103)):=(Below.refl _ _).alloc (Nat.le_refl _) _;obtain ⟨e0,e1,e2,e3⟩:=xn.c4;go_wp2_with fail;clear e0 e1 e2 e3;obtain ⟨W5,hW5⟩:∃ W,w4.alloc (.cells #[.int .u32 (tt:Int),.int .i64 (M+(ct:Int)),.int .i64 0,.slice qa I qc] 103)=W:=⟨_,rfl⟩;rw [hW5] at xn b5 ⊢;clear hW5;have hb45:=hbb.trans ((b4.trans (b5.mono b4.size)).mono hbb.size);have HLS:=Zd5 sb so N scap l p HP.out W5.heap.size D (by omega) tt I (M+(ct:Int)) hst hIN (by omega) (by omega) W5 (HS3.out.next hb45);rw [HV.out] at HLS;refine HLS.mono ?_;rintro e wz ⟨rfl,q5,rfl⟩;have b6:Below W5.heap.size W5 (W5.drewN q5):=Zi (Below.refl _ _) q5;have xn6:=xn.drewN q5;obtain ⟨W6,hW6⟩:∃ W,W5.drewN q5=W:=⟨_,rfl⟩;rw [hW6] at b6 xn6 ⊢;clear hW6 HLS xn;obtain ⟨k0,k1,k2,k3⟩:=xn6.c4;have f2:=xn6.free 2;have xn7:Box (W6.setCell ⟨w4.heap.size,2,none⟩ (.int .i64 V)) w4.heap.size 103 #[.int .u32 (tt:Int),.int .i64 (M+(ct:Int)),.int .i64 V,.slice qa I qc]:=xn6.set 2 (.int .i64 V);have b56:Below w4.heap.size w4 W6:=b5.trans (b6.mono b5.size);have b7:Below wr.heap.size wr (W6.setCell ⟨w4.heap.size,2,none⟩ (.int .i64 V)):=(b4.trans (b56.mono b4.size)).setCell (p:=⟨w4.heap.size,2,none⟩) b4.size _;have ho7:=ZL ho2 b7 (Nat.le_refl _);have oq7:=Zb9 (ZL oq b56 (Nat.le_refl _)) (p:=⟨w4.heap.size,2,none⟩) (fun g hg e=>by have:=(oq.lt g hg).2; have e':g=w4.heap.size:=e; omega) (.int .i64 V);obtain ⟨v8,w8,hr8,ho8,hg8⟩:=ZaR _ (k * 16+j) wo.heap.size r2 (tt:Int) (M+(ct:Int)) V (.slice qa I qc) ⟨_,_,_,rfl⟩ 98 _ ho7 (Nat.le_trans hsz b7.size) (by omega);have b8:Below wo.heap.size wo w8:=((by2.trans (b7.mono hsz)).alloc (Nat.le_trans hsz b7.size) _).grown hg8 (by have:=b7.size; simp only [World.size_alloc]; omega) (fun q e=>(ho2.lt q e).1)
       have HOW:Hid (ZQ wo.heap.size w8 (r2++[((tt:Int),M+(ct:Int),V,.slice qa I qc)]) (ZY N l D i (L.take k)++(ZaF.take (j+1)).map (kidB N l D i ((s:Int),M,nsc,ps)))):=by
        have e1:(ZaF.take (j+1)).map (kidB N l D i ((s:Int),M,nsc,ps))=(ZaF.take j).map (kidB N l D i ((s:Int),M,nsc,ps))++[((tt:Int),M+(ct:Int),V,ps++[(j:Int)])]:=by
         rw [List.take_add_one,ZgN hlt3,← HKE'.out,List.map_append];rfl
        rw [e1,← List.append_assoc]
        have z1:=(hr2.below b7 (Nat.le_refl _)).snoc (m:=wr.heap.size) (x:=((tt:Int),M+(ct:Int),V,.slice qa I qc)) (y:=((tt:Int),M+(ct:Int),V,ps++[(j:Int)])) rfl rfl rfl (by
         show World.ownsRow _ _ _ _ _ (ps++[(j:Int)]).length _
         rw [show (ps++[(j:Int)]).length=I by rw [List.length_append,HPL.out,← HI.out]; rfl]
         exact oq7) hsz (fun u hu g hg=>hr2.lt u hu g hg)
        exact (z1.below ((Below.refl _ _).alloc (Nat.le_refl _) _) (Nat.le_refl _)).kept (ho7.alloc _) hg8
       obtain ⟨h0,h1,h2,h3⟩:=xn7.c4;rw [show (W6.setCell ⟨w4.heap.size,2,none⟩ (.int .i64 V)).heap.size=W6.heap.size by simp [World.setCell]] at hr8;have HR:Hid _:=hr8;clear hr8 ho7 oq7 oq ho2 hr2 b7 xn6 xn7 b5 b6 b4 hg8 hb45 hbb by2;go_wp2_with (at_builtin; refine Zc rfl _ _ 98 rfl _ _ rfl rfl _ _ HR.out ?_);exact ⟨⟨j+1,_,by omega,by go_num,ho8,HOW.out,b8⟩,by simp [intOf]; omega⟩
      ·obtain rfl:j=16:=by omega
       have HOW:Hid (ZQ wo.heap.size wr r2 (ZY N l D i (L.take (k+1)))):=by
        show ZQ wo.heap.size wr r2 (ZY N l D i (L.take (k+1)))
        rw [HTK.out,ZfK];rw [show ZaF.take 16=ZaF from List.take_of_length_le (by unfold ZaF; decide)] at hr2;exact hr2
       have ho3:wr.ownsRow wo.heap.size 103 4 u12 ((k+1) * 16) (ZG r2):=by
        rw [show (k+1) * 16=k * 16+16 by omega];exact ho2
       clear ho2 hr2;go_wp2;go_roundw
       case rel=>exact ⟨k+1,r2,by omega,by go_num,ho3,HOW.out,by2⟩
       case measure=>simp [intOf]; omega
    ·obtain rfl:m=k:=by omega
     rw [List.take_of_length_le (by rw [HML.out]; exact Nat.le_refl _)] at hr
     have hkl:(ZY N l D i L).length=m * 16:=by
      unfold ZY;rw [ZaM,HML.out]
     have HPK:=refPick_ok u12 (ZY N l D i L) (by omega) (fun x hx=>(HKO.out x hx).1) (fun x hx=>by rw [(HKO.out x hx).2]; omega) b hb1 (by omega) wr ⟨rr,ZaK ho,hr.rns⟩;obtain ⟨c,hc⟩:∃ c,cutK sc b (ZY N l D i L)=c:=⟨_,rfl⟩;rw [hc] at HPK HNX;obtain ⟨ua,uc,e12⟩:=Zbk ho;subst e12;clear ho hr hkl hc;go_wp2_with fail;refine HPK.mono ?_;rintro e w4 ⟨r4,rfl,o4,b4⟩;clear HPK;have b5:=bx.trans (b4.mono bx.size);have b6:Below W3.heap.size W3 w4:=bw.trans (b5.mono bw.size);have HNW:Hid (Zae w4.heap.size w4 r4 (ZaZ b (ZY N l D i L))):=o4.nodes;clear o4 b4 b5 bx;by_cases hc0:0≤c
     ·have d0:decide (0≤c)=true:=decide_eq_true hc0;by_cases hcu0:cu<0
      ·have d1:decide (cu<0)=true:=decide_eq_true hcu0
       have HLM:Hid (lmin cu c=c):=by
        show lmin cu c=c
        unfold lmin;rw [if_pos ⟨hc0,.inl hcu0⟩]
       clear hc0 hcu0;go_wp2;go_roundw
       case rel=>exact ⟨i+1,by omega,by go_num,by rw [HNX.out,HLM.out],by rw [HNX.out]; exact HNW.out,b6⟩
       case measure=>simp [intOf]; omega
      ·have d1:decide (cu<0)=false:=decide_eq_false hcu0;by_cases hcc:c<cu
       ·have d2:decide (c<cu)=true:=decide_eq_true hcc
        have HLM:Hid (lmin cu c=c):=by
         show lmin cu c=c
         unfold lmin;rw [if_pos ⟨hc0,.inr hcc⟩]
        clear hc0 hcu0 hcc;go_wp2;go_roundw
        case rel=>exact ⟨i+1,by omega,by go_num,by rw [HNX.out,HLM.out],by rw [HNX.out]; exact HNW.out,b6⟩
        case measure=>simp [intOf]; omega
       ·have d2:decide (c<cu)=false:=decide_eq_false hcc
        have HLM:Hid (lmin cu c=cu):=by
         show lmin cu c=cu
         unfold lmin;rw [if_neg (by omega)]
        clear hc0 hcu0 hcc;go_wp2;go_roundw
        case rel=>exact ⟨i+1,by omega,by go_num,by rw [HNX.out,HLM.out],by rw [HNX.out]; exact HNW.out,b6⟩
        case measure=>simp [intOf]; omega
     ·have d0:decide (0≤c)=false:=decide_eq_false hc0
      have HLM:Hid (lmin cu c=cu):=by
       show lmin cu c=cu
       unfold lmin;rw [if_neg (by omega)]
      clear hc0;go_wp2;go_roundw
      case rel=>exact ⟨i+1,by omega,by go_num,by rw [HNX.out,HLM.out],by rw [HNX.out]; exact HNW.out,b6⟩
      case measure=>simp [intOf]; omega
  ·obtain rfl:i=N:=by omega
   go_wp2;go_ret2;exact ⟨_,rfl,hL,bb3.trans (bw.mono bb3.size)⟩
def decB (L:List Nd) (cut:Int):Option (List Int×Int):=match L with
 | []=>none
 | n :: t=>if t.head?.map (fun u=>u.2.1)=some n.2.1∨(0≤cut∧cut≤n.2.1) then none else some (n.2.2.2,n.2.1)
theorem ZgO {L:List Nd} {cut:Int} {n u:Nd} (h0:L[0]? = some n) (h1:L[1]? = some u) (h:u.2.1=n.2.1):decB L cut=none:=by
 match L,h0,h1 with
 | n' :: u' :: t,h0,h1 =>
  simp at h0 h1;subst h0 h1;unfold decB;simp [h]
theorem Zeq {L:List Nd} {cut:Int} {n:Nd} (h0:L[0]? = some n) {h1:L[1]? = none∨∃ u,L[1]? = some u∧u.2.1≠n.2.1} (a:0≤cut) (b:cut≤n.2.1):decB L cut=none:=by
 match L,h0 with
 | n' :: t,h0 =>
  simp at h0;subst h0;unfold decB;simp [a,b]
theorem Zbb {L:List Nd} {cut:Int} {n:Nd} (h0:L[0]? = some n) {h1:L[1]? = none∨∃ u,L[1]? = some u∧u.2.1≠n.2.1} (h:¬ (0≤cut∧cut≤n.2.1)):decB L cut=some (n.2.2.2,n.2.1):=by
 match L,h0 with
 | n' :: t,h0 =>
  simp at h0;subst h0;simp only [decB];rw [if_neg];rintro (h2 | h2)
  ·rcases h1 with h1 | ⟨u,hu,hne⟩
   ·cases t with
    | nil=>simp at h2
    | cons v t=>simp at h1
   ·cases t with
    | nil=>simp at h2
    | cons v t=>simp at h2 hu; subst hu; exact hne h2
  ·exact h h2
theorem refDecode_any (N:Nat) (p:Int) (a:Option Addr) (cap:Nat) (l:List (Int×Int)) (hp:Zf (N:Int) p l) (b:Nat) (hb1:1≤b) (hb2:b≤16) (D:Nat) (hD:D≤2) (w:World) (ha:Syms w.heap.size w (.slice a l.length cap) l) :
  Calls Tryz.prog 39 #[.agg #[.int .i64 N,.int .i64 p,.slice a l.length cap],.int .i64 (b:Int),.int .i64 ((D+1:Nat):Int)] w fun e W'=>(decB (ZH N l b D N).1 (ZH N l b D N).2=none∧e=.returned (.tuple #[.slice none 0 0,.int .i64 0,.int .i64 5])∧Below w.heap.size w W')∨∃ ps M,decB (ZH N l b D N).1 (ZH N l b D N).2=some (ps,M)∧∃ pv,e=.returned (.tuple #[pv,.int .i64 M,.int .i64 0])∧Zb .i64 W'.heap.size W' pv ps∧Below w.heap.size w W':=by
 have b1:Below w.heap.size w (w.alloc (.cells #[.int .i64 N,.int .i64 p,.slice a l.length cap] 26)):=(Below.refl w.heap.size w).alloc (Nat.le_refl _) _;have HWK:=refWalk_any N p a cap l hp b hb1 hb2 D hD _ (ha.next b1);have hsome:=(Zao stB (coB N l) N (beginN:Int) D b hb1 N).some;have hwl:=Zdp N l (D:=D) (i:=N) hb1 hb2;have hsome':0<(ZH N l b D N).1.length:=hsome;obtain ⟨L,hL⟩:∃ L,(ZH N l b D N).1=L:=⟨_,rfl⟩;obtain ⟨cu,hcu⟩:∃ cu,(ZH N l b D N).2=cu:=⟨_,rfl⟩;rw [hL] at HWK hwl hsome' ⊢;rw [hcu] at HWK ⊢;obtain ⟨D1,hD1⟩:∃ D1,D+1=D1:=⟨_,rfl⟩;rw [hD1] at HWK ⊢;obtain ⟨m,hm⟩:∃ m,L.length=m:=⟨_,rfl⟩;have HM:Hid (L.length=m):=hm;rw [hm] at hwl hsome';obtain ⟨⟨s0,M,c0,ps⟩,hn0⟩:∃ n,L[0]? = some n:=⟨L[0]'(by omega),by simp⟩;have HN0:Hid (L[0]? = some (s0,M,c0,ps)):=hn0;clear hsome hL hcu hD1 hm hn0 hp ha;go_enter Tryz.func39,Tryz.ntmps39;go_wp2_with fail;refine HWK.mono ?_;rintro e w4 ⟨r4,rfl,hN4,b4⟩;clear HWK;have bb4:=b1.trans (b4.mono b1.size);obtain ⟨ra,rc,e4⟩:=hN4.shape;rw [HM.out] at e4;subst e4;obtain ⟨rb,ro,rfl,_,hc4⟩:=ZaA hN4 HM.out hsome';obtain ⟨pv,hpv,_,k1,_,k3⟩:=hc4 0 _ HN0.out;rw [Nat.zero_mul,Nat.add_zero] at k1 k3;obtain ⟨pa,pc,e5⟩:=hpv.shape;subst e5;have HPH:Hid (Zb .i64 w4.heap.size w4 (.slice pa ps.length pc) ps):=hpv;clear hpv b1 b4 hN4;by_cases hm1:1<m
 ·have dm:decide (1<(m:Int))=true:=decide_eq_true (by omega);have dmN:decide (1<m)=true:=decide_eq_true hm1;obtain ⟨⟨s1,M1,c1,ps1⟩,hn1⟩:∃ n,L[1]? = some n:=⟨L[1]'(by rw [HM.out]; exact hm1),by simp⟩;have HN1:Hid (L[1]? = some (s1,M1,c1,ps1)):=hn1;obtain ⟨_,_,_,q1,_,_⟩:=hc4 1 _ hn1;rw [Nat.one_mul] at q1;clear hc4 hn1;by_cases hmm:M1=M
  ·have de:(M1 == M)=true:=by simp [hmm]
   have HDE:Hid (decB L cu=none):=ZgO HN0.out HN1.out hmm;clear hmm;go_wp2;go_quiet (fail);go_wp2;go_ret3;exact .inl ⟨HDE.out,rfl,Zi bb4 nq⟩
  ·have de:(M1 == M)=false:=by simp [hmm]
   have HS:Hid (L[1]? = none∨∃ u,L[1]? = some u∧u.2.1≠M):=.inr ⟨_,HN1.out,hmm⟩;clear hmm;by_cases hc0:0≤cu
   ·have d0:decide (0≤cu)=true:=decide_eq_true hc0;by_cases hcm:cu≤M
    ·have d1:decide (cu≤M)=true:=decide_eq_true hcm;have HDE:Hid (decB L cu=none):=Zeq (n:=(s0,M,c0,ps)) HN0.out (h1:=HS.out) hc0 hcm;clear hc0 hcm;go_wp2;go_quiet (fail);go_wp2;go_ret3;exact .inl ⟨HDE.out,rfl,Zi bb4 nq⟩
    ·have d1:decide (cu≤M)=false:=decide_eq_false hcm;have HDE:Hid (decB L cu=some (ps,M)):=Zbb (n:=(s0,M,c0,ps)) HN0.out (h1:=HS.out) (fun h=>hcm h.2);clear hc0 hcm;go_wp2;go_quiet (fail);go_wp2;go_quiet (fail);go_wp2;go_ret3;exact .inr ⟨ps,M,HDE.out,_,rfl,HPH.out,Zi (Zi bb4 _) _⟩
   ·have d0:decide (0≤cu)=false:=decide_eq_false hc0;have HDE:Hid (decB L cu=some (ps,M)):=Zbb (n:=(s0,M,c0,ps)) HN0.out (h1:=HS.out) (fun h=>hc0 h.1);clear hc0;go_wp2;go_quiet (fail);go_wp2;go_quiet (fail);go_wp2;go_ret3;exact .inr ⟨ps,M,HDE.out,_,rfl,HPH.out,Zi (Zi bb4 _) _⟩
 ·have dm:decide (1<(m:Int))=false:=decide_eq_false (by omega);have dmN:decide (1<m)=false:=decide_eq_false hm1;have HS:Hid (L[1]? = none∨∃ u,L[1]? = some u∧u.2.1≠M):=.inl (List.getElem?_eq_none (by rw [HM.out]; omega));clear hc4;by_cases hc0:0≤cu
  ·have d0:decide (0≤cu)=true:=decide_eq_true hc0;by_cases hcm:cu≤M
   ·have d1:decide (cu≤M)=true:=decide_eq_true hcm;have HDE:Hid (decB L cu=none):=Zeq (n:=(s0,M,c0,ps)) HN0.out (h1:=HS.out) hc0 hcm;clear hc0 hcm;go_wp2;go_quiet (fail);go_wp2;go_ret3;exact .inl ⟨HDE.out,rfl,Zi bb4 nq⟩
   ·have d1:decide (cu≤M)=false:=decide_eq_false hcm;have HDE:Hid (decB L cu=some (ps,M)):=Zbb (n:=(s0,M,c0,ps)) HN0.out (h1:=HS.out) (fun h=>hcm h.2);clear hc0 hcm;go_wp2;go_quiet (fail);go_wp2;go_quiet (fail);go_wp2;go_ret3;exact .inr ⟨ps,M,HDE.out,_,rfl,HPH.out,Zi (Zi bb4 _) _⟩
  ·have d0:decide (0≤cu)=false:=decide_eq_false hc0;have HDE:Hid (decB L cu=some (ps,M)):=Zbb (n:=(s0,M,c0,ps)) HN0.out (h1:=HS.out) (fun h=>hc0 h.1);clear hc0;go_wp2;go_quiet (fail);go_wp2;go_quiet (fail);go_wp2;go_ret3;exact .inr ⟨ps,M,HDE.out,_,rfl,HPH.out,Zi (Zi bb4 _) _⟩
end Go.Proofs.YtabdnhkdoeibnaaGreatDoor
