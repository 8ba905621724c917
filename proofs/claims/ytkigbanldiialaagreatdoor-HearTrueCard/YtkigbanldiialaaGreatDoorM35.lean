/-
  Blocks that are heard, as numbers: what becomes of one by data. No function of the program is spoken of.
-/
import Derived.Test.YtkigbanldiialaaGreatDoorM22
import Derived.Test.YtkigbanldiialaaGreatDoorM23
import Derived.Test.YtkigbanldiialaaGreatDoorM33
import Derived.Test.YtkigbanldiialaaGreatDoorM34
set_option maxRecDepth 100000
set_option maxHeartbeats 4000000
namespace Go.Proofs.YtkigbanldiialaaGreatDoor
open Go.RowKit
structure Hr where
 hS:Int
 hR:Int
 hN:Int
 hP:Int
 hL:List (Int×Int)
 hD:Bool
 hB:List Int
def Zaw (c:Cfg) (s:Int) (b:List Int):Bool:=decide ((b.length:Int)=c.cB+10) && ZQ b && decide (rdN b≤c.cB.toNat) && decide (errB (c.cB.toNat:Int) (rdS b) (rdM b) (rdX b).length=0) && decide (Zu c.cB.toNat (rdS b) (rdM b) (rdX b)=b) && decide (rdS b=s)
theorem Za4 (c:Cfg) (s:Int) (b:List Int):Zaw c s b=true↔(b.length:Int)=c.cB+10∧ZQ b=true∧Zcm c.cB.toNat b∧rdS b=s:=by
 simp only [Zaw,Bool.and_eq_true,decide_eq_true_eq,Zcm,Zck]
 constructor
 ·rintro ⟨⟨⟨⟨⟨h1,h2⟩,h3⟩,h4⟩,h5⟩,h6⟩;exact ⟨h1,h2,⟨h3,h4,h5⟩,h6⟩
 ·rintro ⟨h1,h2,⟨h3,h4,h5⟩,h6⟩;exact ⟨⟨⟨⟨⟨h1,h2⟩,h3⟩,h4⟩,h5⟩,h6⟩
def okH (c:Cfg) (h:Hr):Prop:=0≤h.hS∧(-1≤h.hR∧h.hR≤255)∧Zc h.hN h.hP h.hL∧h.hN=segsC c∧h.hP=c.cPass∧(h.hR = -1→h.hL=[])∧(h.hD=true→Zaw c h.hS h.hB=true)∧(h.hD=false→h.hB=[])
def newH (c:Cfg) (s:Int):Hr:=⟨s,-1,segsC c,c.cPass,[],false,[]⟩
theorem ZdX {c:Cfg} (h:okC c=true):ZbO (segsC c) c.cPass:=by
 have h1:=Zc9 h;have h2:=((ZT c).1 h).2.2.2.2.2.2.2.1;exact ⟨by omega,by omega,by omega,by omega⟩
theorem Zgx {c:Cfg} (h:okC c=true) {s:Int} (hs:0≤s):okH c (newH c s):=⟨hs,⟨by show (-1:Int)≤-1; omega,by show (-1:Int)≤255; omega⟩,ZbA (ZdX h),rfl,rfl,fun _=>rfl,(fun e=>by cases e),fun _=>rfl⟩
def Zq (h:Hr) (r:Int):List (Int×Int):=if r=h.hR then h.hL else []
def ZaW (h:Hr) (r f:Int) (xs:List Int):List (Int×Int):=Zz h.hN h.hP (Zq h r) f xs
def Zd2 (ps:List Int):List Int:=Zn 4 2 ps (ps.length / 2)
def gotH (c:Cfg) (h:Hr) (r f:Int) (xs:List Int):Option (List Int) :=
 if Zt h.hN h.hP (Zq h r) f xs=true then
  match Zbx h.hN.toNat (ZaW h r f xs) c.cBeam.toNat (c.cDepth-1).toNat with
  | none=>none
  | some ps=>if Zaw c h.hS (Zd2 ps)=true then some (Zd2 ps) else none
 else none
def ZcQ (h:Hr) (r f:Int) (xs:List Int):Hr:=⟨h.hS,r,h.hN,h.hP,ZaW h r f xs,false,h.hB⟩
def Zgy (h:Hr) (r:Int) (b:List Int):Hr:=⟨h.hS,r,h.hN,h.hP,[],true,b⟩
def ZZ (c:Cfg) (h:Hr) (r f:Int) (xs:List Int):Hr×Bool :=
 if h.hD=true then (h,false) else match gotH c h r f xs with
  | none=>(ZcQ h r f xs,false)
  | some b=>(Zgy h r b,true)
theorem Zan {c:Cfg} {h:Hr} (hd:h.hD=true) (r f:Int) (xs:List Int):ZZ c h r f xs=(h,false):=by unfold ZZ; rw [if_pos hd]
theorem Zae {c:Cfg} {h:Hr} (hd:h.hD=false) {r f:Int} {xs:List Int} (hg:gotH c h r f xs=none):ZZ c h r f xs=(ZcQ h r f xs,false):=by unfold ZZ; rw [if_neg (by simp [hd]),hg]
theorem Zao {c:Cfg} {h:Hr} (hd:h.hD=false) {r f:Int} {xs:List Int} {b:List Int} (hg:gotH c h r f xs=some b):ZZ c h r f xs=(Zgy h r b,true):=by unfold ZZ; rw [if_neg (by simp [hd]),hg]
theorem Zfo {c:Cfg} {h:Hr} {r f:Int} {xs b:List Int} (hg:gotH c h r f xs=some b):Zt h.hN h.hP (Zq h r) f xs=true∧∃ ps,Zbx h.hN.toNat (ZaW h r f xs) c.cBeam.toNat (c.cDepth-1).toNat=some ps∧b=Zd2 ps∧Zaw c h.hS b=true:=by
 unfold gotH at hg
 split at hg
 ·rename_i hf
  split at hg
  ·cases hg
  ·rename_i ps hps
   split at hg
   ·rename_i hb
    cases hg
    exact ⟨hf,ps,hps,rfl,hb⟩
   ·cases hg
 ·cases hg
theorem gotH_stale {c:Cfg} {h:Hr} {r f:Int} {xs:List Int} (hf:Zt h.hN h.hP (Zq h r) f xs=false):gotH c h r f xs=none:=by unfold gotH; rw [if_neg (by simp [hf])]
def okX (r f:Int) (xs:List Int):Prop:=(0≤r∧r≤255)∧0≤f∧∀ z∈xs,0≤z∧z≤255
theorem ZY {c:Cfg} {h:Hr} (hk:okH c h) (r:Int):Zc h.hN h.hP (Zq h r):=by
 unfold Zq
 split
 ·exact hk.2.2.1
 ·exact ZbA hk.2.2.1.1
theorem Zf1 {c:Cfg} {h:Hr} (hk:okH c h) {r f:Int} {xs:List Int} (hx:okX r f xs):Zc h.hN h.hP (ZaW h r f xs):=ZaR (ZY hk r) hx.2.1 hx.2.2
theorem Zf2 {c:Cfg} {h:Hr} (hk:okH c h) {r f:Int} {xs:List Int} (hx:okX r f xs):okH c (ZZ c h r f xs).1:=by
 cases hd:h.hD with
 | true=>rw [Zan hd]; exact hk
 | false =>
  cases hg:gotH c h r f xs with
  | none =>
   rw [Zae hd hg];exact ⟨hk.1,⟨by show -1≤r; have:=hx.1; omega,hx.1.2⟩,Zf1 hk hx,hk.2.2.2.1,hk.2.2.2.2.1,(fun e=>by have h1:r = -1:=e; have:=hx.1; omega),(fun e=>by cases e),fun _=>hk.2.2.2.2.2.2.2 hd⟩
  | some b =>
   rw [Zao hd hg];obtain ⟨_,_,_,_,hb⟩:=Zfo hg;exact ⟨hk.1,⟨by show -1≤r; have:=hx.1; omega,hx.1.2⟩,ZbA hk.2.2.1.1,hk.2.2.2.1,hk.2.2.2.2.1,fun _=>rfl,fun _=>hb,(fun e=>by cases e)⟩
theorem Zf3 {c:Cfg} {h:Hr} (r f:Int) (xs:List Int):(ZZ c h r f xs).2=((ZZ c h r f xs).1.hD && !h.hD):=by
 cases hd:h.hD with
 | true=>rw [Zan hd]; simp [hd]
 | false =>
  cases hg:gotH c h r f xs with
  | none=>rw [Zae hd hg]; rfl
  | some b=>rw [Zao hd hg]; rfl
def OwnL (zs:List Int) (l:List (Int×Int)):Prop:=∀ x∈l,x.2=((codeN zs x.1.toNat:Nat):Int)
theorem Zfp {zs:List Int} {n p:Int} {l:List (Int×Int)} {f m:Nat} (h:OwnL zs l):OwnL zs (Zz n p l (f:Int) (ZP zs f m)):=fun x hx=>by
 rcases Zfm hx with hx | ⟨j,v,hv,rfl⟩
 ·exact h x hx
 ·have hj:j<m:=by have:=(List.getElem?_eq_some_iff.1 hv).1; rwa [ZA] at this
  rw [codeL_get hj] at hv
  cases hv
  show ((codeN zs (f+j):Nat):Int)=((codeN zs ((f:Int)+(j:Int)).toNat:Nat):Int)
  rw [show ((f:Int)+(j:Int)).toNat=f+j by omega]
theorem own_heard {zs:List Int} {n p:Int} {l:List (Int×Int)} (hp:Zc n p l) (h:OwnL zs l):∃ os,l=Zp zs os [] (n * p).toNat:=by
 have hM:=hp.1.prod;refine ⟨(List.range (n * p).toNat).map fun k:Nat=>!ZO l (k:Int),?_⟩
 have hout:∀ k,k<(n * p).toNat→hOut ((List.range (n * p).toNat).map fun k:Nat=>!ZO l (k:Int)) k = !ZO l (k:Int):=fun k hk=>by
  unfold hOut;simp [hk]
 refine Zdu hp.2.2 (Zbw _ _ _ _) fun x=>⟨fun hx=>?_,fun hx=>?_⟩
 ·have hs:=hp.2.1 x hx;have hlt:x.1.toNat<(n * p).toNat:=by have:=hs.2.1; have:=hs.1; omega
  have he:((x.1.toNat:Nat):Int)=x.1:=Int.toNat_of_nonneg hs.1;have hh:ZO l ((x.1.toNat:Nat):Int)=true:=(Za1 hp.2.2).2 ⟨x.2,by rw [he]; exact hx⟩;have:=ZcN (zs:=zs) (ts:=[]) (j:=x.1.toNat) (os:=(List.range (n * p).toNat).map fun k:Nat=>!ZO l (k:Int)) (by rw [hout _ hlt,hh]; rfl) hlt;rw [ZcO,he,← h x hx] at this;exact this
 ·obtain ⟨j,hj,ho,rfl⟩:=ZaG hx;rw [hout j hj] at ho;obtain ⟨v,hv⟩:=(Za1 hp.2.2).1 (show ZO l (j:Int)=true by simpa using ho);have:=h _ hv;simp only [Int.toNat_natCast] at this;rw [ZcO,← this];exact hv
theorem Zex {zs:List Int} (bz:∀ z∈zs,0≤z∧z≤255):Zd2 (nibs zs)=zs:=by
 unfold Zd2;rw [Zaj,show 2 * zs.length / 2=zs.length by omega];exact nibs_back bz
theorem told_ownL {zs:List Int} {N b D:Nat} {p:Int} {l:List (Int×Int)} (hN:N=2 * zs.length) (h0:1≤zs.length) (hb:1≤b) (hp:Zc (N:Int) p l) (h:OwnL zs l) {ps:List Int} (ht:Zbx N l b D=some ps):ps=nibs zs:=by
 subst hN;obtain ⟨os,e⟩:=own_heard hp h;obtain ⟨n,t,h1,rfl,h2,h3⟩:=Zew ht;rw [e] at h1 h3;exact (told_own zs os _ D b hb h0 h1 h2 h3).1
structure HearAt (W:World) (h:Hr) (a:Option Addr) (cap:Nat) (b:Option Addr) (bc:Nat):Prop where
 syms:Syms W.heap.size W (.slice a h.hL.length cap) h.hL
 byts:Za .u8 W.heap.size W (.slice b h.hB.length bc) h.hB
 lies:Zgk a h.hL.length cap
 fits:h.hB.length≤bc
 byte:∀ z∈h.hB,0≤z∧z≤255
theorem HearAt.next {W W':World} {h:Hr} {a b:Option Addr} {cap bc:Nat} (H:HearAt W h a cap b bc) (k:Below W.heap.size W W'):HearAt W' h a cap b bc:=⟨H.syms.next k,H.byts.next k,H.lies,H.fits,H.byte⟩
structure OwnHear (base:Nat) (W:World) (h:Hr) (a:Option Addr) (cap:Nat) (b:Option Addr) (bc:Nat):Prop where
 syms:W.ownsRow base 79 2 (.slice a h.hL.length cap) h.hL.length (Zb h.hL)
 byts:W.ownsRow base 5 1 (.slice b h.hB.length bc) h.hB.length (h.hB.map (Value.int .u8))
 byte:∀ z∈h.hB,0≤z∧z≤255
theorem Zcs {w:World} {base e n cap:Nat} {a:Option Addr} {xs:List Value} (h:w.ownsRow base e 1 (.slice a n cap) n xs):n≤cap:=by
 rcases h.2 with ⟨e,e0⟩ | ⟨g,c,cur,e,_,_,hc,_⟩
 ·rw [e0]; exact Nat.zero_le _
 ·cases e; exact hc
theorem OwnHear.at {base:Nat} {W:World} {h:Hr} {a b:Option Addr} {cap bc:Nat} (H:OwnHear base W h a cap b bc):HearAt W h a cap b bc:=⟨ZE H.syms,Zf H.byts,Zfa H.syms,Zcs H.byts,H.byte⟩
theorem OwnHear.next {base n₀:Nat} {W W':World} {h:Hr} {a b:Option Addr} {cap bc:Nat} (H:OwnHear base W h a cap b bc) (k:Below n₀ W W') (hn:W.heap.size≤n₀):OwnHear base W' h a cap b bc:=⟨Zh H.syms k hn,Zo H.byts k hn,H.byte⟩
theorem OwnHear.base {base base':Nat} {W:World} {h:Hr} {a b:Option Addr} {cap bc:Nat} (H:OwnHear base W h a cap b bc) (hb:base'≤base):OwnHear base' W h a cap b bc:=⟨Zr H.syms hb,Z1 H.byts hb,H.byte⟩
theorem Zb3 (base:Nat) (W:World) (c:Cfg) (s:Int):OwnHear base W (newH c s) none 0 none 0:=⟨⟨rfl,.inl ⟨rfl,rfl⟩⟩,⟨rfl,.inl ⟨rfl,rfl⟩⟩,fun z hz=>by cases hz⟩
theorem Zc1 (n p:Int):∀ (xs ys:List Int) (l:List (Int×Int)) (k:Int),Zz n p l k (xs++ys)=Zz n p (Zz n p l k xs) (k+(xs.length:Int)) ys
 | [],ys,l,k=>by simp [Zz]
 | x :: xs,ys,l,k=>by
  rw [List.cons_append,Zz,Zz,Zc1 n p xs]
  congr 1
  rw [List.length_cons]
  omega
theorem Zct (n p:Int):∀ (xs ys:List Int) (l:List (Int×Int)) (k:Int),Zt n p l k (xs++ys)=(Zt n p l k xs || Zt n p (Zz n p l k xs) (k+(xs.length:Int)) ys)
 | [],ys,l,k=>by simp [Zt,Zz]
 | x :: xs,ys,l,k=>by
  rw [List.cons_append,Zt,Zt,Zz,Zct n p xs,Bool.or_assoc]
  congr 3
  rw [List.length_cons]
  omega
theorem puts_step (n p:Int) (l:List (Int×Int)) (f:Int) {xs:List Int} {i:Nat} {x:Int} (hx:xs[i]? = some x):Zz n p l f (xs.take (i+1))=putN n p (Zz n p l f (xs.take i)) (f+(i:Int)) x∧Zt n p l f (xs.take (i+1))=(Zt n p l f (xs.take i) || Zaz n p (Zz n p l f (xs.take i)) (f+(i:Int))):=by
 have hl:i<xs.length:=(List.getElem?_eq_some_iff.1 hx).1;have ht:(xs.take i).length=i:=by rw [List.length_take]; omega
 rw [List.take_add_one,hx,Option.toList_some,ZcP,ZdV,ht];exact ⟨rfl,rfl⟩
theorem puts_upto {n p:Int} {l:List (Int×Int)} {f:Int} {xs:List Int} {i:Nat} (h:Zc n p l) (hf:0≤f) (hx:∀ z∈xs,0≤z∧z≤255) (hi:i≤xs.length) (hb:n * p≤f+(i:Int)):Zz n p l f xs=Zz n p l f (xs.take i)∧Zt n p l f xs=Zt n p l f (xs.take i):=by
 have ht:(xs.take i).length=i:=by rw [List.length_take]; omega
 have hs:=Zev (n:=n) (p:=p) (xs:=xs.drop i) (l:=Zz n p l f (xs.take i)) (k:=f+(i:Int)) (ZaR h hf (fun z hz=>hx z (List.mem_of_mem_take hz))) (fun j _=>.inl (by omega));have e1:=Zc1 n p (xs.take i) (xs.drop i) l f;have e2:=Zct n p (xs.take i) (xs.drop i) l f;rw [List.take_append_drop,ht] at e1 e2;rw [e1,e2,hs.1,hs.2,Bool.or_false];exact ⟨rfl,rfl⟩
theorem ZbM {W:World} {base k:Nat} {e:TypeId} {v:Value} {xs:List Value} (h:W.ownsRow base e 1 v k xs):∃ a c,v=.slice a k c:=by
 rcases h.2 with ⟨rfl,rfl⟩ | ⟨g,cap,cur,rfl,_⟩
 ·exact ⟨_,_,rfl⟩
 ·exact ⟨_,_,rfl⟩
theorem Zcu {W:World} {base k:Nat} {e:TypeId} {v:Value} {xs:List Value} (h:W.ownsRow base e 2 v k xs):∃ a c,v=.slice a k c:=by
 rcases h.2 with ⟨rfl,rfl⟩ | ⟨g,cap,cur,rfl,_⟩
 ·exact ⟨_,_,rfl⟩
 ·exact ⟨_,_,rfl⟩
theorem Ze {W V:World} {n:Nat} (h:Below n W V) {D:Nat} (hD:n≤D) (a b c d e f g:Value):Below n W (((((((V.setCell ⟨D,0,none⟩ a).setCell ⟨D,1,none⟩ b).setCell ⟨D,2,none⟩ c).setCell ⟨D,3,none⟩ d).setCell ⟨D,4,none⟩ e).setCell ⟨D,5,none⟩ f).setCell ⟨D,6,none⟩ g):=((((((h.setCell (p:=⟨D,0,none⟩) hD a).setCell (p:=⟨D,1,none⟩) hD b).setCell (p:=⟨D,2,none⟩) hD c).setCell (p:=⟨D,3,none⟩) hD d).setCell (p:=⟨D,4,none⟩) hD e).setCell (p:=⟨D,5,none⟩) hD f).setCell (p:=⟨D,6,none⟩) hD g
theorem Zg {w:World} {base size:Nat} {t:TypeId} {v:Value} {n:Nat} {xs:List Value} (h:w.ownsRow base t size v n xs) {D:Nat} (hD:D<base) (a b c d e f g:Value):(((((((w.setCell ⟨D,0,none⟩ a).setCell ⟨D,1,none⟩ b).setCell ⟨D,2,none⟩ c).setCell ⟨D,3,none⟩ d).setCell ⟨D,4,none⟩ e).setCell ⟨D,5,none⟩ f).setCell ⟨D,6,none⟩ g).ownsRow base t size v n xs:=ownsRow_setCell_below (ownsRow_setCell_below (ownsRow_setCell_below (ownsRow_setCell_below (ownsRow_setCell_below (ownsRow_setCell_below (ownsRow_setCell_below h (a:=⟨D,0,none⟩) hD a) (a:=⟨D,1,none⟩) hD b) (a:=⟨D,2,none⟩) hD c) (a:=⟨D,3,none⟩) hD d) (a:=⟨D,4,none⟩) hD e) (a:=⟨D,5,none⟩) hD f) (a:=⟨D,6,none⟩) hD g
theorem Box.set7c {W:World} {B:Nat} {t:TypeId} {x0 x1 x2 x3 x4 x5 x6:Value} (h:Box W B t #[x0,x1,x2,x3,x4,x5,x6]) (a b c d e f g:Value):Box (((((((W.setCell ⟨B,0,none⟩ a).setCell ⟨B,1,none⟩ b).setCell ⟨B,2,none⟩ c).setCell ⟨B,3,none⟩ d).setCell ⟨B,4,none⟩ e).setCell ⟨B,5,none⟩ f).setCell ⟨B,6,none⟩ g) B t #[a,b,c,d,e,f,g]:=by
 have q:=((((((h.set 0 a).set 1 b).set 2 c).set 3 d).set 4 e).set 5 f).set 6 g;simp only [sn] at q;exact q
theorem Box.other7c {W:World} {B:Nat} {t:TypeId} {cs:Array Value} (h:Box W B t cs) {D:Nat} (hp:B≠D) (a b c d e f g:Value):Box (((((((W.setCell ⟨D,0,none⟩ a).setCell ⟨D,1,none⟩ b).setCell ⟨D,2,none⟩ c).setCell ⟨D,3,none⟩ d).setCell ⟨D,4,none⟩ e).setCell ⟨D,5,none⟩ f).setCell ⟨D,6,none⟩ g) B t cs:=((((((h.other (p:=⟨D,0,none⟩) hp a).other (p:=⟨D,1,none⟩) hp b).other (p:=⟨D,2,none⟩) hp c).other (p:=⟨D,3,none⟩) hp d).other (p:=⟨D,4,none⟩) hp e).other (p:=⟨D,5,none⟩) hp f).other (p:=⟨D,6,none⟩) hp g
theorem pre2 (w:World) (ca:Array Value) (ta:TypeId) (cb:Array Value) (tb:TypeId):Below w.heap.size w ((w.alloc (.cells ca ta)).alloc (.cells cb tb))∧Box ((w.alloc (.cells ca ta)).alloc (.cells cb tb)) w.heap.size ta ca∧Box ((w.alloc (.cells ca ta)).alloc (.cells cb tb)) (w.heap.size+1) tb cb:=by
 refine ⟨((Below.refl w.heap.size w).alloc (Nat.le_refl _) _).alloc (by simp) _,(Box.new w ta ca).alloc _,?_⟩;have x:=Box.new (w.alloc (.cells ca ta)) tb cb;rwa [show (w.alloc (.cells ca ta)).heap.size=w.heap.size+1 by simp] at x
theorem pre4 (w:World) (ca:Array Value) (ta:TypeId) (cb:Array Value) (tb:TypeId) (cc:Array Value) (tc:TypeId) (cd:Array Value) (td:TypeId):Below w.heap.size w ((((w.alloc (.cells ca ta)).alloc (.cells cb tb)).alloc (.cells cc tc)).alloc (.cells cd td))∧Box ((((w.alloc (.cells ca ta)).alloc (.cells cb tb)).alloc (.cells cc tc)).alloc (.cells cd td)) w.heap.size ta ca∧Box ((((w.alloc (.cells ca ta)).alloc (.cells cb tb)).alloc (.cells cc tc)).alloc (.cells cd td)) (w.heap.size+1) tb cb∧Box ((((w.alloc (.cells ca ta)).alloc (.cells cb tb)).alloc (.cells cc tc)).alloc (.cells cd td)) (w.heap.size+2) tc cc∧Box ((((w.alloc (.cells ca ta)).alloc (.cells cb tb)).alloc (.cells cc tc)).alloc (.cells cd td)) (w.heap.size+3) td cd∧w.heap.size+4≤((((w.alloc (.cells ca ta)).alloc (.cells cb tb)).alloc (.cells cc tc)).alloc (.cells cd td)).heap.size:=by
 refine ⟨((((Below.refl w.heap.size w).alloc (Nat.le_refl _) _).alloc (by simp) _).alloc (by simp; omega) _).alloc (by simp; omega) _,(((Box.new w ta ca).alloc _).alloc _).alloc _,?_,?_,?_,by simp⟩
 ·have x:=((Box.new (w.alloc (.cells ca ta)) tb cb).alloc (.cells cc tc)).alloc (.cells cd td);rwa [show (w.alloc (.cells ca ta)).heap.size=w.heap.size+1 by simp] at x
 ·have x:=(Box.new ((w.alloc (.cells ca ta)).alloc (.cells cb tb)) tc cc).alloc (.cells cd td);rwa [show ((w.alloc (.cells ca ta)).alloc (.cells cb tb)).heap.size=w.heap.size+2 by simp] at x
 ·have x:=Box.new (((w.alloc (.cells ca ta)).alloc (.cells cb tb)).alloc (.cells cc tc)) td cd;rwa [show (((w.alloc (.cells ca ta)).alloc (.cells cb tb)).alloc (.cells cc tc)).heap.size=w.heap.size+3 by simp] at x
theorem blockB_badC {c:Cfg} (hC:okC c=true) {zs:List Int} {e s:Int} (h:badB c.cB zs e):Zaw c s zs=false:=by
 rw [← Bool.not_eq_true,Za4];rintro ⟨h1,h2,h3,_⟩;have hb:=((ZT c).1 hC).1;rcases h with ⟨h,_⟩ | ⟨_,h,_⟩ | ⟨_,_,h,_⟩ | ⟨_,_,_,h,_⟩
 ·rw [(Zbt c.cB).2 (by omega)] at h; cases h
 ·exact h h1
 ·rw [h2] at h; cases h
 ·exact h h3
theorem blockB_goodC {c:Cfg} {zs:List Int} {Z:Nat} {s:Int} (hZ:c.cB=(Z:Int)) (hl:zs.length=Z+10) (hs:ZQ zs=true) (hr:Zcm Z zs):Zaw c s zs=(rdS zs == s):=by
 rw [Bool.eq_iff_iff,Za4,beq_iff_eq];exact ⟨fun h=>h.2.2.2,fun h=>⟨by omega,hs,by rw [hZ]; simpa using hr,h⟩⟩
def rbH (c:Cfg) (h:Hr):Bool:=if h.hD then Zaw c h.hS h.hB else decide (h.hB.length=0)
def rpH (c:Cfg) (h:Hr):Prop:=Zc h.hN h.hP h.hL∧h.hN=segsC c∧h.hP=c.cPass∧(h.hR = -1→h.hL.length=0)
theorem okH_parts {c:Cfg} {h:Hr}:okH c h↔0≤h.hS∧-1≤h.hR∧h.hR≤255∧rpH c h∧rbH c h=true:=by
 unfold okH rpH rbH
 cases h.hD <;> simp only [List.length_eq_zero_iff,if_true,Bool.false_eq_true,if_false,decide_eq_true_eq,true_implies,false_implies] <;> constructor
 ·rintro ⟨a,⟨b,c⟩,d,e,f,g,_,h⟩; exact ⟨a,b,c,⟨d,e,f,g⟩,h⟩
 ·rintro ⟨a,b,c,⟨d,e,f,g⟩,h⟩; exact ⟨a,⟨b,c⟩,d,e,f,g,trivial,h⟩
 ·rintro ⟨a,⟨b,c⟩,d,e,f,g,h,_⟩; exact ⟨a,b,c,⟨d,e,f,g⟩,h⟩
 ·rintro ⟨a,b,c,⟨d,e,f,g⟩,h⟩; exact ⟨a,⟨b,c⟩,d,e,f,g,h,fun e=>by cases e⟩
theorem cloneB_ok (a:Option Addr) (cap:Nat) (zs:List Int) (hl:zs.length≤4096) (w:World) (ha:Za .u8 w.heap.size w (.slice a zs.length cap) zs) :
  Calls Tryz.prog 56 #[.slice a zs.length cap] w fun e W'=>∃ r,e=.returned r∧W'.ownsRow w.heap.size 5 1 r zs.length (zs.map (Value.int .u8))∧Below w.heap.size w W':=by
 have qS:∀ (w:World) (a:Option Addr) (n c n' c':Nat),(binOp .eql 24 (.slice a n c) (.slice none n' c')).run Tryz.prog w=.ok (.bool a.isNone) w:=fun w a n c n' c'=>Lib.run_eql_slice_nil w _ _ a n c n' c' Tryz.underlying24
 cases a with
 | none =>
  have h0:zs=[]:=by
   rcases ha with ⟨_,h⟩ | ⟨b,off,c,e,_⟩
   ·exact h
   ·simp only [Value.slice.injEq] at e; exact absurd e.1 (by simp)
  subst h0;clear ha;go_enter Tryz.func56,Tryz.ntmps56;go_wp2;go_ret;exact ⟨_,rfl,World.ownsRow_nil _ _ _ _,Below.refl _ _⟩
 | some ad =>
  have o0:(w.alloc (.cells #[] 5)).ownsRow w.heap.size 5 1 (.slice (some ⟨w.heap.size,0,none⟩) 0 0) 0 (([]:List Int).map (Value.int .u8)):=World.ownsRow_made w #[] 0 (Nat.le_refl _) (Nat.zero_le _) rfl;have b0:=(Below.refl w.heap.size w).alloc (Nat.le_refl _) (.cells #[] 5);obtain ⟨v3,w3,hr3,ho3,hg3⟩:=ZB (.slice (some ⟨w.heap.size,0,none⟩) 0 0) (.slice (some ad) zs.length cap) 0 w.heap.size _ [] zs 24 (w.alloc (.cells #[] 5)) o0 (ha.below b0) (by simp) (by omega) (by omega);have b3:=b0.trans ((Below.refl w.heap.size _).grown hg3 (by simp) (fun q e=>(o0.lt q e).1));have HR3:Hid _:=hr3;clear hr3 ha o0 hg3;go_enter Tryz.func56,Tryz.ntmps56;go_wp2_with (at_builtin; refine Zd rfl _ _ 24 rfl _ _ rfl rfl _ _ HR3.out ?_);go_ret;refine ⟨_,rfl,?_,b3⟩;simpa using ho3
theorem ZdY (c:Cfg) (hC:okC c=true) (s:Int) (b:Option Addr) (bc:Nat) (zs:List Int) (hl:zs.length≤4096) (hc:zs.length≤bc) (bz:∀ z∈zs,0≤z∧z≤255) (w:World) (hb:Za .u8 w.heap.size w (.slice b zs.length bc) zs) :
  Calls Tryz.prog 60 #[.agg #[.int .i64 c.cB,.int .i64 c.cBeam,.int .i64 c.cDepth,.int .i64 c.cWin,.int .i64 c.cQs,.int .i64 c.cQr,.int .i64 c.cBatch,.int .i64 c.cPass,.int .i64 c.cMsg,.int .i64 c.cSeqs],.int .i64 s,.slice b zs.length bc] w fun e w'=>e=.returned (.bool (Zaw c s zs))∧Below w.heap.size w w':=by
 have b1:=(Below.refl w.heap.size w).alloc (Nat.le_refl _) (.cells #[.int .i64 c.cB,.int .i64 c.cBeam,.int .i64 c.cDepth,.int .i64 c.cWin,.int .i64 c.cQs,.int .i64 c.cQr,.int .i64 c.cBatch,.int .i64 c.cPass,.int .i64 c.cMsg,.int .i64 c.cSeqs] 23);rcases read_cases c.cB zs with ⟨er,he,hbad⟩ | ⟨Z,hZ,hZ1,hZ2,hlz,hs,hr⟩
 ·have HR:=Read_no c.cB b bc zs hl hc bz er hbad (w.alloc (.cells #[.int .i64 c.cB,.int .i64 c.cBeam,.int .i64 c.cDepth,.int .i64 c.cWin,.int .i64 c.cQs,.int .i64 c.cQr,.int .i64 c.cBatch,.int .i64 c.cPass,.int .i64 c.cMsg,.int .i64 c.cSeqs] 23)) (hb.next b1);have d0:(er == 0)=false:=by rw [beq_eq_false_iff_ne]; omega
  rw [blockB_badC hC hbad];clear hbad he hb hC;go_enter Tryz.func60,Tryz.ntmps60;go_wp2_with fail;refine HR.mono ?_;rintro e w2 ⟨rfl,b2⟩;have b3:=b1.trans (b2.mono b1.size);clear b1 b2 HR;go_wp2;go_ret;exact ⟨rfl,b3.alloc b3.size _⟩
 ·have HR:=Read_ok Z hZ1 hZ2 b bc zs hlz hc bz hs hr (w.alloc (.cells #[.int .i64 c.cB,.int .i64 c.cBeam,.int .i64 c.cDepth,.int .i64 c.cWin,.int .i64 c.cQs,.int .i64 c.cQr,.int .i64 c.cBatch,.int .i64 c.cPass,.int .i64 c.cMsg,.int .i64 c.cSeqs] 23)) (hb.next b1);rw [blockB_goodC hZ hlz hs hr];rw [← hZ] at HR;clear hZ hlz hs hr hb hC;go_enter Tryz.func60,Tryz.ntmps60;go_wp2_with fail;refine HR.mono ?_;rintro e w2 ⟨ra,rc,rfl,_,b2⟩;have b3:=b1.trans (b2.mono b1.size);clear b1 b2 HR;go_wp2;go_ret;exact ⟨rfl,b3.alloc b3.size _⟩
theorem isRightBytes_true (c:Cfg) (hC:okC c=true) (h:Hr) (a b:Option Addr) (cap bc:Nat) (hd:h.hD=true) (hb:h.hB.length≤4096) (w:World) (ha:HearAt w h a cap b bc) :
  Calls Tryz.prog 36 #[.agg #[.int .i64 c.cB,.int .i64 c.cBeam,.int .i64 c.cDepth,.int .i64 c.cWin,.int .i64 c.cQs,.int .i64 c.cQr,.int .i64 c.cBatch,.int .i64 c.cPass,.int .i64 c.cMsg,.int .i64 c.cSeqs],.agg #[.int .i64 h.hS,.int .i64 h.hR,.int .i64 h.hN,.int .i64 h.hP,.slice a h.hL.length cap,.bool h.hD,.slice b h.hB.length bc]] w fun e w'=>e=.returned (.bool (rbH c h))∧Below w.heap.size w w':=by
 unfold rbH;rw [hd];obtain ⟨b1,xC,xH⟩:=pre2 w #[.int .i64 c.cB,.int .i64 c.cBeam,.int .i64 c.cDepth,.int .i64 c.cWin,.int .i64 c.cQs,.int .i64 c.cQr,.int .i64 c.cBatch,.int .i64 c.cPass,.int .i64 c.cMsg,.int .i64 c.cSeqs] 23 #[.int .i64 h.hS,.int .i64 h.hR,.int .i64 h.hN,.int .i64 h.hP,.slice a h.hL.length cap,.bool true,.slice b h.hB.length bc] 39;have HI:=ZdY c hC h.hS b bc h.hB hb ha.fits ha.byte _ (ha.next b1).byts;rw [if_pos rfl];clear hd hb ha hC;obtain ⟨k0,k1,k2,k3,k4,k5,k6,k7,k8,k9⟩:=xC.c10;obtain ⟨m0,m1,m2,m3,m4,m5,m6⟩:=xH.c7;go_enter Tryz.func36,Tryz.ntmps36;go_wp2_with fail;refine HI.mono ?_;rintro e w2 ⟨rfl,b2⟩;go_wp2;go_ret;exact ⟨rfl,b1.trans (b2.mono b1.size)⟩
theorem isRightBytes_false (c:Cfg) (_hC:okC c=true) (h:Hr) (a b:Option Addr) (cap bc:Nat) (hd:h.hD=false) (_hb:h.hB.length≤4096) (w:World) (_ha:HearAt w h a cap b bc) :
  Calls Tryz.prog 36 #[.agg #[.int .i64 c.cB,.int .i64 c.cBeam,.int .i64 c.cDepth,.int .i64 c.cWin,.int .i64 c.cQs,.int .i64 c.cQr,.int .i64 c.cBatch,.int .i64 c.cPass,.int .i64 c.cMsg,.int .i64 c.cSeqs],.agg #[.int .i64 h.hS,.int .i64 h.hR,.int .i64 h.hN,.int .i64 h.hP,.slice a h.hL.length cap,.bool h.hD,.slice b h.hB.length bc]] w fun e w'=>e=.returned (.bool (rbH c h))∧Below w.heap.size w w':=by
 unfold rbH;rw [hd];obtain ⟨b1,xC,xH⟩:=pre2 w #[.int .i64 c.cB,.int .i64 c.cBeam,.int .i64 c.cDepth,.int .i64 c.cWin,.int .i64 c.cQs,.int .i64 c.cQr,.int .i64 c.cBatch,.int .i64 c.cPass,.int .i64 c.cMsg,.int .i64 c.cSeqs] 23 #[.int .i64 h.hS,.int .i64 h.hR,.int .i64 h.hN,.int .i64 h.hP,.slice a h.hL.length cap,.bool false,.slice b h.hB.length bc] 39;rw [if_neg (by simp)];clear hd;generalize h.hB.length=nb at *;obtain ⟨m0,m1,m2,m3,m4,m5,m6⟩:=xH.c7;by_cases hz:nb=0
 ·subst hz;go_enter Tryz.func36,Tryz.ntmps36;go_wp2;go_ret;exact ⟨rfl,b1⟩
 ·have d1:((nb:Int) == 0)=false:=by rw [beq_eq_false_iff_ne]; omega
  have d2:(nb == 0)=false:=by rw [beq_eq_false_iff_ne]; exact hz
  rw [decide_eq_false hz];go_enter Tryz.func36,Tryz.ntmps36;go_wp2;go_ret;exact ⟨rfl,b1⟩
theorem isRightBytes_any (c:Cfg) (hC:okC c=true) (h:Hr) (a b:Option Addr) (cap bc:Nat) (hb:h.hB.length≤4096) (w:World) (ha:HearAt w h a cap b bc) :
  Calls Tryz.prog 36 #[.agg #[.int .i64 c.cB,.int .i64 c.cBeam,.int .i64 c.cDepth,.int .i64 c.cWin,.int .i64 c.cQs,.int .i64 c.cQr,.int .i64 c.cBatch,.int .i64 c.cPass,.int .i64 c.cMsg,.int .i64 c.cSeqs],.agg #[.int .i64 h.hS,.int .i64 h.hR,.int .i64 h.hN,.int .i64 h.hP,.slice a h.hL.length cap,.bool h.hD,.slice b h.hB.length bc]] w fun e w'=>e=.returned (.bool (rbH c h))∧Below w.heap.size w w':=by
 cases hd:h.hD with
 | true=>have:=isRightBytes_true c hC h a b cap bc hd hb w ha; rwa [hd] at this
 | false=>have:=isRightBytes_false c hC h a b cap bc hd hb w ha; rwa [hd] at this
theorem isRightPile_d (c:Cfg) (hC:okC c=true) (h:Hr) (a b:Option Addr) (cap bc:Nat) (hl:h.hL.length≤4294967296) (hp:Zc h.hN h.hP h.hL) (h1:h.hN=segsC c) (h2:h.hP=c.cPass) (h3:¬ h.hR = -1) (w:World) (ha:HearAt w h a cap b bc) :
  Calls Tryz.prog 35 #[.agg #[.int .i64 c.cB,.int .i64 c.cBeam,.int .i64 c.cDepth,.int .i64 c.cWin,.int .i64 c.cQs,.int .i64 c.cQr,.int .i64 c.cBatch,.int .i64 c.cPass,.int .i64 c.cMsg,.int .i64 c.cSeqs],.agg #[.int .i64 h.hS,.int .i64 h.hR,.int .i64 h.hN,.int .i64 h.hP,.slice a h.hL.length cap,.bool h.hD,.slice b h.hB.length bc]] w fun e w'=>e=.returned (.bool true)∧Below w.heap.size w w':=by
 obtain ⟨b1,xC,xH⟩:=pre2 w #[.int .i64 c.cB,.int .i64 c.cBeam,.int .i64 c.cDepth,.int .i64 c.cWin,.int .i64 c.cQs,.int .i64 c.cQr,.int .i64 c.cBatch,.int .i64 c.cPass,.int .i64 c.cMsg,.int .i64 c.cSeqs] 23 #[.int .i64 h.hS,.int .i64 h.hR,.int .i64 h.hN,.int .i64 h.hP,.slice a h.hL.length cap,.bool h.hD,.slice b h.hB.length bc] 39;obtain ⟨W1,hW1⟩:∃ W,(w.alloc (.cells #[.int .i64 c.cB,.int .i64 c.cBeam,.int .i64 c.cDepth,.int .i64 c.cWin,.int .i64 c.cQs,.int .i64 c.cQr,.int .i64 c.cBatch,.int .i64 c.cPass,.int .i64 c.cMsg,.int .i64 c.cSeqs] 23)).alloc (.cells #[.int .i64 h.hS,.int .i64 h.hR,.int .i64 h.hN,.int .i64 h.hP,.slice a h.hL.length cap,.bool h.hD,.slice b h.hB.length bc] 39)=W:=⟨_,rfl⟩;have hz1:w.heap.size≤W1.heap.size:=by rw [← hW1]; exact b1.size
 have hltC:w.heap.size<W1.heap.size:=hW1▸xC.lt;have hltH:w.heap.size+1<W1.heap.size:=hW1▸xH.lt;have k0:Hid (W1.cell? ⟨w.heap.size,0,none⟩=some (.int .i64 c.cB)):=hW1▸xC.cell 0 _ rfl;have k1:Hid (W1.cell? ⟨w.heap.size,1,none⟩=some (.int .i64 c.cBeam)):=hW1▸xC.cell 1 _ rfl;have k2:Hid (W1.cell? ⟨w.heap.size,2,none⟩=some (.int .i64 c.cDepth)):=hW1▸xC.cell 2 _ rfl;have k3:Hid (W1.cell? ⟨w.heap.size,3,none⟩=some (.int .i64 c.cWin)):=hW1▸xC.cell 3 _ rfl;have k4:Hid (W1.cell? ⟨w.heap.size,4,none⟩=some (.int .i64 c.cQs)):=hW1▸xC.cell 4 _ rfl;have k5:Hid (W1.cell? ⟨w.heap.size,5,none⟩=some (.int .i64 c.cQr)):=hW1▸xC.cell 5 _ rfl;have k6:Hid (W1.cell? ⟨w.heap.size,6,none⟩=some (.int .i64 c.cBatch)):=hW1▸xC.cell 6 _ rfl;have k7:Hid (W1.cell? ⟨w.heap.size,7,none⟩=some (.int .i64 c.cPass)):=hW1▸xC.cell 7 _ rfl;have k8:Hid (W1.cell? ⟨w.heap.size,8,none⟩=some (.int .i64 c.cMsg)):=hW1▸xC.cell 8 _ rfl;have k9:Hid (W1.cell? ⟨w.heap.size,9,none⟩=some (.int .i64 c.cSeqs)):=hW1▸xC.cell 9 _ rfl;have m0:Hid (W1.cell? ⟨w.heap.size+1,0,none⟩=some (.int .i64 h.hS)):=hW1▸xH.cell 0 _ rfl;have m1:Hid (W1.cell? ⟨w.heap.size+1,1,none⟩=some (.int .i64 h.hR)):=hW1▸xH.cell 1 _ rfl;have m2:Hid (W1.cell? ⟨w.heap.size+1,2,none⟩=some (.int .i64 h.hN)):=hW1▸xH.cell 2 _ rfl;have m3:Hid (W1.cell? ⟨w.heap.size+1,3,none⟩=some (.int .i64 h.hP)):=hW1▸xH.cell 3 _ rfl;have m4:Hid (W1.cell? ⟨w.heap.size+1,4,none⟩=some (.slice a h.hL.length cap)):=hW1▸xH.cell 4 _ rfl;have m5:Hid (W1.cell? ⟨w.heap.size+1,5,none⟩=some (.bool h.hD)):=hW1▸xH.cell 5 _ rfl;have m6:Hid (W1.cell? ⟨w.heap.size+1,6,none⟩=some (.slice b h.hB.length bc)):=hW1▸xH.cell 6 _ rfl;have hA1:HearAt W1 h a cap b bc:=hW1▸ha.next b1;have HPC:Hid (∀ wx:World,Below W1.heap.size W1 wx→Calls Tryz.prog 20 #[.agg #[.int .i64 h.hN,.int .i64 h.hP,.slice a h.hL.length cap]] wx fun e w'=>e=.returned (.int .i64 0)∧Below W1.heap.size W1 w'):=fun wx hw=>(Zai h.hN h.hP a cap h.hL hl hp wx (hA1.next hw).syms).mono fun e w' ⟨h,b⟩=>⟨h,hw.trans (b.mono hw.size)⟩
 have HSG:Hid (∀ wx:World,Below W1.heap.size W1 wx→Calls Tryz.prog 18 #[.agg #[.int .i64 c.cB,.int .i64 c.cBeam,.int .i64 c.cDepth,.int .i64 c.cWin,.int .i64 c.cQs,.int .i64 c.cQr,.int .i64 c.cBatch,.int .i64 c.cPass,.int .i64 c.cMsg,.int .i64 c.cSeqs]] wx fun e w'=>e=.returned (.int .i64 (segsC c))∧Below W1.heap.size W1 w'):=fun wx hw=>by
  have:=ZaP c wx;unfold segsA at this;rw [if_pos hC] at this;exact this.mono fun e w' ⟨h,b⟩=>⟨h,hw.trans (b.mono hw.size)⟩
 have d1:(h.hN == segsC c)=true:=by rw [beq_iff_eq]; exact h1
 clear h1;have d2:(h.hP == c.cPass)=true:=by rw [beq_iff_eq]; exact h2
 clear h2;have d3:(h.hR != -1)=true:=by rw [bne_iff_ne]; exact h3
 clear h3;replace b1:Below w.heap.size w W1:=hW1▸b1;clear xC xH ha hA1 hl hp hC;go_enter Tryz.func35,Tryz.ntmps35;go_upto_region 1 with fail
 try rw [hW1]
 clear hW1;refine wp_region_held_drew (S:=fun w'=>Below W1.heap.size W1 w') (by kernel_rfl) ((Below.refl _ _).drew) (fun hHeld=>?_);refine t0 0 5 hHeld ?_;refine ht 1 6 (v:=?v45) (fun _ hSw=>?y45) hHeld ?_
 case y45=>have q0:=hSw.at m2.out hltH; have q1:=hSw.at m3.out hltH; have q2:=hSw.at m4.out hltH; clear hSw; go_simp; with_reducible rfl
 simp only [sn];refine wpAnyH_ready (rs:=[2]) (by kernel_rfl) (by simp) ?_;refine AllReadyH.cons rfl (fun K hK=>?_) AllReadyH.nil;go_simp;go_wp2_with (go_at_call 20; refine (HPC.out _ (by exact hHeld)).mono ?_; rintro e wb ⟨rfl,b8⟩);refine hK.out _ _ (b8) (fun hHeld=>?_);clear hK K;refine t0 3 8 hHeld ?_;refine t0 4 9 hHeld ?_;refine t0 5 10 hHeld ?_;refine t0 6 11 hHeld ?_;refine t1 7 12 (fun _ hSw=>hSw.at m2.out hltH) hHeld ?_;refine ht 8 13 (v:=?v51) (fun _ hSw=>?y51) hHeld ?_
 case y51=>have q0:=hSw.at k0.out hltC; have q1:=hSw.at k1.out hltC; have q2:=hSw.at k2.out hltC; have q3:=hSw.at k3.out hltC; have q4:=hSw.at k4.out hltC; have q5:=hSw.at k5.out hltC; have q6:=hSw.at k6.out hltC; have q7:=hSw.at k7.out hltC; have q8:=hSw.at k8.out hltC; have q9:=hSw.at k9.out hltC; clear hSw; go_simp; with_reducible rfl
 simp only [sn];refine wpAnyH_ready (rs:=[9]) (by kernel_rfl) (by simp) ?_;refine AllReadyH.cons rfl (fun K hK=>?_) AllReadyH.nil;go_simp;go_wp2_with (go_at_call 18; refine (HSG.out _ (by exact hHeld)).mono ?_; rintro e wb ⟨rfl,b8⟩);refine hK.out _ _ (b8) (fun hHeld=>?_);clear hK K;refine t0 10 15 hHeld ?_;refine t0 11 16 hHeld ?_;refine t0 12 17 hHeld ?_;refine t0 13 18 hHeld ?_;refine t0 14 19 hHeld ?_;refine t1 15 20 (fun _ hSw=>hSw.at m3.out hltH) hHeld ?_;refine t0 16 21 hHeld ?_;refine t1 17 22 (fun _ hSw=>hSw.at k7.out hltC) hHeld ?_;refine t0 18 23 hHeld ?_;refine t0 19 24 hHeld ?_;refine t0 20 25 hHeld ?_;refine t0 21 26 hHeld ?_;refine t1 22 27 (fun _ hSw=>hSw.at m1.out hltH) hHeld ?_;refine t0 23 28 hHeld ?_;refine t0 24 29 hHeld ?_;refine u0 25 30 hHeld ?_;refine u0 26 31 hHeld ?_;refine u0 27 32 hHeld ?_;refine u0 28 33 hHeld ?_;refine u0 29 34 hHeld ?_;refine t0 30 35 hHeld ?_;refine t0 31 36 hHeld ?_;refine wpAnyH_ready (rs:=[32]) (by kernel_rfl) (by simp) ?_;refine AllReadyH.cons rfl (fun K hK=>?_) AllReadyH.nil;go_simp;refine hK.out _ _ hHeld (fun hHeld=>?_);clear hK K;refine wpAnyH_done (by kernel_rfl) ?_ _;go_wp2;go_ret;exact ⟨rfl,b1.trans (hHeld.mono hz1)⟩
theorem isRightPile_e (c:Cfg) (hC:okC c=true) (h:Hr) (a b:Option Addr) (cap bc:Nat) (hl:h.hL.length≤4294967296) (hp:Zc h.hN h.hP h.hL) (h1:h.hN=segsC c) (h2:h.hP=c.cPass) (h3:h.hR = -1) (h4:h.hL.length=0) (w:World) (ha:HearAt w h a cap b bc) :
  Calls Tryz.prog 35 #[.agg #[.int .i64 c.cB,.int .i64 c.cBeam,.int .i64 c.cDepth,.int .i64 c.cWin,.int .i64 c.cQs,.int .i64 c.cQr,.int .i64 c.cBatch,.int .i64 c.cPass,.int .i64 c.cMsg,.int .i64 c.cSeqs],.agg #[.int .i64 h.hS,.int .i64 h.hR,.int .i64 h.hN,.int .i64 h.hP,.slice a h.hL.length cap,.bool h.hD,.slice b h.hB.length bc]] w fun e w'=>e=.returned (.bool true)∧Below w.heap.size w w':=by
 obtain ⟨b1,xC,xH⟩:=pre2 w #[.int .i64 c.cB,.int .i64 c.cBeam,.int .i64 c.cDepth,.int .i64 c.cWin,.int .i64 c.cQs,.int .i64 c.cQr,.int .i64 c.cBatch,.int .i64 c.cPass,.int .i64 c.cMsg,.int .i64 c.cSeqs] 23 #[.int .i64 h.hS,.int .i64 h.hR,.int .i64 h.hN,.int .i64 h.hP,.slice a h.hL.length cap,.bool h.hD,.slice b h.hB.length bc] 39;obtain ⟨W1,hW1⟩:∃ W,(w.alloc (.cells #[.int .i64 c.cB,.int .i64 c.cBeam,.int .i64 c.cDepth,.int .i64 c.cWin,.int .i64 c.cQs,.int .i64 c.cQr,.int .i64 c.cBatch,.int .i64 c.cPass,.int .i64 c.cMsg,.int .i64 c.cSeqs] 23)).alloc (.cells #[.int .i64 h.hS,.int .i64 h.hR,.int .i64 h.hN,.int .i64 h.hP,.slice a h.hL.length cap,.bool h.hD,.slice b h.hB.length bc] 39)=W:=⟨_,rfl⟩;have hz1:w.heap.size≤W1.heap.size:=by rw [← hW1]; exact b1.size
 have hltC:w.heap.size<W1.heap.size:=hW1▸xC.lt;have hltH:w.heap.size+1<W1.heap.size:=hW1▸xH.lt;have k0:Hid (W1.cell? ⟨w.heap.size,0,none⟩=some (.int .i64 c.cB)):=hW1▸xC.cell 0 _ rfl;have k1:Hid (W1.cell? ⟨w.heap.size,1,none⟩=some (.int .i64 c.cBeam)):=hW1▸xC.cell 1 _ rfl;have k2:Hid (W1.cell? ⟨w.heap.size,2,none⟩=some (.int .i64 c.cDepth)):=hW1▸xC.cell 2 _ rfl;have k3:Hid (W1.cell? ⟨w.heap.size,3,none⟩=some (.int .i64 c.cWin)):=hW1▸xC.cell 3 _ rfl;have k4:Hid (W1.cell? ⟨w.heap.size,4,none⟩=some (.int .i64 c.cQs)):=hW1▸xC.cell 4 _ rfl;have k5:Hid (W1.cell? ⟨w.heap.size,5,none⟩=some (.int .i64 c.cQr)):=hW1▸xC.cell 5 _ rfl;have k6:Hid (W1.cell? ⟨w.heap.size,6,none⟩=some (.int .i64 c.cBatch)):=hW1▸xC.cell 6 _ rfl;have k7:Hid (W1.cell? ⟨w.heap.size,7,none⟩=some (.int .i64 c.cPass)):=hW1▸xC.cell 7 _ rfl;have k8:Hid (W1.cell? ⟨w.heap.size,8,none⟩=some (.int .i64 c.cMsg)):=hW1▸xC.cell 8 _ rfl;have k9:Hid (W1.cell? ⟨w.heap.size,9,none⟩=some (.int .i64 c.cSeqs)):=hW1▸xC.cell 9 _ rfl;have m0:Hid (W1.cell? ⟨w.heap.size+1,0,none⟩=some (.int .i64 h.hS)):=hW1▸xH.cell 0 _ rfl;have m1:Hid (W1.cell? ⟨w.heap.size+1,1,none⟩=some (.int .i64 h.hR)):=hW1▸xH.cell 1 _ rfl;have m2:Hid (W1.cell? ⟨w.heap.size+1,2,none⟩=some (.int .i64 h.hN)):=hW1▸xH.cell 2 _ rfl;have m3:Hid (W1.cell? ⟨w.heap.size+1,3,none⟩=some (.int .i64 h.hP)):=hW1▸xH.cell 3 _ rfl;have m4:Hid (W1.cell? ⟨w.heap.size+1,4,none⟩=some (.slice a h.hL.length cap)):=hW1▸xH.cell 4 _ rfl;have m5:Hid (W1.cell? ⟨w.heap.size+1,5,none⟩=some (.bool h.hD)):=hW1▸xH.cell 5 _ rfl;have m6:Hid (W1.cell? ⟨w.heap.size+1,6,none⟩=some (.slice b h.hB.length bc)):=hW1▸xH.cell 6 _ rfl;have hA1:HearAt W1 h a cap b bc:=hW1▸ha.next b1;have HPC:Hid (∀ wx:World,Below W1.heap.size W1 wx→Calls Tryz.prog 20 #[.agg #[.int .i64 h.hN,.int .i64 h.hP,.slice a h.hL.length cap]] wx fun e w'=>e=.returned (.int .i64 0)∧Below W1.heap.size W1 w'):=fun wx hw=>(Zai h.hN h.hP a cap h.hL hl hp wx (hA1.next hw).syms).mono fun e w' ⟨h,b⟩=>⟨h,hw.trans (b.mono hw.size)⟩
 have HSG:Hid (∀ wx:World,Below W1.heap.size W1 wx→Calls Tryz.prog 18 #[.agg #[.int .i64 c.cB,.int .i64 c.cBeam,.int .i64 c.cDepth,.int .i64 c.cWin,.int .i64 c.cQs,.int .i64 c.cQr,.int .i64 c.cBatch,.int .i64 c.cPass,.int .i64 c.cMsg,.int .i64 c.cSeqs]] wx fun e w'=>e=.returned (.int .i64 (segsC c))∧Below W1.heap.size W1 w'):=fun wx hw=>by
  have:=ZaP c wx;unfold segsA at this;rw [if_pos hC] at this;exact this.mono fun e w' ⟨h,b⟩=>⟨h,hw.trans (b.mono hw.size)⟩
 have d1:(h.hN == segsC c)=true:=by rw [beq_iff_eq]; exact h1
 clear h1;have d2:(h.hP == c.cPass)=true:=by rw [beq_iff_eq]; exact h2
 clear h2;have d3:(h.hR != -1)=false:=by rw [bne_eq_false_iff_eq]; exact h3
 clear h3;have d4:((h.hL.length:Int) == 0)=true:=by rw [beq_iff_eq]; omega
 have d5:(h.hL.length == 0)=true:=by rw [beq_iff_eq]; exact h4
 clear h4;replace b1:Below w.heap.size w W1:=hW1▸b1;clear xC xH ha hA1 hl hp hC;go_enter Tryz.func35,Tryz.ntmps35;go_upto_region 1 with fail
 try rw [hW1]
 clear hW1;refine wp_region_held_drew (S:=fun w'=>Below W1.heap.size W1 w') (by kernel_rfl) ((Below.refl _ _).drew) (fun hHeld=>?_);refine t0 0 5 hHeld ?_;refine ht 1 6 (v:=?v70) (fun _ hSw=>?y70) hHeld ?_
 case y70=>have q0:=hSw.at m2.out hltH; have q1:=hSw.at m3.out hltH; have q2:=hSw.at m4.out hltH; clear hSw; go_simp; with_reducible rfl
 simp only [sn];refine wpAnyH_ready (rs:=[2]) (by kernel_rfl) (by simp) ?_;refine AllReadyH.cons rfl (fun K hK=>?_) AllReadyH.nil;go_simp;go_wp2_with (go_at_call 20; refine (HPC.out _ (by exact hHeld)).mono ?_; rintro e wb ⟨rfl,b8⟩);refine hK.out _ _ (b8) (fun hHeld=>?_);clear hK K;refine t0 3 8 hHeld ?_;refine t0 4 9 hHeld ?_;refine t0 5 10 hHeld ?_;refine t0 6 11 hHeld ?_;refine t1 7 12 (fun _ hSw=>hSw.at m2.out hltH) hHeld ?_;refine ht 8 13 (v:=?v76) (fun _ hSw=>?y76) hHeld ?_
 case y76=>have q0:=hSw.at k0.out hltC; have q1:=hSw.at k1.out hltC; have q2:=hSw.at k2.out hltC; have q3:=hSw.at k3.out hltC; have q4:=hSw.at k4.out hltC; have q5:=hSw.at k5.out hltC; have q6:=hSw.at k6.out hltC; have q7:=hSw.at k7.out hltC; have q8:=hSw.at k8.out hltC; have q9:=hSw.at k9.out hltC; clear hSw; go_simp; with_reducible rfl
 simp only [sn];refine wpAnyH_ready (rs:=[9]) (by kernel_rfl) (by simp) ?_;refine AllReadyH.cons rfl (fun K hK=>?_) AllReadyH.nil;go_simp;go_wp2_with (go_at_call 18; refine (HSG.out _ (by exact hHeld)).mono ?_; rintro e wb ⟨rfl,b8⟩);refine hK.out _ _ (b8) (fun hHeld=>?_);clear hK K;refine t0 10 15 hHeld ?_;refine t0 11 16 hHeld ?_;refine t0 12 17 hHeld ?_;refine t0 13 18 hHeld ?_;refine t0 14 19 hHeld ?_;refine t1 15 20 (fun _ hSw=>hSw.at m3.out hltH) hHeld ?_;refine t0 16 21 hHeld ?_;refine t1 17 22 (fun _ hSw=>hSw.at k7.out hltC) hHeld ?_;refine t0 18 23 hHeld ?_;refine t0 19 24 hHeld ?_;refine t0 20 25 hHeld ?_;refine t0 21 26 hHeld ?_;refine t1 22 27 (fun _ hSw=>hSw.at m1.out hltH) hHeld ?_;refine t0 23 28 hHeld ?_;refine t0 24 29 hHeld ?_;refine t0 25 30 hHeld ?_;refine t0 26 31 hHeld ?_;refine t1 27 32 (fun _ hSw=>hSw.at m4.out hltH) hHeld ?_;refine t0 28 33 hHeld ?_;refine t0 29 34 hHeld ?_;refine t0 30 35 hHeld ?_;refine t0 31 36 hHeld ?_;refine wpAnyH_ready (rs:=[32]) (by kernel_rfl) (by simp) ?_;refine AllReadyH.cons rfl (fun K hK=>?_) AllReadyH.nil;go_simp;refine hK.out _ _ hHeld (fun hHeld=>?_);clear hK K;refine wpAnyH_done (by kernel_rfl) ?_ _;go_wp2;go_ret;exact ⟨rfl,b1.trans (hHeld.mono hz1)⟩
theorem isRightPile_yes (c:Cfg) (hC:okC c=true) (h:Hr) (a b:Option Addr) (cap bc:Nat) (hl:h.hL.length≤4294967296) (hr:rpH c h) (w:World) (ha:HearAt w h a cap b bc) :
  Calls Tryz.prog 35 #[.agg #[.int .i64 c.cB,.int .i64 c.cBeam,.int .i64 c.cDepth,.int .i64 c.cWin,.int .i64 c.cQs,.int .i64 c.cQr,.int .i64 c.cBatch,.int .i64 c.cPass,.int .i64 c.cMsg,.int .i64 c.cSeqs],.agg #[.int .i64 h.hS,.int .i64 h.hR,.int .i64 h.hN,.int .i64 h.hP,.slice a h.hL.length cap,.bool h.hD,.slice b h.hB.length bc]] w fun e w'=>e=.returned (.bool true)∧Below w.heap.size w w':=by
 by_cases h3:h.hR = -1
 ·exact isRightPile_e c hC h a b cap bc hl hr.1 hr.2.1 hr.2.2.1 h3 (hr.2.2.2 h3) w ha
 ·exact isRightPile_d c hC h a b cap bc hl hr.1 hr.2.1 hr.2.2.1 h3 w ha
theorem hearCheck_f (c:Cfg) (hC:okC c=true) (h:Hr) (a b:Option Addr) (cap bc:Nat) (hl:h.hL.length≤4294967296) (hb:h.hB.length≤4096) (q0:0≤h.hS) (q1:-1≤h.hR) (q2:h.hR≤255) (hp:rpH c h) (hrb:rbH c h=true) (w:World) (ha:HearAt w h a cap b bc) :
  Calls Tryz.prog 16 #[.agg #[.int .i64 c.cB,.int .i64 c.cBeam,.int .i64 c.cDepth,.int .i64 c.cWin,.int .i64 c.cQs,.int .i64 c.cQr,.int .i64 c.cBatch,.int .i64 c.cPass,.int .i64 c.cMsg,.int .i64 c.cSeqs],.agg #[.int .i64 h.hS,.int .i64 h.hR,.int .i64 h.hN,.int .i64 h.hP,.slice a h.hL.length cap,.bool h.hD,.slice b h.hB.length bc]] w fun e w'=>e=.returned (.int .i64 0)∧Below w.heap.size w w':=by
 obtain ⟨b1,xC,xH⟩:=pre2 w #[.int .i64 c.cB,.int .i64 c.cBeam,.int .i64 c.cDepth,.int .i64 c.cWin,.int .i64 c.cQs,.int .i64 c.cQr,.int .i64 c.cBatch,.int .i64 c.cPass,.int .i64 c.cMsg,.int .i64 c.cSeqs] 23 #[.int .i64 h.hS,.int .i64 h.hR,.int .i64 h.hN,.int .i64 h.hP,.slice a h.hL.length cap,.bool h.hD,.slice b h.hB.length bc] 39;have H1:=Zbb c ((w.alloc (.cells #[.int .i64 c.cB,.int .i64 c.cBeam,.int .i64 c.cDepth,.int .i64 c.cWin,.int .i64 c.cQs,.int .i64 c.cQr,.int .i64 c.cBatch,.int .i64 c.cPass,.int .i64 c.cMsg,.int .i64 c.cSeqs] 23)).alloc (.cells #[.int .i64 h.hS,.int .i64 h.hR,.int .i64 h.hN,.int .i64 h.hP,.slice a h.hL.length cap,.bool h.hD,.slice b h.hB.length bc] 39));unfold Ze0 at H1;rw [if_pos hC] at H1;have HP:Hid (∀ wx:World,HearAt wx h a cap b bc→Calls Tryz.prog 35 #[.agg #[.int .i64 c.cB,.int .i64 c.cBeam,.int .i64 c.cDepth,.int .i64 c.cWin,.int .i64 c.cQs,.int .i64 c.cQr,.int .i64 c.cBatch,.int .i64 c.cPass,.int .i64 c.cMsg,.int .i64 c.cSeqs],.agg #[.int .i64 h.hS,.int .i64 h.hR,.int .i64 h.hN,.int .i64 h.hP,.slice a h.hL.length cap,.bool h.hD,.slice b h.hB.length bc]] wx fun e w'=>e=.returned (.bool true)∧Below wx.heap.size wx w'):=fun wx hx=>isRightPile_yes c hC h a b cap bc hl hp wx hx
 have HB:Hid (∀ wx:World,HearAt wx h a cap b bc→Calls Tryz.prog 36 #[.agg #[.int .i64 c.cB,.int .i64 c.cBeam,.int .i64 c.cDepth,.int .i64 c.cWin,.int .i64 c.cQs,.int .i64 c.cQr,.int .i64 c.cBatch,.int .i64 c.cPass,.int .i64 c.cMsg,.int .i64 c.cSeqs],.agg #[.int .i64 h.hS,.int .i64 h.hR,.int .i64 h.hN,.int .i64 h.hP,.slice a h.hL.length cap,.bool h.hD,.slice b h.hB.length bc]] wx fun e w'=>e=.returned (.bool true)∧Below wx.heap.size wx w'):=fun wx hx=>hrb▸isRightBytes_any c hC h a b cap bc hb wx hx
 have HA:Hid (HearAt ((w.alloc (.cells #[.int .i64 c.cB,.int .i64 c.cBeam,.int .i64 c.cDepth,.int .i64 c.cWin,.int .i64 c.cQs,.int .i64 c.cQr,.int .i64 c.cBatch,.int .i64 c.cPass,.int .i64 c.cMsg,.int .i64 c.cSeqs] 23)).alloc (.cells #[.int .i64 h.hS,.int .i64 h.hR,.int .i64 h.hN,.int .i64 h.hP,.slice a h.hL.length cap,.bool h.hD,.slice b h.hB.length bc] 39)) h a cap b bc):=ha.next b1;have d0:decide (0≤h.hS)=true:=decide_eq_true q0;clear q0;have d1:decide (-1≤h.hR)=true:=decide_eq_true q1;clear q1;have d2:decide (h.hR≤255)=true:=decide_eq_true q2;clear q2;clear ha hl hb hC hp hrb;go_enter Tryz.func16,Tryz.ntmps16;go_wp2_with fail;refine H1.mono ?_;rintro e w2 ⟨rfl,b2⟩;have yC:=xC.next b2;have yH:=xH.next b2;have HA2:Hid (HearAt w2 h a cap b bc):=HA.out.next b2;have b3:=b1.trans (b2.mono b1.size);clear H1 xC xH b1 b2 HA;obtain ⟨k0,k1,k2,k3,k4,k5,k6,k7,k8,k9⟩:=yC.c10;obtain ⟨m0,m1,m2,m3,m4,m5,m6⟩:=yH.c7;go_wp2_with fail;refine (HP.out _ HA2.out).mono ?_;rintro e w4 ⟨rfl,b4⟩;have zC:=yC.next b4;have zH:=yH.next b4;have HA4:Hid (HearAt w4 h a cap b bc):=HA2.out.next b4;have b5:=b3.trans (b4.mono b3.size);clear HP yC yH b3 b4 HA2 k0 k1 k2 k3 k4 k5 k6 k7 k8 k9 m0 m1 m2 m3 m4 m5 m6;obtain ⟨k0,k1,k2,k3,k4,k5,k6,k7,k8,k9⟩:=zC.c10;obtain ⟨m0,m1,m2,m3,m4,m5,m6⟩:=zH.c7;go_wp2_with fail;refine (HB.out _ HA4.out).mono ?_;rintro e w6 ⟨rfl,b6⟩;go_wp2;go_ret;exact ⟨rfl,b5.trans (b6.mono b5.size)⟩
theorem ZaS {c:Cfg} (hC:okC c=true) {h:Hr} (hk:okH c h):h.hL.length≤4294967296∧h.hB.length≤4096:=by
 have h1:=Zap hk.2.2.1;have h2:=hk.2.2.1.1.prod;have h3:=((ZT c).1 hC).1;refine ⟨by omega,?_⟩
 cases hd:h.hD with
 | true=>have:=((Za4 _ _ _).1 (hk.2.2.2.2.2.2.1 hd)).1; omega
 | false=>rw [hk.2.2.2.2.2.2.2 hd]; exact Nat.zero_le _
theorem ZS (c:Cfg) (h:Hr) (hC:okC c=true) (hk:okH c h) (a b:Option Addr) (cap bc:Nat) (w:World) (ha:HearAt w h a cap b bc) :
  Calls Tryz.prog 16 #[.agg #[.int .i64 c.cB,.int .i64 c.cBeam,.int .i64 c.cDepth,.int .i64 c.cWin,.int .i64 c.cQs,.int .i64 c.cQr,.int .i64 c.cBatch,.int .i64 c.cPass,.int .i64 c.cMsg,.int .i64 c.cSeqs],.agg #[.int .i64 h.hS,.int .i64 h.hR,.int .i64 h.hN,.int .i64 h.hP,.slice a h.hL.length cap,.bool h.hD,.slice b h.hB.length bc]] w fun e w'=>e=.returned (.int .i64 0)∧Below w.heap.size w w':=by
 obtain ⟨hl,hb⟩:=ZaS hC hk;obtain ⟨q0,q1,q2,hp,hrb⟩:=okH_parts.1 hk;exact hearCheck_f c hC h a b cap bc hl hb q0 q1 q2 hp hrb w ha
theorem Zey (c:Cfg) (s:Int) (h:okC c=true) (hs:0≤s) (w:World) :
  Calls Tryz.prog 11 #[.agg #[.int .i64 c.cB,.int .i64 c.cBeam,.int .i64 c.cDepth,.int .i64 c.cWin,.int .i64 c.cQs,.int .i64 c.cQr,.int .i64 c.cBatch,.int .i64 c.cPass,.int .i64 c.cMsg,.int .i64 c.cSeqs],.int .i64 s] w fun e W'=>∃ a cap b bc,e=.returned (.tuple #[.agg #[.int .i64 s,.int .i64 (-1),.int .i64 (segsC c),.int .i64 c.cPass,.slice a 0 cap,.bool false,.slice b 0 bc],.int .i64 0])∧OwnHear w.heap.size W' (newH c s) a cap b bc∧Below w.heap.size w W':=by
 obtain ⟨b1,xC,xR⟩:=pre2 w #[.int .i64 c.cB,.int .i64 c.cBeam,.int .i64 c.cDepth,.int .i64 c.cWin,.int .i64 c.cQs,.int .i64 c.cQr,.int .i64 c.cBatch,.int .i64 c.cPass,.int .i64 c.cMsg,.int .i64 c.cSeqs] 23 #[.int .i64 0,.int .i64 0,.int .i64 0,.int .i64 0,.slice none 0 0,.bool false,.slice none 0 0] 39;have H1:=Zbb c ((w.alloc (.cells #[.int .i64 c.cB,.int .i64 c.cBeam,.int .i64 c.cDepth,.int .i64 c.cWin,.int .i64 c.cQs,.int .i64 c.cQr,.int .i64 c.cBatch,.int .i64 c.cPass,.int .i64 c.cMsg,.int .i64 c.cSeqs] 23)).alloc (.cells #[.int .i64 0,.int .i64 0,.int .i64 0,.int .i64 0,.slice none 0 0,.bool false,.slice none 0 0] 39));unfold Ze0 at H1;rw [if_pos h] at H1;have ds:decide (s<0)=false:=decide_eq_false (by omega);have hHd:=ZdX h;have hC:=h;clear h hs;go_enter Tryz.func11,Tryz.ntmps11;go_wp2_with fail;refine H1.mono ?_;rintro e w2 ⟨rfl,b2⟩;have yC:=xC.next b2;have yR:=xR.next b2;have b3:=b1.trans (b2.mono b1.size);clear H1 xC xR b1 b2;obtain ⟨k0,k1,k2,k3,k4,k5,k6,k7,k8,k9⟩:=yC.h10;have hltC:=yC.lt
 have HSG:Hid (∀ wx:World,Below w2.heap.size w2 wx→Calls Tryz.prog 18 #[.agg #[.int .i64 c.cB,.int .i64 c.cBeam,.int .i64 c.cDepth,.int .i64 c.cWin,.int .i64 c.cQs,.int .i64 c.cQr,.int .i64 c.cBatch,.int .i64 c.cPass,.int .i64 c.cMsg,.int .i64 c.cSeqs]] wx fun e w'=>e=.returned (.int .i64 (segsC c))∧Below w2.heap.size w2 w'∧Below wx.heap.size wx w'):=fun wx hw=>by
  have:=ZaP c wx;unfold segsA at this;rw [if_pos hC] at this;exact this.mono fun e w' ⟨h,b⟩=>⟨h,hw.trans (b.mono hw.size),b⟩
 have HPN:Hid (∀ wx:World,Below w2.heap.size w2 wx→Calls Tryz.prog 26 #[.int .i64 (segsC c),.int .i64 c.cPass] wx fun e w'=>e=.returned (.tuple #[.agg #[.int .i64 (segsC c),.int .i64 c.cPass,.slice none 0 0],.int .i64 0])∧Below w2.heap.size w2 w'∧Below wx.heap.size wx w'):=fun wx hw=>(New_ok (segsC c) c.cPass hHd wx).mono fun e w' ⟨h,b⟩=>⟨h,hw.trans (b.mono hw.size),b⟩
 clear yC hC hHd;go_upto_region 6 with fail;have hS:Below w2.heap.size w2 w2.drew:=(Below.refl _ _).drew;refine wp_region_held_drew (S:=fun w'=>Below w2.heap.size w2 w') (by kernel_rfl) (hS) (fun hHeld=>?_);generalize w2.drew=wk0 at *;refine ht 0 19 (v:=?v129) (fun _ hSw=>?y129) hHeld ?_
 case y129=>have q0:=hSw.at k0.out hltC; have q1:=hSw.at k1.out hltC; have q2:=hSw.at k2.out hltC; have q3:=hSw.at k3.out hltC; have q4:=hSw.at k4.out hltC; have q5:=hSw.at k5.out hltC; have q6:=hSw.at k6.out hltC; have q7:=hSw.at k7.out hltC; have q8:=hSw.at k8.out hltC; have q9:=hSw.at k9.out hltC; clear hSw; go_simp; with_reducible rfl
 simp only [sn];refine t0 2 21 hHeld ?_;refine t1 3 22 (fun _ hSw=>hSw.at k7.out hltC) hHeld ?_;refine wpAnyH_ready (rs:=[1,8]) (by kernel_rfl) (by simp) ?_;refine AllReadyH.cons rfl (fun K hK=>?_) ?_
 ·go_simp;go_wp2_with (go_at_call 18; refine (HSG.out _ (by exact hS)).mono ?_; rintro e wk1 ⟨rfl,b8,b7⟩);replace hS:=b8;clear b8 b7;refine hK.out _ _ (hS) (fun hHeld=>?_);clear hK K;refine wpAnyH_ready (rs:=[4,8]) (by kernel_rfl) (by simp) ?_;refine AllReadyH.cons rfl (fun K hK=>?_) ?_
  ·go_simp;go_wp2_with (go_at_call 26; refine (HPN.out _ (by exact hS)).mono ?_; rintro e wk2 ⟨rfl,b8,b7⟩);replace hS:=b8;clear b8 b7;refine hK.out _ _ (hS) (fun hHeld=>?_);clear hK K;refine t0 5 18 hHeld ?_;refine t0 6 24 hHeld ?_;refine t0 7 25 hHeld ?_;refine wpAnyH_ready (rs:=[8]) (by kernel_rfl) (by simp) ?_;refine AllReadyH.cons rfl (fun K hK=>?_) AllReadyH.nil;go_simp;have x7:=Box.new wk2 37 #[.int .i64 0,.int .i64 0,.slice none 0 0];have hn7:w2.heap.size≤wk2.heap.size:=hS.size;replace hS:=hS.alloc hS.size (.cells #[.int .i64 0,.int .i64 0,.slice none 0 0] 37);generalize wk2.alloc (.cells #[.int .i64 0,.int .i64 0,.slice none 0 0] 37)=wk3 at *;refine hK.out _ _ (hS) (fun hHeld=>?_);clear hK K;refine wpAnyH_ready (rs:=[9]) (by kernel_rfl) (by simp) ?_;refine AllReadyH.cons rfl (fun K hK=>?_) AllReadyH.nil;obtain ⟨y0,y1,y2⟩:=x7.c3;obtain ⟨u0,u1,u2⟩:=x7.f3;have hltq:=x7.lt;go_simp;replace x7:=x7.set3 (.int .i64 (segsC c)) (.int .i64 c.cPass) (.slice none 0 0);replace hS:=((hS.setCell (p:=⟨wk2.heap.size,0,none⟩) hn7 (.int .i64 (segsC c))).setCell (p:=⟨wk2.heap.size,1,none⟩) hn7 (.int .i64 c.cPass)).setCell (p:=⟨wk2.heap.size,2,none⟩) hn7 (.slice none 0 0);clear y0 y1 y2 u0 u1 u2 hltq;generalize ((wk3.setCell ⟨wk2.heap.size,0,none⟩ (.int .i64 (segsC c))).setCell ⟨wk2.heap.size,1,none⟩ (.int .i64 c.cPass)).setCell ⟨wk2.heap.size,2,none⟩ (.slice none 0 0)=wk4 at *;refine hK.out _ _ (hS) (fun hHeld=>?_);clear hK K;refine wpAnyH_ready (rs:=[10]) (by kernel_rfl) (by simp) ?_;refine AllReadyH.cons rfl (fun K hK=>?_) AllReadyH.nil;go_simp;refine hK.out _ _ hHeld (fun hHeld=>?_);clear hK K;refine wpAnyH_done (by kernel_rfl) ?_ _;replace yR:=yR.next hS;obtain ⟨z0,z1,z2,z3,z4,z5,z6⟩:=yR.c7;obtain ⟨g0,g1,g2,g3,g4,g5,g6⟩:=yR.f7;obtain ⟨y0,y1,y2⟩:=x7.c3;have hlt7:=x7.lt;have b9:=b3.trans (hS.mono b3.size);go_wp2;exact bodyPost_ret (v:=.tuple #[.agg #[.int .i64 s,.int .i64 (-1),.int .i64 (segsC c),.int .i64 c.cPass,.slice none 0 0,.bool false,.slice none 0 0],.int .i64 0]) (by simp [results,Tryz.results11,go_sem,z0,z1,z2,z3,z4,z5,z6]) rfl ⟨none,0,none,0,rfl,Zb3 _ _ c s,Ze b9 (by omega) (.int .i64 s) (.int .i64 (-1)) (.int .i64 (segsC c)) (.int .i64 c.cPass) (.slice none 0 0) (.bool false) (.slice none 0 0)⟩
  refine AllReadyH.cons rfl (fun K hK=>?_) ?_
  ·go_simp;have x7:=Box.new wk1 37 #[.int .i64 0,.int .i64 0,.slice none 0 0];have hn7:w2.heap.size≤wk1.heap.size:=hS.size;replace hS:=hS.alloc hS.size (.cells #[.int .i64 0,.int .i64 0,.slice none 0 0] 37);generalize wk1.alloc (.cells #[.int .i64 0,.int .i64 0,.slice none 0 0] 37)=wk2 at *;refine hK.out _ _ (hS) (fun hHeld=>?_);clear hK K;refine wpAnyH_ready (rs:=[4]) (by kernel_rfl) (by simp) ?_;refine AllReadyH.cons rfl (fun K hK=>?_) AllReadyH.nil;go_simp;go_wp2_with (go_at_call 26; refine (HPN.out _ (by exact hS)).mono ?_; rintro e wk3 ⟨rfl,b8,b7⟩);replace x7:=x7.next b7;replace hS:=b8;clear b8 b7;refine hK.out _ _ (hS) (fun hHeld=>?_);clear hK K;refine t0 5 18 hHeld ?_;refine t0 6 24 hHeld ?_;refine t0 7 25 hHeld ?_;refine wpAnyH_ready (rs:=[9]) (by kernel_rfl) (by simp) ?_;refine AllReadyH.cons rfl (fun K hK=>?_) AllReadyH.nil;obtain ⟨y0,y1,y2⟩:=x7.c3;obtain ⟨u0,u1,u2⟩:=x7.f3;have hltq:=x7.lt;go_simp;replace x7:=x7.set3 (.int .i64 (segsC c)) (.int .i64 c.cPass) (.slice none 0 0);replace hS:=((hS.setCell (p:=⟨wk1.heap.size,0,none⟩) hn7 (.int .i64 (segsC c))).setCell (p:=⟨wk1.heap.size,1,none⟩) hn7 (.int .i64 c.cPass)).setCell (p:=⟨wk1.heap.size,2,none⟩) hn7 (.slice none 0 0);clear y0 y1 y2 u0 u1 u2 hltq;generalize ((wk3.setCell ⟨wk1.heap.size,0,none⟩ (.int .i64 (segsC c))).setCell ⟨wk1.heap.size,1,none⟩ (.int .i64 c.cPass)).setCell ⟨wk1.heap.size,2,none⟩ (.slice none 0 0)=wk4 at *;refine hK.out _ _ (hS) (fun hHeld=>?_);clear hK K;refine wpAnyH_ready (rs:=[10]) (by kernel_rfl) (by simp) ?_;refine AllReadyH.cons rfl (fun K hK=>?_) AllReadyH.nil;go_simp;refine hK.out _ _ hHeld (fun hHeld=>?_);clear hK K;refine wpAnyH_done (by kernel_rfl) ?_ _;replace yR:=yR.next hS;obtain ⟨z0,z1,z2,z3,z4,z5,z6⟩:=yR.c7;obtain ⟨g0,g1,g2,g3,g4,g5,g6⟩:=yR.f7;obtain ⟨y0,y1,y2⟩:=x7.c3;have hlt7:=x7.lt;have b9:=b3.trans (hS.mono b3.size);go_wp2;exact bodyPost_ret (v:=.tuple #[.agg #[.int .i64 s,.int .i64 (-1),.int .i64 (segsC c),.int .i64 c.cPass,.slice none 0 0,.bool false,.slice none 0 0],.int .i64 0]) (by simp [results,Tryz.results11,go_sem,z0,z1,z2,z3,z4,z5,z6]) rfl ⟨none,0,none,0,rfl,Zb3 _ _ c s,Ze b9 (by omega) (.int .i64 s) (.int .i64 (-1)) (.int .i64 (segsC c)) (.int .i64 c.cPass) (.slice none 0 0) (.bool false) (.slice none 0 0)⟩
  exact AllReadyH.nil
 refine AllReadyH.cons rfl (fun K hK=>?_) ?_
 ·go_simp;have x7:=Box.new wk0 37 #[.int .i64 0,.int .i64 0,.slice none 0 0];have hn7:w2.heap.size≤wk0.heap.size:=hS.size;replace hS:=hS.alloc hS.size (.cells #[.int .i64 0,.int .i64 0,.slice none 0 0] 37);generalize wk0.alloc (.cells #[.int .i64 0,.int .i64 0,.slice none 0 0] 37)=wk1 at *;refine hK.out _ _ (hS) (fun hHeld=>?_);clear hK K;refine wpAnyH_ready (rs:=[1]) (by kernel_rfl) (by simp) ?_;refine AllReadyH.cons rfl (fun K hK=>?_) AllReadyH.nil;go_simp;go_wp2_with (go_at_call 18; refine (HSG.out _ (by exact hS)).mono ?_; rintro e wk2 ⟨rfl,b8,b7⟩);replace x7:=x7.next b7;replace hS:=b8;clear b8 b7;refine hK.out _ _ (hS) (fun hHeld=>?_);clear hK K;refine wpAnyH_ready (rs:=[4]) (by kernel_rfl) (by simp) ?_;refine AllReadyH.cons rfl (fun K hK=>?_) AllReadyH.nil;go_simp;go_wp2_with (go_at_call 26; refine (HPN.out _ (by exact hS)).mono ?_; rintro e wk3 ⟨rfl,b8,b7⟩);replace x7:=x7.next b7;replace hS:=b8;clear b8 b7;refine hK.out _ _ (hS) (fun hHeld=>?_);clear hK K;refine t0 5 18 hHeld ?_;refine t0 6 24 hHeld ?_;refine t0 7 25 hHeld ?_;refine wpAnyH_ready (rs:=[9]) (by kernel_rfl) (by simp) ?_;refine AllReadyH.cons rfl (fun K hK=>?_) AllReadyH.nil;obtain ⟨y0,y1,y2⟩:=x7.c3;obtain ⟨u0,u1,u2⟩:=x7.f3;have hltq:=x7.lt;go_simp;replace x7:=x7.set3 (.int .i64 (segsC c)) (.int .i64 c.cPass) (.slice none 0 0);replace hS:=((hS.setCell (p:=⟨wk0.heap.size,0,none⟩) hn7 (.int .i64 (segsC c))).setCell (p:=⟨wk0.heap.size,1,none⟩) hn7 (.int .i64 c.cPass)).setCell (p:=⟨wk0.heap.size,2,none⟩) hn7 (.slice none 0 0);clear y0 y1 y2 u0 u1 u2 hltq;generalize ((wk3.setCell ⟨wk0.heap.size,0,none⟩ (.int .i64 (segsC c))).setCell ⟨wk0.heap.size,1,none⟩ (.int .i64 c.cPass)).setCell ⟨wk0.heap.size,2,none⟩ (.slice none 0 0)=wk4 at *;refine hK.out _ _ (hS) (fun hHeld=>?_);clear hK K;refine wpAnyH_ready (rs:=[10]) (by kernel_rfl) (by simp) ?_;refine AllReadyH.cons rfl (fun K hK=>?_) AllReadyH.nil;go_simp;refine hK.out _ _ hHeld (fun hHeld=>?_);clear hK K;refine wpAnyH_done (by kernel_rfl) ?_ _;replace yR:=yR.next hS;obtain ⟨z0,z1,z2,z3,z4,z5,z6⟩:=yR.c7;obtain ⟨g0,g1,g2,g3,g4,g5,g6⟩:=yR.f7;obtain ⟨y0,y1,y2⟩:=x7.c3;have hlt7:=x7.lt;have b9:=b3.trans (hS.mono b3.size);go_wp2;exact bodyPost_ret (v:=.tuple #[.agg #[.int .i64 s,.int .i64 (-1),.int .i64 (segsC c),.int .i64 c.cPass,.slice none 0 0,.bool false,.slice none 0 0],.int .i64 0]) (by simp [results,Tryz.results11,go_sem,z0,z1,z2,z3,z4,z5,z6]) rfl ⟨none,0,none,0,rfl,Zb3 _ _ c s,Ze b9 (by omega) (.int .i64 s) (.int .i64 (-1)) (.int .i64 (segsC c)) (.int .i64 c.cPass) (.slice none 0 0) (.bool false) (.slice none 0 0)⟩
 exact AllReadyH.nil
theorem Zez {n p:Int} {zs:List Int} {at_:Nat}:∀ {k:Nat},((at_+k:Nat):Int)≤n * p→Zz n p (Zp zs [] [] at_) (at_:Int) (ZP zs at_ k)=Zp zs [] [] (at_+k)
 | 0,_=>rfl
 | k+1,h=>by
  rw [Zer,ZcP,Zez (k:=k) (by omega),ZA,show ((at_:Int)+(k:Int))=((at_+k:Nat):Int) by omega,← ZcO]
  exact heardL_put rfl (by omega)
theorem heard_fresh {n p:Int} {zs:List Int} {at_:Nat} (hp:Zc n p (Zp zs [] [] at_)) (h:(at_:Int)<n * p):Zaz n p (Zp zs [] [] at_) (at_:Int)=true:=by
 rw [← Bool.not_eq_false,ZdW hp];rintro (h1 | ⟨v,hv⟩)
 ·omega
 ·have:=ZdT _ hv;simp at this
theorem puts_fresh {n p:Int} {zs:List Int} {at_ k:Nat} (hp:Zc n p (Zp zs [] [] at_)) (h:(at_:Int)<n * p) (hk:0<k):Zt n p (Zp zs [] [] at_) (at_:Int) (ZP zs at_ k)=true:=by
 cases hc:ZP zs at_ k with
 | nil=>have:=ZA zs at_ k; rw [hc] at this; simp at this; omega
 | cons x xs=>rw [Zt,heard_fresh hp h,Bool.true_or]
theorem told_fourL {zs:List Int} {N b D C:Nat} (hN:N=2 * zs.length) (h0:1≤zs.length) (hn:N<65) (hb:1≤b) (hC:4 * N≤C):Zbx N (Zp zs [] [] C) b D=some (nibs zs):=by
 subst hN;obtain ⟨n,t,h1,h2,_,h4,h5⟩:=told_four zs C D b hb h0 hn hC;rw [← h2];exact toldL_of h1 h4 h5
def within (a b k:Int):Nat→Nat
 | 0=>0
 | m+1=>within a b k m+(if a≤k+(m:Int)∧k+(m:Int)<b then 1 else 0)
def OwnH (zs:List Int) (h:Hr):Prop:=(h.hD=true→h.hB=zs)∧OwnL zs h.hL
theorem ownH_new (c:Cfg) (s:Int) (zs:List Int):OwnH zs (newH c s):=⟨(fun e=>by cases e),fun x hx=>by cases hx⟩
theorem Zfq {zs:List Int} {h:Hr} (hw:OwnH zs h) (r:Int):OwnL zs (Zq h r):=by
 unfold Zq
 split
 ·exact hw.2
 ·intro x hx; cases hx
theorem Zf4 {zs:List Int} {r:Int} (hr:0≤r∧r≤255) (f m:Nat):okX r (f:Int) (ZP zs f m):=⟨hr,by omega,Zdd zs f m⟩
theorem Zf5 {c:Cfg} {zs:List Int} (hl:(zs.length:Int)=c.cB+10):(segsC c).toNat=2 * zs.length:=by
 unfold segsC;omega
theorem Zf6 {c:Cfg} (h:okC c=true):1≤c.cBeam.toNat:=by
 have:=((ZT c).1 h).2.1;omega
theorem Zf7 {c:Cfg} {h:Hr} {zs:List Int} (hC:okC c=true) (hk:okH c h) (hl:(zs.length:Int)=c.cB+10) (bz:∀ z∈zs,0≤z∧z≤255) {r:Int} (hr:0≤r∧r≤255) {f m:Nat} (hw:OwnL zs (Zq h r)) {b:List Int} (hg:gotH c h r (f:Int) (ZP zs f m)=some b):b=zs:=by
 obtain ⟨_,ps,hps,rfl,_⟩:=Zfo hg;have hN:h.hN.toNat=2 * zs.length:=by rw [hk.2.2.2.1]; exact Zf5 hl
 have hNi:((h.hN.toNat:Nat):Int)=h.hN:=Int.toNat_of_nonneg (by have:=hk.2.2.1.1.1; omega);have hp:=Zf1 hk (Zf4 (zs:=zs) hr f m);have:=told_ownL (p:=h.hP) hN (by have:=((ZT c).1 hC).1; omega) (Zf6 hC) (by rw [hNi]; exact hp) (Zfp hw) hps;rw [this];exact Zex bz
theorem takeH_own {c:Cfg} {h:Hr} {zs:List Int} (hC:okC c=true) (hk:okH c h) (hl:(zs.length:Int)=c.cB+10) (bz:∀ z∈zs,0≤z∧z≤255) {r:Int} (hr:0≤r∧r≤255) (f m:Nat) (hw:OwnH zs h):OwnH zs (ZZ c h r (f:Int) (ZP zs f m)).1:=by
 cases hd:h.hD with
 | true=>rw [Zan hd]; exact hw
 | false =>
  cases hg:gotH c h r (f:Int) (ZP zs f m) with
  | none =>
   rw [Zae hd hg];exact ⟨(fun e=>by cases e),Zfp (Zfq hw r)⟩
  | some b =>
   rw [Zao hd hg];exact ⟨fun _=>Zf7 hC hk hl bz hr (Zfq hw r) hg,fun x hx=>by cases hx⟩
theorem ZdZ (c:Cfg) (h:Hr) (r f:Int) (xs:List Int):(ZZ c h r f xs).1.hS=h.hS:=by
 cases hd:h.hD with
 | true=>rw [Zan hd]
 | false =>
  cases hg:gotH c h r f xs with
  | none=>rw [Zae hd hg]; rfl
  | some b=>rw [Zao hd hg]; rfl
def ZgB (zs:List Int) (r:Int) (k:Nat) (h:Hr):Prop:=(h.hD=true∧h.hB=zs)∨(h.hD=false∧Zq h r=Zp zs [] [] k)
theorem along_new {zs:List Int} {h:Hr} {r:Int} (hd:h.hD=false) (hr:r≠h.hR):ZgB zs r 0 h:=.inr ⟨hd,by unfold Zq; rw [if_neg hr]; rfl⟩
theorem ZeA {c:Cfg} {h:Hr} {zs:List Int} (hC:okC c=true) (hk:okH c h) (hb:Zaw c h.hS zs=true) (bz:∀ z∈zs,0≤z∧z≤255) {r:Int} (hr:0≤r∧r≤255) {k m:Nat} (hm:0<m) (hkm:((k+m:Nat):Int)≤Za0 c) (ha:ZgB zs r k h) :
  ZgB zs r (k+m) (ZZ c h r (k:Int) (ZP zs k m)).1∧(4 * segsC c≤((k+m:Nat):Int)→(ZZ c h r (k:Int) (ZP zs k m)).1.hD=true):=by
 have hl:=((Za4 _ _ _).1 hb).1;have hnp:h.hN * h.hP=Za0 c:=by rw [hk.2.2.2.1,hk.2.2.2.2.1]; rfl
 rcases ha with ⟨hd,hB⟩ | ⟨hd,hL⟩
 ·rw [Zan hd];exact ⟨.inl ⟨hd,hB⟩,fun _=>hd⟩
 ·have hf:=ZY hk r;rw [hL] at hf
  have hpile:ZaW h r (k:Int) (ZP zs k m)=Zp zs [] [] (k+m):=by
   unfold ZaW;rw [hL];exact Zez (by rw [hnp]; exact hkm)
  have hfr:Zt h.hN h.hP (Zq h r) (k:Int) (ZP zs k m)=true:=by
   rw [hL];exact puts_fresh hf (by rw [hnp]; omega) hm
  have hOL:OwnL zs (Zq h r):=by
   rw [hL];intro x hx;obtain ⟨j,_,_,rfl⟩:=ZaG hx
   show ((hvN zs [] j:Nat):Int)=((codeN zs ((j:Int)).toNat:Nat):Int)
   rw [ZcO];rfl
  cases hg:gotH c h r (k:Int) (ZP zs k m) with
  | some b =>
   rw [Zao hd hg];have:=Zf7 hC hk hl bz hr hOL hg;exact ⟨.inl ⟨rfl,this⟩,fun _=>rfl⟩
  | none =>
   rw [Zae hd hg];refine ⟨.inr ⟨rfl,?_⟩,fun h4=>?_⟩
   ·show (if r=r then ZaW h r (k:Int) (ZP zs k m) else [])=_
    rw [if_pos rfl,hpile]
   ·exfalso;have hN:h.hN.toNat=2 * zs.length:=by rw [hk.2.2.2.1]; exact Zf5 hl
    have hs:=Zc9 hC;have hsN:segsC c=((h.hN.toNat:Nat):Int):=by rw [hk.2.2.2.1]; exact (Int.toNat_of_nonneg (by omega)).symm
    have ht:=told_fourL (b:=c.cBeam.toNat) (D:=(c.cDepth-1).toNat) (C:=k+m) hN (by have:=((ZT c).1 hC).1; omega) (by omega) (Zf6 hC) (by omega);unfold gotH at hg;rw [if_pos hfr,hpile,ht] at hg;simp only at hg;rw [Zex bz,if_pos hb] at hg
    cases hg
theorem Zde {w:World} {base:Nat} {e:TypeId} {size:Nat} {v:Value} {n:Nat} {xs:List Value} (h:w.ownsRow base e size v n xs) {D:Nat} (hD:D<base) (a b c d e' f g:Value):(((((((w.setCell ⟨D,0,none⟩ a).setCell ⟨D,1,none⟩ b).setCell ⟨D,2,none⟩ c).setCell ⟨D,3,none⟩ d).setCell ⟨D,4,none⟩ e').setCell ⟨D,5,none⟩ f).setCell ⟨D,6,none⟩ g).ownsRow base e size v n xs:=ownsRow_setCell_below (ownsRow_setCell_below (ownsRow_setCell_below (ownsRow_setCell_below (ownsRow_setCell_below (ownsRow_setCell_below (ownsRow_setCell_below h (a:=⟨D,0,none⟩) hD a) (a:=⟨D,1,none⟩) hD b) (a:=⟨D,2,none⟩) hD c) (a:=⟨D,3,none⟩) hD d) (a:=⟨D,4,none⟩) hD e') (a:=⟨D,5,none⟩) hD f) (a:=⟨D,6,none⟩) hD g
theorem ZbN {W V:World} {n:Nat} (h:Below n W V) {D:Nat} (hD:n≤D) (a b c d e' f g:Value):Below n W (((((((V.setCell ⟨D,0,none⟩ a).setCell ⟨D,1,none⟩ b).setCell ⟨D,2,none⟩ c).setCell ⟨D,3,none⟩ d).setCell ⟨D,4,none⟩ e').setCell ⟨D,5,none⟩ f).setCell ⟨D,6,none⟩ g):=((((((h.setCell (p:=⟨D,0,none⟩) hD a).setCell (p:=⟨D,1,none⟩) hD b).setCell (p:=⟨D,2,none⟩) hD c).setCell (p:=⟨D,3,none⟩) hD d).setCell (p:=⟨D,4,none⟩) hD e').setCell (p:=⟨D,5,none⟩) hD f).setCell (p:=⟨D,6,none⟩) hD g
end Go.Proofs.YtkigbanldiialaaGreatDoor
