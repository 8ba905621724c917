/-
  Nodes, scores, the walk of a beam, as lists, over whatever step and cost. No program is spoken of.
-/
import Derived.Test.YtabdnhkdoeibnaaGreatDoorM15
import Derived.Laws.BitsAllLaws
set_option maxRecDepth 100000
set_option maxHeartbeats 1000000
namespace Go.Proofs.YtabdnhkdoeibnaaGreatDoor
section
variable (st:Int→Int→Int) (co:Nat→Int→Int) (N:Nat) (s0:Int)
def kid (n:Nd) (k:Int):Nd:=(st n.1 k,n.2.1+co n.2.2.2.length (st n.1 k),0,n.2.2.2++[k])
def root:Nd:=(s0,0,0,[])
def ZeT (P:List Int):Nd:=P.foldl (kid st co) (root s0)
def met (P:List Int):Int:=(ZeT st co s0 P).2.1
def sta (P:List Int):Int:=(ZeT st co s0 P).1
theorem ZeU (P:List Int) (k:Int):ZeT st co s0 (P++[k])=kid st co (ZeT st co s0 P) k:=by unfold ZeT; rw [List.foldl_append]; rfl
theorem Zfz:∀ (P:List Int) (n:Nd),(P.foldl (kid st co) n).2.2.2=n.2.2.2++P
 | [],n=>by simp
 | k :: P,n=>by rw [List.foldl_cons,Zfz P]; simp [kid]
theorem nodeOf_path (P:List Int):(ZeT st co s0 P).2.2.2=P:=by unfold ZeT; rw [Zfz]; simp [root]
theorem Zh7:met st co s0 []=0:=rfl
theorem ZbD (P:List Int) (k:Int):sta st co s0 (P++[k])=st (sta st co s0 P) k:=by unfold sta; rw [ZeU]; rfl
theorem Zb8 (P:List Int) (k:Int):met st co s0 (P++[k])=met st co s0 P+co P.length (st (sta st co s0 P) k):=by
 unfold met sta;rw [ZeU];unfold kid;rw [nodeOf_path]
def ZaF:List Int:=(List.range 16).map fun k:Nat=>(k:Int)
def Nibs (P:List Int):Prop:=∀ k∈P,0≤k∧k<16
theorem Zdk {k:Int}:k∈ZaF↔0≤k∧k<16:=by
 unfold ZaF;rw [List.mem_map]
 constructor
 ·rintro ⟨a,ha,rfl⟩;have:=List.mem_range.1 ha;omega
 ·intro h;exact ⟨k.toNat,List.mem_range.2 (by omega),by omega⟩
theorem nib16_nodup:ZaF.Nodup:=by unfold ZaF; decide
theorem Nibs.snoc {P:List Int} (h:Nibs P) {k:Int} (hk:0≤k∧k<16):Nibs (P++[k]):=by
 intro x hx;rcases List.mem_append.1 hx with h' | h'
 ·exact h x h'
 ·simp at h'; subst h'; exact hk
theorem Nibs.take {P:List Int} (h:Nibs P) (n:Nat):Nibs (P.take n):=fun k hk=>h k (List.mem_of_mem_take hk)
theorem Nibs.append {P Q:List Int} (h:Nibs P) (k:Nibs Q):Nibs (P++Q):=fun x hx=>by
 rcases List.mem_append.1 hx with h' | h'
 ·exact h x h'
 ·exact k x h'
theorem Nibs.right {P Q:List Int} (h:Nibs (P++Q)):Nibs Q:=fun x hx=>h x (List.mem_append.2 (.inr hx))
theorem Nibs.left {P Q:List Int} (h:Nibs (P++Q)):Nibs P:=fun x hx=>h x (List.mem_append.2 (.inl hx))
theorem Zel (hco:∀ i s,0≤co i s) (P:List Int):∀ R:List Int,met st co s0 P≤met st co s0 (P++R):=by
 intro R
 induction R generalizing P with
 | nil=>rw [List.append_nil]; exact Int.le_refl _
 | cons k R ih =>
  have h1:=ih (P++[k]);rw [List.append_assoc] at h1;have h2:=Zb8 st co s0 P k;have h3:=hco P.length (st (sta st co s0 P) k);simp only [List.cons_append,List.nil_append] at h1;omega
theorem Zda (hco:∀ i s,0≤co i s) (P:List Int):0≤met st co s0 P:=by
 have:=Zel st co s0 hco [] P;rw [Zh7,List.nil_append] at this;exact this
def Zat (b x:Int):Int:=if b<0∨x<b then x else b
def minF (l:List Int):Int:=l.foldl Zat (-1)
theorem minF_snoc (l:List Int) (x:Int):minF (l++[x])=Zat (minF l) x:=by unfold minF; rw [List.foldl_append]; rfl
theorem ZfA:∀ (l:List Int) (P:Int→Prop) (b:Int),(∀ z,P z→0≤z)→(∀ x∈l,0≤x)→ZaP P b→ZaP (fun z=>P z∨z∈l) (l.foldl Zat b)
 | [],P,b,_,_,hb=>hb.congr fun z=>⟨.inl,fun h=>h.elim id (fun h=>by simp at h)⟩
 | x :: l,P,b,hP,hl,hb=>by
  have hx:0≤x:=hl x (by simp)
  have h1:ZaP (fun z=>P z∨z=x) (Zat b x):=by
   unfold Zat
   split
   ·next h=>exact hb.more hP h
   ·next h =>
    have hge:=hb.ge hP;exact hb.same (by omega) (by omega)
  have h2:=ZfA l (fun z=>P z∨z=x) (Zat b x) (fun z hz=>hz.elim (hP z) (fun h=>by omega)) (fun y hy=>hl y (by simp [hy])) h1;rw [List.foldl_cons];refine h2.congr fun z=>?_
  constructor
  ·rintro ((h | h) | h)
   ·exact .inl h
   ·exact .inr (by simp [h])
   ·exact .inr (by simp [h])
  ·rintro (h | h)
   ·exact .inl (.inl h)
   ·rcases List.mem_cons.1 h with h | h
    ·exact .inl (.inr h)
    ·exact .inr h
theorem minF_least {l:List Int} (hl:∀ x∈l,0≤x):ZaP (fun z=>z∈l) (minF l):=by
 have:=ZfA l (fun _=>False) (-1) (fun z h=>h.elim) hl (.inl ⟨rfl,fun z h=>h⟩);exact this.congr fun z=>⟨fun h=>h.elim (fun h=>h.elim) id,.inr⟩
theorem Zem {l:List Int} (hl:∀ x∈l,0≤x) (h0:l≠[]):minF l∈l∧∀ x∈l,minF l≤x:=by
 rcases minF_least hl with ⟨_,h⟩ | h
 ·cases l with
  | nil=>exact absurd rfl h0
  | cons x l=>exact absurd (by simp) (h x)
 ·exact h
def lst:Nat→Int→Nat→Int→Int
 | 0,_,_,m=>m
 | a+1,s,i,m=>if i=N then m else minF (ZaF.map fun k=>lst a (st s k) (i+1) (m+co i (st s k)))
def scA (a:Nat) (P:List Int):Int:=lst st co N a (sta st co s0 P) P.length (met st co s0 P)
theorem scA_zero (P:List Int):scA st co N s0 0 P=met st co s0 P:=rfl
theorem Zgi (a:Nat) (P:List Int) (h:P.length=N):scA st co N s0 a P=met st co s0 P:=by
 unfold scA
 cases a with
 | zero=>rfl
 | succ a=>simp only [lst]; rw [if_pos h]
theorem scA_succ (a:Nat) (P:List Int) (h:P.length≠N):scA st co N s0 (a+1) P=minF (ZaF.map fun k=>scA st co N s0 a (P++[k])):=by
 unfold scA;simp only [lst];rw [if_neg h]
 congr 1
 refine List.map_congr_left fun k _=>?_
 rw [ZbD,Zb8,List.length_append];rfl
theorem Zgj:ZaF≠[]:=by unfold ZaF; decide
theorem ZdG (hco:∀ i s,0≤co i s):∀ (a:Nat) (P:List Int),P.length≤N →
  (∀ R,Nibs R→R.length=min a (N-P.length)→scA st co N s0 a P≤met st co s0 (P++R))∧∃ R,Nibs R∧R.length=min a (N-P.length)∧scA st co N s0 a P=met st co s0 (P++R)
 | 0,P,hP=>by
  refine ⟨fun R _ hR=>?_,[],fun k hk=>by simp at hk,by simp,by rw [List.append_nil]; rfl⟩
  have:R=[]:=List.length_eq_zero_iff.1 (by rw [hR]; simp)
  rw [this,List.append_nil,scA_zero]
  exact Int.le_refl _
 | a+1,P,hP=>by
  by_cases he:P.length=N
  ·refine ⟨fun R _ hR=>?_,[],fun k hk=>by simp at hk,by simp [he],by rw [List.append_nil,Zgi st co N s0 _ P he]⟩
   have:R=[]:=List.length_eq_zero_iff.1 (by rw [hR,he]; simp)
   rw [this,List.append_nil,Zgi st co N s0 _ P he]
   exact Int.le_refl _
  ·have hlt:P.length<N:=by omega
   have ih:=fun k=>ZdG hco a (P++[k]) (by simp; omega)
   rw [scA_succ st co N s0 a P he]
   have hnn:∀ x∈ZaF.map (fun k=>scA st co N s0 a (P++[k])),0≤x:=by
    intro x hx;obtain ⟨k,_,rfl⟩:=List.mem_map.1 hx;obtain ⟨R,_,_,e⟩:=(ih k).2;rw [e];exact Zda st co s0 hco _
   obtain ⟨hm1,hm2⟩:=Zem hnn (by simp [Zgj])
   constructor
   ·intro R hR hRl
    cases R with
    | nil=>simp at hRl; omega
    | cons k R =>
     have hk:=hR k (by simp);have h1:=hm2 _ (List.mem_map.2 ⟨k,Zdk.2 hk,rfl⟩);have h2:=(ih k).1 R (fun x hx=>hR x (by simp [hx])) (by simp at hRl ⊢; omega);rw [List.append_assoc] at h2;exact Int.le_trans h1 h2
   ·obtain ⟨k,hk,e⟩:=List.mem_map.1 hm1;obtain ⟨R,hR1,hR2,hR3⟩:=(ih k).2;refine ⟨k :: R,?_,by simp at hR2 ⊢; omega,?_⟩
    ·intro x hx;rcases List.mem_cons.1 hx with rfl | hx
     ·exact Zdk.1 hk
     ·exact hR1 x hx
    ·rw [← e,hR3,List.append_assoc];rfl
theorem Zis (hco:∀ i s,0≤co i s) (a:Nat) (P:List Int) (hP:P.length≤N):met st co s0 P≤scA st co N s0 a P:=by
 obtain ⟨R,_,_,e⟩:=(ZdG st co N s0 hco a P hP).2;rw [e];exact Zel st co s0 hco P R
theorem Zit (hco:∀ i s,0≤co i s) (a:Nat) (P R:List Int) (hR:Nibs R) (hl:P.length+R.length=N):scA st co N s0 a P≤met st co s0 (P++R):=by
 have h1:=(ZdG st co N s0 hco a P (by omega)).1 (R.take (min a (N-P.length))) (hR.take _) (by rw [List.length_take]; omega);have h2:=Zel st co s0 hco (P++R.take (min a (N-P.length))) (R.drop (min a (N-P.length)));rw [List.append_assoc,List.take_append_drop] at h2;exact Int.le_trans h1 h2
def kidS (a:Nat) (i:Nat) (n:Nd) (k:Int):Nd:=((kid st co n k).1,(kid st co n k).2.1,lst st co N a (kid st co n k).1 (i+1) (kid st co n k).2.1,(kid st co n k).2.2.2)
def Z6 (a:Nat) (i:Nat) (l:List Nd):List Nd:=l.flatMap fun n=>ZaF.map (kidS st co N a i n)
def Zt (b a:Nat):Nat→List Nd×Int
 | 0=>([root s0],-1)
 | i+1=>(ZaZ b (Z6 st co N a i (Zt b a i).1),lmin (Zt b a i).2 (cutK sc b (Z6 st co N a i (Zt b a i).1)))
def IsNd (P:List Int) (n:Nd):Prop:=n.1=sta st co s0 P∧n.2.1=met st co s0 P∧n.2.2.2=P
theorem isNd_root:IsNd st co s0 [] (root s0):=⟨rfl,rfl,rfl⟩
theorem ZeV {a i:Nat} {P:List Int} {n:Nd} (h:IsNd st co s0 P n) (hi:P.length=i) (k:Int):IsNd st co s0 (P++[k]) (kidS st co N a i n k)∧sc (kidS st co N a i n k)=scA st co N s0 a (P++[k]):=by
 obtain ⟨h1,h2,h3⟩:=h;have e1:(kid st co n k).1=sta st co s0 (P++[k]):=by rw [ZbD,← h1]; rfl
 have e2:(kid st co n k).2.1=met st co s0 (P++[k]):=by
  rw [Zb8,← h1,← h2];unfold kid;rw [h3]
 refine ⟨⟨e1,e2,?_⟩,?_⟩
 ·show n.2.2.2++[k]=P++[k]
  rw [h3]
 ·show lst st co N a (kid st co n k).1 (i+1) (kid st co n k).2.1=_
  rw [e1,e2];unfold scA;rw [List.length_append,hi];rfl
theorem ZbW {a i:Nat} {l:List Nd} {c:Nd} (h:c∈Z6 st co N a i l):∃ n∈l,∃ k,(0≤k∧k<16)∧c=kidS st co N a i n k:=by
 unfold Z6 at h;obtain ⟨n,hn,hc⟩:=List.mem_flatMap.1 h;obtain ⟨k,hk,rfl⟩:=List.mem_map.1 hc;exact ⟨n,hn,k,Zdk.1 hk,rfl⟩
theorem ZfB {a i:Nat} {l:List Nd} {n:Nd} (hn:n∈l) {k:Int} (hk:0≤k∧k<16):kidS st co N a i n k∈Z6 st co N a i l:=by
 unfold Z6;exact List.mem_flatMap.2 ⟨n,hn,List.mem_map.2 ⟨k,Zdk.2 hk,rfl⟩⟩
theorem ZaM (a i:Nat):∀ l:List Nd,(Z6 st co N a i l).length=l.length * 16
 | []=>rfl
 | n :: l=>by
  have:=ZaM a i l
  unfold Z6 at this ⊢
  rw [List.flatMap_cons,List.length_append,this,List.length_map,List.length_cons]
  have:ZaF.length=16:=by unfold ZaF; decide
  omega
def ZR (n:Nd):List Int:=n.2.2.2
theorem ZdH (a i:Nat):∀ l:List Nd,(l.map ZR).Nodup→((Z6 st co N a i l).map ZR).Nodup
 | [],_=>by simp [Z6]
 | n :: l,h=>by
  rw [List.map_cons,List.nodup_cons] at h
  have ih:=ZdH a i l h.2
  have e:(Z6 st co N a i (n :: l)).map ZR=(ZaF.map fun k=>ZR n++[k])++(Z6 st co N a i l).map ZR:=by
   unfold Z6;rw [List.flatMap_cons,List.map_append,List.map_map];rfl
  rw [e];refine List.nodup_append.2 ⟨?_,ih,?_⟩
  ·refine List.pairwise_map.2 (nib16_nodup.imp fun hne=>fun e=>hne ?_);have:=List.append_cancel_left e;simpa using this
  ·intro x hx y hy exy;subst exy;obtain ⟨k,_,rfl⟩:=List.mem_map.1 hx;obtain ⟨c,hc,e2⟩:=List.mem_map.1 hy;obtain ⟨n',hn',k',_,rfl⟩:=ZbW st co N hc;have e3:ZR n'++[k']=ZR n++[k]:=e2
   have e4:ZR n'=ZR n:=by
    have:=congrArg List.dropLast e3;simpa using this
   exact h.1 (by rw [← e4]; exact List.mem_map.2 ⟨n',hn',rfl⟩)
theorem Zcp (b:Nat) (l:List Nd):(ZaZ b l++(Za9 sc l).drop b).Perm l:=by
 unfold ZaZ;rw [List.take_append_drop];exact Z7 sc l
theorem Zd3 {b:Nat} {l:List Nd} {x:Nd} (h:x∈ZaZ b l):x∈l:=(Zcp b l).mem_iff.1 (List.mem_append.2 (.inl h))
theorem nodup_kept {b:Nat} {l:List Nd} (h:(l.map ZR).Nodup):((ZaZ b l).map ZR).Nodup:=by
 have h1:=((Zcp b l).map ZR).nodup_iff.2 h;rw [List.map_append] at h1;exact (List.nodup_append.1 h1).1
structure Walked (a b i:Nat) (l:List Nd) (cut:Int):Prop where
 node:∀ n∈l,∃ P,P.length=i∧Nibs P∧IsNd st co s0 P n∧(0<i→sc n=scA st co N s0 a P)
 once:(l.map ZR).Nodup
 rise:Zcl sc l
 some:0<l.length
 most:l.length≤max 1 b
 cut1:-1≤cut
theorem lmin_ge {a c:Int} (h:-1≤a):-1≤lmin a c:=by unfold lmin; split <;> omega
theorem Zao (a b:Nat) (hb:1≤b):∀ i,Walked st co N s0 a b i (Zt st co N s0 b a i).1 (Zt st co N s0 b a i).2
 | 0=>by
  refine ⟨fun n hn=>?_,by simp [Zt],by simp [Zt,Zcl],by simp [Zt],by simp [Zt]; omega,by simp [Zt]⟩
  simp [Zt] at hn
  subst hn
  exact ⟨[],rfl,fun k hk=>by simp at hk,isNd_root st co s0,fun h=>absurd h (by omega)⟩
 | i+1=>by
  have ih:=Zao a b hb i
  refine ⟨fun n hn=>?_,?_,?_,?_,?_,?_⟩
  ·have:=Zd3 hn
   obtain ⟨n',hn',k,hk,rfl⟩:=ZbW st co N this
   obtain ⟨P,hP1,hP2,hP3,_⟩:=ih.node n' hn'
   obtain ⟨h1,h2⟩:=ZeV st co N s0 (a:=a) hP3 hP1 k
   exact ⟨P++[k],by simp [hP1],hP2.snoc hk,h1,fun _=>h2⟩
  ·exact nodup_kept (ZdH st co N a i _ ih.once)
  ·exact (Zcm sc _).take b
  ·show 0<(ZaZ b _).length
   rw [Zgg,ZaM]
   have:=ih.some
   omega
  ·show (ZaZ b _).length≤_
   rw [Zgg]
   omega
  ·exact lmin_ge ih.cut1
theorem ZfC (hco:∀ i s,0≤co i s) (a b:Nat) (hb:1≤b) (P:List Int) (hP:Nibs P) (hl:P.length=N):∀ i,i≤N→(∃ n∈(Zt st co N s0 b a i).1,ZR n=P.take i)∨(0≤(Zt st co N s0 b a i).2∧(Zt st co N s0 b a i).2≤met st co s0 P)
 | 0,_=>.inl ⟨root s0,by simp [Zt],by simp [ZR,root]⟩
 | i+1,hi=>by
  have hW:=Zao st co N s0 a b hb i
  have hlow:∀ c m:Int,0≤m→(Zt st co N s0 b a i).2≤m→0≤(Zt st co N s0 b a i).2→0≤lmin (Zt st co N s0 b a i).2 c∧lmin (Zt st co N s0 b a i).2 c≤m:=fun c m _ h1 h2=>by unfold lmin; split <;> omega
  rcases ZfC hco a b hb P hP hl i (by omega) with ⟨n,hn,hp⟩ | ⟨h1,h2⟩
  ·obtain ⟨k,hk⟩:∃ k,P[i]? = some k:=⟨P[i]'(by omega),by simp⟩
   have hk16:=hP k (List.mem_of_getElem? hk)
   have hc:=ZfB st co N (a:=a) (i:=i) hn hk16
   obtain ⟨Q,hQ1,hQ2,hQ3,_⟩:=hW.node n hn
   have hQP:Q=P.take i:=by rw [← hp]; exact hQ3.2.2.symm
   obtain ⟨e1,e2⟩:=ZeV st co N s0 (a:=a) hQ3 hQ1 k
   have etk:P.take (i+1)=Q++[k]:=by rw [List.take_add_one,hk,hQP]; rfl
   rcases List.mem_append.1 ((Zcp b _).mem_iff.2 hc) with h | h
   ·exact .inl ⟨_,h,by rw [etk]; exact e1.2.2⟩
   ·refine .inr ?_
    have hle:sc (kidS st co N a i n k)≤met st co s0 P:=by
     rw [e2];have:=Zit st co N s0 hco a (Q++[k]) (P.drop (i+1)) (fun x hx=>hP x (List.mem_of_mem_drop hx)) (by simp [hQ1,hl]; omega);rw [← etk] at this ⊢;rwa [List.take_append_drop] at this
    have hcut:=ZcL sc b (Z6 st co N a i (Zt st co N s0 b a i).1);rcases hcut with ⟨_,hno⟩ | ⟨⟨y,hy,ey⟩,hmin⟩
    ·exact absurd ⟨_,h,rfl⟩ (hno (sc (kidS st co N a i n k)))
    ·have h5:=hmin _ ⟨_,h,rfl⟩
     have h6:0≤cutK sc b (Z6 st co N a i (Zt st co N s0 b a i).1):=by
      rw [← ey];obtain ⟨n',hn',k',hk',rfl⟩:=ZbW st co N ((Zcp b _).mem_iff.1 (List.mem_append.2 (.inr hy)));obtain ⟨Q',hQ1',hQ2',hQ3',_⟩:=hW.node n' hn';obtain ⟨_,e2'⟩:=ZeV st co N s0 (a:=a) hQ3' hQ1' k';rw [e2'];exact Int.le_trans (Zda st co s0 hco _) (Zis st co N s0 hco a _ (by simp [hQ1']; omega))
     show 0≤lmin _ _∧lmin _ _≤_
     have h7:=hW.cut1;unfold lmin
     split <;> omega
  ·exact .inr (hlow _ _ (Zda st co s0 hco P) h2 h1)
theorem ZfD (hco:∀ i s,0≤co i s) (a b:Nat) (hb:1≤b) (hN:0<N) {n:Nd} {t:List Nd} (hl:(Zt st co N s0 b a N).1=n :: t) (ht:∀ u,t.head? = some u→u.2.1≠n.2.1) (hc:¬ (0≤(Zt st co N s0 b a N).2∧(Zt st co N s0 b a N).2≤n.2.1)) :
  IsNd st co s0 (ZR n) n∧(ZR n).length=N∧Nibs (ZR n)∧∀ P,Nibs P→P.length=N→P≠ZR n→n.2.1<met st co s0 P:=by
 have hW:=Zao st co N s0 a b hb N;rw [hl] at hW;obtain ⟨Q,hQ1,hQ2,hQ3,_⟩:=hW.node n (by simp);have eQ:ZR n=Q:=hQ3.2.2;refine ⟨by rw [eQ]; exact hQ3,by rw [eQ]; exact hQ1,by rw [eQ]; exact hQ2,fun P hP hPl hne=>?_⟩
 have hsc:∀ u∈n :: t,sc u=u.2.1:=fun u hu=>by
  obtain ⟨R,hR1,_,hR3,hR4⟩:=hW.node u hu;rw [hR4 hN,Zgi st co N s0 a R hR1,hR3.2.1]
 rcases ZfC st co N s0 hco a b hb P hP hPl N (Nat.le_refl _) with ⟨u,hu,hp⟩ | ⟨h1,h2⟩
 ·rw [hl] at hu;rw [List.take_of_length_le (by omega)] at hp;obtain ⟨R,hR1,_,hR3,_⟩:=hW.node u hu;have eR:R=P:=by rw [← hp]; exact hR3.2.2.symm
  have em:u.2.1=met st co s0 P:=by rw [hR3.2.1,eR]
  rcases List.mem_cons.1 hu with e | hu'
  ·subst e; exact absurd hp.symm hne
  ·cases t with
   | nil=>simp at hu'
   | cons v t =>
    have hv:=ht v rfl;have hr:=List.pairwise_cons.1 hW.rise;have h3:sc n≤sc v:=hr.1 v (by simp)
    have h4:sc v≤sc u:=by
     rcases List.mem_cons.1 hu' with e | hu''
     ·subst e; exact Int.le_refl _
     ·exact (List.pairwise_cons.1 hr.2).1 u hu''
    rw [hsc n (by simp),hsc v (by simp)] at h3;rw [hsc v (by simp),hsc u hu] at h4;rw [← em];omega
 ·omega
theorem clear_told (hco:∀ i s,0≤co i s) (a b:Nat) (hb:1≤b) (hN:0<N) (T:List Int) (hT:Nibs T) (hTl:T.length=N) (hU:∀ P,Nibs P→P.length=N→P≠T→met st co s0 T<met st co s0 P)
  (hH:∀ i,i<N→(∀ Q,Nibs Q→Q.length=i+1→Q≠T.take (i+1)→met st co s0 T<scA st co N s0 a Q)∨(Zt st co N s0 b a i).1.length * 16≤b) :
  ∃ n t,(Zt st co N s0 b a N).1=n :: t∧ZR n=T∧n.2.1=met st co s0 T∧(∀ u,t.head? = some u→u.2.1≠n.2.1)∧¬ (0≤(Zt st co N s0 b a N).2∧(Zt st co N s0 b a N).2≤n.2.1):=by
 have hM:=Zda st co s0 hco T
 have key:∀ i,i≤N→(∃ n∈(Zt st co N s0 b a i).1,ZR n=T.take i)∧((Zt st co N s0 b a i).2<0∨met st co s0 T<(Zt st co N s0 b a i).2):=by
  intro i
  induction i with
  | zero=>intro _; exact ⟨⟨root s0,by simp [Zt],by simp [ZR,root]⟩,.inl (by simp [Zt])⟩
  | succ i ih =>
   intro hi;obtain ⟨⟨n,hn,hp⟩,hc⟩:=ih (by omega);have hW:=Zao st co N s0 a b hb i;obtain ⟨k,hk⟩:∃ k,T[i]? = some k:=⟨T[i]'(by omega),by simp⟩;have hk16:=hT k (List.mem_of_getElem? hk);have hmem:=ZfB st co N (a:=a) (i:=i) hn hk16;obtain ⟨Q,hQ1,hQ2,hQ3,_⟩:=hW.node n hn;have hQP:Q=T.take i:=by rw [← hp]; exact hQ3.2.2.symm
   obtain ⟨e1,e2⟩:=ZeV st co N s0 (a:=a) hQ3 hQ1 k;have etk:T.take (i+1)=Q++[k]:=by rw [List.take_add_one,hk,hQP]; rfl
   have hle:sc (kidS st co N a i n k)≤met st co s0 T:=by
    rw [e2];have:=Zit st co N s0 hco a (Q++[k]) (T.drop (i+1)) (fun x hx=>hT x (List.mem_of_mem_drop hx)) (by simp [hQ1,hTl]; omega);rw [← etk] at this ⊢;rwa [List.take_append_drop] at this
   have hnd:=ZdH st co N a i _ hW.once;have hperm:=Zcp b (Z6 st co N a i (Zt st co N s0 b a i).1);rcases hH i (by omega) with h | h
   ·have hother:∀ c∈Z6 st co N a i (Zt st co N s0 b a i).1,ZR c≠T.take (i+1)→met st co s0 T<sc c:=by
     intro c hc' hne;obtain ⟨n',hn',k',hk',rfl⟩:=ZbW st co N hc';obtain ⟨Q',hQ1',hQ2',hQ3',_⟩:=hW.node n' hn';obtain ⟨e1',e2'⟩:=ZeV st co N s0 (a:=a) hQ3' hQ1' k';rw [e2'];refine h _ (hQ2'.snoc hk') (by simp [hQ1']) ?_;rw [← e1'.2.2];exact hne
    have hin:kidS st co N a i n k∈ZaZ b (Z6 st co N a i (Zt st co N s0 b a i).1):=by
     rcases List.mem_append.1 (hperm.mem_iff.2 hmem) with h' | h'
     ·exact h'
     ·exfalso
      have hlen:0<(ZaZ b (Z6 st co N a i (Zt st co N s0 b a i).1)).length:=by
       rw [Zgg,ZaM];have:=hW.some;omega
      obtain ⟨u,hu⟩:∃ u,u∈ZaZ b (Z6 st co N a i (Zt st co N s0 b a i).1):=⟨_,List.getElem_mem hlen⟩;have hs:=Zcm sc (Z6 st co N a i (Zt st co N s0 b a i).1);unfold Zcl at hs;rw [← List.take_append_drop b (Za9 sc (Z6 st co N a i (Zt st co N s0 b a i).1))] at hs;have h1:=(List.pairwise_append.1 hs).2.2 u hu _ h'
      have hup:ZR u≠T.take (i+1):=by
       intro e;have h2:=(hperm.map ZR).nodup_iff.2 hnd;rw [List.map_append] at h2;exact (List.nodup_append.1 h2).2.2 _ (List.mem_map.2 ⟨u,hu,rfl⟩) _ (List.mem_map.2 ⟨_,h',rfl⟩) (by rw [e,etk]; exact e1.2.2.symm)
      have:=hother u (Zd3 hu) hup;omega
    refine ⟨⟨_,hin,by rw [etk]; exact e1.2.2⟩,?_⟩
    have hcut:cutK sc b (Z6 st co N a i (Zt st co N s0 b a i).1)<0∨met st co s0 T<cutK sc b (Z6 st co N a i (Zt st co N s0 b a i).1):=by
     rcases ZcL sc b (Z6 st co N a i (Zt st co N s0 b a i).1) with ⟨e,_⟩ | ⟨⟨y,hy,ey⟩,_⟩
     ·exact .inl (by rw [e]; decide)
     ·right;rw [← ey];refine hother y (hperm.mem_iff.1 (List.mem_append.2 (.inr hy))) fun e=>?_
      have h2:=(hperm.map ZR).nodup_iff.2 hnd;rw [List.map_append] at h2;exact (List.nodup_append.1 h2).2.2 _ (List.mem_map.2 ⟨_,hin,rfl⟩) _ (List.mem_map.2 ⟨y,hy,rfl⟩) (by rw [e,etk]; exact e1.2.2)
    show lmin _ _<0∨_<lmin _ _
    unfold lmin
    split <;> omega
   ·have hall:ZaZ b (Z6 st co N a i (Zt st co N s0 b a i).1)=Za9 sc (Z6 st co N a i (Zt st co N s0 b a i).1):=by
     unfold ZaZ;exact List.take_of_length_le (by rw [(Z7 sc _).length_eq,ZaM]; exact h)
    have hcut:cutK sc b (Z6 st co N a i (Zt st co N s0 b a i).1) = -1:=by
     unfold cutK;rw [List.getElem?_eq_none (by rw [(Z7 sc _).length_eq,ZaM]; exact h)]
    refine ⟨⟨_,?_,by rw [etk]; exact e1.2.2⟩,?_⟩
    ·show _∈ZaZ b _
     rw [hall];exact (Z7 sc _).mem_iff.2 hmem
    ·show lmin _ _<0∨_<lmin _ _
     rw [hcut];unfold lmin
     split <;> omega
 obtain ⟨⟨n,hn,hp⟩,hc⟩:=key N (Nat.le_refl _);rw [List.take_of_length_le (by omega)] at hp;have hW:=Zao st co N s0 a b hb N
 cases hl:(Zt st co N s0 b a N).1 with
 | nil=>rw [hl] at hn; simp at hn
 | cons v t =>
  rw [hl] at hn hW
  have hsc:∀ u∈v :: t,sc u=u.2.1∧(ZR u≠T→met st co s0 T<u.2.1)∧(ZR u=T→u.2.1=met st co s0 T):=fun u hu=>by
   obtain ⟨R,hR1,hR2,hR3,hR4⟩:=hW.node u hu;refine ⟨by rw [hR4 hN,Zgi st co N s0 a R hR1,hR3.2.1],fun h=>?_,fun h=>?_⟩
   ·rw [hR3.2.1];exact hU R hR2 hR1 (fun e=>h (by rw [← e]; exact hR3.2.2))
   ·rw [hR3.2.1,← h];exact congrArg _ hR3.2.2.symm
  have hr:=List.pairwise_cons.1 hW.rise
  have hv:ZR v=T:=by
   rcases List.mem_cons.1 hn with e | hn'
   ·rw [← e]; exact hp
   ·refine Classical.byContradiction fun hne=>?_
    have h1:=hr.1 n hn';rw [(hsc v (by simp)).1,(hsc n hn).1,(hsc n hn).2.2 hp] at h1;have:=(hsc v (by simp)).2.1 hne;omega
  have hvm:=(hsc v (by simp)).2.2 hv;refine ⟨v,t,rfl,hv,hvm,fun u hu e=>?_,fun h=>?_⟩
  ·have hut:u∈t:=List.mem_of_mem_head? hu
   have hup:ZR u≠T:=fun e'=>by
    have:=hW.once;rw [List.map_cons,List.nodup_cons] at this;exact this.1 (by rw [hv,← e']; exact List.mem_map.2 ⟨u,hut,rfl⟩)
   have:=(hsc u (by simp [hut])).2.1 hup;omega
  ·omega
theorem four_pos (hco:∀ i s,0≤co i s) (T:List Int) (hTl:T.length=N) (hT:Nibs T) (hz:∀ i,i<N→co i (sta st co s0 (T.take (i+1)))=0)
  (hpos:∀ (i:Nat) (Q:List Int) (k:Int),i<N→Q.length=i→Nibs (Q++[k])→sta st co s0 (Q++[k])≠sta st co s0 (T.take (i+1))→0<co i (sta st co s0 (Q++[k])))
  (hinj:∀ (i:Nat) (k k':Int),i<N→(0≤k∧k<16)→(0≤k'∧k'<16)→st (sta st co s0 (T.take i)) k=st (sta st co s0 (T.take i)) k'→k=k') :
  (∀ i,i≤N→met st co s0 (T.take i)=0)∧∀ (i:Nat) (Q:List Int),i≤N→Nibs Q→Q.length=i→Q≠T.take i→0<met st co s0 Q:=by
 have hzero:∀ i,i≤N→met st co s0 (T.take i)=0:=by
  intro i
  induction i with
  | zero=>intro _; rw [List.take_zero]; rfl
  | succ i ih =>
   intro hi;obtain ⟨k,hk⟩:∃ k,T[i]? = some k:=⟨T[i]'(by omega),by simp⟩;have e:T.take (i+1)=T.take i++[k]:=by rw [List.take_add_one,hk]; rfl
   have h1:=Zb8 st co s0 (T.take i) k;have h2:=hz i (by omega);rw [e,ZbD] at h2;rw [e,h1,ih (by omega),List.length_take,Nat.min_eq_left (by omega),h2];rfl
 refine ⟨hzero,fun i=>?_⟩
 induction i with
 | zero =>
  intro Q _ _ hQl hne;exact absurd (by rw [List.length_eq_zero_iff.1 hQl,List.take_zero]) hne
 | succ i ih =>
  intro Q hi hQ hQl hne
  obtain ⟨Q',k,rfl⟩:∃ Q' k,Q=Q'++[k]:=by
   refine ⟨Q.dropLast,Q.getLast (by intro e; rw [e] at hQl; simp at hQl),?_⟩;exact (List.dropLast_concat_getLast _).symm
  have hl':Q'.length=i:=by simpa using hQl
  have hmono:=Zel st co s0 hco Q' [k];by_cases hq:Q'=T.take i
  ·obtain ⟨k',hk'⟩:∃ k',T[i]? = some k':=⟨T[i]'(by omega),by simp⟩;have e:T.take (i+1)=T.take i++[k']:=by rw [List.take_add_one,hk']; rfl
   have hkk:k≠k':=fun h=>hne (by rw [e,hq,h])
   have h1:=hpos i Q' k (by omega) hl' hQ (fun h=>hkk (hinj i k k' (by omega) (hQ k (by simp)) (hT k' (List.mem_of_getElem? hk')) (by rw [e,ZbD,ZbD,hq] at h; exact h)));rw [ZbD] at h1;rw [Zb8,hl'];have:=Zda st co s0 hco Q';omega
  ·have:=ih Q' (by omega) hQ.left hl' hq;omega
end
theorem Zcq (n:Int) (h0:0≤n) (h1:n<2 ^ 32):IntKind.u32.wrap n=n:=by
 have e:(2:Int) ^ 32=4294967296:=by decide
 rw [e] at h1; rw [IntKind.wrap_u32]; omega
theorem ZhA (n:Int) (h0:0≤n) (h1:n<2 ^ 8):IntKind.u8.wrap n=n:=by
 have e:(2:Int) ^ 8=256:=by decide
 rw [e] at h1; rw [IntKind.wrap_u8]; omega
theorem ZcO (n:Nat):IntKind.u32.wrap (n:Int)=((n % 4294967296:Nat):Int):=by rw [IntKind.wrap_u32]; omega
theorem ZaT (a b:Nat) (ha:a<4294967296) (hb:b<4294967296):bits .xor .u32 (a:Int) (b:Int)=((a ^^^ b:Nat):Int):=by
 have e:∀ n:Nat,n<4294967296→(BitVec.ofInt 32 (n:Int)).toNat=n:=fun n h=>by
  rw [BitVec.ofInt_natCast,BitVec.toNat_ofNat]; exact Nat.mod_eq_of_lt (by omega)
 have hx:a ^^^ b<2 ^ 32:=Nat.xor_lt_two_pow ha hb
 show IntKind.u32.wrap ((BitVec.ofInt 32 (a:Int) ^^^ BitVec.ofInt 32 (b:Int)).toNat:Int)=_
 rw [BitVec.toNat_xor,e a ha,e b hb];exact Zcq _ (by omega) (by exact_mod_cast hx)
theorem ZeW (a:Nat) (ha:a<4294967296):bits .and .u32 (a:Int) 255=((a % 256:Nat):Int):=by
 have h1:(a:Int)<2 ^ 32:=by exact_mod_cast ha
 have:=bits_mask .u32 32 (by decide) Zcq 8 (by omega) a (by omega) h1;simpa using this
theorem ZdI {a b:Nat} (ha:a<4294967296) (hb:b<4294967296):a ^^^ b<4294967296:=Nat.xor_lt_two_pow (n:=32) ha hb
def xs16 (x:Nat):Nat:=x ^^^ x / 65536
def xs15 (x:Nat):Nat:=x ^^^ x / 32768
def un15 (x:Nat):Nat:=x ^^^ x / 32768 ^^^ x / 1073741824
def mul32 (k x:Nat):Nat:=x * k % 4294967296
def mixN (x:Nat):Nat:=xs16 (mul32 2221713035 (xs15 (mul32 2146121005 (xs16 x))))
def backN (x:Nat):Nat:=xs16 (mul32 493478565 (un15 (mul32 1124208931 (xs16 x))))
theorem Zh8 (a b k:Nat):(a ^^^ b) / 2 ^ k=a / 2 ^ k ^^^ b / 2 ^ k:=by
 rw [← Nat.shiftRight_eq_div_pow,← Nat.shiftRight_eq_div_pow,← Nat.shiftRight_eq_div_pow,Nat.shiftRight_xor_distrib]
theorem Zba {x k:Nat} (hx:x<4294967296):x / k<4294967296:=Nat.lt_of_le_of_lt (Nat.div_le_self _ _) hx
theorem ZdJ {x:Nat} (hx:x<4294967296):xs16 x<4294967296:=ZdI hx (Zba hx)
theorem Zhd {x:Nat} (hx:x<4294967296):xs15 x<4294967296:=ZdI hx (Zba hx)
theorem ZbE (k x:Nat):mul32 k x<4294967296:=Nat.mod_lt _ (by decide)
theorem Zhe (x:Nat):mixN x<4294967296:=ZdJ (ZbE _ _)
theorem ZfE {x:Nat} (hx:x<4294967296):xs16 (xs16 x)=x:=by
 unfold xs16;have h:=Zh8 x (x / 65536) 16;rw [show (2:Nat) ^ 16=65536 by rfl] at h;rw [h,show x / 65536 / 65536=0 by omega,Nat.xor_zero,Nat.xor_assoc,Nat.xor_self,Nat.xor_zero]
theorem un15_xs15 {x:Nat} (hx:x<4294967296):un15 (xs15 x)=x:=by
 unfold un15 xs15;have h:=Zh8 x (x / 32768) 15;have g:=Zh8 x (x / 32768) 30;rw [show (2:Nat) ^ 15=32768 by rfl] at h;rw [show (2:Nat) ^ 30=1073741824 by rfl] at g;rw [h,g,show x / 32768 / 32768=x / 1073741824 by omega,show x / 32768 / 1073741824=0 by omega,Nat.xor_zero];generalize x / 32768=a;generalize x / 1073741824=b;rw [Nat.xor_assoc x a,← Nat.xor_assoc a a b,Nat.xor_self,Nat.zero_xor,Nat.xor_assoc,Nat.xor_self,Nat.xor_zero]
theorem ZeX (k j x:Nat) (hx:x<4294967296) (h:k * j % 4294967296=1):mul32 j (mul32 k x)=x:=by
 unfold mul32;rw [Nat.mod_mul_mod,Nat.mul_assoc,Nat.mul_mod,h,Nat.mul_one,Nat.mod_mod,Nat.mod_eq_of_lt hx]
theorem ZhB {x:Nat} (hx:x<4294967296):backN (mixN x)=x:=by
 unfold backN mixN;rw [ZfE (ZbE _ _),ZeX _ _ _ (Zhd (ZbE _ _)) (by decide),un15_xs15 (ZbE _ _),ZeX _ _ _ (ZdJ hx) (by decide),ZfE hx]
theorem mix_inj {x y:Nat} (hx:x<4294967296) (hy:y<4294967296) (h:mixN x=mixN y):x=y:=by
 rw [← ZhB hx,← ZhB hy,h]
def symN (s i:Nat):Nat:=if i<4 then s / 2 ^ (8 * i) % 256 else mixN ((s+i * 2654435769) % 4294967296) % 256
theorem ZdK (s i:Nat):symN s i<256:=by
 unfold symN
 split <;> exact Nat.mod_lt _ (by decide)
theorem ZcP {s i:Nat} (h:i<4):symN s i=s / 2 ^ (8 * i) % 256:=if_pos h
theorem ZgL {s i:Nat} (h:¬ i<4):symN s i=mixN ((s+i * 2654435769) % 4294967296) % 256:=if_neg h
def ZgM:List Int→Nat
 | []=>0
 | z :: zs=>z.toNat+256 * ZgM zs
def ZhC (s k:Nat):List Int:=(List.range k).map fun i=>((symN s i:Nat):Int)
theorem bytes_sum (s a b c d:Nat) (hs:s<4294967296) (h0:a=s % 256) (h1:b=s / 256 % 256) (h2:c=s / 65536 % 256) (h3:d=s / 16777216 % 256):a+256 * (b+256 * (c+256 * d))=s:=by omega
theorem spell_of {s:Nat} (hs:s<4294967296) (f:Nat→Nat) (h0:f 0=s % 256) (h1:f 1=s / 256 % 256) (h2:f 2=s / 65536 % 256) (h3:f 3=s / 16777216 % 256):ZgM ((List.range 4).map fun i=>((f i:Nat):Int))=s:=by
 have e:((List.range 4).map fun i=>((f i:Nat):Int))=[((f 0:Nat):Int),((f 1:Nat):Int),((f 2:Nat):Int),((f 3:Nat):Int)]:=rfl;rw [e];have h:=bytes_sum s (f 0) (f 1) (f 2) (f 3) hs h0 h1 h2 h3;simpa [ZgM] using h
theorem ZfF {s:Nat} (hs:s<4294967296):ZgM (ZhC s 4)=s :=
 spell_of hs (symN s) (by rw [ZcP (by decide),Nat.mul_zero,Nat.pow_zero,Nat.div_one]) (ZcP (by decide)) (ZcP (by decide)) (ZcP (by decide))
theorem four_inj {s t:Nat} (hs:s<4294967296) (ht:t<4294967296) (h:∀ i,i<4→symN s i=symN t i):s=t:=by
 have e:ZhC s 4=ZhC t 4:=by
  unfold ZhC;apply List.map_congr_left;intro i hi;rw [h i (by simpa using hi)]
 exact (ZfF hs).symm.trans ((congrArg ZgM e).trans (ZfF ht))
end Go.Proofs.YtabdnhkdoeibnaaGreatDoor
namespace Go.Proofs.YtabdnhkdoeibnaaGreatDoor
open Go.RowKit
theorem ZfG (x:Nat) (hx:x<4294967296) (w:World) :
  Calls Tryz.prog 140 #[.int .u32 x] w fun e w'=>e=.returned (.int .u32 ((mixN x:Nat):Int))∧w=w':=by
 have d0:(x:Int) / 65536=((x / 65536:Nat):Int):=by simp
 have e0:bits .xor .u32 (x:Int) ((x / 65536:Nat):Int)=((xs16 x:Nat):Int):=ZaT _ _ hx (Zba hx);have hy0:=ZdJ hx;obtain ⟨q0,hq0⟩:∃ q,x / 65536=q:=⟨_,rfl⟩;obtain ⟨y0,g0⟩:∃ y,xs16 x=y:=⟨_,rfl⟩;rw [hq0] at d0 e0;rw [g0] at e0 hy0;clear hq0
 have e1:IntKind.u32.wrap ((y0:Int) * 2146121005)=((mul32 2146121005 y0:Nat):Int):=by
  have:=ZcO (y0 * 2146121005);rwa [show ((y0 * 2146121005:Nat):Int)=(y0:Int) * 2146121005 by omega] at this
 have hy1:=ZbE 2146121005 y0;obtain ⟨y1,g1⟩:∃ y,mul32 2146121005 y0=y:=⟨_,rfl⟩;rw [g1] at e1 hy1;have d2:(y1:Int) / 32768=((y1 / 32768:Nat):Int):=by simp
 have e2:bits .xor .u32 (y1:Int) ((y1 / 32768:Nat):Int)=((xs15 y1:Nat):Int):=ZaT _ _ hy1 (Zba hy1);have hy2:=Zhd hy1;obtain ⟨q2,hq2⟩:∃ q,y1 / 32768=q:=⟨_,rfl⟩;obtain ⟨y2,g2⟩:∃ y,xs15 y1=y:=⟨_,rfl⟩;rw [hq2] at d2 e2;rw [g2] at e2 hy2;clear hq2
 have e3:IntKind.u32.wrap ((y2:Int) * 2221713035)=((mul32 2221713035 y2:Nat):Int):=by
  have:=ZcO (y2 * 2221713035);rwa [show ((y2 * 2221713035:Nat):Int)=(y2:Int) * 2221713035 by omega] at this
 have hy3:=ZbE 2221713035 y2;obtain ⟨y3,g3⟩:∃ y,mul32 2221713035 y2=y:=⟨_,rfl⟩;rw [g3] at e3 hy3;have d4:(y3:Int) / 65536=((y3 / 65536:Nat):Int):=by simp
 have e4:bits .xor .u32 (y3:Int) ((y3 / 65536:Nat):Int)=((xs16 y3:Nat):Int):=ZaT _ _ hy3 (Zba hy3);have hy4:=ZdJ hy3;obtain ⟨q4,hq4⟩:∃ q,y3 / 65536=q:=⟨_,rfl⟩;obtain ⟨y4,g4⟩:∃ y,xs16 y3=y:=⟨_,rfl⟩;rw [hq4] at d4 e4;rw [g4] at e4 hy4;clear hq4
 have HR:Hid (mixN x=y4):=by
  show mixN x=y4
  unfold mixN;rw [g0,g1,g2,g3,g4]
 clear g0 g1 g2 g3 g4;go_enter Tryz.func140,Tryz.ntmps140;go_wp2;go_ret;exact ⟨by rw [HR.out]; rfl,rfl⟩
theorem refSymbol_any (s i:Nat) (hs:s<4294967296) (hi:i≤4294967295) (w:World):Calls Tryz.prog 142 #[.int .u32 s,.int .i64 i] w fun e w'=>e=.returned (.int .i64 ((symN s i:Nat):Int))∧w=w':=by
 by_cases h:i<4
 ·have HR:Hid (symN s i=s / 2 ^ (8 * i) % 256):=ZcP h;have ed:(s:Int) / 2 ^ (8 * i)=((s / 2 ^ (8 * i):Nat):Int):=by simp
  have hle:s / 2 ^ (8 * i)≤s:=Nat.div_le_self _ _;have ea:bits .and .u32 ((s / 2 ^ (8 * i):Nat):Int) 255=((s / 2 ^ (8 * i) % 256:Nat):Int):=ZeW _ (by omega);obtain ⟨t,ht⟩:∃ t,s / 2 ^ (8 * i) % 256=t:=⟨_,rfl⟩;have hlt:t<256:=by omega
  obtain ⟨y,hy⟩:∃ y,s / 2 ^ (8 * i)=y:=⟨_,rfl⟩;rw [ht] at ea HR;rw [hy] at ed ea hle;clear ht hy;go_enter Tryz.func142,Tryz.ntmps142;go_wp2;go_ret;exact ⟨by rw [HR.out]; rfl,rfl⟩
 ·have HR:Hid (symN s i=mixN ((s+i * 2654435769) % 4294967296) % 256):=ZgL h;have e1:IntKind.u32.wrap (i:Int)=(i:Int):=by rw [IntKind.wrap_u32]; omega
  have e2:IntKind.u32.wrap ((i:Int) * 2654435769)=((i * 2654435769 % 4294967296:Nat):Int):=by
   have:=ZcO (i * 2654435769);rwa [show ((i * 2654435769:Nat):Int)=(i:Int) * 2654435769 by omega] at this
  have e3:IntKind.u32.wrap ((s:Int)+((i * 2654435769 % 4294967296:Nat):Int))=(((s+i * 2654435769) % 4294967296:Nat):Int):=by rw [IntKind.wrap_u32]; omega
  obtain ⟨x,hx⟩:∃ x,(s+i * 2654435769) % 4294967296=x:=⟨_,rfl⟩;have hxl:x<4294967296:=by omega
  rw [hx] at e3 HR;obtain ⟨y,hy⟩:∃ y,i * 2654435769 % 4294967296=y:=⟨_,rfl⟩;have hyl:y<4294967296:=by omega
  rw [hy] at e2 e3;have hm:=Zhe x;have ea:bits .and .u32 ((mixN x:Nat):Int) 255=((mixN x % 256:Nat):Int):=ZeW _ hm;obtain ⟨t,ht⟩:∃ t,mixN x % 256=t:=⟨_,rfl⟩;have hlt:t<256:=by omega
  rw [ht] at ea HR;clear hx hy ht;go_enter Tryz.func142,Tryz.ntmps142;go_wp2_with fail;refine (ZfG x hxl w).mono ?_;rintro e w1 ⟨rfl,rfl⟩;go_wp2;go_ret;exact ⟨by rw [HR.out]; rfl,rfl⟩
theorem refShift32_any (r b:Nat) (hr:r<4294967296) (hb:b<2) (w:World) :
  Calls Tryz.prog 134 #[.int .i64 r,.int .i64 b] w fun e w'=>e=.returned (.int .i64 ((m32 (r ^^^ b):Nat):Int))∧w=w':=by
 have HN:Hid (m32 (r ^^^ b)=r / 2 ^^^ (if r % 2=b then 0 else 3988292384)):=ZeQ r b hb;have ha:bits .and .i64 (r:Int) 1=((r % 2:Nat):Int):=Zh5 r (by omega);have hd:(r:Int) / 2=((r / 2:Nat):Int):=by omega
 have hx:bits .xor .i64 ((r / 2:Nat):Int) 3988292384=((r / 2 ^^^ 3988292384:Nat):Int):=Zhx _ 3988292384 (by omega) (by decide);obtain ⟨c,hc⟩:∃ c:Nat,r / 2=c:=⟨_,rfl⟩;rw [hc] at hd hx HN;obtain ⟨d,hd2⟩:∃ d:Nat,r % 2=d:=⟨_,rfl⟩;rw [hd2] at ha HN;clear hc hd2;by_cases h:d=b
 ·subst h;have hq:((d:Int) != (d:Int))=false:=by simp
  go_enter Tryz.func134,Tryz.ntmps134;go_wp2;go_ret;refine ⟨?_,rfl⟩;rw [HN.out,if_pos trivial,Nat.xor_zero];rfl
 ·have HR:Hid (¬ d=b):=h;have hq:((d:Int) != (b:Int))=true:=by rw [bne_iff_ne]; omega
  clear h;go_enter Tryz.func134,Tryz.ntmps134;go_wp2;go_ret;refine ⟨?_,rfl⟩;rw [HN.out,if_neg HR.out];rfl
theorem Zh9 (x:Nat) (hx:x<4294967296) (w:World) :
  Calls Tryz.prog 117 #[.int .u32 x] w fun e w'=>e=.returned (.int .u32 ((mixN x:Nat):Int))∧w=w':=by
 have d0:(x:Int) / 65536=((x / 65536:Nat):Int):=by simp
 have e0:bits .xor .u32 (x:Int) ((x / 65536:Nat):Int)=((xs16 x:Nat):Int):=ZaT _ _ hx (Zba hx);have hy0:=ZdJ hx;obtain ⟨q0,hq0⟩:∃ q,x / 65536=q:=⟨_,rfl⟩;obtain ⟨y0,g0⟩:∃ y,xs16 x=y:=⟨_,rfl⟩;rw [hq0] at d0 e0;rw [g0] at e0 hy0;clear hq0
 have e1:IntKind.u32.wrap ((y0:Int) * 2146121005)=((mul32 2146121005 y0:Nat):Int):=by
  have:=ZcO (y0 * 2146121005);rwa [show ((y0 * 2146121005:Nat):Int)=(y0:Int) * 2146121005 by omega] at this
 have hy1:=ZbE 2146121005 y0;obtain ⟨y1,g1⟩:∃ y,mul32 2146121005 y0=y:=⟨_,rfl⟩;rw [g1] at e1 hy1;have d2:(y1:Int) / 32768=((y1 / 32768:Nat):Int):=by simp
 have e2:bits .xor .u32 (y1:Int) ((y1 / 32768:Nat):Int)=((xs15 y1:Nat):Int):=ZaT _ _ hy1 (Zba hy1);have hy2:=Zhd hy1;obtain ⟨q2,hq2⟩:∃ q,y1 / 32768=q:=⟨_,rfl⟩;obtain ⟨y2,g2⟩:∃ y,xs15 y1=y:=⟨_,rfl⟩;rw [hq2] at d2 e2;rw [g2] at e2 hy2;clear hq2
 have e3:IntKind.u32.wrap ((y2:Int) * 2221713035)=((mul32 2221713035 y2:Nat):Int):=by
  have:=ZcO (y2 * 2221713035);rwa [show ((y2 * 2221713035:Nat):Int)=(y2:Int) * 2221713035 by omega] at this
 have hy3:=ZbE 2221713035 y2;obtain ⟨y3,g3⟩:∃ y,mul32 2221713035 y2=y:=⟨_,rfl⟩;rw [g3] at e3 hy3;have d4:(y3:Int) / 65536=((y3 / 65536:Nat):Int):=by simp
 have e4:bits .xor .u32 (y3:Int) ((y3 / 65536:Nat):Int)=((xs16 y3:Nat):Int):=ZaT _ _ hy3 (Zba hy3);have hy4:=ZdJ hy3;obtain ⟨q4,hq4⟩:∃ q,y3 / 65536=q:=⟨_,rfl⟩;obtain ⟨y4,g4⟩:∃ y,xs16 y3=y:=⟨_,rfl⟩;rw [hq4] at d4 e4;rw [g4] at e4 hy4;clear hq4
 have HR:Hid (mixN x=y4):=by
  show mixN x=y4
  unfold mixN;rw [g0,g1,g2,g3,g4]
 clear g0 g1 g2 g3 g4;go_enter Tryz.func117,Tryz.ntmps117;go_wp2;go_ret;exact ⟨by rw [HR.out]; rfl,rfl⟩
theorem Of_ok (s i:Nat) (_:s<4294967296) (hi:i≤255) (w:World):Calls Tryz.prog 92 #[.int .u32 s,.int .i64 i] w fun e w'=>e=.returned (.tuple #[.int .i64 ((symN s i:Nat):Int),.int .i64 0])∧w=w':=by
 have g0:decide ((i:Int)<0)=false:=decide_eq_false (by omega);have g1:decide (255<(i:Int))=false:=decide_eq_false (by omega);by_cases h:i<4
 ·have HR:Hid (symN s i=s / 2 ^ (8 * i) % 256):=ZcP h;have ed:(s:Int) / 2 ^ (8 * i)=((s / 2 ^ (8 * i):Nat):Int):=by simp
  have hle:s / 2 ^ (8 * i)≤s:=Nat.div_le_self _ _;obtain ⟨y,hy⟩:∃ y,s / 2 ^ (8 * i)=y:=⟨_,rfl⟩;rw [hy] at ed hle HR;clear hy;go_enter Tryz.func92,Tryz.ntmps92;go_wp2;go_ret2;exact ⟨by rw [HR.out]; rfl,rfl⟩
 ·have HR:Hid (symN s i=mixN ((s+i * 2654435769) % 4294967296) % 256):=ZgL h;have e1:IntKind.u32.wrap (i:Int)=(i:Int):=by rw [IntKind.wrap_u32]; omega
  have e2:IntKind.u32.wrap ((i:Int) * 2654435769)=((i * 2654435769 % 4294967296:Nat):Int):=by
   have:=ZcO (i * 2654435769);rwa [show ((i * 2654435769:Nat):Int)=(i:Int) * 2654435769 by omega] at this
  have e3:IntKind.u32.wrap ((s:Int)+((i * 2654435769 % 4294967296:Nat):Int))=(((s+i * 2654435769) % 4294967296:Nat):Int):=by rw [IntKind.wrap_u32]; omega
  obtain ⟨x,hx⟩:∃ x,(s+i * 2654435769) % 4294967296=x:=⟨_,rfl⟩;have hxl:x<4294967296:=by omega
  rw [hx] at e3 HR;obtain ⟨y,hy⟩:∃ y,i * 2654435769 % 4294967296=y:=⟨_,rfl⟩;have hyl:y<4294967296:=by omega
  rw [hy] at e2 e3;have hm:=Zhe x;have HM:=Zh9 x hxl w;obtain ⟨y',hy'⟩:∃ y',mixN x=y':=⟨_,rfl⟩;rw [hy'] at hm HR HM;clear hx hy hy';go_enter Tryz.func92,Tryz.ntmps92;go_wp2_with fail;refine HM.mono ?_;rintro e w1 ⟨rfl,rfl⟩;go_wp2;go_ret2;exact ⟨by rw [HR.out]; rfl,rfl⟩
theorem Of_arg (s:Nat) (i:Int) (h:i<0∨255<i) (w:World):Calls Tryz.prog 92 #[.int .u32 s,.int .i64 i] w fun e w'=>e=.returned (.tuple #[.int .i64 0,.int .i64 1])∧w=w':=by
 by_cases h0:i<0
 ·clear h;go_enter Tryz.func92,Tryz.ntmps92;go_wp2;go_ret2;exact ⟨rfl,rfl⟩
 ·have h1:255<i:=by omega
  clear h;go_enter Tryz.func92,Tryz.ntmps92;go_wp2;go_ret2;exact ⟨rfl,rfl⟩
end Go.Proofs.YtabdnhkdoeibnaaGreatDoor
