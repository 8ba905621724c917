/-
  Nodes, scores, the walk of a beam, as lists, over whatever step and cost. No program is spoken of.
-/
import Derived.Test.YtkigbanldiialaaGreatDoorM01
import Derived.Laws.BitsLemmas
import Derived.Lib.BitFns
namespace Go.Proofs.YtkigbanldiialaaGreatDoor
section
variable (st:Int→Int→Int) (co:Nat→Int→Int) (N:Nat) (s0:Int)
def kid (n:Nd) (k:Int):Nd:=(st n.1 k,n.2.1+co n.2.2.2.length (st n.1 k),0,n.2.2.2++[k])
def root:Nd:=(s0,0,0,[])
def Zdi (P:List Int):Nd:=P.foldl (kid st co) (root s0)
def met (P:List Int):Int:=(Zdi st co s0 P).2.1
def sta (P:List Int):Int:=(Zdi st co s0 P).1
theorem Zdj (P:List Int) (k:Int):Zdi st co s0 (P++[k])=kid st co (Zdi st co s0 P) k:=by unfold Zdi; rw [List.foldl_append]; rfl
theorem Zd6:∀ (P:List Int) (n:Nd),(P.foldl (kid st co) n).2.2.2=n.2.2.2++P
 | [],n=>by simp
 | k :: P,n=>by rw [List.foldl_cons,Zd6 P]; simp [kid]
theorem nodeOf_path (P:List Int):(Zdi st co s0 P).2.2.2=P:=by unfold Zdi; rw [Zd6]; simp [root]
theorem Zga:met st co s0 []=0:=rfl
theorem ZaM (P:List Int) (k:Int):sta st co s0 (P++[k])=st (sta st co s0 P) k:=by unfold sta; rw [Zdj]; rfl
theorem Za6 (P:List Int) (k:Int):met st co s0 (P++[k])=met st co s0 P+co P.length (st (sta st co s0 P) k):=by
 unfold met sta;rw [Zdj];unfold kid;rw [nodeOf_path]
def Za7:List Int:=(List.range 16).map fun k:Nat=>(k:Int)
def Nibs (P:List Int):Prop:=∀ k∈P,0≤k∧k<16
theorem Zb5 {k:Int}:k∈Za7↔0≤k∧k<16:=by
 unfold Za7;rw [List.mem_map]
 constructor
 ·rintro ⟨a,ha,rfl⟩;have:=List.mem_range.1 ha;omega
 ·intro h;exact ⟨k.toNat,List.mem_range.2 (by omega),by omega⟩
theorem nib16_nodup:Za7.Nodup:=by unfold Za7; decide
theorem Nibs.snoc {P:List Int} (h:Nibs P) {k:Int} (hk:0≤k∧k<16):Nibs (P++[k]):=by
 intro x hx;rcases List.mem_append.1 hx with h' | h'
 ·exact h x h'
 ·simp at h'; subst h'; exact hk
theorem Nibs.take {P:List Int} (h:Nibs P) (n:Nat):Nibs (P.take n):=fun k hk=>h k (List.mem_of_mem_take hk)
theorem Nibs.append {P Q:List Int} (h:Nibs P) (k:Nibs Q):Nibs (P++Q):=fun x hx=>by
 rcases List.mem_append.1 hx with h' | h'
 ·exact h x h'
 ·exact k x h'
theorem Nibs.right {P Q:List Int} (h:Nibs (P++Q)):Nibs Q:=fun x hx=>h x (List.mem_append.2 (.inr hx))
theorem Nibs.left {P Q:List Int} (h:Nibs (P++Q)):Nibs P:=fun x hx=>h x (List.mem_append.2 (.inl hx))
theorem Zc4 (hco:∀ i s,0≤co i s) (P:List Int):∀ R:List Int,met st co s0 P≤met st co s0 (P++R):=by
 intro R
 induction R generalizing P with
 | nil=>rw [List.append_nil]; exact Int.le_refl _
 | cons k R ih =>
  have h1:=ih (P++[k]);rw [List.append_assoc] at h1;have h2:=Za6 st co s0 P k;have h3:=hco P.length (st (sta st co s0 P) k);simp only [List.cons_append,List.nil_append] at h1;omega
theorem ZbS (hco:∀ i s,0≤co i s) (P:List Int):0≤met st co s0 P:=by
 have:=Zc4 st co s0 hco [] P;rw [Zga,List.nil_append] at this;exact this
def Zdk (b x:Int):Int:=if b<0∨x<b then x else b
def minF (l:List Int):Int:=l.foldl Zdk (-1)
theorem Zd7:∀ (l:List Int) (P:Int→Prop) (b:Int),(∀ z,P z→0≤z)→(∀ x∈l,0≤x)→ZaX P b→ZaX (fun z=>P z∨z∈l) (l.foldl Zdk b)
 | [],P,b,_,_,hb=>hb.congr fun z=>⟨.inl,fun h=>h.elim id (fun h=>by simp at h)⟩
 | x :: l,P,b,hP,hl,hb=>by
  have hx:0≤x:=hl x (by simp)
  have h1:ZaX (fun z=>P z∨z=x) (Zdk b x):=by
   unfold Zdk
   split
   ·next h=>exact hb.more hP h
   ·next h =>
    have hge:=hb.ge hP;exact hb.same (by omega) (by omega)
  have h2:=Zd7 l (fun z=>P z∨z=x) (Zdk b x) (fun z hz=>hz.elim (hP z) (fun h=>by omega)) (fun y hy=>hl y (by simp [hy])) h1;rw [List.foldl_cons];refine h2.congr fun z=>?_
  constructor
  ·rintro ((h | h) | h)
   ·exact .inl h
   ·exact .inr (by simp [h])
   ·exact .inr (by simp [h])
  ·rintro (h | h)
   ·exact .inl (.inl h)
   ·rcases List.mem_cons.1 h with h | h
    ·exact .inl (.inr h)
    ·exact .inr h
theorem minF_least {l:List Int} (hl:∀ x∈l,0≤x):ZaX (fun z=>z∈l) (minF l):=by
 have:=Zd7 l (fun _=>False) (-1) (fun z h=>h.elim) hl (.inl ⟨rfl,fun z h=>h⟩);exact this.congr fun z=>⟨fun h=>h.elim (fun h=>h.elim) id,.inr⟩
theorem Zc5 {l:List Int} (hl:∀ x∈l,0≤x) (h0:l≠[]):minF l∈l∧∀ x∈l,minF l≤x:=by
 rcases minF_least hl with ⟨_,h⟩ | h
 ·cases l with
  | nil=>exact absurd rfl h0
  | cons x l=>exact absurd (by simp) (h x)
 ·exact h
def lst:Nat→Int→Nat→Int→Int
 | 0,_,_,m=>m
 | a+1,s,i,m=>if i=N then m else minF (Za7.map fun k=>lst a (st s k) (i+1) (m+co i (st s k)))
def scA (a:Nat) (P:List Int):Int:=lst st co N a (sta st co s0 P) P.length (met st co s0 P)
theorem scA_zero (P:List Int):scA st co N s0 0 P=met st co s0 P:=rfl
theorem ZeC (a:Nat) (P:List Int) (h:P.length=N):scA st co N s0 a P=met st co s0 P:=by
 unfold scA
 cases a with
 | zero=>rfl
 | succ a=>simp only [lst]; rw [if_pos h]
theorem scA_succ (a:Nat) (P:List Int) (h:P.length≠N):scA st co N s0 (a+1) P=minF (Za7.map fun k=>scA st co N s0 a (P++[k])):=by
 unfold scA;simp only [lst];rw [if_neg h]
 congr 1
 refine List.map_congr_left fun k _=>?_
 rw [ZaM,Za6,List.length_append];rfl
theorem ZeD:Za7≠[]:=by unfold Za7; decide
theorem ZcB (hco:∀ i s,0≤co i s):∀ (a:Nat) (P:List Int),P.length≤N →
  (∀ R,Nibs R→R.length=min a (N-P.length)→scA st co N s0 a P≤met st co s0 (P++R))∧∃ R,Nibs R∧R.length=min a (N-P.length)∧scA st co N s0 a P=met st co s0 (P++R)
 | 0,P,hP=>by
  refine ⟨fun R _ hR=>?_,[],fun k hk=>by simp at hk,by simp,by rw [List.append_nil]; rfl⟩
  have:R=[]:=List.length_eq_zero_iff.1 (by rw [hR]; simp)
  rw [this,List.append_nil,scA_zero]
  exact Int.le_refl _
 | a+1,P,hP=>by
  by_cases he:P.length=N
  ·refine ⟨fun R _ hR=>?_,[],fun k hk=>by simp at hk,by simp [he],by rw [List.append_nil,ZeC st co N s0 _ P he]⟩
   have:R=[]:=List.length_eq_zero_iff.1 (by rw [hR,he]; simp)
   rw [this,List.append_nil,ZeC st co N s0 _ P he]
   exact Int.le_refl _
  ·have hlt:P.length<N:=by omega
   have ih:=fun k=>ZcB hco a (P++[k]) (by simp; omega)
   rw [scA_succ st co N s0 a P he]
   have hnn:∀ x∈Za7.map (fun k=>scA st co N s0 a (P++[k])),0≤x:=by
    intro x hx;obtain ⟨k,_,rfl⟩:=List.mem_map.1 hx;obtain ⟨R,_,_,e⟩:=(ih k).2;rw [e];exact ZbS st co s0 hco _
   obtain ⟨hm1,hm2⟩:=Zc5 hnn (by simp [ZeD])
   constructor
   ·intro R hR hRl
    cases R with
    | nil=>simp at hRl; omega
    | cons k R =>
     have hk:=hR k (by simp);have h1:=hm2 _ (List.mem_map.2 ⟨k,Zb5.2 hk,rfl⟩);have h2:=(ih k).1 R (fun x hx=>hR x (by simp [hx])) (by simp at hRl ⊢; omega);rw [List.append_assoc] at h2;exact Int.le_trans h1 h2
   ·obtain ⟨k,hk,e⟩:=List.mem_map.1 hm1;obtain ⟨R,hR1,hR2,hR3⟩:=(ih k).2;refine ⟨k :: R,?_,by simp at hR2 ⊢; omega,?_⟩
    ·intro x hx;rcases List.mem_cons.1 hx with rfl | hx
     ·exact Zb5.1 hk
     ·exact hR1 x hx
    ·rw [← e,hR3,List.append_assoc];rfl
theorem ZgC (hco:∀ i s,0≤co i s) (a:Nat) (P:List Int) (hP:P.length≤N):met st co s0 P≤scA st co N s0 a P:=by
 obtain ⟨R,_,_,e⟩:=(ZcB st co N s0 hco a P hP).2;rw [e];exact Zc4 st co s0 hco P R
theorem ZgD (hco:∀ i s,0≤co i s) (a:Nat) (P R:List Int) (hR:Nibs R) (hl:P.length+R.length=N):scA st co N s0 a P≤met st co s0 (P++R):=by
 have h1:=(ZcB st co N s0 hco a P (by omega)).1 (R.take (min a (N-P.length))) (hR.take _) (by rw [List.length_take]; omega);have h2:=Zc4 st co s0 hco (P++R.take (min a (N-P.length))) (R.drop (min a (N-P.length)));rw [List.append_assoc,List.take_append_drop] at h2;exact Int.le_trans h1 h2
def kidS (a:Nat) (i:Nat) (n:Nd) (k:Int):Nd:=((kid st co n k).1,(kid st co n k).2.1,lst st co N a (kid st co n k).1 (i+1) (kid st co n k).2.1,(kid st co n k).2.2.2)
def ZG (a:Nat) (i:Nat) (l:List Nd):List Nd:=l.flatMap fun n=>Za7.map (kidS st co N a i n)
def Zi (b a:Nat):Nat→List Nd×Int
 | 0=>([root s0],-1)
 | i+1=>(Zax b (ZG st co N a i (Zi b a i).1),lmin (Zi b a i).2 (cutK sc b (ZG st co N a i (Zi b a i).1)))
def IsNd (P:List Int) (n:Nd):Prop:=n.1=sta st co s0 P∧n.2.1=met st co s0 P∧n.2.2.2=P
theorem isNd_root:IsNd st co s0 [] (root s0):=⟨rfl,rfl,rfl⟩
theorem Zdl {a i:Nat} {P:List Int} {n:Nd} (h:IsNd st co s0 P n) (hi:P.length=i) (k:Int):IsNd st co s0 (P++[k]) (kidS st co N a i n k)∧sc (kidS st co N a i n k)=scA st co N s0 a (P++[k]):=by
 obtain ⟨h1,h2,h3⟩:=h;have e1:(kid st co n k).1=sta st co s0 (P++[k]):=by rw [ZaM,← h1]; rfl
 have e2:(kid st co n k).2.1=met st co s0 (P++[k]):=by
  rw [Za6,← h1,← h2];unfold kid;rw [h3]
 refine ⟨⟨e1,e2,?_⟩,?_⟩
 ·show n.2.2.2++[k]=P++[k]
  rw [h3]
 ·show lst st co N a (kid st co n k).1 (i+1) (kid st co n k).2.1=_
  rw [e1,e2];unfold scA;rw [List.length_append,hi];rfl
theorem ZaZ {a i:Nat} {l:List Nd} {c:Nd} (h:c∈ZG st co N a i l):∃ n∈l,∃ k,(0≤k∧k<16)∧c=kidS st co N a i n k:=by
 unfold ZG at h;obtain ⟨n,hn,hc⟩:=List.mem_flatMap.1 h;obtain ⟨k,hk,rfl⟩:=List.mem_map.1 hc;exact ⟨n,hn,k,Zb5.1 hk,rfl⟩
theorem Zd8 {a i:Nat} {l:List Nd} {n:Nd} (hn:n∈l) {k:Int} (hk:0≤k∧k<16):kidS st co N a i n k∈ZG st co N a i l:=by
 unfold ZG;exact List.mem_flatMap.2 ⟨n,hn,List.mem_map.2 ⟨k,Zb5.2 hk,rfl⟩⟩
theorem Zal (a i:Nat):∀ l:List Nd,(ZG st co N a i l).length=l.length * 16
 | []=>rfl
 | n :: l=>by
  have:=Zal a i l
  unfold ZG at this ⊢
  rw [List.flatMap_cons,List.length_append,this,List.length_map,List.length_cons]
  have:Za7.length=16:=by unfold Za7; decide
  omega
def Zw (n:Nd):List Int:=n.2.2.2
theorem ZcC (a i:Nat):∀ l:List Nd,(l.map Zw).Nodup→((ZG st co N a i l).map Zw).Nodup
 | [],_=>by simp [ZG]
 | n :: l,h=>by
  rw [List.map_cons,List.nodup_cons] at h
  have ih:=ZcC a i l h.2
  have e:(ZG st co N a i (n :: l)).map Zw=(Za7.map fun k=>Zw n++[k])++(ZG st co N a i l).map Zw:=by
   unfold ZG;rw [List.flatMap_cons,List.map_append,List.map_map];rfl
  rw [e];refine List.nodup_append.2 ⟨?_,ih,?_⟩
  ·refine List.pairwise_map.2 (nib16_nodup.imp fun hne=>fun e=>hne ?_);have:=List.append_cancel_left e;simpa using this
  ·intro x hx y hy exy;subst exy;obtain ⟨k,_,rfl⟩:=List.mem_map.1 hx;obtain ⟨c,hc,e2⟩:=List.mem_map.1 hy;obtain ⟨n',hn',k',_,rfl⟩:=ZaZ st co N hc;have e3:Zw n'++[k']=Zw n++[k]:=e2
   have e4:Zw n'=Zw n:=by
    have:=congrArg List.dropLast e3;simpa using this
   exact h.1 (by rw [← e4]; exact List.mem_map.2 ⟨n',hn',rfl⟩)
theorem Zbj (b:Nat) (l:List Nd):(Zax b l++(Zar sc l).drop b).Perm l:=by
 unfold Zax;rw [List.take_append_drop];exact ZI sc l
theorem ZcS {b:Nat} {l:List Nd} {x:Nd} (h:x∈Zax b l):x∈l:=(Zbj b l).mem_iff.1 (List.mem_append.2 (.inl h))
theorem nodup_kept {b:Nat} {l:List Nd} (h:(l.map Zw).Nodup):((Zax b l).map Zw).Nodup:=by
 have h1:=((Zbj b l).map Zw).nodup_iff.2 h;rw [List.map_append] at h1;exact (List.nodup_append.1 h1).1
structure Walked (a b i:Nat) (l:List Nd) (cut:Int):Prop where
 node:∀ n∈l,∃ P,P.length=i∧Nibs P∧IsNd st co s0 P n∧(0<i→sc n=scA st co N s0 a P)
 once:(l.map Zw).Nodup
 rise:Zbh sc l
 some:0<l.length
 most:l.length≤max 1 b
 cut1:-1≤cut
theorem lmin_ge {a c:Int} (h:-1≤a):-1≤lmin a c:=by unfold lmin; split <;> omega
theorem Z5 (a b:Nat) (hb:1≤b):∀ i,Walked st co N s0 a b i (Zi st co N s0 b a i).1 (Zi st co N s0 b a i).2
 | 0=>by
  refine ⟨fun n hn=>?_,by simp [Zi],by simp [Zi,Zbh],by simp [Zi],by simp [Zi]; omega,by simp [Zi]⟩
  simp [Zi] at hn
  subst hn
  exact ⟨[],rfl,fun k hk=>by simp at hk,isNd_root st co s0,fun h=>absurd h (by omega)⟩
 | i+1=>by
  have ih:=Z5 a b hb i
  refine ⟨fun n hn=>?_,?_,?_,?_,?_,?_⟩
  ·have:=ZcS hn
   obtain ⟨n',hn',k,hk,rfl⟩:=ZaZ st co N this
   obtain ⟨P,hP1,hP2,hP3,_⟩:=ih.node n' hn'
   obtain ⟨h1,h2⟩:=Zdl st co N s0 (a:=a) hP3 hP1 k
   exact ⟨P++[k],by simp [hP1],hP2.snoc hk,h1,fun _=>h2⟩
  ·exact nodup_kept (ZcC st co N a i _ ih.once)
  ·exact (Zbi sc _).take b
  ·show 0<(Zax b _).length
   rw [ZeB,Zal]
   have:=ih.some
   omega
  ·show (Zax b _).length≤_
   rw [ZeB]
   omega
  ·exact lmin_ge ih.cut1
theorem Zd9 (hco:∀ i s,0≤co i s) (a b:Nat) (hb:1≤b) (P:List Int) (hP:Nibs P) (hl:P.length=N):∀ i,i≤N→(∃ n∈(Zi st co N s0 b a i).1,Zw n=P.take i)∨(0≤(Zi st co N s0 b a i).2∧(Zi st co N s0 b a i).2≤met st co s0 P)
 | 0,_=>.inl ⟨root s0,by simp [Zi],by simp [Zw,root]⟩
 | i+1,hi=>by
  have hW:=Z5 st co N s0 a b hb i
  have hlow:∀ c m:Int,0≤m→(Zi st co N s0 b a i).2≤m→0≤(Zi st co N s0 b a i).2→0≤lmin (Zi st co N s0 b a i).2 c∧lmin (Zi st co N s0 b a i).2 c≤m:=fun c m _ h1 h2=>by unfold lmin; split <;> omega
  rcases Zd9 hco a b hb P hP hl i (by omega) with ⟨n,hn,hp⟩ | ⟨h1,h2⟩
  ·obtain ⟨k,hk⟩:∃ k,P[i]? = some k:=⟨P[i]'(by omega),by simp⟩
   have hk16:=hP k (List.mem_of_getElem? hk)
   have hc:=Zd8 st co N (a:=a) (i:=i) hn hk16
   obtain ⟨Q,hQ1,hQ2,hQ3,_⟩:=hW.node n hn
   have hQP:Q=P.take i:=by rw [← hp]; exact hQ3.2.2.symm
   obtain ⟨e1,e2⟩:=Zdl st co N s0 (a:=a) hQ3 hQ1 k
   have etk:P.take (i+1)=Q++[k]:=by rw [List.take_add_one,hk,hQP]; rfl
   rcases List.mem_append.1 ((Zbj b _).mem_iff.2 hc) with h | h
   ·exact .inl ⟨_,h,by rw [etk]; exact e1.2.2⟩
   ·refine .inr ?_
    have hle:sc (kidS st co N a i n k)≤met st co s0 P:=by
     rw [e2];have:=ZgD st co N s0 hco a (Q++[k]) (P.drop (i+1)) (fun x hx=>hP x (List.mem_of_mem_drop hx)) (by simp [hQ1,hl]; omega);rw [← etk] at this ⊢;rwa [List.take_append_drop] at this
    have hcut:=Zcw sc b (ZG st co N a i (Zi st co N s0 b a i).1);rcases hcut with ⟨_,hno⟩ | ⟨⟨y,hy,ey⟩,hmin⟩
    ·exact absurd ⟨_,h,rfl⟩ (hno (sc (kidS st co N a i n k)))
    ·have h5:=hmin _ ⟨_,h,rfl⟩
     have h6:0≤cutK sc b (ZG st co N a i (Zi st co N s0 b a i).1):=by
      rw [← ey];obtain ⟨n',hn',k',hk',rfl⟩:=ZaZ st co N ((Zbj b _).mem_iff.1 (List.mem_append.2 (.inr hy)));obtain ⟨Q',hQ1',hQ2',hQ3',_⟩:=hW.node n' hn';obtain ⟨_,e2'⟩:=Zdl st co N s0 (a:=a) hQ3' hQ1' k';rw [e2'];exact Int.le_trans (ZbS st co s0 hco _) (ZgC st co N s0 hco a _ (by simp [hQ1']; omega))
     show 0≤lmin _ _∧lmin _ _≤_
     have h7:=hW.cut1;unfold lmin
     split <;> omega
  ·exact .inr (hlow _ _ (ZbS st co s0 hco P) h2 h1)
theorem Zea (hco:∀ i s,0≤co i s) (a b:Nat) (hb:1≤b) (hN:0<N) {n:Nd} {t:List Nd} (hl:(Zi st co N s0 b a N).1=n :: t) (ht:∀ u,t.head? = some u→u.2.1≠n.2.1) (hc:¬ (0≤(Zi st co N s0 b a N).2∧(Zi st co N s0 b a N).2≤n.2.1)) :
  IsNd st co s0 (Zw n) n∧(Zw n).length=N∧Nibs (Zw n)∧∀ P,Nibs P→P.length=N→P≠Zw n→n.2.1<met st co s0 P:=by
 have hW:=Z5 st co N s0 a b hb N;rw [hl] at hW;obtain ⟨Q,hQ1,hQ2,hQ3,_⟩:=hW.node n (by simp);have eQ:Zw n=Q:=hQ3.2.2;refine ⟨by rw [eQ]; exact hQ3,by rw [eQ]; exact hQ1,by rw [eQ]; exact hQ2,fun P hP hPl hne=>?_⟩
 have hsc:∀ u∈n :: t,sc u=u.2.1:=fun u hu=>by
  obtain ⟨R,hR1,_,hR3,hR4⟩:=hW.node u hu;rw [hR4 hN,ZeC st co N s0 a R hR1,hR3.2.1]
 rcases Zd9 st co N s0 hco a b hb P hP hPl N (Nat.le_refl _) with ⟨u,hu,hp⟩ | ⟨h1,h2⟩
 ·rw [hl] at hu;rw [List.take_of_length_le (by omega)] at hp;obtain ⟨R,hR1,_,hR3,_⟩:=hW.node u hu;have eR:R=P:=by rw [← hp]; exact hR3.2.2.symm
  have em:u.2.1=met st co s0 P:=by rw [hR3.2.1,eR]
  rcases List.mem_cons.1 hu with e | hu'
  ·subst e; exact absurd hp.symm hne
  ·cases t with
   | nil=>simp at hu'
   | cons v t =>
    have hv:=ht v rfl;have hr:=List.pairwise_cons.1 hW.rise;have h3:sc n≤sc v:=hr.1 v (by simp)
    have h4:sc v≤sc u:=by
     rcases List.mem_cons.1 hu' with e | hu''
     ·subst e; exact Int.le_refl _
     ·exact (List.pairwise_cons.1 hr.2).1 u hu''
    rw [hsc n (by simp),hsc v (by simp)] at h3;rw [hsc v (by simp),hsc u hu] at h4;rw [← em];omega
 ·omega
theorem clear_told (hco:∀ i s,0≤co i s) (a b:Nat) (hb:1≤b) (hN:0<N) (T:List Int) (hT:Nibs T) (hTl:T.length=N) (hU:∀ P,Nibs P→P.length=N→P≠T→met st co s0 T<met st co s0 P)
  (hH:∀ i,i<N→(∀ Q,Nibs Q→Q.length=i+1→Q≠T.take (i+1)→met st co s0 T<scA st co N s0 a Q)∨(Zi st co N s0 b a i).1.length * 16≤b) :
  ∃ n t,(Zi st co N s0 b a N).1=n :: t∧Zw n=T∧n.2.1=met st co s0 T∧(∀ u,t.head? = some u→u.2.1≠n.2.1)∧¬ (0≤(Zi st co N s0 b a N).2∧(Zi st co N s0 b a N).2≤n.2.1):=by
 have hM:=ZbS st co s0 hco T
 have key:∀ i,i≤N→(∃ n∈(Zi st co N s0 b a i).1,Zw n=T.take i)∧((Zi st co N s0 b a i).2<0∨met st co s0 T<(Zi st co N s0 b a i).2):=by
  intro i
  induction i with
  | zero=>intro _; exact ⟨⟨root s0,by simp [Zi],by simp [Zw,root]⟩,.inl (by simp [Zi])⟩
  | succ i ih =>
   intro hi;obtain ⟨⟨n,hn,hp⟩,hc⟩:=ih (by omega);have hW:=Z5 st co N s0 a b hb i;obtain ⟨k,hk⟩:∃ k,T[i]? = some k:=⟨T[i]'(by omega),by simp⟩;have hk16:=hT k (List.mem_of_getElem? hk);have hmem:=Zd8 st co N (a:=a) (i:=i) hn hk16;obtain ⟨Q,hQ1,hQ2,hQ3,_⟩:=hW.node n hn;have hQP:Q=T.take i:=by rw [← hp]; exact hQ3.2.2.symm
   obtain ⟨e1,e2⟩:=Zdl st co N s0 (a:=a) hQ3 hQ1 k;have etk:T.take (i+1)=Q++[k]:=by rw [List.take_add_one,hk,hQP]; rfl
   have hle:sc (kidS st co N a i n k)≤met st co s0 T:=by
    rw [e2];have:=ZgD st co N s0 hco a (Q++[k]) (T.drop (i+1)) (fun x hx=>hT x (List.mem_of_mem_drop hx)) (by simp [hQ1,hTl]; omega);rw [← etk] at this ⊢;rwa [List.take_append_drop] at this
   have hnd:=ZcC st co N a i _ hW.once;have hperm:=Zbj b (ZG st co N a i (Zi st co N s0 b a i).1);rcases hH i (by omega) with h | h
   ·have hother:∀ c∈ZG st co N a i (Zi st co N s0 b a i).1,Zw c≠T.take (i+1)→met st co s0 T<sc c:=by
     intro c hc' hne;obtain ⟨n',hn',k',hk',rfl⟩:=ZaZ st co N hc';obtain ⟨Q',hQ1',hQ2',hQ3',_⟩:=hW.node n' hn';obtain ⟨e1',e2'⟩:=Zdl st co N s0 (a:=a) hQ3' hQ1' k';rw [e2'];refine h _ (hQ2'.snoc hk') (by simp [hQ1']) ?_;rw [← e1'.2.2];exact hne
    have hin:kidS st co N a i n k∈Zax b (ZG st co N a i (Zi st co N s0 b a i).1):=by
     rcases List.mem_append.1 (hperm.mem_iff.2 hmem) with h' | h'
     ·exact h'
     ·exfalso
      have hlen:0<(Zax b (ZG st co N a i (Zi st co N s0 b a i).1)).length:=by
       rw [ZeB,Zal];have:=hW.some;omega
      obtain ⟨u,hu⟩:∃ u,u∈Zax b (ZG st co N a i (Zi st co N s0 b a i).1):=⟨_,List.getElem_mem hlen⟩;have hs:=Zbi sc (ZG st co N a i (Zi st co N s0 b a i).1);unfold Zbh at hs;rw [← List.take_append_drop b (Zar sc (ZG st co N a i (Zi st co N s0 b a i).1))] at hs;have h1:=(List.pairwise_append.1 hs).2.2 u hu _ h'
      have hup:Zw u≠T.take (i+1):=by
       intro e;have h2:=(hperm.map Zw).nodup_iff.2 hnd;rw [List.map_append] at h2;exact (List.nodup_append.1 h2).2.2 _ (List.mem_map.2 ⟨u,hu,rfl⟩) _ (List.mem_map.2 ⟨_,h',rfl⟩) (by rw [e,etk]; exact e1.2.2.symm)
      have:=hother u (ZcS hu) hup;omega
    refine ⟨⟨_,hin,by rw [etk]; exact e1.2.2⟩,?_⟩
    have hcut:cutK sc b (ZG st co N a i (Zi st co N s0 b a i).1)<0∨met st co s0 T<cutK sc b (ZG st co N a i (Zi st co N s0 b a i).1):=by
     rcases Zcw sc b (ZG st co N a i (Zi st co N s0 b a i).1) with ⟨e,_⟩ | ⟨⟨y,hy,ey⟩,_⟩
     ·exact .inl (by rw [e]; decide)
     ·right;rw [← ey];refine hother y (hperm.mem_iff.1 (List.mem_append.2 (.inr hy))) fun e=>?_
      have h2:=(hperm.map Zw).nodup_iff.2 hnd;rw [List.map_append] at h2;exact (List.nodup_append.1 h2).2.2 _ (List.mem_map.2 ⟨_,hin,rfl⟩) _ (List.mem_map.2 ⟨y,hy,rfl⟩) (by rw [e,etk]; exact e1.2.2)
    show lmin _ _<0∨_<lmin _ _
    unfold lmin
    split <;> omega
   ·have hall:Zax b (ZG st co N a i (Zi st co N s0 b a i).1)=Zar sc (ZG st co N a i (Zi st co N s0 b a i).1):=by
     unfold Zax;exact List.take_of_length_le (by rw [(ZI sc _).length_eq,Zal]; exact h)
    have hcut:cutK sc b (ZG st co N a i (Zi st co N s0 b a i).1) = -1:=by
     unfold cutK;rw [List.getElem?_eq_none (by rw [(ZI sc _).length_eq,Zal]; exact h)]
    refine ⟨⟨_,?_,by rw [etk]; exact e1.2.2⟩,?_⟩
    ·show _∈Zax b _
     rw [hall];exact (ZI sc _).mem_iff.2 hmem
    ·show lmin _ _<0∨_<lmin _ _
     rw [hcut];unfold lmin
     split <;> omega
 obtain ⟨⟨n,hn,hp⟩,hc⟩:=key N (Nat.le_refl _);rw [List.take_of_length_le (by omega)] at hp;have hW:=Z5 st co N s0 a b hb N
 cases hl:(Zi st co N s0 b a N).1 with
 | nil=>rw [hl] at hn; simp at hn
 | cons v t =>
  rw [hl] at hn hW
  have hsc:∀ u∈v :: t,sc u=u.2.1∧(Zw u≠T→met st co s0 T<u.2.1)∧(Zw u=T→u.2.1=met st co s0 T):=fun u hu=>by
   obtain ⟨R,hR1,hR2,hR3,hR4⟩:=hW.node u hu;refine ⟨by rw [hR4 hN,ZeC st co N s0 a R hR1,hR3.2.1],fun h=>?_,fun h=>?_⟩
   ·rw [hR3.2.1];exact hU R hR2 hR1 (fun e=>h (by rw [← e]; exact hR3.2.2))
   ·rw [hR3.2.1,← h];exact congrArg _ hR3.2.2.symm
  have hr:=List.pairwise_cons.1 hW.rise
  have hv:Zw v=T:=by
   rcases List.mem_cons.1 hn with e | hn'
   ·rw [← e]; exact hp
   ·refine Classical.byContradiction fun hne=>?_
    have h1:=hr.1 n hn';rw [(hsc v (by simp)).1,(hsc n hn).1,(hsc n hn).2.2 hp] at h1;have:=(hsc v (by simp)).2.1 hne;omega
  have hvm:=(hsc v (by simp)).2.2 hv;refine ⟨v,t,rfl,hv,hvm,fun u hu e=>?_,fun h=>?_⟩
  ·have hut:u∈t:=List.mem_of_mem_head? hu
   have hup:Zw u≠T:=fun e'=>by
    have:=hW.once;rw [List.map_cons,List.nodup_cons] at this;exact this.1 (by rw [hv,← e']; exact List.mem_map.2 ⟨u,hut,rfl⟩)
   have:=(hsc u (by simp [hut])).2.1 hup;omega
  ·omega
theorem four_pos (hco:∀ i s,0≤co i s) (T:List Int) (hTl:T.length=N) (hT:Nibs T) (hz:∀ i,i<N→co i (sta st co s0 (T.take (i+1)))=0)
  (hpos:∀ (i:Nat) (Q:List Int) (k:Int),i<N→Q.length=i→Nibs (Q++[k])→sta st co s0 (Q++[k])≠sta st co s0 (T.take (i+1))→0<co i (sta st co s0 (Q++[k])))
  (hinj:∀ (i:Nat) (k k':Int),i<N→(0≤k∧k<16)→(0≤k'∧k'<16)→st (sta st co s0 (T.take i)) k=st (sta st co s0 (T.take i)) k'→k=k') :
  (∀ i,i≤N→met st co s0 (T.take i)=0)∧∀ (i:Nat) (Q:List Int),i≤N→Nibs Q→Q.length=i→Q≠T.take i→0<met st co s0 Q:=by
 have hzero:∀ i,i≤N→met st co s0 (T.take i)=0:=by
  intro i
  induction i with
  | zero=>intro _; rw [List.take_zero]; rfl
  | succ i ih =>
   intro hi;obtain ⟨k,hk⟩:∃ k,T[i]? = some k:=⟨T[i]'(by omega),by simp⟩;have e:T.take (i+1)=T.take i++[k]:=by rw [List.take_add_one,hk]; rfl
   have h1:=Za6 st co s0 (T.take i) k;have h2:=hz i (by omega);rw [e,ZaM] at h2;rw [e,h1,ih (by omega),List.length_take,Nat.min_eq_left (by omega),h2];rfl
 refine ⟨hzero,fun i=>?_⟩
 induction i with
 | zero =>
  intro Q _ _ hQl hne;exact absurd (by rw [List.length_eq_zero_iff.1 hQl,List.take_zero]) hne
 | succ i ih =>
  intro Q hi hQ hQl hne
  obtain ⟨Q',k,rfl⟩:∃ Q' k,Q=Q'++[k]:=by
   refine ⟨Q.dropLast,Q.getLast (by intro e; rw [e] at hQl; simp at hQl),?_⟩;exact (List.dropLast_concat_getLast _).symm
  have hl':Q'.length=i:=by simpa using hQl
  have hmono:=Zc4 st co s0 hco Q' [k];by_cases hq:Q'=T.take i
  ·obtain ⟨k',hk'⟩:∃ k',T[i]? = some k':=⟨T[i]'(by omega),by simp⟩;have e:T.take (i+1)=T.take i++[k']:=by rw [List.take_add_one,hk']; rfl
   have hkk:k≠k':=fun h=>hne (by rw [e,hq,h])
   have h1:=hpos i Q' k (by omega) hl' hQ (fun h=>hkk (hinj i k k' (by omega) (hQ k (by simp)) (hT k' (List.mem_of_getElem? hk')) (by rw [e,ZaM,ZaM,hq] at h; exact h)));rw [ZaM] at h1;rw [Za6,hl'];have:=ZbS st co s0 hco Q';omega
  ·have:=ih Q' (by omega) hQ.left hl' hq;omega
end
def pcTo:Nat→Nat→Nat
 | 0,_=>0
 | k+1,n=>pcTo k n+(n.testBit k).toNat
theorem Zbk (k n:Nat):pcTo (k+1) n=pcTo k n+(n.testBit k).toNat:=rfl
theorem Zfs (k n:Nat):pcTo k n≤k:=by
 induction k with
 | zero=>exact Nat.le_refl _
 | succ k ih=>rw [Zbk]; have:=Bool.toNat_le (n.testBit k); omega
theorem pcTo_congr (k n m:Nat) (h:∀ i,i<k→n.testBit i=m.testBit i):pcTo k n=pcTo k m:=by
 induction k with
 | zero=>rfl
 | succ k ih=>rw [Zbk,Zbk,ih (fun i hi=>h i (by omega)),h k (by omega)]
theorem Zc6 (a b n:Nat):pcTo (a+b) n=pcTo a n+pcTo b (n >>> a):=by
 induction b with
 | zero=>rfl
 | succ b ih=>rw [← Nat.add_assoc,Zbk,ih,Zbk,Nat.testBit_shiftRight]; omega
theorem Zc7 (k n m:Nat) (h:k≤m):pcTo k (n % 2 ^ m)=pcTo k n :=
 pcTo_congr k _ _ fun i hi=>by rw [Nat.testBit_mod_two_pow]; simp; omega
theorem pop8_pc:∀ n:Fin 256,Lib.pop8 (n.val:Int)=(pcTo 8 n.val:Int):=by decide +kernel
theorem Zdm (x:Int) (h0:0≤x) (h1:x≤255):Lib.pop8 x=(pcTo 8 x.toNat:Int):=by
 have e:=pop8_pc ⟨x.toNat,by omega⟩;simp only [Int.toNat_of_nonneg h0] at e;exact e
theorem pc_bytes (n:Nat) (_h:n<4294967296):pcTo 32 n=pcTo 8 (n / 16777216)+pcTo 8 (n / 65536 % 256)+pcTo 8 (n / 256 % 256)+pcTo 8 (n % 256):=by
 rw [show (32:Nat)=8+(8+(8+8)) from rfl,Zc6 8,Zc6 8 (8+8),Zc6 8 8];simp only [Nat.shiftRight_eq_div_pow,Nat.div_div_eq_div_mul];have e1:=Zc7 8 n 8 (Nat.le_refl _);have e2:=Zc7 8 (n / 2 ^ 8) 8 (Nat.le_refl _);have e3:=Zc7 8 (n / (2 ^ 8 * 2 ^ 8)) 8 (Nat.le_refl _);rw [← e1,← e2,← e3];simp only [Nat.reducePow,Nat.reduceMul];omega
theorem pc_bytes_int (x:Int) (h0:0≤x) (h1:x≤4294967295) :
  Lib.pop8 (x / 16777216)+Lib.pop8 (x / 65536 % 256)+Lib.pop8 (x / 256 % 256)+Lib.pop8 (x % 256)=(pcTo 32 x.toNat:Int):=by
 obtain ⟨n,rfl⟩:=Int.eq_ofNat_of_zero_le h0;rw [Zdm _ (by omega) (by omega),Zdm _ (by omega) (by omega),Zdm _ (by omega) (by omega),Zdm _ (by omega) (by omega),Int.toNat_natCast,pc_bytes n (by omega)];have a1:((n:Int) / 16777216).toNat=n / 16777216:=by omega
 have a2:((n:Int) / 65536 % 256).toNat=n / 65536 % 256:=by omega
 have a3:((n:Int) / 256 % 256).toNat=n / 256 % 256:=by omega
 have a4:((n:Int) % 256).toNat=n % 256:=by omega
 rw [a1,a2,a3,a4];omega
theorem ZeE (x:Int) (h0:0≤x) (h1:x≤255):0≤Lib.pop8 x∧Lib.pop8 x≤8:=by
 rw [Zdm x h0 h1];have:=Zfs 8 x.toNat;omega
theorem ZcD (x:Int) (h0:0≤x) (h1:x<4294967296):bits .and .u32 x 255=x % 256 :=
 bits_mask .u32 32 (by decide) (fun n a b=>by rw [IntKind.wrap_u32]; omega) 8 (by decide) x h0 (by simpa using h1)
theorem Zdn (n:Int) (h0:0≤n) (h1:n<2 ^ 63):IntKind.i64.wrap n=n:=by
 have e:(2:Int) ^ 63=9223372036854775808:=by decide
 rw [e] at h1; rw [IntKind.wrap_i64]; omega
theorem i64_mask (i:Nat) (hi:i≤63) (x:Int) (h0:0≤x) (h1:x<2 ^ 63):bits .and .i64 x (2 ^ i-1)=x % 2 ^ i :=
 bits_mask .i64 63 (by decide) Zdn i hi x h0 h1
theorem ZeY (x:Int) (h0:0≤x) (h1:x≤9223372036854775807):bits .and .i64 x 15=x % 16:=by
 have e63:(2:Int) ^ 63=9223372036854775808:=by decide
 have e:=i64_mask 4 (by decide) x h0 (by rw [e63]; omega);simpa using e
end Go.Proofs.YtkigbanldiialaaGreatDoor
