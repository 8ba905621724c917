/-
  Which nodes are picked, as lists. No program is spoken of.
-/
import Derived.Test.YtkigbanldiialaaGreatDoorRows
namespace Go.Proofs.YtkigbanldiialaaGreatDoor
abbrev Nd:=Int×Int×Int×List Int
def sc (x:Nd):Int:=x.2.2.1
def insK {α:Type} (k:α→Int) (x:α):List α→List α
 | []=>[x]
 | y :: t=>if k x≤k y then x :: y :: t else y :: insK k x t
def Zar {α:Type} (k:α→Int):List α→List α
 | []=>[]
 | x :: l=>insK k x (Zar k l)
theorem Zdf {α:Type} (k:α→Int) (x:α):∀ l,(insK k x l).Perm (x :: l)
 | []=>List.Perm.refl _
 | y :: t=>by
  unfold insK
  split
  ·exact List.Perm.refl _
  ·exact ((Zdf k x t).cons y).trans (List.Perm.swap x y t)
theorem ZI {α:Type} (k:α→Int):∀ l,(Zar k l).Perm l
 | []=>List.Perm.refl _
 | x :: l=>(Zdf k x _).trans ((ZI k l).cons x)
theorem ZfD {α β:Type} (k:β→Int) (f:α→β) (x:α):∀ l,insK k (f x) (l.map f)=(insK (fun a=>k (f a)) x l).map f
 | []=>rfl
 | y :: t=>by
  simp only [List.map_cons,insK]
  split
  ·rfl
  ·rw [List.map_cons,ZfD k f x t]
theorem ZeU {α β:Type} (k:β→Int) (f:α→β):∀ l,Zar k (l.map f)=(Zar (fun a=>k (f a)) l).map f
 | []=>rfl
 | x :: l=>by
  simp only [List.map_cons,Zar]
  rw [ZeU k f l,ZfD]
theorem Zd3 {α:Type} {k k':α→Int} (x:α) (hx:k x=k' x):∀ l,(∀ y∈l,k y=k' y)→insK k x l=insK k' x l
 | [],_=>rfl
 | y :: t,h=>by
  simp only [insK]
  rw [hx,h y (by simp),Zd3 x hx t (fun z hz=>h z (by simp [hz]))]
theorem Zdg {α:Type} {k k':α→Int}:∀ l,(∀ y∈l,k y=k' y)→Zar k l=Zar k' l
 | [],_=>rfl
 | x :: l,h=>by
  simp only [Zar]
  rw [Zdg l (fun z hz=>h z (by simp [hz])),Zd3 x (h x (by simp)) _ (fun y hy=>h y (by simp [(ZI k' l).mem_iff.1 hy]))]
def LexK {α:Type} (k:α→Int) (R:α→α→Prop) (a b:α):Prop:=k a<k b∨(k a=k b∧R a b)
theorem LexK.le {α:Type} {k:α→Int} {R:α→α→Prop} {a b:α} (h:LexK k R a b):k a≤k b:=by rcases h with h | h <;> omega
theorem ZfE {α:Type} (k:α→Int) (R:α→α→Prop) (x:α):∀ l:List α,l.Pairwise (LexK k R)→(∀ y∈l,R x y)→(insK k x l).Pairwise (LexK k R)
 | [],_,_=>by simp [insK]
 | y :: t,h,hx=>by
  obtain ⟨h1,h2⟩:=List.pairwise_cons.1 h
  unfold insK
  split
  ·next hle =>
   refine List.pairwise_cons.2 ⟨fun z hz=>?_,h⟩
   have hyz:k y≤k z:=by
    rcases List.mem_cons.1 hz with rfl | hz'
    ·exact Int.le_refl _
    ·exact (h1 z hz').le
   by_cases e:k x=k z
   ·exact .inr ⟨e,hx z hz⟩
   ·exact .inl (by omega)
  ·next hle =>
   refine List.pairwise_cons.2 ⟨fun z hz=>?_,ZfE k R x t h2 (fun y' hy'=>hx y' (by simp [hy']))⟩;rcases List.mem_cons.1 ((Zdf k x t).mem_iff.1 hz) with rfl | hz'
   ·exact .inl (by omega)
   ·exact h1 z hz'
theorem Zdh {α:Type} (k:α→Int) (R:α→α→Prop):∀ l:List α,l.Pairwise R→(Zar k l).Pairwise (LexK k R)
 | [],_=>List.Pairwise.nil
 | x :: l,h=>by
  obtain ⟨h1,h2⟩:=List.pairwise_cons.1 h
  exact ZfE k R x _ (Zdh k R l h2) (fun y hy=>h1 y ((ZI k l).mem_iff.1 hy))
def Zbh {α:Type} (k:α→Int) (l:List α):Prop:=l.Pairwise fun a b=>k a≤k b
theorem Zbi {α:Type} (k:α→Int) (l:List α):Zbh k (Zar k l):=(Zdh k (fun _ _=>True) l (List.pairwise_of_forall (fun _ _=>trivial))).imp fun h=>h.le
theorem Zbh.take {α:Type} {k:α→Int} {l:List α} (h:Zbh k l) (n:Nat):Zbh k (l.take n):=List.Pairwise.sublist (List.take_sublist n l) h
def ZaX (P:Int→Prop) (v:Int):Prop:=(v = -1∧∀ z,¬ P z)∨(P v∧∀ z,P z→v≤z)
theorem ZaX.congr {P Q:Int→Prop} (h:∀ z,P z↔Q z) {v:Int} (hv:ZaX P v):ZaX Q v:=by
 rcases hv with ⟨h1,h2⟩ | ⟨h1,h2⟩
 ·exact .inl ⟨h1,fun z hz=>h2 z ((h z).2 hz)⟩
 ·exact .inr ⟨(h v).1 h1,fun z hz=>h2 z ((h z).2 hz)⟩
theorem ZaX.ge {P:Int→Prop} (h0:∀ z,P z→0≤z) {v:Int} (h:ZaX P v):-1≤v:=by
 rcases h with ⟨h1,_⟩ | ⟨h1,_⟩
 ·omega
 ·have:=h0 v h1; omega
theorem ZaX.more {P:Int→Prop} (h0:∀ z,P z→0≤z) {v c:Int} (h:ZaX P v) (hc:v<0∨c<v):ZaX (fun z=>P z∨z=c) c:=by
 refine .inr ⟨.inr rfl,fun z hz=>?_⟩;rcases hz with hz | rfl
 ·rcases h with ⟨h1,h2⟩ | ⟨h1,h2⟩
  ·exact absurd hz (h2 z)
  ·have:=h2 z hz;have:=h0 v h1;omega
 ·exact Int.le_refl _
theorem ZaX.same {P:Int→Prop} {v c:Int} (h:ZaX P v) (h1:0≤v) (hc:v≤c):ZaX (fun z=>P z∨z=c) v:=by
 rcases h with ⟨e,_⟩ | ⟨hp,hm⟩
 ·omega
 ·exact .inr ⟨.inl hp,fun z hz=>by rcases hz with hz | rfl; exact hm z hz; exact hc⟩
def lmin (a c:Int):Int:=if 0≤c∧(a<0∨c<a) then c else a
theorem ZaX.or {P Q:Int→Prop} (hP:∀ z,P z→0≤z) (hQ:∀ z,Q z→0≤z) {u v:Int} (hu:ZaX P u) (hv:ZaX Q v):ZaX (fun z=>P z∨Q z) (lmin u v):=by
 unfold lmin;rcases hv with ⟨rfl,nv⟩ | ⟨pv,mv⟩
 ·rw [if_neg (by omega)];rcases hu with ⟨rfl,nu⟩ | ⟨pu,mu⟩
  ·exact .inl ⟨rfl,fun z hz=>hz.elim (nu z) (nv z)⟩
  ·exact .inr ⟨.inl pu,fun z hz=>hz.elim (mu z) (fun h=>absurd h (nv z))⟩
 ·have:=hQ v pv;rcases hu with ⟨rfl,nu⟩ | ⟨pu,mu⟩
  ·rw [if_pos (by omega)];exact .inr ⟨.inr pv,fun z hz=>hz.elim (fun h=>absurd h (nu z)) (mv z)⟩
  ·have:=hP u pu
   split
   ·exact .inr ⟨.inr pv,fun z hz=>hz.elim (fun h=>by have:=mu z h; omega) (mv z)⟩
   ·exact .inr ⟨.inl pu,fun z hz=>hz.elim (mu z) (fun h=>by have:=mv z h; omega)⟩
def cutK {α:Type} (k:α→Int) (n:Nat) (l:List α):Int:=match (Zar k l)[n]? with | some x=>k x | none=>-1
theorem Zcw {α:Type} (k:α→Int) (n:Nat) (l:List α):ZaX (fun z=>∃ x∈(Zar k l).drop n,k x=z) (cutK k n l):=by
 unfold cutK;have hs:Zbh k ((Zar k l).drop n):=List.Pairwise.sublist (List.drop_sublist n _) (Zbi k l)
 cases hd:(Zar k l).drop n with
 | nil =>
  have:(Zar k l)[n]? = none:=by rw [List.getElem?_eq_none_iff]; exact List.drop_eq_nil_iff.1 hd
  rw [this];exact .inl ⟨rfl,fun z ⟨x,hx,_⟩=>by simp at hx⟩
 | cons y t =>
  have:(Zar k l)[n]? = some y:=by
   have:=List.getElem?_drop (xs:=Zar k l) (i:=n) (j:=0);rw [hd] at this;simpa using this.symm
  rw [this];rw [hd] at hs;obtain ⟨h1,_⟩:=List.pairwise_cons.1 hs;refine .inr ⟨⟨y,by simp,rfl⟩,fun z ⟨x,hx,e⟩=>?_⟩;subst e;rcases List.mem_cons.1 hx with rfl | hx
  ·exact Int.le_refl _
  ·exact h1 x hx
def at0 (cs:List Int) (i:Nat):Int:=cs[i]?.getD 0
def ord (cs:List Int):List Nat:=Zar (at0 cs) (List.range cs.length)
theorem Zcx {cs:List Int} {i:Nat}:i∈ord cs↔i<cs.length:=by unfold ord; rw [(ZI _ _).mem_iff,List.mem_range]
theorem Zcy (cs:List Int):(ord cs).length=cs.length:=by unfold ord; rw [(ZI _ _).length_eq,List.length_range]
theorem ZeV (cs:List Int):(ord cs).Nodup:=(ZI _ _).nodup_iff.2 List.nodup_range
theorem Zf8 (cs:List Int):(ord cs).Pairwise (LexK (at0 cs) (· < ·)):=Zdh _ _ _ List.pairwise_lt_range
theorem ord_take_lt {cs:List Int} {n i:Nat} (h:i∈(ord cs).take n):i<cs.length:=Zcx.1 (List.mem_of_mem_take h)
def Best (cs:List Int) (tk:List Nat) (i:Nat):Prop:=i<cs.length∧i ∉ tk∧∀ j,j<cs.length→j ∉ tk→at0 cs i<at0 cs j∨(at0 cs i=at0 cs j∧i≤j)
theorem ZeW {cs:List Int} {n i:Nat} (h:Best cs ((ord cs).take n) i):(ord cs)[n]? = some i:=by
 obtain ⟨h1,h2,h3⟩:=h
 have hm:i∈(ord cs).drop n:=by
  have:=Zcx.2 h1;rw [← List.take_append_drop n (ord cs)] at this;rcases List.mem_append.1 this with h | h
  ·exact absurd h h2
  ·exact h
 cases hd:(ord cs).drop n with
 | nil=>rw [hd] at hm; simp at hm
 | cons y t =>
  have hy:(ord cs)[n]? = some y:=by
   have:=List.getElem?_drop (xs:=ord cs) (i:=n) (j:=0);rw [hd] at this;simpa using this.symm
  rw [hd] at hm;rcases List.mem_cons.1 hm with rfl | hm
  ·exact hy
  ·have hl:((ord cs).drop n).Pairwise (LexK (at0 cs) (· < ·)):=List.Pairwise.sublist (List.drop_sublist n _) (Zf8 cs);rw [hd] at hl;have hlt:=(List.pairwise_cons.1 hl).1 i hm
   have hyn:y ∉ (ord cs).take n:=fun hc=>by
    have hnd:=ZeV cs;rw [← List.take_append_drop n (ord cs),hd] at hnd;exact (List.nodup_append.1 hnd).2.2 y hc y (by simp) rfl
   have hyl:y<cs.length:=Zcx.1 (List.mem_of_getElem? hy);have:=h3 y hyl hyn;rcases hlt with h | ⟨h,h'⟩
   ·rcases this with t | t <;> omega
   ·rcases this with t | t <;> omega
theorem ZeX {cs:List Int} {n i:Nat} (h:(ord cs)[n]? = some i):(ord cs).take (n+1)=(ord cs).take n++[i]:=by rw [List.take_add_one,h]; rfl
theorem next_new {cs:List Int} {n i:Nat} (h:(ord cs)[n]? = some i):i ∉ (ord cs).take n:=fun hc=>by
 have hnd:=ZeV cs
 rw [← List.take_append_drop n (ord cs)] at hnd
 refine (List.nodup_append.1 hnd).2.2 i hc i ?_ rfl
 have:=List.getElem?_drop (xs:=ord cs) (i:=n) (j:=0)
 rw [Nat.add_zero,h] at this
 exact List.mem_of_getElem? this
theorem none_next {cs:List Int} {n:Nat} (h:∀ j,j<cs.length→j∈(ord cs).take n):(ord cs)[n]? = none:=by
 cases e:(ord cs)[n]? with
 | none=>rfl
 | some i=>exact absurd (h i (Zcx.1 (List.mem_of_getElem? e))) (next_new e)
theorem Zd4 {cs:List Int} {n i j:Nat} (h:(ord cs)[n]? = some i) (hj:j<cs.length) (hn:j ∉ (ord cs).take n):at0 cs i≤at0 cs j:=by
 have hm:j∈(ord cs).drop n:=by
  have:=Zcx.2 hj;rw [← List.take_append_drop n (ord cs)] at this;rcases List.mem_append.1 this with h | h
  ·exact absurd h hn
  ·exact h
 have hl:((ord cs).drop n).Pairwise (LexK (at0 cs) (· < ·)):=List.Pairwise.sublist (List.drop_sublist n _) (Zf8 cs)
 cases hd:(ord cs).drop n with
 | nil=>rw [hd] at hm; simp at hm
 | cons y t =>
  have hy:(ord cs)[n]? = some y:=by
   have:=List.getElem?_drop (xs:=ord cs) (i:=n) (j:=0);rw [hd] at this;simpa using this.symm
  rw [h] at hy
  cases hy
  rw [hd] at hm hl;rcases List.mem_cons.1 hm with rfl | hm
  ·exact Int.le_refl _
  ·exact ((List.pairwise_cons.1 hl).1 j hm).le
def Zcz (cs:List Int) (n:Nat):Int:=cutK (at0 cs) n (List.range cs.length)
theorem Zd5 {cs:List Int} {n i:Nat} (h:(ord cs)[n]? = some i):Zcz cs n=at0 cs i:=by
 unfold Zcz cutK;rw [show (Zar (at0 cs) (List.range cs.length))[n]? = some i from h]
theorem cutOf_none {cs:List Int} {n:Nat} (h:(ord cs)[n]? = none):Zcz cs n = -1:=by
 unfold Zcz cutK;rw [show (Zar (at0 cs) (List.range cs.length))[n]? = none from h]
def Z0 (l:List Nd):List Int:=l.map sc
theorem ZaY (l:List Nd):(Z0 l).length=l.length:=by simp [Z0]
theorem ZcA {l:List Nd} {i:Nat} {x:Nd} (h:l[i]? = some x):at0 (Z0 l) i=sc x:=by simp [at0,Z0,h]
def Zf9:Nd:=(0,0,0,[])
def ZaH (l:List Nd) (P:List Nat):List Nd:=P.map fun i=>l[i]?.getD Zf9
def Zax (n:Nat) (l:List Nd):List Nd:=(Zar sc l).take n
theorem range_map_self {l:List Nd}:(List.range l.length).map (fun i=>l[i]?.getD Zf9)=l:=by
 refine List.ext_getElem? fun i=>?_
 rw [List.getElem?_map];by_cases h:i<l.length
 ·rw [List.getElem?_range h]; simp [h]
 ·rw [List.getElem?_eq_none (by simp; omega),List.getElem?_eq_none (by omega)]; rfl
theorem ZfF (l:List Nd):Zar sc l=ZaH l (ord (Z0 l)):=by
 have e:=ZeU sc (fun i=>l[i]?.getD Zf9) (List.range l.length);rw [range_map_self] at e;rw [e];unfold ZaH ord;rw [ZaY,Zdg (k':=at0 (Z0 l))];intro i hi;obtain ⟨x,hx⟩:∃ x,l[i]? = some x:=⟨l[i]'(by simpa using hi),by simp⟩;rw [ZcA hx,hx];rfl
theorem kept_ord (n:Nat) (l:List Nd):Zax n l=ZaH l ((ord (Z0 l)).take n):=by
 unfold Zax;rw [ZfF];unfold ZaH;rw [List.map_take]
theorem cut_ord (n:Nat) (l:List Nd):Zcz (Z0 l) n=cutK sc n l:=by
 unfold Zcz cutK;have e:=ZfF l;unfold ZaH at e;rw [e,List.getElem?_map,show Zar (at0 (Z0 l)) (List.range (Z0 l).length)=ord (Z0 l) from rfl]
 cases h:(ord (Z0 l))[n]? with
 | none=>rfl
 | some i =>
  have hi:i<l.length:=by rw [← ZaY]; exact Zcx.1 (List.mem_of_getElem? h)
  obtain ⟨x,hx⟩:∃ x,l[i]? = some x:=⟨l[i],by simp⟩;simp only [Option.map_some];rw [ZcA hx,hx];rfl
theorem ZeB (n:Nat) (l:List Nd):(Zax n l).length=min n l.length:=by
 unfold Zax;rw [List.length_take,(ZI sc l).length_eq]
end Go.Proofs.YtkigbanldiialaaGreatDoor
