/-
  Which nodes are picked, as lists. No program is spoken of.
-/
import Derived.Test.YtabdnhkdoeibnaaGreatDoorM03
import Derived.Test.YtabdnhkdoeibnaaGreatDoorRows
import Derived.WalkLawsBesides
import Derived.WalkSpells
set_option maxRecDepth 100000
set_option maxHeartbeats 2000000
namespace Go.Proofs.YtabdnhkdoeibnaaGreatDoor
abbrev Nd:=Int×Int×Int×List Int
def sc (x:Nd):Int:=x.2.2.1
def insK {α:Type} (k:α→Int) (x:α):List α→List α
 | []=>[x]
 | y :: t=>if k x≤k y then x :: y :: t else y :: insK k x t
def Za9 {α:Type} (k:α→Int):List α→List α
 | []=>[]
 | x :: l=>insK k x (Za9 k l)
theorem ZeD {α:Type} (k:α→Int) (x:α):∀ l,(insK k x l).Perm (x :: l)
 | []=>List.Perm.refl _
 | y :: t=>by
  unfold insK
  split
  ·exact List.Perm.refl _
  ·exact ((ZeD k x t).cons y).trans (List.Perm.swap x y t)
theorem Z7 {α:Type} (k:α→Int):∀ l,(Za9 k l).Perm l
 | []=>List.Perm.refl _
 | x :: l=>(ZeD k x _).trans ((Z7 k l).cons x)
theorem Zhr {α β:Type} (k:β→Int) (f:α→β) (x:α):∀ l,insK k (f x) (l.map f)=(insK (fun a=>k (f a)) x l).map f
 | []=>rfl
 | y :: t=>by
  simp only [List.map_cons,insK]
  split
  ·rfl
  ·rw [List.map_cons,Zhr k f x t]
theorem ZgJ {α β:Type} (k:β→Int) (f:α→β):∀ l,Za9 k (l.map f)=(Za9 (fun a=>k (f a)) l).map f
 | []=>rfl
 | x :: l=>by
  simp only [List.map_cons,Za9]
  rw [ZgJ k f l,Zhr]
theorem Zfv {α:Type} {k k':α→Int} (x:α) (hx:k x=k' x):∀ l,(∀ y∈l,k y=k' y)→insK k x l=insK k' x l
 | [],_=>rfl
 | y :: t,h=>by
  simp only [insK]
  rw [hx,h y (by simp),Zfv x hx t (fun z hz=>h z (by simp [hz]))]
theorem ZeE {α:Type} {k k':α→Int}:∀ l,(∀ y∈l,k y=k' y)→Za9 k l=Za9 k' l
 | [],_=>rfl
 | x :: l,h=>by
  simp only [Za9]
  rw [ZeE l (fun z hz=>h z (by simp [hz])),Zfv x (h x (by simp)) _ (fun y hy=>h y (by simp [(Z7 k' l).mem_iff.1 hy]))]
def LexK {α:Type} (k:α→Int) (R:α→α→Prop) (a b:α):Prop:=k a<k b∨(k a=k b∧R a b)
theorem LexK.le {α:Type} {k:α→Int} {R:α→α→Prop} {a b:α} (h:LexK k R a b):k a≤k b:=by rcases h with h | h <;> omega
theorem Zhs {α:Type} (k:α→Int) (R:α→α→Prop) (x:α):∀ l:List α,l.Pairwise (LexK k R)→(∀ y∈l,R x y)→(insK k x l).Pairwise (LexK k R)
 | [],_,_=>by simp [insK]
 | y :: t,h,hx=>by
  obtain ⟨h1,h2⟩:=List.pairwise_cons.1 h
  unfold insK
  split
  ·next hle =>
   refine List.pairwise_cons.2 ⟨fun z hz=>?_,h⟩
   have hyz:k y≤k z:=by
    rcases List.mem_cons.1 hz with rfl | hz'
    ·exact Int.le_refl _
    ·exact (h1 z hz').le
   by_cases e:k x=k z
   ·exact .inr ⟨e,hx z hz⟩
   ·exact .inl (by omega)
  ·next hle =>
   refine List.pairwise_cons.2 ⟨fun z hz=>?_,Zhs k R x t h2 (fun y' hy'=>hx y' (by simp [hy']))⟩;rcases List.mem_cons.1 ((ZeD k x t).mem_iff.1 hz) with rfl | hz'
   ·exact .inl (by omega)
   ·exact h1 z hz'
theorem ZeF {α:Type} (k:α→Int) (R:α→α→Prop):∀ l:List α,l.Pairwise R→(Za9 k l).Pairwise (LexK k R)
 | [],_=>List.Pairwise.nil
 | x :: l,h=>by
  obtain ⟨h1,h2⟩:=List.pairwise_cons.1 h
  exact Zhs k R x _ (ZeF k R l h2) (fun y hy=>h1 y ((Z7 k l).mem_iff.1 hy))
def Zcl {α:Type} (k:α→Int) (l:List α):Prop:=l.Pairwise fun a b=>k a≤k b
theorem Zcm {α:Type} (k:α→Int) (l:List α):Zcl k (Za9 k l):=(ZeF k (fun _ _=>True) l (List.pairwise_of_forall (fun _ _=>trivial))).imp fun h=>h.le
theorem Zcl.take {α:Type} {k:α→Int} {l:List α} (h:Zcl k l) (n:Nat):Zcl k (l.take n):=List.Pairwise.sublist (List.take_sublist n l) h
def ZaP (P:Int→Prop) (v:Int):Prop:=(v = -1∧∀ z,¬ P z)∨(P v∧∀ z,P z→v≤z)
theorem ZaP.uniq {P:Int→Prop} {u v:Int} (hu:ZaP P u) (hv:ZaP P v):u=v:=by
 rcases hu with ⟨hu,nu⟩ | ⟨pu,mu⟩
 ·rcases hv with ⟨hv,_⟩ | ⟨pv,_⟩
  ·omega
  ·exact absurd pv (nu v)
 ·rcases hv with ⟨hv,nv⟩ | ⟨pv,mv⟩
  ·exact absurd pu (nv u)
  ·have:=mu v pv;have:=mv u pu;omega
theorem ZaP.congr {P Q:Int→Prop} (h:∀ z,P z↔Q z) {v:Int} (hv:ZaP P v):ZaP Q v:=by
 rcases hv with ⟨h1,h2⟩ | ⟨h1,h2⟩
 ·exact .inl ⟨h1,fun z hz=>h2 z ((h z).2 hz)⟩
 ·exact .inr ⟨(h v).1 h1,fun z hz=>h2 z ((h z).2 hz)⟩
theorem ZaP.ge {P:Int→Prop} (h0:∀ z,P z→0≤z) {v:Int} (h:ZaP P v):-1≤v:=by
 rcases h with ⟨h1,_⟩ | ⟨h1,_⟩
 ·omega
 ·have:=h0 v h1; omega
theorem ZaP.more {P:Int→Prop} (h0:∀ z,P z→0≤z) {v c:Int} (h:ZaP P v) (hc:v<0∨c<v):ZaP (fun z=>P z∨z=c) c:=by
 refine .inr ⟨.inr rfl,fun z hz=>?_⟩;rcases hz with hz | rfl
 ·rcases h with ⟨h1,h2⟩ | ⟨h1,h2⟩
  ·exact absurd hz (h2 z)
  ·have:=h2 z hz;have:=h0 v h1;omega
 ·exact Int.le_refl _
theorem ZaP.same {P:Int→Prop} {v c:Int} (h:ZaP P v) (h1:0≤v) (hc:v≤c):ZaP (fun z=>P z∨z=c) v:=by
 rcases h with ⟨e,_⟩ | ⟨hp,hm⟩
 ·omega
 ·exact .inr ⟨.inl hp,fun z hz=>by rcases hz with hz | rfl; exact hm z hz; exact hc⟩
def lmin (a c:Int):Int:=if 0≤c∧(a<0∨c<a) then c else a
theorem ZaP.or {P Q:Int→Prop} (hP:∀ z,P z→0≤z) (hQ:∀ z,Q z→0≤z) {u v:Int} (hu:ZaP P u) (hv:ZaP Q v):ZaP (fun z=>P z∨Q z) (lmin u v):=by
 unfold lmin;rcases hv with ⟨rfl,nv⟩ | ⟨pv,mv⟩
 ·rw [if_neg (by omega)];rcases hu with ⟨rfl,nu⟩ | ⟨pu,mu⟩
  ·exact .inl ⟨rfl,fun z hz=>hz.elim (nu z) (nv z)⟩
  ·exact .inr ⟨.inl pu,fun z hz=>hz.elim (mu z) (fun h=>absurd h (nv z))⟩
 ·have:=hQ v pv;rcases hu with ⟨rfl,nu⟩ | ⟨pu,mu⟩
  ·rw [if_pos (by omega)];exact .inr ⟨.inr pv,fun z hz=>hz.elim (fun h=>absurd h (nu z)) (mv z)⟩
  ·have:=hP u pu
   split
   ·exact .inr ⟨.inr pv,fun z hz=>hz.elim (fun h=>by have:=mu z h; omega) (mv z)⟩
   ·exact .inr ⟨.inl pu,fun z hz=>hz.elim (mu z) (fun h=>by have:=mv z h; omega)⟩
def cutK {α:Type} (k:α→Int) (n:Nat) (l:List α):Int:=match (Za9 k l)[n]? with | some x=>k x | none=>-1
theorem ZcL {α:Type} (k:α→Int) (n:Nat) (l:List α):ZaP (fun z=>∃ x∈(Za9 k l).drop n,k x=z) (cutK k n l):=by
 unfold cutK;have hs:Zcl k ((Za9 k l).drop n):=List.Pairwise.sublist (List.drop_sublist n _) (Zcm k l)
 cases hd:(Za9 k l).drop n with
 | nil =>
  have:(Za9 k l)[n]? = none:=by rw [List.getElem?_eq_none_iff]; exact List.drop_eq_nil_iff.1 hd
  rw [this];exact .inl ⟨rfl,fun z ⟨x,hx,_⟩=>by simp at hx⟩
 | cons y t =>
  have:(Za9 k l)[n]? = some y:=by
   have:=List.getElem?_drop (xs:=Za9 k l) (i:=n) (j:=0);rw [hd] at this;simpa using this.symm
  rw [this];rw [hd] at hs;obtain ⟨h1,_⟩:=List.pairwise_cons.1 hs;refine .inr ⟨⟨y,by simp,rfl⟩,fun z ⟨x,hx,e⟩=>?_⟩;subst e;rcases List.mem_cons.1 hx with rfl | hx
  ·exact Int.le_refl _
  ·exact h1 x hx
def at0 (cs:List Int) (i:Nat):Int:=cs[i]?.getD 0
def ord (cs:List Int):List Nat:=Za9 (at0 cs) (List.range cs.length)
theorem Zcn {cs:List Int} {i:Nat}:i∈ord cs↔i<cs.length:=by unfold ord; rw [(Z7 _ _).mem_iff,List.mem_range]
theorem Zbe (cs:List Int):(ord cs).length=cs.length:=by unfold ord; rw [(Z7 _ _).length_eq,List.length_range]
theorem ZeG (cs:List Int):(ord cs).Nodup:=(Z7 _ _).nodup_iff.2 List.nodup_range
theorem Zh0 (cs:List Int):(ord cs).Pairwise (LexK (at0 cs) (· < ·)):=ZeF _ _ _ List.pairwise_lt_range
theorem ZeH {cs:List Int} {n i:Nat} (h:i∈(ord cs).take n):i<cs.length:=Zcn.1 (List.mem_of_mem_take h)
def Best (cs:List Int) (tk:List Nat) (i:Nat):Prop:=i<cs.length∧i ∉ tk∧∀ j,j<cs.length→j ∉ tk→at0 cs i<at0 cs j∨(at0 cs i=at0 cs j∧i≤j)
theorem ZeI {cs:List Int} {n i:Nat} (h:Best cs ((ord cs).take n) i):(ord cs)[n]? = some i:=by
 obtain ⟨h1,h2,h3⟩:=h
 have hm:i∈(ord cs).drop n:=by
  have:=Zcn.2 h1;rw [← List.take_append_drop n (ord cs)] at this;rcases List.mem_append.1 this with h | h
  ·exact absurd h h2
  ·exact h
 cases hd:(ord cs).drop n with
 | nil=>rw [hd] at hm; simp at hm
 | cons y t =>
  have hy:(ord cs)[n]? = some y:=by
   have:=List.getElem?_drop (xs:=ord cs) (i:=n) (j:=0);rw [hd] at this;simpa using this.symm
  rw [hd] at hm;rcases List.mem_cons.1 hm with rfl | hm
  ·exact hy
  ·have hl:((ord cs).drop n).Pairwise (LexK (at0 cs) (· < ·)):=List.Pairwise.sublist (List.drop_sublist n _) (Zh0 cs);rw [hd] at hl;have hlt:=(List.pairwise_cons.1 hl).1 i hm
   have hyn:y ∉ (ord cs).take n:=fun hc=>by
    have hnd:=ZeG cs;rw [← List.take_append_drop n (ord cs),hd] at hnd;exact (List.nodup_append.1 hnd).2.2 y hc y (by simp) rfl
   have hyl:y<cs.length:=Zcn.1 (List.mem_of_getElem? hy);have:=h3 y hyl hyn;rcases hlt with h | ⟨h,h'⟩
   ·rcases this with t | t <;> omega
   ·rcases this with t | t <;> omega
theorem ZeJ {cs:List Int} {n i:Nat} (h:(ord cs)[n]? = some i):(ord cs).take (n+1)=(ord cs).take n++[i]:=by rw [List.take_add_one,h]; rfl
theorem next_new {cs:List Int} {n i:Nat} (h:(ord cs)[n]? = some i):i ∉ (ord cs).take n:=fun hc=>by
 have hnd:=ZeG cs
 rw [← List.take_append_drop n (ord cs)] at hnd
 refine (List.nodup_append.1 hnd).2.2 i hc i ?_ rfl
 have:=List.getElem?_drop (xs:=ord cs) (i:=n) (j:=0)
 rw [Nat.add_zero,h] at this
 exact List.mem_of_getElem? this
theorem ZgK {cs:List Int} {n:Nat} (h:∀ j,j<cs.length→j∈(ord cs).take n):(ord cs)[n]? = none:=by
 cases e:(ord cs)[n]? with
 | none=>rfl
 | some i=>exact absurd (h i (Zcn.1 (List.mem_of_getElem? e))) (next_new e)
theorem Zfw {cs:List Int} {n i j:Nat} (h:(ord cs)[n]? = some i) (hj:j<cs.length) (hn:j ∉ (ord cs).take n):at0 cs i≤at0 cs j:=by
 have hm:j∈(ord cs).drop n:=by
  have:=Zcn.2 hj;rw [← List.take_append_drop n (ord cs)] at this;rcases List.mem_append.1 this with h | h
  ·exact absurd h hn
  ·exact h
 have hl:((ord cs).drop n).Pairwise (LexK (at0 cs) (· < ·)):=List.Pairwise.sublist (List.drop_sublist n _) (Zh0 cs)
 cases hd:(ord cs).drop n with
 | nil=>rw [hd] at hm; simp at hm
 | cons y t =>
  have hy:(ord cs)[n]? = some y:=by
   have:=List.getElem?_drop (xs:=ord cs) (i:=n) (j:=0);rw [hd] at this;simpa using this.symm
  rw [h] at hy
  cases hy
  rw [hd] at hm hl;rcases List.mem_cons.1 hm with rfl | hm
  ·exact Int.le_refl _
  ·exact ((List.pairwise_cons.1 hl).1 j hm).le
def Zb5 (cs:List Int) (n:Nat):Int:=cutK (at0 cs) n (List.range cs.length)
theorem Zfx {cs:List Int} {n i:Nat} (h:(ord cs)[n]? = some i):Zb5 cs n=at0 cs i:=by
 unfold Zb5 cutK;rw [show (Za9 (at0 cs) (List.range cs.length))[n]? = some i from h]
theorem cutOf_none {cs:List Int} {n:Nat} (h:(ord cs)[n]? = none):Zb5 cs n = -1:=by
 unfold Zb5 cutK;rw [show (Za9 (at0 cs) (List.range cs.length))[n]? = none from h]
theorem ZeK (cs:List Int) (n:Nat):ZaP (fun z=>∃ j,j<cs.length∧j ∉ (ord cs).take n∧at0 cs j=z) (Zb5 cs n):=by
 refine (ZcL (at0 cs) n (List.range cs.length)).congr fun z=>⟨fun ⟨x,hx,e⟩=>⟨x,Zcn.1 (List.mem_of_mem_drop (l:=ord cs) hx),fun hc=>?_,e⟩,fun ⟨j,hj,hn,e⟩=>⟨j,?_,e⟩⟩
 ·have hnd:=ZeG cs;rw [← List.take_append_drop n (ord cs)] at hnd;exact (List.nodup_append.1 hnd).2.2 x hc x hx rfl
 ·have:=Zcn.2 hj;rw [← List.take_append_drop n (ord cs)] at this;rcases List.mem_append.1 this with h | h
  ·exact absurd h hn
  ·exact h
def Z9 (l:List Nd):List Int:=l.map sc
theorem Zbj (l:List Nd):(Z9 l).length=l.length:=by simp [Z9]
theorem ZcM {l:List Nd} {i:Nat} {x:Nd} (h:l[i]? = some x):at0 (Z9 l) i=sc x:=by simp [at0,Z9,h]
def Zh1:Nd:=(0,0,0,[])
def Z5 (l:List Nd) (P:List Nat):List Nd:=P.map fun i=>l[i]?.getD Zh1
def ZaZ (n:Nat) (l:List Nd):List Nd:=(Za9 sc l).take n
theorem range_map_self {l:List Nd}:(List.range l.length).map (fun i=>l[i]?.getD Zh1)=l:=by
 refine List.ext_getElem? fun i=>?_
 rw [List.getElem?_map];by_cases h:i<l.length
 ·rw [List.getElem?_range h]; simp [h]
 ·rw [List.getElem?_eq_none (by simp; omega),List.getElem?_eq_none (by omega)]; rfl
theorem Zht (l:List Nd):Za9 sc l=Z5 l (ord (Z9 l)):=by
 have e:=ZgJ sc (fun i=>l[i]?.getD Zh1) (List.range l.length);rw [range_map_self] at e;rw [e];unfold Z5 ord;rw [Zbj,ZeE (k':=at0 (Z9 l))];intro i hi;obtain ⟨x,hx⟩:∃ x,l[i]? = some x:=⟨l[i]'(by simpa using hi),by simp⟩;rw [ZcM hx,hx];rfl
theorem Zhu (n:Nat) (l:List Nd):ZaZ n l=Z5 l ((ord (Z9 l)).take n):=by
 unfold ZaZ;rw [Zht];unfold Z5;rw [List.map_take]
theorem Zh2 (n:Nat) (l:List Nd):Zb5 (Z9 l) n=cutK sc n l:=by
 unfold Zb5 cutK;have e:=Zht l;unfold Z5 at e;rw [e,List.getElem?_map,show Za9 (at0 (Z9 l)) (List.range (Z9 l).length)=ord (Z9 l) from rfl]
 cases h:(ord (Z9 l))[n]? with
 | none=>rfl
 | some i =>
  have hi:i<l.length:=by rw [← Zbj]; exact Zcn.1 (List.mem_of_getElem? h)
  obtain ⟨x,hx⟩:∃ x,l[i]? = some x:=⟨l[i],by simp⟩;simp only [Option.map_some];rw [ZcM hx,hx];rfl
theorem Zgg (n:Nat) (l:List Nd):(ZaZ n l).length=min n l.length:=by
 unfold ZaZ;rw [List.length_take,(Z7 sc l).length_eq]
end Go.Proofs.YtabdnhkdoeibnaaGreatDoor
namespace Go.Proofs.YtabdnhkdoeibnaaGreatDoor
open Go.RowKit
def Bin (l:List Int):Prop:=∀ x∈l,x=0∨x=1
def Zc7 (n:Nat):List Int→Nat
 | []=>n
 | x :: l=>Zc7 (2 * n+x.toNat) l
def val (l:List Int):Nat:=Zc7 0 l
def Tr (l:List Int):Prop:=Bin l∧l.head?≠some 0
theorem Bin.nil:Bin []:=fun x h=>by cases h
theorem Bin.tail {x:Int} {l:List Int} (h:Bin (x :: l)):Bin l:=fun y hy=>h y (List.mem_cons_of_mem _ hy)
theorem Bin.head {x:Int} {l:List Int} (h:Bin (x :: l)):x=0∨x=1:=h x (List.mem_cons_self)
theorem Bin.append {l m:List Int} (h:Bin l) (g:Bin m):Bin (l++m):=fun x hx=>(List.mem_append.1 hx).elim (h x) (g x)
theorem Bin.left {l m:List Int} (h:Bin (l++m)):Bin l:=fun x hx=>h x (List.mem_append_left _ hx)
theorem Bin.right {l m:List Int} (h:Bin (l++m)):Bin m:=fun x hx=>h x (List.mem_append_right _ hx)
theorem Bin.take {l:List Int} (h:Bin l) (k:Nat):Bin (l.take k):=fun x hx=>h x (List.mem_of_mem_take hx)
theorem Bin.drop {l:List Int} (h:Bin l) (k:Nat):Bin (l.drop k):=fun x hx=>h x (List.mem_of_mem_drop hx)
theorem Bin.noughts (k:Nat):Bin (List.replicate k 0):=fun _ hx=>.inl (List.eq_of_mem_replicate hx)
theorem Bin.set {l:List Int} (h:Bin l) (k:Nat) {x:Int} (hx:x=0∨x=1):Bin (l.set k x):=fun y hy=>(List.mem_or_eq_of_mem_set hy).elim (h y) (fun e=>e▸hx)
theorem Bin.get {l:List Int} (h:Bin l) {k:Nat} {x:Int} (e:l[k]? = some x):x=0∨x=1:=h x (List.mem_of_getElem? e)
theorem Tr.nil:Tr []:=⟨Bin.nil,by simp⟩
theorem valFrom_eq (l:List Int):∀ n,Zc7 n l=n * 2 ^ l.length+val l:=by
 induction l with
 | nil=>intro n; simp [Zc7,val]
 | cons x l ih =>
  intro n;have e:val (x :: l)=Zc7 (2 * 0+x.toNat) l:=rfl;rw [e,Zc7,ih,ih,List.length_cons,Nat.pow_succ];have:(2 * n+x.toNat) * 2 ^ l.length=n * (2 ^ l.length * 2)+x.toNat * 2 ^ l.length:=by rw [Nat.add_mul,Nat.mul_comm 2 n,Nat.mul_assoc,Nat.mul_comm 2]
  rw [this]; simp; omega
theorem val_nil:val []=0:=rfl
theorem Zek (x:Int) (l:List Int):val (x :: l)=x.toNat * 2 ^ l.length+val l:=by
 have:val (x :: l)=Zc7 (2 * 0+x.toNat) l:=rfl;rw [this,valFrom_eq]; simp
theorem Zhv {l:List Int} (h:Bin l):val l<2 ^ l.length:=by
 induction l with
 | nil=>simp [val_nil]
 | cons x l ih =>
  have:=ih h.tail;rw [Zek,List.length_cons,Nat.pow_succ];rcases h.head with rfl | rfl
  ·simp; omega
  ·simp; omega
theorem Tr.ge {l:List Int} (h:Tr l) (h0:l≠[]):2 ^ l.length≤2 * val l:=by
 cases l with
 | nil=>exact absurd rfl h0
 | cons x l =>
  have:x=1:=h.1.head.elim (fun e=>absurd (by rw [e]; rfl) h.2) id;rw [Zek,List.length_cons,Nat.pow_succ,this]; simp; omega
theorem Tr.len_le {l:List Int} (h:Tr l) {k:Nat} (hk:val l<2 ^ k):l.length≤k:=by
 by_cases h0:l=[]
 ·rw [h0]; simp
 ·have:=h.ge h0;apply Nat.le_of_not_lt;intro hlt;have:2 ^ (k+1)≤2 ^ l.length:=Nat.pow_le_pow_right (by omega) hlt;rw [Nat.pow_succ] at this;omega
theorem Zh3:∀ {l m:List Int},Bin l→Bin m→l.length=m.length→val l=val m→l=m
 | [],[],_,_,_,_=>rfl
 | [],_ :: _,_,_,h,_=>by simp at h
 | _ :: _,[],_,_,h,_=>by simp at h
 | x :: l,y :: m,hl,hm,h,e=>by
  have h':l.length=m.length:=by simpa using h
  have a:=Zhv hl.tail
  have b:=Zhv hm.tail
  rw [Zek,Zek,h'] at e
  rw [h'] at a
  have hxy:x=y:=by
   rcases hl.head with rfl | rfl <;> rcases hm.head with rfl | rfl
   ·rfl
   ·simp at e; omega
   ·simp at e; omega
   ·rfl
  subst hxy;rw [Zh3 hl.tail hm.tail h' (by omega)]
theorem Tr.inj {l m:List Int} (hl:Tr l) (hm:Tr m) (e:val l=val m):l=m :=
 Zh3 hl.1 hm.1 (Nat.le_antisymm (hl.len_le (e▸Zhv hm.1)) (hm.len_le (e▸Zhv hl.1))) e
theorem two_mul_xor (a b:Nat):2 * (a ^^^ b)=2 * a ^^^ 2 * b:=by
 have e:∀ n,2 * n=n <<< 1:=fun n=>by rw [Nat.shiftLeft_eq]; omega
 rw [e,e,e,Nat.shiftLeft_xor_distrib]
theorem half_xor (a b:Nat):(a ^^^ b) / 2=a / 2 ^^^ b / 2:=by
 have e:∀ n,n / 2=n >>> 1:=fun n=>by rw [Nat.shiftRight_eq_div_pow]
 rw [e,e,e,Nat.shiftRight_xor_distrib]
theorem Zfy (a b:Nat):(a ^^^ b) % 2=(a+b) % 2:=by
 have h:=Nat.testBit_xor a b 0;rw [Nat.testBit_zero,Nat.testBit_zero,Nat.testBit_zero] at h;generalize a ^^^ b=c at h ⊢;rcases Nat.mod_two_eq_zero_or_one a with ha | ha <;> rcases Nat.mod_two_eq_zero_or_one b with hb | hb <;> simp [ha,hb] at h <;> omega
def clN:Nat→Nat→Nat→Nat
 | 0,_,_=>0
 | f+1,a,b=>(if a % 2=1 then b else 0) ^^^ 2 * clN f (a / 2) b
def cl (a b:Nat):Nat:=clN a a b
theorem xor4 (a b c d:Nat):(a ^^^ b) ^^^ (c ^^^ d)=(a ^^^ c) ^^^ (b ^^^ d):=by
 rw [Nat.xor_assoc,← Nat.xor_assoc b c d,Nat.xor_comm b c,Nat.xor_assoc c b d,← Nat.xor_assoc]
theorem xor_div_pow (a b k:Nat):(a ^^^ b) / 2 ^ k=a / 2 ^ k ^^^ b / 2 ^ k:=by
 rw [← Nat.shiftRight_eq_div_pow,← Nat.shiftRight_eq_div_pow,← Nat.shiftRight_eq_div_pow,Nat.shiftRight_xor_distrib]
theorem Zhw {a b k:Nat} (ha:a<2 ^ k) (hb:b<2 ^ k):a ^^^ b<2 ^ k:=Nat.xor_lt_two_pow ha hb
theorem light_any (n b d:Int) (w:World):Calls Tryz.prog 19 #[.int .i64 n,.int .i64 b,.int .i64 d] w fun e w'=>(e=.returned (.bool true)∨e=.returned (.bool false))∧w=w':=by
 go_enter Tryz.func19,Tryz.ntmps19;go_wp2;go_loop [7,8] (fun s7 s8=>∃ (c:Int) (i:Nat),s7=.int .i64 c∧s8=.int .i64 i∧1≤i∧i≤4) (fun _ i=>4-(intOf i).toNat)
 case atStart=>exact ⟨_,1,rfl,rfl,by omega,by omega⟩
 case round =>
  obtain ⟨c,i,rfl,rfl,h1,h4⟩:=hrel;by_cases hd:(i:Int)<d
  ·have dd:decide ((i:Int)<d)=true:=decide_eq_true hd;by_cases hi:i<4
   ·have di:decide ((i:Int)<4)=true:=decide_eq_true (by omega);clear hd;go_wp2;go_round
    case rel=>exact ⟨_,i+1,rfl,by go_num,by omega,by omega⟩
    case measure=>simp [intOf]; omega
   ·have di:decide ((i:Int)<4)=false:=decide_eq_false (by omega);by_cases hc:c≤300000
    ·have dc:decide (c≤300000)=true:=decide_eq_true hc;clear hd hc;go_wp2;go_ret;exact ⟨.inl rfl,rfl⟩
    ·have dc:decide (c≤300000)=false:=decide_eq_false hc;clear hd hc;go_wp2;go_ret;exact ⟨.inr rfl,rfl⟩
  ·have dd:decide ((i:Int)<d)=false:=decide_eq_false hd;by_cases hc:c≤300000
   ·have dc:decide (c≤300000)=true:=decide_eq_true hc;clear hd hc;go_wp2;go_ret;exact ⟨.inl rfl,rfl⟩
   ·have dc:decide (c≤300000)=false:=decide_eq_false hc;clear hd hc;go_wp2;go_ret;exact ⟨.inr rfl,rfl⟩
end Go.Proofs.YtabdnhkdoeibnaaGreatDoor
