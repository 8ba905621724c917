/-
  The segment at a place, as a number. No program is spoken of.
-/
import Derived.Test.YtabdnhkdoeibnaaGreatDoorM05
import Derived.Test.YtabdnhkdoeibnaaGreatDoorM06
import Derived.Test.YtabdnhkdoeibnaaGreatDoorM07
set_option maxRecDepth 100000
set_option maxHeartbeats 4000000
namespace Go.Proofs.YtabdnhkdoeibnaaGreatDoor
def segN (n k:Nat):Nat:=(ZS n)[k % n]?.getD 0
theorem Zgd {n:Nat} (h1:1≤n) (hn:n<65) (k:Nat):(ZS n)[k % n]? = some (segN n k)∧segN n k<n:=by
 obtain ⟨x,hx,hxn⟩:=orderN_get hn (Nat.mod_lt k (show 0<n by omega));have e:segN n k=x:=by unfold segN; rw [hx]; rfl
 rw [e];exact ⟨hx,hxn⟩
theorem place_mod {n p i:Nat} (hp:p<n):(i * n+p) % n=p:=by rw [Nat.mul_comm,Nat.mul_add_mod]; exact Nat.mod_eq_of_lt hp
theorem Zex {n p i:Nat} (hp:p<n):(i * n+p) / n=i:=by
 rw [Nat.mul_comm,Nat.mul_add_div (by omega),Nat.div_eq_of_lt hp,Nat.add_zero]
theorem ZdE {n s i:Nat} (hn:n<65) (hs:s<n):segN n (i * n+posN n s)=s:=by
 unfold segN;rw [place_mod (Zev hn hs),Zej hn hs];rfl
def Za8 (l:List (Int×Int)):Prop:=l.Pairwise fun x y=>x.1<y.1
def Zim (n p:Int) (x:Int×Int):Prop:=0≤x.1∧x.1<n * p∧0≤x.2∧x.2≤255
def Zbq (n p:Int):Prop:=1≤n∧n≤64∧1≤p∧p≤16
def Zf (n p:Int) (l:List (Int×Int)):Prop:=Zbq n p∧(∀ x∈l,Zim n p x)∧Za8 l
theorem ZcI {n p:Int} (h:Zbq n p):Zf n p []:=⟨h,fun x hx=>by simp at hx,List.Pairwise.nil⟩
theorem Zbq.prod {n p:Int} (h:Zbq n p):1≤n * p∧n * p≤1024:=by
 obtain ⟨h1,h2,h3,h4⟩:=h
 constructor
 ·have:=Int.mul_le_mul h1 h3 (by decide) (by omega);omega
 ·have:=Int.mul_le_mul h2 h4 (by omega) (by decide);omega
theorem Za8.tail {x:Int×Int} {l:List (Int×Int)} (h:Za8 (x :: l)):Za8 l:=(List.pairwise_cons.1 h).2
theorem Za8.head {x y:Int×Int} {l:List (Int×Int)} (h:Za8 (x :: l)) (hy:y∈l):x.1<y.1:=(List.pairwise_cons.1 h).1 y hy
def aheadOf:List (Int×Int)→Int→Nat
 | [],_=>0
 | x :: l,k=>if x.1<k then aheadOf l k+1 else 0
theorem Zan:∀ (l:List (Int×Int)) (k:Int),aheadOf l k≤l.length
 | [],_=>Nat.le_refl _
 | x :: l,k=>by
  rw [aheadOf]
  split
  ·have:=Zan l k; rw [List.length_cons]; omega
  ·omega
theorem ZbS:∀ {l:List (Int×Int)} {k:Int} {j:Nat} {x:Int×Int},j<aheadOf l k→l[j]? = some x→x.1<k
 | [],k,j,x,h,hx=>by simp at hx
 | y :: l,k,j,x,h,hx=>by
  rw [aheadOf] at h
  split at h
  ·cases j with
   | zero=>simp at hx; subst hx; assumption
   | succ j=>exact ZbS (l:=l) (j:=j) (by omega) (by simpa using hx)
  ·omega
theorem ZbT:∀ {l:List (Int×Int)} {k:Int} {x:Int×Int},l[aheadOf l k]? = some x→¬ x.1<k
 | [],k,x,hx=>by simp at hx
 | y :: l,k,x,hx=>by
  rw [aheadOf] at hx
  split at hx
  ·exact ZbT (l:=l) (by simpa using hx)
  ·simp at hx; subst hx; assumption
theorem Zc4 {l:List (Int×Int)} {k:Int} (hr:Za8 l) {j:Nat} {x:Int×Int} (hj:aheadOf l k≤j) (hx:l[j]? = some x):¬ x.1<k:=by
 rcases Nat.lt_or_ge (aheadOf l k) j with h | h
 ·have hlt:aheadOf l k<l.length:=by have:=(List.getElem?_eq_some_iff.1 hx).1; omega
  have hy:l[aheadOf l k]? = some l[aheadOf l k]:=by simp
  have h1:=ZbT hy
  have h2:l[aheadOf l k].1<x.1:=by
   obtain ⟨hjl,rfl⟩:=List.getElem?_eq_some_iff.1 hx;exact List.pairwise_iff_getElem.1 hr _ _ hlt hjl h
  omega
 ·have e:aheadOf l k=j:=by omega
  rw [← e] at hx;exact ZbT hx
def ZV (l:List (Int×Int)) (k:Int):Bool:=match l[aheadOf l k]? with | some x=>x.1 == k | none=>false
theorem ZbU {l:List (Int×Int)} {k:Int} (hr:Za8 l):ZV l k=true↔∃ v,(k,v)∈l:=by
 unfold ZV
 constructor
 ·intro h
  split at h
  ·rename_i x hx;have e:x.1=k:=by simpa using h
   exact ⟨x.2,by rw [← e]; exact List.mem_of_getElem? hx⟩
  ·cases h
 ·rintro ⟨v,hv⟩;obtain ⟨j,hj⟩:=List.getElem?_of_mem hv
  have h1:aheadOf l k≤j:=by
   rcases Nat.lt_or_ge j (aheadOf l k) with h | h
   ·have:=ZbS h hj; simp at this
   ·exact h
  have hlt:aheadOf l k<l.length:=by have:=(List.getElem?_eq_some_iff.1 hj).1; omega
  have hy:l[aheadOf l k]? = some l[aheadOf l k]:=by simp
  rw [hy];have h2:=ZbT hy
  have h3:l[aheadOf l k].1≤k:=by
   rcases Nat.lt_or_ge (aheadOf l k) j with h | h
   ·obtain ⟨hjl,e⟩:=List.getElem?_eq_some_iff.1 hj;have:=List.pairwise_iff_getElem.1 hr _ _ hlt hjl h;rw [e] at this;simp at this;omega
   ·have e:aheadOf l k=j:=by omega
    have e2:some l[aheadOf l k]=some (k,v):=by rw [← hy,e]; exact hj
    have e3:l[aheadOf l k]=(k,v):=Option.some.inj e2;rw [e3];exact Int.le_refl _
  simp;omega
def putL (l:List (Int×Int)) (k v:Int):List (Int×Int):=l.take (aheadOf l k)++(k,v) :: l.drop (aheadOf l k)
theorem Zdg (l:List (Int×Int)) (k v:Int):(putL l k v).length=l.length+1:=by
 have:=Zan l k;unfold putL;rw [List.length_append,List.length_cons,List.length_take,List.length_drop];omega
theorem Zge {l:List (Int×Int)} {k v:Int} {x:Int×Int}:x∈putL l k v↔x=(k,v)∨x∈l:=by
 unfold putL;rw [List.mem_append,List.mem_cons]
 constructor
 ·rintro (h | h | h)
  ·exact .inr (List.mem_of_mem_take h)
  ·exact .inl h
  ·exact .inr (List.mem_of_mem_drop h)
 ·rintro (h | h)
  ·exact .inr (.inl h)
  ·have:=List.take_append_drop (aheadOf l k) l;rw [← this,List.mem_append] at h;rcases h with h | h
   ·exact .inl h
   ·exact .inr (.inr h)
theorem putL_rises {l:List (Int×Int)} {k v:Int} (hr:Za8 l) (hn:ZV l k=false):Za8 (putL l k v):=by
 have hno:∀ x∈l,x.1≠k:=by
  intro x hx e;have:ZV l k=true:=(ZbU hr).2 ⟨x.2,by rw [← e]; exact hx⟩;rw [hn] at this; cases this
 unfold Za8 putL;rw [List.pairwise_append];refine ⟨hr.sublist (List.take_sublist _ _),?_,?_⟩
 ·rw [List.pairwise_cons];refine ⟨fun x hx=>?_,hr.sublist (List.drop_sublist _ _)⟩;obtain ⟨j,hj⟩:=List.getElem?_of_mem hx;rw [List.getElem?_drop] at hj;have h1:=Zc4 (k:=k) hr (by omega) hj;have h2:=hno x (List.mem_of_mem_drop hx)
  show k<x.1
  omega
 ·intro x hx y hy;obtain ⟨j,hj⟩:=List.getElem?_of_mem hx;rw [List.getElem?_take] at hj
  split at hj
  ·rename_i hjl;have h1:=ZbS hjl hj;rcases List.mem_cons.1 hy with rfl | hy
   ·exact h1
   ·obtain ⟨q,hq⟩:=List.getElem?_of_mem hy;rw [List.getElem?_drop] at hq;have h2:=Zc4 (k:=k) hr (by omega) hq;omega
  ·cases hj
def putN (n p:Int) (l:List (Int×Int)) (k v:Int):List (Int×Int):=if n * p≤k∨ZV l k=true then l else putL l k v
def ZK (n p:Int) (l:List (Int×Int)) (k:Int):Bool:=decide (¬ (n * p≤k∨ZV l k=true))
theorem putN_ok {n p:Int} {l:List (Int×Int)} {k v:Int} (h:Zf n p l) (hk:0≤k) (hv0:0≤v) (hv:v≤255):Zf n p (putN n p l k v):=by
 unfold putN
 split
 ·exact h
 ·rename_i hc;refine ⟨h.1,fun x hx=>?_,putL_rises h.2.2 ?_⟩
  ·rcases Zge.1 hx with rfl | hx
   ·exact ⟨hk,by show k<n * p; omega,hv0,hv⟩
   ·exact h.2.1 x hx
  ·cases e:ZV l k
   ·rfl
   ·exact absurd (.inr e) hc
def ofL (n:Nat) (l:List (Int×Int)) (s:Nat):List (Int×Int):=(l.filter fun x=>segN n x.1.toNat == s).map fun x=>(((x.1.toNat / n:Nat):Int),x.2)
theorem ofL_snoc (n:Nat) (l:List (Int×Int)) (x:Int×Int) (s:Nat):ofL n (l++[x]) s=ofL n l s++(if segN n x.1.toNat=s then [(((x.1.toNat / n:Nat):Int),x.2)] else []):=by
 unfold ofL;rw [List.filter_append,List.map_append]
 congr 1
 by_cases h:segN n x.1.toNat=s
 ·simp [h]
 ·simp [h]
theorem Zfs (n:Nat) (l:List (Int×Int)) (s:Nat):(ofL n l s).length≤l.length:=by
 unfold ofL;rw [List.length_map];exact List.length_filter_le _ _
theorem Zey:∀ {l m:List (Int×Int)},Za8 l→Za8 m→(∀ x,x∈l↔x∈m)→l=m
 | [],[],_,_,_=>rfl
 | [],y :: m,_,_,h=>by have:=(h y).2 List.mem_cons_self; simp at this
 | x :: l,[],_,_,h=>by have:=(h x).1 List.mem_cons_self; simp at this
 | x :: l,y :: m,hl,hm,h=>by
  have e:x=y:=by
   rcases List.mem_cons.1 ((h x).1 List.mem_cons_self) with e | hx
   ·exact e
   ·rcases List.mem_cons.1 ((h y).2 List.mem_cons_self) with e | hy
    ·exact e.symm
    ·have h1:=hm.head hx;have h2:=hl.head hy;omega
  subst e
  have:l=m:=by
   refine Zey hl.tail hm.tail fun z=>?_
   constructor
   ·intro hz;rcases List.mem_cons.1 ((h z).1 (List.mem_cons_of_mem _ hz)) with e | hz'
    ·subst e; have:=hl.head hz; omega
    ·exact hz'
   ·intro hz;rcases List.mem_cons.1 ((h z).2 (List.mem_cons_of_mem _ hz)) with e | hz'
    ·subst e; have:=hm.head hz; omega
    ·exact hz'
  rw [this]
theorem ZgB:∀ {l:List (Int×Int)} {a b:Int},Za8 l→(∀ x∈l,a≤x.1∧x.1<b)→(l.length:Int)≤max 0 (b-a)
 | [],a,b,_,_=>by simp; omega
 | x :: l,a,b,hr,h=>by
  have ih:=ZgB (l:=l) (a:=x.1+1) (b:=b) hr.tail (fun y hy=>⟨by have:=hr.head hy; omega,(h y (List.mem_cons_of_mem _ hy)).2⟩)
  have hx:=h x List.mem_cons_self
  rw [List.length_cons]
  omega
theorem Zag {n p:Int} {l:List (Int×Int)} (h:Zf n p l):(l.length:Int)≤n * p:=by
 have h1:=ZgB (a:=0) (b:=n * p) h.2.2 (fun x hx=>⟨(h.2.1 x hx).1,(h.2.1 x hx).2.1⟩);have:=h.1.prod;omega
def ZX (n p:Int) (l:List (Int×Int)):Prop:=(∀ x∈l,Zim n p x)∧Za8 l
theorem Zft (n p:Int):ZX n p []:=⟨fun x hx=>by simp at hx,List.Pairwise.nil⟩
theorem Zc5 {n p:Int} {l:List (Int×Int)} {x:Int×Int} (h:ZX n p l) (hx:Zim n p x) (hl:∀ (y:Int×Int),l[l.length-1]? = some y→y.1<x.1):ZX n p (l++[x]):=by
 refine ⟨fun y hy=>?_,?_⟩
 ·rcases List.mem_append.1 hy with h' | h'
  ·exact h.1 y h'
  ·simp at h'; subst h'; exact hx
 ·unfold Za8;rw [List.pairwise_append];refine ⟨h.2,List.pairwise_singleton _ _,fun y hy z hz=>?_⟩;simp at hz; subst hz;obtain ⟨j,hj⟩:=List.getElem?_of_mem hy;have hjl:=(List.getElem?_eq_some_iff.1 hj).1;have hlast:l[l.length-1]? = some l[l.length-1]:=by simp
  have h1:=hl _ hlast;rcases Nat.lt_or_ge j (l.length-1) with hlt | hge
  ·obtain ⟨_,e⟩:=List.getElem?_eq_some_iff.1 hj;have:=List.pairwise_iff_getElem.1 h.2 j (l.length-1) hjl (by omega) hlt;rw [e] at this;omega
  ·have e:j=l.length-1:=by omega
   subst e;rw [hlast] at hj
   cases hj
   exact h1
theorem symsOk_get {n p:Int} {l:List (Int×Int)} (h:ZX n p l) {k:Nat} {x y:Int×Int} (hx:l[k]? = some x) (hy:l[k+1]? = some y):x.1<y.1:=by
 obtain ⟨h1,rfl⟩:=List.getElem?_eq_some_iff.1 hx;obtain ⟨h2,rfl⟩:=List.getElem?_eq_some_iff.1 hy;exact List.pairwise_iff_getElem.1 h.2 _ _ h1 h2 (by omega)
theorem symsOk_take {n p:Int} {l:List (Int×Int)} (h:ZX n p l) (k:Nat):ZX n p (l.take k):=⟨fun x hx=>h.1 x (List.mem_of_mem_take hx),h.2.sublist (List.take_sublist _ _)⟩
def Zbg (l:List (Int×Int)):Int:=match l.getLast? with | none=>0 | some x=>x.1+1
theorem leastN_snoc (l:List (Int×Int)) (x:Int×Int):Zbg (l++[x])=x.1+1:=by unfold Zbg; rw [List.getLast?_concat]
theorem getLast_at {l:List (Int×Int)} {y:Int×Int} (h:l[l.length-1]? = some y):Zbg l=y.1+1:=by
 unfold Zbg;rw [List.getLast?_eq_getElem?,h]
theorem Zdh {n p:Int} {l:List (Int×Int)} (hh:Zbq n p) (h:ZX n p l):0≤Zbg l∧Zbg l≤n * p:=by
 unfold Zbg
 split
 ·have:=hh.prod; omega
 ·rename_i x hx;have:=h.1 x (List.mem_of_getLast? hx);have h1:=this.1;have h2:=this.2.1;omega
theorem symsOk_more {n p:Int} {l:List (Int×Int)} {x:Int×Int} (hh:Zbq n p) (h:ZX n p l) (h1:Zbg l≤x.1) (h2:x.1<n * p) (h3:0≤x.2) (h4:x.2≤255):ZX n p (l++[x]):=by
 have hb:=Zdh hh h;refine Zc5 h ⟨by omega,h2,h3,h4⟩ fun y hy=>?_
 have:=getLast_at hy;omega
theorem symsOk_least {n p:Int} {l:List (Int×Int)} {x:Int×Int} (h:ZX n p (l++[x])):Zbg l≤x.1:=by
 unfold Zbg
 split
 ·exact (h.1 x (by simp)).1
 ·rename_i y hy;have:=(List.pairwise_append.1 h.2).2.2 y (List.mem_of_getLast? hy) x (by simp);omega
def Zg7 (l:List (Int×Int)) (k:Int):Int:=match l[aheadOf l k]? with | some x=>x.2 | none=>0
theorem Zez {l:List (Int×Int)} {k:Int} (h:ZV l k=true):l[aheadOf l k]? = some (k,Zg7 l k):=by
 unfold ZV at h;unfold Zg7
 split at h
 ·rename_i x hx;have e:x.1=k:=by simpa using h
  rw [hx];subst e;rfl
 ·cases h
theorem rises_one {l:List (Int×Int)} (hr:Za8 l) {k u v:Int} (h1:(k,u)∈l) (h2:(k,v)∈l):u=v:=by
 obtain ⟨i,hi⟩:=List.getElem?_of_mem h1;obtain ⟨j,hj⟩:=List.getElem?_of_mem h2;obtain ⟨hil,ei⟩:=List.getElem?_eq_some_iff.1 hi;obtain ⟨hjl,ej⟩:=List.getElem?_eq_some_iff.1 hj;rcases Nat.lt_trichotomy i j with h | h | h
 ·have:=List.pairwise_iff_getElem.1 hr i j hil hjl h;rw [ei,ej] at this;simp at this
 ·subst h;rw [hi] at hj;simp at hj;exact hj
 ·have:=List.pairwise_iff_getElem.1 hr j i hjl hil h;rw [ei,ej] at this;simp at this
def ofP (N:Nat) (l:List (Int×Int)) (s:Nat):Nat→List (Int×Int)
 | 0=>[]
 | k+1=>ofP N l s k++(if ZV l ((k * N+posN N s:Nat):Int)=true then [((k:Int),Zg7 l ((k * N+posN N s:Nat):Int))] else [])
theorem ofP_yes {N:Nat} {l:List (Int×Int)} {s k:Nat} (h:ZV l ((k * N+posN N s:Nat):Int)=true):ofP N l s (k+1)=ofP N l s k++[((k:Int),Zg7 l ((k * N+posN N s:Nat):Int))]:=by rw [ofP,if_pos h]
theorem ofP_no {N:Nat} {l:List (Int×Int)} {s k:Nat} (h:ZV l ((k * N+posN N s:Nat):Int)=false):ofP N l s (k+1)=ofP N l s k:=by rw [ofP,if_neg (by rw [h]; simp),List.append_nil]
theorem Zg8 (N:Nat) (l:List (Int×Int)) (s:Nat):∀ k,(ofP N l s k).length≤k
 | 0=>Nat.le_refl _
 | k+1=>by
  have:=Zg8 N l s k
  rw [ofP,List.length_append]
  split
  ·simp; omega
  ·simp; omega
theorem Zg9 {N:Nat} {l:List (Int×Int)} {s:Nat} {x:Int×Int}:∀ {K:Nat},x∈ofP N l s K↔∃ k,k<K∧ZV l ((k * N+posN N s:Nat):Int)=true∧x=((k:Int),Zg7 l ((k * N+posN N s:Nat):Int))
 | 0=>by simp [ofP]
 | K+1=>by
  rw [ofP,List.mem_append,Zg9]
  constructor
  ·rintro (⟨k,hk,h⟩ | h)
   ·exact ⟨k,by omega,h⟩
   ·split at h
    ·rename_i hh
     exact ⟨K,by omega,hh,by simpa using h⟩
    ·simp at h
  ·rintro ⟨k,hk,hh,hx⟩
   rcases Nat.lt_or_ge k K with h | h
   ·exact .inl ⟨k,h,hh,hx⟩
   ·obtain rfl:k=K:=by omega
    exact .inr (by rw [if_pos hh,hx]; simp)
theorem ZgC (N:Nat) (l:List (Int×Int)) (s:Nat):∀ K,Za8 (ofP N l s K)
 | 0=>List.Pairwise.nil
 | K+1=>by
  unfold Za8
  rw [ofP,List.pairwise_append]
  refine ⟨ZgC N l s K,?_,fun x hx y hy=>?_⟩
  ·split
   ·exact List.pairwise_singleton _ _
   ·exact List.Pairwise.nil
  ·obtain ⟨k,hk,_,rfl⟩:=Zg9.1 hx
   split at hy
   ·simp at hy; subst hy; simp; omega
   ·simp at hy
theorem ZeA {N k s:Nat} (h1:1≤N) (hn:N<65) (hs:s<N) (h:segN N k=s):k / N * N+posN N s=k:=by
 have h2:=(Zgd h1 hn k).1;rw [h] at h2;have h3:=posN_of hn hs h2;rw [h3];have:=Nat.div_add_mod k N;rw [Nat.mul_comm] at this;exact this
theorem Zha {n:Nat} {l:List (Int×Int)} {s:Nat} {x:Int×Int}:x∈ofL n l s↔∃ y∈l,segN n y.1.toNat=s∧x=(((y.1.toNat / n:Nat):Int),y.2):=by
 unfold ofL;rw [List.mem_map]
 constructor
 ·rintro ⟨y,hy,rfl⟩;rw [List.mem_filter] at hy;exact ⟨y,hy.1,by simpa using hy.2,rfl⟩
 ·rintro ⟨y,hy,h1,rfl⟩;exact ⟨y,by rw [List.mem_filter]; exact ⟨hy,by simpa using h1⟩,rfl⟩
theorem ofL_rises {n s:Nat} {p:Int} {l:List (Int×Int)} (hp:Zf (n:Int) p l) (hs:s<n):Za8 (ofL n l s):=by
 have hn1:1≤n:=by omega
 have hn2:n<65:=by have:=hp.1.2.1; omega
 unfold Za8 ofL;rw [List.pairwise_map,List.pairwise_filter];refine List.Pairwise.imp_of_mem ?_ hp.2.2;intro x y hx hy hxy h1 h2;have h1:segN n x.1.toNat=s:=by simpa using h1
 have h2:segN n y.1.toNat=s:=by simpa using h2
 have e1:=ZeA hn1 hn2 hs h1;have e2:=ZeA hn1 hn2 hs h2;have x0:=(hp.2.1 x hx).1;have y0:=(hp.2.1 y hy).1;have hlt:x.1.toNat<y.1.toNat:=by omega
 show (((x.1.toNat / n:Nat):Int))<((y.1.toNat / n:Nat):Int)
 rcases Nat.lt_or_ge (x.1.toNat / n) (y.1.toNat / n) with h | h
 ·omega
 ·have:=Nat.mul_le_mul_right n h;omega
theorem Ziq {N P s:Nat} {l:List (Int×Int)} (hp:Zf (N:Int) (P:Int) l) (hs:s<N):ofP N l s P=ofL N l s:=by
 have hn1:1≤N:=by omega
 have hn2:N<65:=by have:=hp.1.2.1; omega
 refine Zey (ZgC N l s P) (ofL_rises hp hs) fun x=>?_
 rw [Zg9,Zha]
 constructor
 ·rintro ⟨k,hk,hh,rfl⟩;have hm:=List.mem_of_getElem? (Zez hh);refine ⟨_,hm,?_,?_⟩
  ·show segN N (((k * N+posN N s:Nat):Int)).toNat=s
   rw [Int.toNat_natCast];exact ZdE hn2 hs
  ·dsimp only
   rw [Int.toNat_natCast,Zex (Zev hn2 hs)]
 ·rintro ⟨y,hy,h1,rfl⟩;have hok:=hp.2.1 y hy;have e:=ZeA hn1 hn2 hs h1;have y0:=hok.1;have y1:=hok.2.1;have ey:(((y.1.toNat / N * N+posN N s:Nat)):Int)=y.1:=by rw [e]; omega
  have hh:ZV l ((y.1.toNat / N * N+posN N s:Nat):Int)=true:=by
   rw [ey];exact (ZbU hp.2.2).2 ⟨y.2,hy⟩
  refine ⟨y.1.toNat / N,?_,hh,?_⟩
  ·refine Nat.div_lt_of_lt_mul ?_
   have h2:(y.1.toNat:Int)<((N * P:Nat):Int):=by
    have:((N * P:Nat):Int)=(N:Int) * (P:Int):=by simp
    rw [this];omega
   omega
  ·rw [ey];have hv:=List.mem_of_getElem? (Zez (l:=l) (k:=y.1) (by rw [← ey]; exact hh));rw [rises_one hp.2.2 hy hv]
end Go.Proofs.YtabdnhkdoeibnaaGreatDoor
namespace Go.Proofs.YtabdnhkdoeibnaaGreatDoor
open Go.RowKit
theorem take_eq_syms {xs ys:List (Int×Int)} {k:Nat} {x y:Int×Int} (hx:xs[k]? = some x) (hy:ys[k]? = some y) (h:xs.take k=ys.take k) (e:x=y):xs.take (k+1)=ys.take (k+1):=by
 rw [List.take_add_one,List.take_add_one,hx,hy,h,e]
theorem syms_differ (a b:Option Addr) (m n cap cap':Nat) (w:World) (hne:m≠n) :
  Calls Tryz.prog 58 #[.slice a m cap,.slice b n cap'] w fun e w'=>e=.returned (.bool false)∧w=w':=by
 have hb:((m:Int) != (n:Int))=true:=by rw [bne_iff_ne]; omega
 go_enter Tryz.func58,Tryz.ntmps58;go_wp2;go_ret;exact ⟨rfl,rfl⟩
theorem ZgD (a b:Option Addr) (cap cap':Nat) (w:World) :
  Calls Tryz.prog 58 #[.slice a 0 cap,.slice b 0 cap'] w fun e w'=>e=.returned (.bool true)∧w=w':=by
 go_enter Tryz.func58,Tryz.ntmps58;go_wp2;go_loop [5] (fun i=>i=.int .i64 0) (fun _=>0)
 case atStart=>rfl
 case round =>
  obtain rfl:=hrel;go_wp2;go_ret;exact ⟨rfl,rfl⟩
theorem syms_some (b off cap b' off' cap' len:Nat) (xs ys:List (Int×Int)) (hx:xs.length=len) (hy:ys.length=len) (hl:len≤4611686018427387904) (w:World)
  (hcx:∀ (j:Nat) (x:Int×Int),xs[j]? = some x→w.cell? ⟨b,off+j * 2,none⟩=some (.int .i64 x.1)∧w.cell? ⟨b,off+j * 2+1,none⟩=some (.int .i64 x.2))
  (hcy:∀ (j:Nat) (x:Int×Int),ys[j]? = some x→w.cell? ⟨b',off'+j * 2,none⟩=some (.int .i64 x.1)∧w.cell? ⟨b',off'+j * 2+1,none⟩=some (.int .i64 x.2)) :
  Calls Tryz.prog 58 #[.slice (some ⟨b,off,none⟩) len cap,.slice (some ⟨b',off',none⟩) len cap'] w fun e w'=>e=.returned (.bool (decide (xs=ys)))∧∃ n,w'=w.drewN n:=by
 have hb:((len:Int) != (len:Int))=false:=by simp
 have HCX:Hid _:=hcx;have HCY:Hid _:=hcy;clear hcx hcy;go_enter Tryz.func58,Tryz.ntmps58;go_wp2;go_loopw [5] (fun i wr=>∃ k nd:Nat,k≤len∧i=.int .i64 k∧xs.take k=ys.take k∧wr=w.drewN nd) (fun i _=>len-(intOf i).toNat)
 case atStart=>exact ⟨0,0,Nat.zero_le _,rfl,rfl,rfl⟩
 case round =>
  obtain ⟨k,nd,hk,rfl,heq,rfl⟩:=hrel;by_cases hlt:k<len
  ·obtain ⟨⟨x0,x1⟩,hxk⟩:∃ x,xs[k]? = some x:=⟨xs[k],by simp⟩;obtain ⟨⟨y0,y1⟩,hyk⟩:∃ y,ys[k]? = some y:=⟨ys[k],by simp⟩;obtain ⟨c1,c2⟩:=HCX.out _ _ hxk;obtain ⟨c3,c4⟩:=HCY.out _ _ hyk;have d1:∀ q,(w.drewN q).cell? ⟨b,off+k * 2,none⟩=some (.int .i64 x0):=fun q=>c1
   have d2:∀ q,(w.drewN q).cell? ⟨b,off+k * 2+1,none⟩=some (.int .i64 x1):=fun q=>c2
   have d3:∀ q,(w.drewN q).cell? ⟨b',off'+k * 2,none⟩=some (.int .i64 y0):=fun q=>c3
   have d4:∀ q,(w.drewN q).cell? ⟨b',off'+k * 2+1,none⟩=some (.int .i64 y1):=fun q=>c4
   have HX:Hid (xs[k]? = some (x0,x1)):=hxk;have HY:Hid (ys[k]? = some (y0,y1)):=hyk;have HE:Hid (xs.take k=ys.take k):=heq;clear hxk hyk heq c1 c2 c3 c4;by_cases hxy:x0=y0
   ·have hq:(x0 != y0)=false:=by simp [hxy]
    by_cases hxy1:x1=y1
    ·have hq1:(x1 != y1)=false:=by simp [hxy1]
     have HQ:Hid ((x0,x1)=(y0,y1)):=by
      show (x0,x1)=(y0,y1)
      rw [hxy,hxy1]
     clear hxy hxy1;go_wp2;go_quiet (fail);go_wp2;go_roundw
     case rel=>exact ⟨k+1,nd+nq,by omega,by go_num,take_eq_syms HX.out HY.out HE.out HQ.out,by simp⟩
     case measure=>simp [intOf]; omega
    ·have hq1:(x1 != y1)=true:=by simp [hxy1]
     have HQ:Hid (xs≠ys):=fun e=>hxy1 (by have:=HX.out; rw [e,HY.out] at this; cases this; rfl)
     clear hxy hxy1;go_wp2;go_quiet (fail);go_wp2;go_ret;exact ⟨by rw [decide_eq_false HQ.out]; rfl,nd+nq,by simp⟩
   ·have hq:(x0 != y0)=true:=by simp [hxy]
    have HQ:Hid (xs≠ys):=fun e=>hxy (by have:=HX.out; rw [e,HY.out] at this; cases this; rfl)
    clear hxy;go_wp2;go_quiet (fail);go_wp2;go_ret;exact ⟨by rw [decide_eq_false HQ.out]; rfl,nd+nq,by simp⟩
  ·obtain rfl:k=len:=by omega
   have HE:Hid (xs=ys):=by rw [List.take_of_length_le (by omega),List.take_of_length_le (by omega)] at heq; exact heq
   clear heq;go_wp2;go_ret;exact ⟨by rw [decide_eq_true HE.out]; rfl,nd,rfl⟩
theorem syms_any (va vb:Value) (xs ys:List (Int×Int)) (n₀ n₁:Nat) (w:World) (hy:ys.length≤4611686018427387904) (ha:Syms n₀ w va xs) (hb:Syms n₁ w vb ys) :
  Calls Tryz.prog 58 #[va,vb] w fun e w'=>e=.returned (.bool (decide (xs=ys)))∧∃ n,w'=w.drewN n:=by
 obtain ⟨a,cap,rfl⟩:=ha.shape;obtain ⟨b,cap',rfl⟩:=hb.shape;by_cases hne:xs.length=ys.length
 ·rcases ha with ⟨_,e2⟩ | ⟨b1,off,c1,e1,_,h1⟩
  ·have z1:xs.length=0:=by rw [e2]; rfl
   have z2:ys.length=0:=by omega
   rw [z1,z2];refine (ZgD a b cap cap' w).mono ?_;rintro e w' ⟨rfl,rfl⟩;exact ⟨by rw [decide_eq_true (by rw [e2,List.length_eq_zero_iff.1 z2])],0,rfl⟩
  ·rcases hb with ⟨_,e4⟩ | ⟨b2,off',c2,e3,_,h2⟩
   ·have z2:ys.length=0:=by rw [e4]; rfl
    have z1:xs.length=0:=by omega
    rw [z1,z2];refine (ZgD a b cap cap' w).mono ?_;rintro e w' ⟨rfl,rfl⟩;exact ⟨by rw [decide_eq_true (by rw [e4,List.length_eq_zero_iff.1 z1])],0,rfl⟩
   ·cases e1
    cases e3
    rw [hne];exact syms_some b1 off cap b2 off' cap' ys.length xs ys hne rfl hy w h1 h2
 ·refine (syms_differ a b xs.length ys.length cap cap' w hne).mono ?_;rintro e w' ⟨rfl,rfl⟩;exact ⟨by rw [decide_eq_false (fun e=>hne (by rw [e]))],0,rfl⟩
theorem ZeB:(Tryz.prog.info? 87).map (fun i=>(i.zero,i.size,i.bytes))=some (some (.agg #[.int .i64 0,.int .i64 0]),2,16):=by kernel_rfl
theorem Zfu {W:World} {b off:Nat} {l:List (Int×Int)} (h:∀ (j:Nat) (x:Int×Int),l[j]? = some x→W.cell? ⟨b,off+j * 2,none⟩=some (.int .i64 x.1)∧W.cell? ⟨b,off+j * 2+1,none⟩=some (.int .i64 x.2)) :
  ∀ (j:Nat) (u:Value),(Za l)[j]? = some u→W.cell? ((⟨b,off,none⟩:Addr).add j)=some u:=by
 intro j u hj;rw [Go.WideShapes.add_plain];have hlt:j<l.length * 2:=by have:=(List.getElem?_eq_some_iff.1 hj).1; rwa [ZaI] at this
 have hq:j / 2<l.length:=by omega
 obtain ⟨x,hx⟩:∃ x,l[j / 2]? = some x:=⟨l[j / 2],by simp⟩;have hc:=h _ _ hx;have hg:=Zcj hx;by_cases h2:j % 2=0
 ·rw [show j / 2 * 2=j by omega] at hc hg;rw [hg.1] at hj
  cases hj
  exact hc.1
 ·rw [show j / 2 * 2+1=j by omega] at hg;rw [show off+j / 2 * 2+1=off+j by omega] at hc;rw [hg.2] at hj
  cases hj
  exact hc.2
theorem twinSyms_any (v:Value) (l:List (Int×Int)) (n₀:Nat) (hl:l.length≤4294967296) (w:World) (hH:Syms n₀ w v l) :
  Calls Tryz.prog 41 #[v] w fun e W'=>∃ r,e=.returned r∧W'.ownsRow w.heap.size 87 2 r l.length (Za l)∧Below w.heap.size w W':=by
 obtain ⟨i0,hi,hz0,hz1,hz2⟩:=info_parts ZeB;rcases hH with ⟨⟨a,cap,rfl,ha⟩,rfl⟩ | ⟨b,off,cap,rfl,hb,hcs⟩
 ·cases a with
  | none =>
   obtain rfl:=ha rfl;go_enter Tryz.func41,Tryz.ntmps41;go_wp2_with (at_builtin; refine wpList_append_own_none rfl _ _ 24 rfl w.heap.size 87 i0 2 Tryz.underlying24 hi _ 0 [] rfl (World.ownsRow_nil _ _ _ _) rfl ?_);go_ret;exact ⟨_,rfl,World.ownsRow_nil _ _ _ _,Below.refl _ _⟩
  | some ad =>
   go_enter Tryz.func41,Tryz.ntmps41;go_wp2_with (at_builtin; refine wpList_append_own _ rfl _ _ 24 rfl w.heap.size 87 i0 (.agg #[.int .i64 0,.int .i64 0]) 2 16 Tryz.underlying24 hi hz0 hz1 hz2 rfl (by decide) _ 0 [] rfl (World.ownsRow_nil _ _ _ _) ad 0 cap [] rfl rfl (by simp) (by simp) (by unfold maxLen; omega) (by omega) (Nat.le_refl _) ?_; intro v' w1 hown hgrow hn);go_ret;exact ⟨_,rfl,hown,(Below.refl _ w).grown hgrow (Nat.le_refl _) (fun k e=>by cases e)⟩
 ·go_enter Tryz.func41,Tryz.ntmps41;go_wp2_with (at_builtin; refine wpList_append_own _ rfl _ _ 24 rfl w.heap.size 87 i0 (.agg #[.int .i64 0,.int .i64 0]) 2 16 Tryz.underlying24 hi hz0 hz1 hz2 rfl (by decide) _ 0 [] rfl (World.ownsRow_nil _ _ _ _) ⟨b,off,none⟩ l.length cap (Za l) rfl (ZaI l) (Zfu hcs) (ZdY l) (by unfold maxLen; omega) (by omega) (Nat.le_refl _) ?_; intro v' w1 hown hgrow hn);go_ret;refine ⟨_,rfl,?_,(Below.refl _ w).grown hgrow (Nat.le_refl _) (fun k e=>by cases e)⟩;simpa using hown
theorem Zc {P:Program} {w:World} {ops:Array Oper} {rest:List Oper} {o:Oper} {a:Act} {Q:Exit→Act→World→Prop} (hw:Region.wanted o (yielded ops a.tmps)=true) (s x:Operand) (t:TypeId)
  (ho:o.op=.call { callee:=.builtin .append,args:=#[s,x],argTypes:=#[t,t] }) (v src:Value) (hs:a.eval s=v) (hx:a.eval x=src) (v':Value) (w':World)
  (hrun:(Builtin.append_ #[t,t] o.type #[v,src]).run P w=.ok v' w') (h:wpList P ops Q rest (a.put o.dst v') w'):wpList P ops Q (o :: rest) a w:=by
 refine wpList_step fun K hK=>?_
 rw [if_pos hw];unfold Oper.wp;simp [execOp,ho,resolve,invoke,builtin,hs,hx,hrun,Result.andThen];exact hK _ _ h
theorem Zl (v src:Value) (n base n₀:Nat) (xs ys:List (Int×Int)) (ty:TypeId) (w:World) (hown:w.ownsRow base 87 2 v n (Za xs)) (hH:Syms n₀ w src ys) (hb:base≤w.heap.size) (h1:n≤4294967296) (h2:ys.length≤4294967296) :
  ∃ v' w',(Builtin.append_ #[24,24] ty #[v,src]).run Tryz.prog w=.ok v' w'∧w'.ownsRow base 87 2 v' (n+ys.length) (Za (xs++ys))∧w.grownBy w' v.ownBlock:=by
 obtain ⟨i0,hi,hz0,hz1,hz2⟩:=info_parts ZeB;rcases hH with ⟨⟨a,cap,rfl,ha⟩,rfl⟩ | ⟨b,off,cap,rfl,_,hcs⟩
 ·cases a with
  | none =>
   obtain rfl:=ha rfl;exact ⟨v,w,run_append_owned_none w base 24 ty 87 i0 2 Tryz.underlying24 hi v n _ hown,by simpa using hown,World.grownBy.refl _ _⟩
  | some ad =>
   obtain ⟨v',w',hr,ho,hg,_⟩:=run_append_own (P:=Tryz.prog) w base 24 ty 87 i0 (.agg #[.int .i64 0,.int .i64 0]) 2 16 Tryz.underlying24 hi hz0 hz1 hz2 rfl (by decide) v n _ hown ad 0 cap [] rfl (by simp) (by simp) (by unfold maxLen; omega) (by omega) hb;exact ⟨v',w',hr,by simpa using ho,hg⟩
 ·obtain ⟨v',w',hr,ho,hg,_⟩:=run_append_own (P:=Tryz.prog) w base 24 ty 87 i0 (.agg #[.int .i64 0,.int .i64 0]) 2 16 Tryz.underlying24 hi hz0 hz1 hz2 rfl (by decide) v n _ hown ⟨b,off,none⟩ ys.length cap (Za ys) (ZaI ys) (Zfu hcs) (ZdY ys) (by unfold maxLen; omega) (by omega) hb;exact ⟨v',w',hr,by rw [Zck]; exact ho,hg⟩
theorem Zbr {n₀ n cap:Nat} {W:World} {a:Option Addr} {l:List (Int×Int)} (h:Syms n₀ W (.slice a n cap) l) (hl:l.length=n) (k:Nat) (hk:k≤n) (c:Nat) (hc:a=none→c=0):Syms n₀ W (.slice a k c) (l.take k):=by
 have hkl:(l.take k).length=k:=by rw [List.length_take]; omega
 by_cases h0:0<n
 ·obtain ⟨b,off,rfl,hb,hcs⟩:=Za0 h hl h0;refine .inr ⟨b,off,c,by rw [hkl],hb,fun j x hj=>hcs j x ?_⟩;rw [List.getElem?_take] at hj
  split at hj
  ·exact hj
  ·cases hj
 ·have:k=0:=by omega
  subst this;exact .inl ⟨⟨_,_,rfl,hc⟩,by simp⟩
theorem ZgE {n₀ n cap:Nat} {W:World} {b off:Nat} {l:List (Int×Int)} (h:Syms n₀ W (.slice (some ⟨b,off,none⟩) n cap) l) (hl:l.length=n) (k:Nat) (hk:k<n) (c:Nat):Syms n₀ W (.slice (some ⟨b,off+k * 2,none⟩) (n-k) c) (l.drop k):=by
 obtain ⟨b',off',e,hb,hcs⟩:=Za0 h hl (by omega)
 cases e
 have hkl:(l.drop k).length=n-k:=by rw [List.length_drop]; omega
 refine .inr ⟨b,off+k * 2,c,by rw [hkl],hb,fun j x hj=>?_⟩;rw [List.getElem?_drop] at hj;have:=hcs (k+j) x hj;rw [show off+(k+j) * 2=off+k * 2+j * 2 by omega] at this;exact this
theorem ZcJ {W:World} {n₀:Nat} (ad:Addr) (c:Nat):Syms n₀ W (.slice (some ad) 0 c) []:=.inl ⟨⟨_,_,rfl,fun e=>by cases e⟩,rfl⟩
theorem keepPile_any (n p n' p':Int) (v v':Value) (xs ys:List (Int×Int)) (w:World) (hy:ys.length≤4611686018427387904) (ha:Syms w.heap.size w v xs) (hb:Syms w.heap.size w v' ys) :
  Calls Tryz.prog 31 #[.agg #[.int .i64 n,.int .i64 p,v],.agg #[.int .i64 n',.int .i64 p',v']] w fun e w'=>e=.returned (.bool (decide (n=n'∧p=p'∧xs=ys)))∧Below w.heap.size w w':=by
 have b1:=((Below.refl w.heap.size w).alloc (Nat.le_refl _) (.cells #[.int .i64 n,.int .i64 p,v] 26)).alloc (by simp) (.cells #[.int .i64 n',.int .i64 p',v'] 26);have ha1:=ha.next b1;have hb1:=hb.next b1;obtain ⟨a,cap,rfl⟩:=ha.shape;obtain ⟨a',cap',rfl⟩:=hb.shape;clear ha hb;by_cases hn:n=n'
 ·have e1:(n == n')=true:=by simp [hn]
  by_cases hp:p=p'
  ·have e2:(p == p')=true:=by simp [hp]
   have HD:Hid (decide (n=n'∧p=p'∧xs=ys)=decide (xs=ys)):=by
    show decide (n=n'∧p=p'∧xs=ys)=decide (xs=ys)
    exact decide_eq_decide.2 ⟨fun h=>h.2.2,fun h=>⟨hn,hp,h⟩⟩
   clear hn hp;go_enter Tryz.func31,Tryz.ntmps31;go_wp2_with fail;refine (syms_any _ _ xs ys _ _ _ hy ha1 hb1).mono ?_;rw [← HD.out];obtain ⟨D,hD⟩:∃ D,decide (n=n'∧p=p'∧xs=ys)=D:=⟨_,rfl⟩;have HDD:Hid (decide (n=n'∧p=p'∧xs=ys)=D):=hD;rw [hD];clear hD HD;rintro e w2 ⟨rfl,q,rfl⟩;go_wp2;go_ret;exact ⟨by rw [HDD.out]; rfl,Zi b1 q⟩
  ·have e2:(p == p')=false:=by simp [hp]
   have HD:Hid (decide (n=n'∧p=p'∧xs=ys)=false):=decide_eq_false fun h=>hp h.2.1
   clear hn hp ha1 hb1;go_enter Tryz.func31,Tryz.ntmps31;go_wp2;go_ret;exact ⟨by rw [HD.out]; rfl,b1⟩
 ·have e1:(n == n')=false:=by simp [hn]
  have HD:Hid (decide (n=n'∧p=p'∧xs=ys)=false):=decide_eq_false fun h=>hn h.1
  clear hn ha1 hb1;go_enter Tryz.func31,Tryz.ntmps31;go_wp2;go_ret;exact ⟨by rw [HD.out]; rfl,b1⟩
theorem ZdZ (n p:Int) (v:Value) (l:List (Int×Int)) (hl:l.length≤4294967296) (w:World) (ha:Syms w.heap.size w v l) :
  Calls Tryz.prog 21 #[.agg #[.int .i64 n,.int .i64 p,v]] w fun e W'=>∃ r,e=.returned (.agg #[.int .i64 n,.int .i64 p,r])∧W'.ownsRow w.heap.size 87 2 r l.length (Za l)∧Below w.heap.size w W':=by
 have b1:=((Below.refl w.heap.size w).alloc (Nat.le_refl _) (.cells #[.int .i64 n,.int .i64 p,v] 26)).alloc (by simp) (.cells #[.int .i64 0,.int .i64 0,.slice none 0 0] 26);have ha1:=ha.next b1;obtain ⟨a,cap,rfl⟩:=ha.shape;clear ha;go_enter Tryz.func21,Tryz.ntmps21;go_wp2_with fail;refine (twinSyms_any _ l _ hl _ ha1).mono ?_;rintro e w2 ⟨r,rfl,o2,b2⟩;obtain ⟨ar,cr,rfl⟩:=(Zj o2).shape;have x1:Box w2 w.heap.size 26 #[.int .i64 n,.int .i64 p,.slice a l.length cap]:=((Box.new w 26 _).alloc _).next b2
 have x2:Box w2 (w.heap.size+1) 26 #[.int .i64 0,.int .i64 0,.slice none 0 0]:=by
  have:=(Box.new (w.alloc (.cells #[.int .i64 n,.int .i64 p,.slice a l.length cap] 26)) 26 #[.int .i64 0,.int .i64 0,.slice none 0 0]).next b2;simpa using this
 obtain ⟨k0,k1,k2⟩:=x1.c3;obtain ⟨m0,m1,m2⟩:=x2.c3;have f0:=x1.free 2;obtain ⟨g0,g1,g2⟩:=x2.f3;go_wp2;refine bodyPost_ret (v:=.agg #[.int .i64 n,.int .i64 p,.slice ar l.length cr]) (by simp [results,Tryz.results21,go_sem,m0,m1,m2]) rfl ⟨_,rfl,?_,?_⟩
 ·have o3:=Ze (ownsRow_setCell_below (ownsRow_setCell_below (ownsRow_setCell_below (ownsRow_setCell_below o2 (a:=⟨w.heap.size,2,none⟩) (by simp; omega) (.slice ar l.length cr)) (a:=⟨w.heap.size+1,0,none⟩) (by simp) (.int .i64 n)) (a:=⟨w.heap.size+1,1,none⟩) (by simp) (.int .i64 p)) (a:=⟨w.heap.size+1,2,none⟩) (by simp) (.slice ar l.length cr)) (show w.heap.size≤_ by simp; omega);exact o3
 ·have b3:=b1.trans (b2.mono (by simp; omega));exact (((b3.setCell (p:=⟨w.heap.size,2,none⟩) (Nat.le_refl _) _).setCell (p:=⟨w.heap.size+1,0,none⟩) (by simp) _).setCell (p:=⟨w.heap.size+1,1,none⟩) (by simp) _).setCell (p:=⟨w.heap.size+1,2,none⟩) (by simp) _
theorem refPile_syms (n p:Int) (hh:Zbq n p) (a:Option Addr) (cap:Nat) (l:List (Int×Int)) (hl:l.length≤4294967296) (w:World) (ha:Syms w.heap.size w (.slice a l.length cap) l) :
  Calls Tryz.prog 34 #[.agg #[.int .i64 n,.int .i64 p,.slice a l.length cap]] w fun e w'=>(e=.returned (.bool true)∧ZX n p l∨e=.returned (.bool false)∧¬ ZX n p l)∧Below w.heap.size w w':=by
 obtain ⟨N,rfl⟩:=Int.eq_ofNat_of_zero_le (a:=n) (by have:=hh.1; omega);have HH:Hid (Zbq (N:Int) p):=hh;have hN1:1≤N:=by have:=hh.1; omega
 have hN2:N<65:=by have:=hh.2.1; omega
 have hp1:1≤p:=hh.2.2.1;have hp2:p≤16:=hh.2.2.2;have hprod:=hh.prod;have dp1:decide (p<1)=false:=decide_eq_false (by omega);have dp2:decide (16<p)=false:=decide_eq_false (by omega);clear hh;have b0:=(Below.refl w.heap.size w).alloc (Nat.le_refl _) (.cells #[.int .i64 N,.int .i64 p,.slice a l.length cap] 26);have x0:=Box.new w 26 #[.int .i64 N,.int .i64 p,.slice a l.length cap];have ha0:=ha.next b0;obtain ⟨w0,hw0⟩:∃ w0,w.alloc (.cells #[.int .i64 N,.int .i64 p,.slice a l.length cap] 26)=w0:=⟨_,rfl⟩;rw [hw0] at b0 x0 ha0;have hs0:w0.heap.size=w.heap.size+1:=by rw [← hw0]; simp
 obtain ⟨k0,k1,k2⟩:=x0.c3;clear ha;go_enter Tryz.func34,Tryz.ntmps34;go_wp2_with fail;refine (Zgc N hN1 hN2 _).mono ?_;rintro e w1 ⟨rfl,rfl⟩;clear hw0;go_wp2;clear k0 k1 k2;go_loopw [3] (fun i wr=>∃ k:Nat,k≤l.length∧i=.int .i64 k∧Hid (ZX (N:Int) p (l.take k))∧Below w0.heap.size w0 wr) (fun i _=>l.length-(intOf i).toNat)
 case atStart=>exact ⟨0,Nat.zero_le _,rfl,Zft _ _,Below.refl _ _⟩
 case round =>
  obtain ⟨k,hk,rfl,HS,hbw⟩:=hrel;have x1:=x0.next hbw;obtain ⟨k0,k1,k2⟩:=x1.c3;by_cases hlt:k<l.length
  ·obtain ⟨⟨at_,val⟩,hx⟩:∃ x,l[k]? = some x:=⟨l[k],by simp⟩;obtain ⟨b,off,rfl,hb,hcell⟩:=Za0 (ha0.next hbw) rfl (by omega);obtain ⟨c1,c2⟩:=hcell k _ hx;have HC:Hid _:=hcell;have HX:Hid (l[k]? = some (at_,val)):=hx;clear hcell hx;have s0:∀ q,((wr.alloc (.cells #[.int .i64 at_,.int .i64 val] 87)).drewN q).cell? ⟨wr.heap.size,0,none⟩=some (.int .i64 at_):=fun q=>(Box.new wr 87 #[.int .i64 at_,.int .i64 val]).cell 0 _ rfl
   have s1:∀ q,((wr.alloc (.cells #[.int .i64 at_,.int .i64 val] 87)).drewN q).cell? ⟨wr.heap.size,1,none⟩=some (.int .i64 val):=fun q=>(Box.new wr 87 #[.int .i64 at_,.int .i64 val]).cell 1 _ rfl
   have y0:∀ q,((wr.alloc (.cells #[.int .i64 at_,.int .i64 val] 87)).drewN q).cell? ⟨w.heap.size,0,none⟩=some (.int .i64 (N:Int)):=fun q=>(x1.alloc _).cell 0 _ rfl
   have y1:∀ q,((wr.alloc (.cells #[.int .i64 at_,.int .i64 val] 87)).drewN q).cell? ⟨w.heap.size,1,none⟩=some (.int .i64 p):=fun q=>(x1.alloc _).cell 1 _ rfl
   have y2:∀ q,((wr.alloc (.cells #[.int .i64 at_,.int .i64 val] 87)).drewN q).cell? ⟨w.heap.size,2,none⟩=some (.slice (some ⟨b,off,none⟩) l.length cap):=fun q=>(x1.alloc _).cell 2 _ rfl
   have bV:Below w0.heap.size w0 (wr.alloc (.cells #[.int .i64 at_,.int .i64 val] 87)):=hbw.alloc hbw.size _;have bbV:Below w.heap.size w (wr.alloc (.cells #[.int .i64 at_,.int .i64 val] 87)):=b0.trans (bV.mono b0.size);obtain ⟨M,hM⟩:∃ M,(N:Int) * p=M:=⟨_,rfl⟩;have HM:Hid ((N:Int) * p=M):=hM;have hM1:1≤M∧M≤1024:=by rw [← hM]; exact hprod
   clear hprod;by_cases h1:at_<0
   ·have d1:decide (at_<0)=true:=decide_eq_true h1;have HNO:Hid (¬ ZX (N:Int) p l):=fun h=>by have:=h.1 _ (List.mem_of_getElem? HX.out); exact absurd this.1 (by simp; omega)
    clear h1;go_wp2;go_quiet (fail);go_wp2;go_ret;exact ⟨.inr ⟨rfl,HNO.out⟩,Zi bbV _⟩
   have d1:decide (at_<0)=false:=decide_eq_false h1;by_cases h2:M≤at_
   ·have d2:decide (M≤at_)=true:=decide_eq_true h2;have HNO:Hid (¬ ZX (N:Int) p l):=fun h=>by have:=(h.1 _ (List.mem_of_getElem? HX.out)).2.1; rw [HM.out] at this; simp at this; omega
    clear h2;go_wp2;go_quiet (fail);go_wp2;go_ret;exact ⟨.inr ⟨rfl,HNO.out⟩,Zi bbV _⟩
   have d2:decide (M≤at_)=false:=decide_eq_false h2;by_cases h3:val<0
   ·have d3:decide (val<0)=true:=decide_eq_true h3;have HNO:Hid (¬ ZX (N:Int) p l):=fun h=>by have:=(h.1 _ (List.mem_of_getElem? HX.out)).2.2.1; simp at this; omega
    clear h3;go_wp2;go_quiet (fail);go_wp2;go_ret;exact ⟨.inr ⟨rfl,HNO.out⟩,Zi bbV _⟩
   have d3:decide (val<0)=false:=decide_eq_false h3;by_cases h4:255<val
   ·have d4:decide (255<val)=true:=decide_eq_true h4;have HNO:Hid (¬ ZX (N:Int) p l):=fun h=>by have:=(h.1 _ (List.mem_of_getElem? HX.out)).2.2.2; simp at this; omega
    clear h4;go_wp2;go_quiet (fail);go_wp2;go_ret;exact ⟨.inr ⟨rfl,HNO.out⟩,Zi bbV _⟩
   have d4:decide (255<val)=false:=decide_eq_false h4;have hok:Zim (N:Int) p (at_,val):=⟨by simp; omega,by rw [HM.out]; simp; omega,by simp; omega,by simp; omega⟩
   cases k with
   | zero =>
    have c1z:wr.cell? ⟨b,off,none⟩=some (.int .i64 at_):=by simpa using c1
    have c2z:wr.cell? ⟨b,off+1,none⟩=some (.int .i64 val):=by simpa using c2
    have HS':Hid (ZX (N:Int) p (l.take (0+1))):=by
     show ZX (N:Int) p (l.take (0+1))
     have e:l.take (0+1)=l.take 0++[(at_,val)]:=by rw [List.take_add_one,HX.out]; rfl
     rw [e];exact Zc5 HS.out hok (fun y hy=>by simp at hy)
    clear h1 h2 h3 h4 hok HS;go_wp2;go_quiet (fail);go_wp2;refine ⟨⟨0+1,by omega,by go_num,HS',Zi bV _⟩,by simp [intOf]; omega⟩
   | succ K =>
    obtain ⟨⟨pat,pval⟩,hy⟩:∃ y,l[K]? = some y:=⟨l[K],by simp⟩;have HY:Hid (l[K]? = some (pat,pval)):=hy;have cp:∀ q,((wr.alloc (.cells #[.int .i64 at_,.int .i64 val] 87)).drewN q).cell? ⟨b,off+K * 2,none⟩=some (.int .i64 pat):=fun q=>(((Below.refl _ wr).alloc (Nat.le_refl _) _).cell (p:=⟨b,off+K * 2,none⟩) hb).trans (HC.out K _ hy).1
    clear hy;by_cases h6:at_≤pat
    ·have d6:decide (at_≤pat)=true:=decide_eq_true h6;have HNO:Hid (¬ ZX (N:Int) p l):=fun h=>by have:=symsOk_get h HY.out HX.out; simp at this; omega
     clear h1 h2 h3 h4 h6 hok HS;go_wp2;go_quiet (fail);go_wp2;go_ret;exact ⟨.inr ⟨rfl,HNO.out⟩,Zi bbV _⟩
    ·have d6:decide (at_≤pat)=false:=decide_eq_false h6
     have HS':Hid (ZX (N:Int) p (l.take (K+1+1))):=by
      show ZX (N:Int) p (l.take (K+1+1))
      have e:l.take (K+1+1)=l.take (K+1)++[(at_,val)]:=by rw [List.take_add_one,HX.out]; rfl
      rw [e];refine Zc5 HS.out hok (fun y hy=>?_);rw [List.length_take,Nat.min_eq_left (by omega),Nat.add_sub_cancel,List.getElem?_take,if_pos (by omega),HY.out] at hy
      cases hy
      simp;omega
     clear h1 h2 h3 h4 h6 hok HS;go_wp2;go_quiet (fail);go_wp2;refine ⟨⟨K+1+1,by omega,by go_num,HS',Zi bV _⟩,by simp [intOf]; omega⟩
  ·obtain rfl:k=l.length:=by omega
   have HS2:Hid (ZX (N:Int) p l):=by
    have:=HS.out;rw [List.take_length] at this;exact this
   clear HS hlt;go_wp2;go_ret;exact ⟨.inl ⟨rfl,HS2.out⟩,b0.trans (hbw.mono b0.size)⟩
theorem refPile_n (n p:Int) (h:n<1∨64<n) (a:Option Addr) (len cap:Nat) (w:World) :
  Calls Tryz.prog 34 #[.agg #[.int .i64 n,.int .i64 p,.slice a len cap]] w fun e w'=>e=.returned (.bool false)∧Below w.heap.size w w':=by
 have b0:=(Below.refl w.heap.size w).alloc (Nat.le_refl _) (.cells #[.int .i64 n,.int .i64 p,.slice a len cap] 26);go_enter Tryz.func34,Tryz.ntmps34;go_wp2_with fail;refine (refN_no n h _).mono ?_;rintro e w1 ⟨rfl,rfl⟩;clear h;go_wp2;go_ret;exact ⟨rfl,b0⟩
theorem refPile_p (N:Nat) (hN1:1≤N) (hN2:N<65) (p:Int) (h:p<1∨16<p) (a:Option Addr) (len cap:Nat) (w:World) :
  Calls Tryz.prog 34 #[.agg #[.int .i64 N,.int .i64 p,.slice a len cap]] w fun e w'=>e=.returned (.bool false)∧Below w.heap.size w w':=by
 have b0:=(Below.refl w.heap.size w).alloc (Nat.le_refl _) (.cells #[.int .i64 N,.int .i64 p,.slice a len cap] 26);by_cases h1:p<1
 ·have d1:decide (p<1)=true:=decide_eq_true h1;clear h h1;go_enter Tryz.func34,Tryz.ntmps34;go_wp2_with fail;refine (Zgc N hN1 hN2 _).mono ?_;rintro e w1 ⟨rfl,rfl⟩;go_wp2;go_ret;exact ⟨rfl,b0⟩
 ·have d1:decide (p<1)=false:=decide_eq_false h1;have d2:decide (16<p)=true:=decide_eq_true (by omega);clear h h1;go_enter Tryz.func34,Tryz.ntmps34;go_wp2_with fail;refine (Zgc N hN1 hN2 _).mono ?_;rintro e w1 ⟨rfl,rfl⟩;go_wp2;go_ret;exact ⟨rfl,b0⟩
theorem ZeC (n p:Int) (a:Option Addr) (cap:Nat) (l:List (Int×Int)) (hl:l.length≤4294967296) (w:World) (ha:Syms w.heap.size w (.slice a l.length cap) l) :
  Calls Tryz.prog 34 #[.agg #[.int .i64 n,.int .i64 p,.slice a l.length cap]] w fun e w'=>(e=.returned (.bool true)∧Zf n p l∨e=.returned (.bool false)∧¬ Zf n p l)∧Below w.heap.size w w':=by
 by_cases h:n<1∨64<n
 ·refine (refPile_n n p h a l.length cap w).mono ?_;rintro e w' ⟨rfl,hb⟩;exact ⟨.inr ⟨rfl,fun hp=>by have h1:=hp.1.1; have h2:=hp.1.2.1; omega⟩,hb⟩
 obtain ⟨N,rfl⟩:=Int.eq_ofNat_of_zero_le (a:=n) (by omega);by_cases h2:p<1∨16<p
 ·refine (refPile_p N (by omega) (by omega) p h2 a l.length cap w).mono ?_;rintro e w' ⟨rfl,hb⟩;exact ⟨.inr ⟨rfl,fun hp=>by have h1:=hp.1.2.2.1; have h3:=hp.1.2.2.2; omega⟩,hb⟩
 have hh:Zbq (N:Int) p:=⟨by omega,by omega,by omega,by omega⟩;refine (refPile_syms N p hh a cap l hl w ha).mono ?_;rintro e w' ⟨⟨rfl,hs⟩ | ⟨rfl,hs⟩,hb⟩
 ·exact ⟨.inl ⟨rfl,hh,hs.1,hs.2⟩,hb⟩
 ·exact ⟨.inr ⟨rfl,fun hp=>hs ⟨hp.2.1,hp.2.2⟩⟩,hb⟩
theorem ZF (n p:Int) (a:Option Addr) (cap:Nat) (l:List (Int×Int)) (hl:l.length≤4294967296) (hp:Zf n p l) (w:World) (ha:Syms w.heap.size w (.slice a l.length cap) l) :
  Calls Tryz.prog 34 #[.agg #[.int .i64 n,.int .i64 p,.slice a l.length cap]] w fun e w'=>e=.returned (.bool true)∧Below w.heap.size w w':=by
 refine (ZeC n p a cap l hl w ha).mono ?_;rintro e w' ⟨⟨rfl,_⟩ | ⟨_,h⟩,hb⟩
 ·exact ⟨rfl,hb⟩
 ·exact absurd hp h
theorem ZdF (n p:Int) (a:Option Addr) (cap:Nat) (l:List (Int×Int)) (hl:l.length≤4294967296) (hp:¬ Zf n p l) (w:World) (ha:Syms w.heap.size w (.slice a l.length cap) l) :
  Calls Tryz.prog 34 #[.agg #[.int .i64 n,.int .i64 p,.slice a l.length cap]] w fun e w'=>e=.returned (.bool false)∧Below w.heap.size w w':=by
 refine (ZeC n p a cap l hl w ha).mono ?_;rintro e w' ⟨⟨_,h⟩ | ⟨rfl,_⟩,hb⟩
 ·exact absurd h hp
 ·exact ⟨rfl,hb⟩
theorem take_snoc_sym {l:List (Int×Int)} {k:Nat} {x:Int×Int} (hz:l[k]? = some x):l.take (k+1)=l.take k++[x]:=by rw [List.take_add_one,hz]; rfl
theorem refOf_in (N:Nat) (p:Int) (s:Nat) (a:Option Addr) (cap:Nat) (l:List (Int×Int)) (hp:Zf (N:Int) p l) (w:World) (ha:Syms w.heap.size w (.slice a l.length cap) l) :
  Calls Tryz.prog 118 #[.agg #[.int .i64 N,.int .i64 p,.slice a l.length cap],.int .i64 s] w fun e W'=>∃ r,e=.returned r∧W'.ownsRow w.heap.size 87 2 r (ofL N l s).length (Za (ofL N l s))∧Below w.heap.size w W':=by
 obtain ⟨i0,hi,hz0,hz1,hz2⟩:=info_parts ZeB;have hlen:=Zag hp;have hprod:=hp.1.prod;have hN1:1≤N:=by have:=hp.1.1; omega
 have hN2:N<65:=by have:=hp.1.2.1; omega
 have hl:l.length≤1024:=by omega
 have HP:Hid (Zf (N:Int) p l):=hp;have HPR:Hid ((N:Int) * p≤1024):=hprod.2;have b0:=(Below.refl w.heap.size w).alloc (Nat.le_refl _) (.cells #[.int .i64 N,.int .i64 p,.slice a l.length cap] 26);have x0:=Box.new w 26 #[.int .i64 N,.int .i64 p,.slice a l.length cap];have ha0:=ha.next b0;obtain ⟨w0,hw0⟩:∃ w0,w.alloc (.cells #[.int .i64 N,.int .i64 p,.slice a l.length cap] 26)=w0:=⟨_,rfl⟩;rw [hw0] at b0 x0 ha0;have k0:=x0.cell 0 _ rfl;clear ha hp hprod hlen;go_enter Tryz.func118,Tryz.ntmps118;go_wp2_with fail;refine (refOrder_any N hN1 hN2 _).mono ?_;rintro e w1 ⟨r1,rfl,o1,b1⟩;obtain ⟨g,capg,rfl,_,hg1,hcg⟩:=order_cell hN1 o1;have HCG:Hid _:=hcg;have x1:=x0.next b1;have ha1:=ha0.next b1;have k2:=x1.cell 2 _ rfl;have bb1:=b0.trans (b1.mono b0.size);clear hw0 k0 o1 hcg x0 ha0 b0 b1;go_wp2;clear k2;go_loopw [6,7] (fun v i wr=>∃ k:Nat,k≤l.length∧i=.int .i64 k∧wr.ownsRow w1.heap.size 87 2 v (ofL N (l.take k) s).length (Za (ofL N (l.take k) s))∧Below w1.heap.size w1 wr) (fun _ i _=>l.length-(intOf i).toNat)
 case atStart=>exact ⟨0,Nat.zero_le _,rfl,World.ownsRow_nil _ _ _ _,Below.refl _ _⟩
 case round =>
  obtain ⟨k,hk,rfl,ho,hbw⟩:=hrel;have x2:=x1.next hbw;by_cases hlt:k<l.length
  ·obtain ⟨⟨at_,val⟩,hx⟩:∃ x,l[k]? = some x:=⟨l[k],by simp⟩;have hok:=HP.out.2.1 _ (List.mem_of_getElem? hx);obtain ⟨A,rfl⟩:=Int.eq_ofNat_of_zero_le (a:=at_) hok.1;have hA:A<1024:=by have h1:=hok.2.1; have h2:=HPR.out; simp at h1; omega
   have hseg:=Zgd hN1 hN2 A;obtain ⟨b,off,rfl,hb,hcell⟩:=Za0 (ha1.next hbw) rfl (by omega);obtain ⟨c1,c2⟩:=hcell k _ hx;have hbs:=hbw.size;have cg:wr.cell? ⟨g,A % N,none⟩=some (.int .i64 ((segN N A:Nat):Int)):=(hbw.cell (p:=⟨g,A % N,none⟩) hg1).trans (HCG.out _ _ hseg.1);have k0:=x2.cell 0 _ rfl;have k2:=x2.cell 2 _ rfl;have e1:((A:Nat):Int).tmod (N:Int)=((A % N:Nat):Int):=by rw [Int.tmod_eq_emod_of_nonneg (by omega)]; simp
   have e2:((A:Nat):Int).tdiv (N:Int)=((A / N:Nat):Int):=by rw [Int.tdiv_eq_ediv_of_nonneg (by omega)]; simp
   have hm:A % N<N:=Nat.mod_lt _ (by omega);have hd:A / N≤A:=Nat.div_le_self _ _;have n0:¬ (N:Int)=0:=by omega
   have HSN:=ofL_snoc N (l.take k) ((A:Int),val) s;rw [← take_snoc_sym hx] at HSN;have HSN:Hid _:=HSN;have hfew:(ofL N (l.take k) s).length≤1024:=by have h1:=Zfs N (l.take k) s; rw [List.length_take] at h1; omega
   have hgw:g<wr.heap.size:=by omega
   have hbx:w.heap.size<wr.heap.size:=x2.lt
   have hneb:some b≠u6.ownBlock:=fun e=>by
    have h1:=(ho.lt b e.symm).1
    have h2:b<w1.heap.size:=by
     obtain ⟨b',off',e',hb',_⟩:=Za0 ha1 rfl (show 0<l.length by omega)
     cases e'
     exact hb'
    omega
   have hneg:some g≠u6.ownBlock:=fun e=>by have:=(ho.lt g e.symm).1; omega
   have hnew:some w.heap.size≠u6.ownBlock:=fun e=>by have h1:=(ho.lt _ e.symm).1; have h2:=x1.lt; omega
   obtain ⟨q,hq⟩:∃ q,A % N=q:=⟨_,rfl⟩;obtain ⟨d,hdd⟩:∃ d,A / N=d:=⟨_,rfl⟩;rw [hq] at cg e1 hm;rw [hdd] at e2 hd;have ewd:IntKind.i64.wrap (d:Int)=(d:Int):=by rw [IntKind.wrap_i64]; omega
   have HSN2:Hid (ofL N (l.take (k+1)) s=ofL N (l.take k) s++(if segN N A=s then [((d:Int),val)] else [])):=by
    have:=HSN.out;simp only [Int.toNat_natCast,hdd] at this;exact this
   obtain ⟨L,hL⟩:∃ L,ofL N (l.take k) s=L:=⟨_,rfl⟩;rw [hL] at ho hfew HSN2;have HO:Hid (wr.ownsRow w1.heap.size 87 2 u6 L.length (Za L)):=ho;clear hcell hok hx hq hdd hL ho HSN;by_cases hsg:segN N A=s
   ·have HS1:Hid (ofL N (l.take (k+1)) s=L++[((d:Int),val)]):=by
     have:=HSN2.out;rwa [if_pos hsg] at this
    rw [hsg] at cg;have f1:∀ q,(wr.drewN q).cell? ⟨w.heap.size,2,none⟩=some (.slice (some ⟨b,off,none⟩) l.length cap):=fun q=>k2
    have f2:∀ q,(wr.drewN q).cell? ⟨w.heap.size,0,none⟩=some (.int .i64 (N:Int)):=fun q=>k0
    have f3:∀ q,(wr.drewN q).cell? ⟨b,off+k * 2,none⟩=some (.int .i64 (A:Int)):=fun q=>c1
    have f4:∀ r,(wr.drewN r).cell? ⟨g,q,none⟩=some (.int .i64 (s:Int)):=fun q=>cg
    have de:((s:Int) == (s:Int))=true:=by simp
    go_wp2;go_quiet (fail);go_wp2;have HOV:Hid ((wr.drewN nq).ownsRow w1.heap.size 87 2 u6 L.length (Za L)):=HO.out;have bV:Below w1.heap.size w1 (wr.drewN nq):=Zi hbw nq;have v1:=f1 nq;have v2:=f2 nq;have v3:=f3 nq;have v4:(wr.drewN nq).cell? ⟨b,off+k * 2+1,none⟩=some (.int .i64 val):=c2;have hbV:b<(wr.drewN nq).heap.size:=hb;have hxV:w.heap.size<(wr.drewN nq).heap.size:=hbx;obtain ⟨V,hV⟩:∃ V,wr.drewN nq=V:=⟨_,rfl⟩;rw [hV] at HOV bV v1 v2 v3 v4 hbV hxV ⊢;have hbs2:=bV.size;clear hV f1 f2 f3 f4 cg c1 c2 k0 k2 x2 hb hbx hgw HO hbw hbs;go_region_held_law (fun w'=>w'.cell? ⟨w.heap.size,2,none⟩=some (.slice (some ⟨b,off,none⟩) l.length cap)∧w'.cell? ⟨w.heap.size,0,none⟩=some (.int .i64 (N:Int))∧w'.cell? ⟨b,off+k * 2,none⟩=some (.int .i64 (A:Int))∧w'.cell? ⟨b,off+k * 2+1,none⟩=some (.int .i64 val)) (go_keep) ((refine step_append_lies _ rfl _ _ 24 rfl w1.heap.size 87 i0 (.agg #[.int .i64 0,.int .i64 0]) 2 16 Tryz.underlying24 hi hz0 hz1 hz2 rfl (by decide) u6 L.length _ (by simp [Act.eval]) (by exact (HOV.out.alloc _).drew) ⟨V.heap.size,0,none⟩ 1 1 [.int .i64 d,.int .i64 val] (by simp [Act.eval]) rfl (by exact World.news_of_block (World.alloc_heap_new _ _)) (by simp [Value.oneCell']) (by decide) (by unfold maxLen; omega) (by omega) (by simp; omega) _ rfl ?_; intro g9 cap9 w9 hown9 hgrow9 hat9 hlt9; have hs1:=hgrow9.cell (a:=⟨w.heap.size,2,none⟩) ((((Below.refl _ V).alloc (Nat.le_refl _) _).drew.cell (p:=⟨w.heap.size,2,none⟩) hxV).trans v1) hnew; have hs2:=hgrow9.cell (a:=⟨w.heap.size,0,none⟩) ((((Below.refl _ V).alloc (Nat.le_refl _) _).drew.cell (p:=⟨w.heap.size,0,none⟩) hxV).trans v2) hnew; have hs3:=hgrow9.cell (a:=⟨b,off+k * 2,none⟩) ((((Below.refl _ V).alloc (Nat.le_refl _) _).drew.cell (p:=⟨b,off+k * 2,none⟩) hbV).trans v3) hneb; have hs4:=hgrow9.cell (a:=⟨b,off+k * 2+1,none⟩) ((((Below.refl _ V).alloc (Nat.le_refl _) _).drew.cell (p:=⟨b,off+k * 2+1,none⟩) hbV).trans v4) hneb))
    all_goals (
     have b9:Below w1.heap.size w1 w9:=((bV.alloc bV.size _).drew).trans ((Below.refl _ _).grown hgrow9 (by simp; omega) (fun q e=>(HOV.out.lt q e).1))
     go_wp2
     refine ⟨⟨k+1,by omega,by go_num,?_,b9⟩,by simp [intOf]; omega⟩
     rw [HS1.out,symCells_snoc,List.length_append]
     exact hown9)
   ·have HS1:Hid (ofL N (l.take (k+1)) s=L):=by
     have:=HSN2.out;rw [if_neg hsg,List.append_nil] at this;exact this
    have f1:∀ q,(wr.drewN q).cell? ⟨w.heap.size,2,none⟩=some (.slice (some ⟨b,off,none⟩) l.length cap):=fun q=>k2
    have f2:∀ q,(wr.drewN q).cell? ⟨w.heap.size,0,none⟩=some (.int .i64 (N:Int)):=fun q=>k0
    have f3:∀ q,(wr.drewN q).cell? ⟨b,off+k * 2,none⟩=some (.int .i64 (A:Int)):=fun q=>c1
    have f4:∀ r,(wr.drewN r).cell? ⟨g,q,none⟩=some (.int .i64 ((segN N A:Nat):Int)):=fun q=>cg
    have de:(((segN N A:Nat):Int) == (s:Int))=false:=by rw [beq_eq_false_iff_ne]; omega
    obtain ⟨S,hS⟩:∃ S,segN N A=S:=⟨_,rfl⟩;rw [hS] at f4 de;clear hS cg HSN2 hseg hsg;go_wp2;go_quiet (fail);go_wp2;refine ⟨⟨k+1,by omega,by go_num,?_,Zi hbw _⟩,by simp [intOf]; omega⟩;rw [HS1.out];exact HO.out
  ·obtain rfl:k=l.length:=by omega
   rw [List.take_length] at ho;have ho':=Ze ho (show w.heap.size≤w1.heap.size by have:=bb1.size; omega);have bb2:=bb1.trans (hbw.mono bb1.size);have k2:=x2.cell 2 _ rfl;clear ho hlt hk ha1 HCG;go_wp2;go_ret;exact ⟨_,rfl,ho',bb2⟩
end Go.Proofs.YtabdnhkdoeibnaaGreatDoor
namespace Go.Proofs.YtabdnhkdoeibnaaGreatDoor
end Go.Proofs.YtabdnhkdoeibnaaGreatDoor
namespace Go.Proofs.YtabdnhkdoeibnaaGreatDoor
open Go.RowKit
def cmpI (x y:Int):Int:=if x<y then -1 else if y<x then 1 else 0
theorem cmpI_lt {x y:Int} (h:x<y):cmpI x y = -1:=by unfold cmpI; rw [if_pos h]
theorem cmpI_gt {x y:Int} (h:y<x):cmpI x y=1:=by unfold cmpI; rw [if_neg (by omega),if_pos h]
theorem Zhq {x y:Int}:cmpI x y<0↔x<y:=by unfold cmpI; split <;> (try split) <;> omega
theorem ZgF {x y:Int}:cmpI x y=0↔x=y:=by unfold cmpI; split <;> (try split) <;> omega
theorem ZcK (x:Int) (w:World):Calls Tryz.prog 125 #[.int .i64 x] w fun e w'=>e=.returned (.bool false)∧w=w':=by
 have hb:(x != x)=false:=by simp
 go_enter Tryz.func125,Tryz.ntmps125;go_wp2;go_ret;exact ⟨rfl,rfl⟩
theorem compare_any (x y:Int) (w:World):Calls Tryz.prog 103 #[.int .i64 x,.int .i64 y] w fun e w'=>e=.returned (.int .i64 (cmpI x y))∧w=w':=by
 by_cases h1:x<y
 ·rw [cmpI_lt h1];have d1:decide (x<y)=true:=decide_eq_true h1;clear h1;go_enter Tryz.func103,Tryz.ntmps103;go_wp2_with fail;refine (ZcK x w).mono ?_;rintro e w1 ⟨rfl,rfl⟩;go_wp2_with fail;refine (ZcK y w).mono ?_;rintro e w1 ⟨rfl,rfl⟩;go_wp2;go_ret;exact ⟨rfl,rfl⟩
 ·have d1:decide (x<y)=false:=decide_eq_false h1;by_cases h2:y<x
  ·rw [cmpI_gt h2];have d2:decide (y<x)=true:=decide_eq_true h2;clear h1 h2;go_enter Tryz.func103,Tryz.ntmps103;go_wp2_with fail;refine (ZcK x w).mono ?_;rintro e w1 ⟨rfl,rfl⟩;go_wp2_with fail;refine (ZcK y w).mono ?_;rintro e w1 ⟨rfl,rfl⟩;go_wp2;go_ret;exact ⟨rfl,rfl⟩
  ·have d2:decide (y<x)=false:=decide_eq_false h2
   have HC:Hid (cmpI x y=0):=by
    show cmpI x y=0
    exact ZgF.2 (by omega)
   rw [HC.out];clear h1 h2;go_enter Tryz.func103,Tryz.ntmps103;go_wp2_with fail;refine (ZcK x w).mono ?_;rintro e w1 ⟨rfl,rfl⟩;go_wp2_with fail;refine (ZcK y w).mono ?_;rintro e w1 ⟨rfl,rfl⟩;go_wp2;go_ret;exact ⟨rfl,rfl⟩
theorem ZgG (x u k:Int) (w:World):Calls Tryz.prog 102 #[.agg #[.int .i64 x,.int .i64 u],.int .i64 k] w fun e w'=>e=.returned (.int .i64 (cmpI x k))∧Below w.heap.size w w':=by
 have b0:=(Below.refl w.heap.size w).alloc (Nat.le_refl _) (.cells #[.int .i64 x,.int .i64 u] 87);go_enter Tryz.func102,Tryz.ntmps102;go_wp2_with fail;refine (compare_any x k _).mono ?_;rintro e w1 ⟨rfl,rfl⟩;go_wp2;go_ret;exact ⟨rfl,b0⟩
theorem search_ok (k:Int) (a:Option Addr) (cap:Nat) (l:List (Int×Int)) (hl:l.length≤4294967296) (hr:Za8 l) (w:World) (ha:Syms w.heap.size w (.slice a l.length cap) l) :
  Calls Tryz.prog 101 #[.slice a l.length cap,.int .i64 k,.func (.func 102) #[] #[]] w fun e w'=>e=.returned (.tuple #[.int .i64 (aheadOf l k:Nat),.bool (ZV l k)])∧Below w.heap.size w w':=by
 have HR:Hid (Za8 l):=hr;have HAL:Hid (aheadOf l k≤l.length):=Zan l k;obtain ⟨q,hq⟩:∃ q,aheadOf l k=q:=⟨_,rfl⟩;have HQ:Hid (aheadOf l k=q):=hq;obtain ⟨t,ht⟩:∃ t,ZV l k=t:=⟨_,rfl⟩;have HT:Hid (ZV l k=t):=ht;rw [hq,ht];clear hq ht hr;go_enter Tryz.func101,Tryz.ntmps101;go_wp2;go_loopw [9,10] (fun s9 s10 wr=>∃ i j:Nat,s9=.int .i64 i∧s10=.int .i64 j∧i≤q∧q≤j∧j≤l.length∧Below w.heap.size w wr) (fun s9 s10 _=>(intOf s10).toNat-(intOf s9).toNat)
 case atStart=>exact ⟨0,l.length,rfl,rfl,Nat.zero_le _,by rw [← HQ.out]; exact HAL.out,Nat.le_refl _,Below.refl _ _⟩
 case round =>
  obtain ⟨i,j,rfl,rfl,hiq,hqj,hjl,hbw⟩:=hrel;by_cases hlt:i<j
  ·obtain ⟨m,hm⟩:∃ m,(i+j) / 2=m:=⟨_,rfl⟩;have hml:m<l.length:=by omega
   obtain ⟨⟨x,u⟩,hx⟩:∃ x,l[m]? = some x:=⟨l[m],by simp⟩;obtain ⟨b,off,rfl,hb,hcs⟩:=Za0 (ha.below hbw) rfl (by omega);obtain ⟨c1,c2⟩:=hcs m _ hx;have hmi:((i:Int)+(j:Int)) / 2=(m:Int):=by omega
   have hc:=ZgG x u k wr;clear hcs ha;by_cases hxk:x<k
   ·have d1:decide (cmpI x k<0)=true:=decide_eq_true (Zhq.2 hxk)
    have HMQ:Hid (m+1≤q):=by
     show m+1≤q
     rw [← HQ.out];rcases Nat.lt_or_ge m (aheadOf l k) with h | h
     ·exact h
     ·exact absurd hxk (Zc4 HR.out h hx)
    clear hxk hx;go_wp2_with fail;refine hc.mono ?_;rintro e w1 ⟨rfl,bq⟩;go_wp2;go_round
    case rel=>exact ⟨m+1,j,by go_num,rfl,HMQ.out,hqj,hjl,hbw.trans (bq.mono hbw.size)⟩
    case measure=>simp [intOf]; omega
   ·have d1:decide (cmpI x k<0)=false:=decide_eq_false (fun h=>hxk (Zhq.1 h))
    have HMQ:Hid (q≤m):=by
     show q≤m
     rw [← HQ.out];rcases Nat.lt_or_ge m (aheadOf l k) with h | h
     ·exact absurd (ZbS h hx) hxk
     ·exact h
    clear hxk hx;go_wp2_with fail;refine hc.mono ?_;rintro e w1 ⟨rfl,bq⟩;go_wp2;go_round
    case rel=>exact ⟨i,m,rfl,by go_num,hiq,HMQ.out,by omega,hbw.trans (bq.mono hbw.size)⟩
    case measure=>simp [intOf]; omega
  ·obtain rfl:j=i:=by omega
   obtain rfl:q=j:=by omega
   by_cases hn:q<l.length
   ·obtain ⟨⟨x,u⟩,hx⟩:∃ x,l[q]? = some x:=⟨l[q],by simp⟩;obtain ⟨b,off,rfl,hb,hcs⟩:=Za0 (ha.below hbw) rfl (by omega);obtain ⟨c1,c2⟩:=hcs q _ hx;have hc:=ZgG x u k wr
    have HTV:Hid ((cmpI x k == 0)=t):=by
     show (cmpI x k == 0)=t
     rw [← HT.out];unfold ZV;rw [HQ.out,hx]
     show (cmpI x k == 0)=(x == k)
     rw [Bool.eq_iff_iff,beq_iff_eq,beq_iff_eq];exact ZgF
    clear hcs ha hx;go_wp2_with fail;refine hc.mono ?_;rintro e w1 ⟨rfl,bq⟩;go_wp2;go_ret2;exact ⟨by rw [← HTV.out]; rfl,hbw.trans (bq.mono hbw.size)⟩
   ·have HTV:Hid (t=false):=by
     show t=false
     rw [← HT.out];unfold ZV;rw [HQ.out,List.getElem?_eq_none (by omega)]
    clear ha;go_wp2;go_ret2;exact ⟨by rw [HTV.out]; rfl,hbw⟩
theorem Zc6 (k:Int) (a:Option Addr) (cap:Nat) (l:List (Int×Int)) (hl:l.length≤4294967296) (hr:Za8 l) (w:World) (ha:Syms w.heap.size w (.slice a l.length cap) l) :
  Calls Tryz.prog 80 #[.slice a l.length cap,.int .i64 k] w fun e w'=>e=.returned (.tuple #[.int .i64 (aheadOf l k:Nat),.bool (ZV l k)])∧Below w.heap.size w w':=by
 have HS:=search_ok k a cap l hl hr w ha;obtain ⟨q,hq⟩:∃ q,aheadOf l k=q:=⟨_,rfl⟩;obtain ⟨t,ht⟩:∃ t,ZV l k=t:=⟨_,rfl⟩;rw [hq,ht] at HS ⊢;clear hq ht hr ha;go_enter Tryz.func80,Tryz.ntmps80;go_wp2_with fail;refine HS.mono ?_;rintro e w1 ⟨rfl,b1⟩;go_wp2;go_ret2;exact ⟨rfl,b1⟩
theorem ZgH (n p k u:Int) (k0:0≤k) (u0:0≤u) (u1:u≤255) (a:Option Addr) (cap:Nat) (l:List (Int×Int)) (hp:Zf n p l) (w:World) (ha:Syms w.heap.size w (.slice a l.length cap) l) :
  Calls Tryz.prog 38 #[.agg #[.int .i64 n,.int .i64 p,.slice a l.length cap],.int .i64 k,.int .i64 u] w fun e W'=>∃ r,e=.returned (.tuple #[.agg #[.int .i64 n,.int .i64 p,r],.bool (ZK n p l k),.int .i64 0])∧W'.ownsRow w.heap.size 87 2 r (putN n p l k u).length (Za (putN n p l k u))∧Below w.heap.size w W':=by
 have hlen:=Zag hp;have hprod:=hp.1.prod;have HP:Hid (Zf n p l):=hp;obtain ⟨M,hM⟩:∃ M,n * p=M:=⟨_,rfl⟩;have HM:Hid (n * p=M):=hM;have hM1:1≤M∧M≤1024:=by rw [← hM]; exact hprod
 have hl:l.length≤1024:=by rw [hM] at hlen; omega
 have d1:decide (k<0)=false:=decide_eq_false (by omega);have d2:decide (u<0)=false:=decide_eq_false (by omega);have d3:decide (255<u)=false:=decide_eq_false (by omega);have b0:=((Below.refl w.heap.size w).alloc (Nat.le_refl _) (.cells #[.int .i64 n,.int .i64 p,.slice a l.length cap] 26)).alloc (by simp) (.cells #[.int .i64 0,.int .i64 0,.slice none 0 0] 26);have x0:=(Box.new w 26 #[.int .i64 n,.int .i64 p,.slice a l.length cap]).alloc (.cells #[.int .i64 0,.int .i64 0,.slice none 0 0] 26);have x1:=Box.new (w.alloc (.cells #[.int .i64 n,.int .i64 p,.slice a l.length cap] 26)) 26 #[.int .i64 0,.int .i64 0,.slice none 0 0];have hsz:(w.alloc (.cells #[.int .i64 n,.int .i64 p,.slice a l.length cap] 26)).heap.size=w.heap.size+1:=by simp
 rw [hsz] at x1;have ha0:=ha.next b0;have hs0:((w.alloc (.cells #[.int .i64 n,.int .i64 p,.slice a l.length cap] 26)).alloc (.cells #[.int .i64 0,.int .i64 0,.slice none 0 0] 26)).heap.size=w.heap.size+2:=by simp
 clear hprod hlen hp ha hsz;go_enter Tryz.func38,Tryz.ntmps38;go_wp2_with fail;refine (ZdZ n p (.slice a l.length cap) l (by omega) _ ha0).mono ?_;rintro e w1 ⟨r,rfl,o1,b1⟩;have x2:=x0.next b1;have x3:=x1.next b1;rw [hs0] at o1;obtain ⟨ar,cr,rfl⟩:=(Zj o1).shape;have hw1:=b1.size;rw [hs0] at hw1;have bb1:=b0.trans (b1.mono (by simp; omega));clear b0 b1 x0 x1 ha0 hs0;have bb2:Below w.heap.size w (w1.alloc (.cells #[.int .i64 n,.int .i64 p,.slice ar l.length cr] 26)):=bb1.alloc bb1.size _;have X2:Hid (Box (w1.alloc (.cells #[.int .i64 n,.int .i64 p,.slice ar l.length cr] 26)) w.heap.size 26 #[.int .i64 n,.int .i64 p,.slice a l.length cap]):=x2.alloc _;have X3:Hid (Box (w1.alloc (.cells #[.int .i64 n,.int .i64 p,.slice ar l.length cr] 26)) (w.heap.size+1) 26 #[.int .i64 0,.int .i64 0,.slice none 0 0]):=x3.alloc _;have X4:Hid (Box (w1.alloc (.cells #[.int .i64 n,.int .i64 p,.slice ar l.length cr] 26)) w1.heap.size 26 #[.int .i64 n,.int .i64 p,.slice ar l.length cr]):=Box.new _ _ _;have o2:(w1.alloc (.cells #[.int .i64 n,.int .i64 p,.slice ar l.length cr] 26)).ownsRow (w.heap.size+2) 87 2 (.slice ar l.length cr) l.length (Za l):=o1.alloc _;have hsw:(w1.alloc (.cells #[.int .i64 n,.int .i64 p,.slice ar l.length cr] 26)).heap.size=w1.heap.size+1:=by simp
 obtain ⟨w2,hw2⟩:∃ w2,w1.alloc (.cells #[.int .i64 n,.int .i64 p,.slice ar l.length cr] 26)=w2:=⟨_,rfl⟩;rw [hw2] at bb2 X2 X3 X4 o2 hsw;have q0:=X2.out.cell 0 _ rfl;have q1:=X2.out.cell 1 _ rfl;obtain ⟨z0,z1,z2⟩:=X3.out.c3;obtain ⟨zf0,zf1,zf2⟩:=X3.out.f3;obtain ⟨y0,y1,y2⟩:=X4.out.c3;have hr2:=Zj o2;have hX3:w.heap.size+1<w2.heap.size:=by omega
 have hX4:w1.heap.size<w2.heap.size:=by omega
 clear x2 x3 o1 bb1;by_cases hMk:M≤k
 ·have d4:decide (M≤k)=true:=decide_eq_true hMk
  have HFR:Hid (ZK n p l k=false):=by
   show ZK n p l k=false
   unfold ZK;rw [HM.out];exact decide_eq_false (by simp [hMk])
  have HPU:Hid (putN n p l k u=l):=by
   show putN n p l k u=l
   unfold putN;rw [HM.out,if_pos (.inl hMk)]
  clear hMk hr2;go_wp2;refine bodyPost_ret (v:=.tuple #[.agg #[.int .i64 n,.int .i64 p,.slice ar l.length cr],.bool false,.int .i64 0]) (by simp [results,Tryz.results38,go_sem,z0,z1,z2]) rfl ⟨_,by rw [HFR.out],?_,?_⟩
  ·rw [HPU.out];exact Ze (ownsRow_setCell_below (ownsRow_setCell_below (ownsRow_setCell_below o2 (a:=⟨w.heap.size+1,0,none⟩) (by simp) _) (a:=⟨w.heap.size+1,1,none⟩) (by simp) _) (a:=⟨w.heap.size+1,2,none⟩) (by simp) _) (by omega)
  ·exact ((bb2.setCell (p:=⟨w.heap.size+1,0,none⟩) (by simp) _).setCell (p:=⟨w.heap.size+1,1,none⟩) (by simp) _).setCell (p:=⟨w.heap.size+1,2,none⟩) (by simp) _
 have d4:decide (M≤k)=false:=decide_eq_false hMk;go_wp2;clear hw2;go_loop [10] (fun i=>∃ j:Nat,j≤aheadOf l k∧i=.int .i64 j) (fun i=>l.length-(intOf i).toNat)
 case atStart=>exact ⟨0,Nat.zero_le _,rfl⟩
 case round =>
  obtain ⟨j,hj,rfl⟩:=hrel;have hal:=Zan l k;by_cases hja:j<aheadOf l k
  ·obtain ⟨⟨at_,val⟩,hx⟩:∃ x,l[j]? = some x:=⟨l[j]'(by omega),by simp⟩;obtain ⟨b,off,rfl,hb,hcs⟩:=Za0 hr2 rfl (by omega);have c1:=(hcs j _ hx).1;have h1:=ZbS hja hx;have d5:decide (at_<k)=true:=decide_eq_true h1;clear hcs hx h1;go_wp2;go_round
   case rel=>exact ⟨j+1,by omega,by go_num⟩
   case measure=>simp [intOf]; omega
  ·have HAJ':Hid (aheadOf l k=j):=by
    show aheadOf l k=j
    omega
   by_cases hjl:j<l.length
   ·obtain ⟨⟨at_,val⟩,hx⟩:∃ x,l[j]? = some x:=⟨l[j],by simp⟩;obtain ⟨b,off,rfl,hb,hcs⟩:=Za0 hr2 rfl (by omega);have c1:=(hcs j _ hx).1;have h1:¬ at_<k:=ZbT (l:=l) (k:=k) (x:=(at_,val)) (by rw [HAJ'.out]; exact hx);have d5:decide (at_<k)=false:=decide_eq_false h1;by_cases he:at_=k
    ·have d6:(at_ == k)=true:=by simp [he]
     have HHA:Hid (ZV l k=true):=by
      show ZV l k=true
      unfold ZV;rw [HAJ'.out,hx];simpa using he
     have HFR:Hid (ZK n p l k=false):=by
      show ZK n p l k=false
      unfold ZK;exact decide_eq_false (by simp [HHA.out])
     have HPU:Hid (putN n p l k u=l):=by
      show putN n p l k u=l
      unfold putN;rw [if_pos (.inr HHA.out)]
     clear hcs hx h1 he hr2 hja hj;go_wp2;refine bodyPost_ret (v:=.tuple #[.agg #[.int .i64 n,.int .i64 p,.slice (some ⟨b,off,none⟩) l.length cr],.bool false,.int .i64 0]) (by simp [results,Tryz.results38,go_sem,z0,z1,z2]) rfl ⟨_,by rw [HFR.out],?_,?_⟩
     ·rw [HPU.out];exact Ze (ownsRow_setCell_below (ownsRow_setCell_below (ownsRow_setCell_below o2 (a:=⟨w.heap.size+1,0,none⟩) (by simp) _) (a:=⟨w.heap.size+1,1,none⟩) (by simp) _) (a:=⟨w.heap.size+1,2,none⟩) (by simp) _) (by omega)
     ·exact ((bb2.setCell (p:=⟨w.heap.size+1,0,none⟩) (by simp) _).setCell (p:=⟨w.heap.size+1,1,none⟩) (by simp) _).setCell (p:=⟨w.heap.size+1,2,none⟩) (by simp) _
    ·have d6:(at_ == k)=false:=by simp [he]
     have HNA:Hid (ZV l k=false):=by
      show ZV l k=false
      unfold ZV;rw [HAJ'.out,hx];simpa using he
     have HAJ:Hid (some (⟨b,off,none⟩:Addr)=some ⟨b,off,none⟩):=rfl;have hcrj:j<cr:=by have:=Zga o2; omega
     have hcne:¬ cr=j:=by omega
     clear hcs hx h1 he hja hj
     have HFR:Hid (ZK n p l k=true):=by
      show ZK n p l k=true
      unfold ZK;rw [HM.out];exact decide_eq_true (by rw [HNA.out]; simp; omega)
     have HPU:Hid (putN n p l k u=putL l k u):=by
      show putN n p l k u=putL l k u
      unfold putN;rw [HM.out,if_neg (by rw [HNA.out]; simp; omega)]
     have hT:Syms w2.heap.size w2 (.slice (some ⟨b,off,none⟩) j cr) (l.take j):=Zbr hr2 rfl j (by omega) cr (by rw [HAJ.out] at *; intro e; cases e);have hD:Syms w2.heap.size w2 (.slice (some ⟨b,off+j * 2,none⟩) (l.length-j) (cr-j)) (l.drop j):=ZgE hr2 rfl j hjl _
     have HTL:Hid ((l.take j).length=j):=by
      show (l.take j).length=j
      rw [List.length_take]; omega
     have HDL:Hid ((l.drop j).length=l.length-j):=List.length_drop;obtain ⟨v3,w3,hr3,ho3,hg3⟩:=Zl (.slice none 0 0) (.slice (some ⟨b,off,none⟩) j cr) 0 w2.heap.size _ [] (l.take j) 24 w2 (World.ownsRow_nil _ _ _ _) hT (Nat.le_refl _) (by omega) (by rw [HTL.out]; omega);have b3:Below w2.heap.size w2 w3:=(Below.refl _ w2).grown hg3 (Nat.le_refl _) (fun q e=>by cases e);have b3a:Below w2.heap.size w2 (w3.alloc (.cells #[.int .i64 k,.int .i64 u] 87)):=b3.alloc b3.size _
     have hN:Syms (w3.alloc (.cells #[.int .i64 k,.int .i64 u] 87)).heap.size (w3.alloc (.cells #[.int .i64 k,.int .i64 u] 87)) (.slice (some ⟨w3.heap.size,0,none⟩) 1 1) [(k,u)]:=by
      have xb:=Box.new w3 87 #[.int .i64 k,.int .i64 u];refine .inr ⟨w3.heap.size,0,1,rfl,xb.lt,fun q x hq=>?_⟩
      cases q with
      | zero=>simp at hq; subst hq; exact ⟨xb.cell 0 _ rfl,xb.cell 1 _ rfl⟩
      | succ q=>simp at hq
     obtain ⟨v4,w4,hr4,ho4,hg4⟩:=Zl v3 (.slice (some ⟨w3.heap.size,0,none⟩) 1 1) (0+(l.take j).length) w2.heap.size _ ([]++l.take j) [(k,u)] 24 (w3.alloc (.cells #[.int .i64 k,.int .i64 u] 87)) (ho3.alloc _) hN b3a.size (by rw [HTL.out]; omega) (by simp);have b4:Below w2.heap.size w2 w4:=b3a.trans ((Below.refl _ _).grown hg4 b3a.size (fun q e=>(ho3.lt q e).1));obtain ⟨v5,w5,hr5,ho5,hg5⟩:=Zl v4 (.slice (some ⟨b,off+j * 2,none⟩) (l.length-j) (cr-j)) (0+(l.take j).length+1) w2.heap.size _ ([]++l.take j++[(k,u)]) (l.drop j) 24 w4 ho4 (hD.below b4) b4.size (by rw [HTL.out]; omega) (by rw [HDL.out]; omega);have b5:Below w2.heap.size w2 w5:=b4.trans ((Below.refl _ _).grown hg5 b4.size (fun q e=>(ho4.lt q e).1));obtain ⟨a5,c5,rfl⟩:=(Zj ho5).shape
     have HL5:Hid (([]++l.take j++[(k,u)]++l.drop j).length=l.length+1):=by
      show ([]++l.take j++[(k,u)]++l.drop j).length=l.length+1
      simp <;> omega
     rw [HL5.out] at ho5 hr5
     have HC5:Hid (Za ([]++l.take j++[(k,u)]++l.drop j)=Za (putN n p l k u)):=by
      show Za ([]++l.take j++[(k,u)]++l.drop j)=Za (putN n p l k u)
      rw [HPU.out];unfold putL;rw [HAJ'.out];simp
     have t2:=(X4.out.below b4 hX4).cell 2 _ rfl;have m0:=(X4.out.below b5 hX4).cell 0 _ rfl;have m1:=(X4.out.below b5 hX4).cell 1 _ rfl;have m2:=(X4.out.below b5 hX4).cell 2 _ rfl;have mf:=(X4.out.below b5 hX4).free 2;have s0:=(X3.out.below b5 hX3).cell 0 _ rfl;have s1:=(X3.out.below b5 hX3).cell 1 _ rfl;have s2:=(X3.out.below b5 hX3).cell 2 _ rfl;have sf0:=(X3.out.below b5 hX3).free 0;have sf1:=(X3.out.below b5 hX3).free 1;have sf2:=(X3.out.below b5 hX3).free 2;have hne:w1.heap.size≠w.heap.size+1:=by omega
     have HR3:Hid _:=hr3;have HR4:Hid _:=hr4;have HR5:Hid _:=hr5;have HO5:Hid _:=ho5;clear hr3 hr4 hr5 ho3 ho4 ho5 hg3 hg4 hg5 hT hD hN b3 b3a hr2;go_wp2_with (first | (at_builtin; refine Zc rfl _ _ 24 rfl _ _ rfl rfl _ _ HR3.out ?_) | (at_builtin; refine Zc rfl _ _ 24 rfl _ _ rfl rfl _ _ HR4.out ?_) | (at_builtin; refine Zc rfl _ _ 24 rfl _ _ rfl rfl _ _ HR5.out ?_));refine bodyPost_ret (v:=.tuple #[.agg #[.int .i64 n,.int .i64 p,.slice a5 (l.length+1) c5],.bool true,.int .i64 0]) (by simp [results,Tryz.results38,go_sem,s0,s1,s2]) rfl ⟨_,by rw [HFR.out],?_,?_⟩
     ·have hn5:0+(l.take j).length+1+(l.drop j).length=l.length+1:=by rw [HTL.out,HDL.out]; omega
      have ho5:=HO5.out;rw [HC5.out,hn5] at ho5;rw [show (putN n p l k u).length=l.length+1 by rw [HPU.out,Zdg]];exact Ze (ownsRow_setCell_below (ownsRow_setCell_below (ownsRow_setCell_below (ownsRow_setCell_below ho5 (a:=⟨w1.heap.size,2,none⟩) hX4 _) (a:=⟨w.heap.size+1,0,none⟩) hX3 _) (a:=⟨w.heap.size+1,1,none⟩) hX3 _) (a:=⟨w.heap.size+1,2,none⟩) hX3 _) (by omega)
     ·have bb5:=bb2.trans (b5.mono bb2.size);exact (((bb5.setCell (p:=⟨w1.heap.size,2,none⟩) (by simp; omega) _).setCell (p:=⟨w.heap.size+1,0,none⟩) (by simp) _).setCell (p:=⟨w.heap.size+1,1,none⟩) (by simp) _).setCell (p:=⟨w.heap.size+1,2,none⟩) (by simp) _
   ·have hje:j=l.length:=by omega
    have HNA:Hid (ZV l k=false):=by
     show ZV l k=false
     unfold ZV;rw [HAJ'.out,List.getElem?_eq_none (by omega)]
    have HDN:Hid (l.drop j=[]):=List.drop_of_length_le (by omega);have dlt:decide ((j:Int)<(l.length:Int))=false:=decide_eq_false (by omega)
    cases ar with
    | none =>
     have hz:l.length=0∧cr=0:=by
      rcases o2.2 with ⟨e,_⟩ | ⟨g,c,cur,e,_⟩
      ·simp only [Value.slice.injEq] at e; exact e.2
      ·simp only [Value.slice.injEq] at e; exact absurd e.1 (by simp)
     obtain ⟨hl0,rfl⟩:=hz;obtain rfl:j=0:=by omega
     have HL0:Hid (l.length=0):=hl0;have HAJ:Hid ((none:Option Addr)=none):=rfl;have hr2:Syms w2.heap.size w2 (.slice none l.length 0) l:=hr2;rw [hl0] at y2 X4 ⊢;have hl1:l.length≤1024:=hl;clear hj hja hjl hl0 hje dlt
     have HFR:Hid (ZK n p l k=true):=by
      show ZK n p l k=true
      unfold ZK;rw [HM.out];exact decide_eq_true (by rw [HNA.out]; simp; omega)
     have HPU:Hid (putN n p l k u=putL l k u):=by
      show putN n p l k u=putL l k u
      unfold putN;rw [HM.out,if_neg (by rw [HNA.out]; simp; omega)]
     have hT:Syms w2.heap.size w2 (.slice none 0 0) (l.take 0):=Zbr hr2 rfl 0 (by omega) 0 (by rw [HAJ.out] at *; exact fun _=>rfl);have hD:Syms w2.heap.size w2 (.slice none 0 0) (l.drop 0):=by rw [HDN.out]; exact Zdf _ _
     have HTL:Hid ((l.take 0).length=0):=by
      show (l.take 0).length=0
      rw [List.length_take]; omega
     have HDL:Hid ((l.drop 0).length=l.length-0):=List.length_drop;obtain ⟨v3,w3,hr3,ho3,hg3⟩:=Zl (.slice none 0 0) (.slice none 0 0) 0 w2.heap.size _ [] (l.take 0) 24 w2 (World.ownsRow_nil _ _ _ _) hT (Nat.le_refl _) (by omega) (by rw [HTL.out]; omega);have b3:Below w2.heap.size w2 w3:=(Below.refl _ w2).grown hg3 (Nat.le_refl _) (fun q e=>by cases e);have b3a:Below w2.heap.size w2 (w3.alloc (.cells #[.int .i64 k,.int .i64 u] 87)):=b3.alloc b3.size _
     have hN:Syms (w3.alloc (.cells #[.int .i64 k,.int .i64 u] 87)).heap.size (w3.alloc (.cells #[.int .i64 k,.int .i64 u] 87)) (.slice (some ⟨w3.heap.size,0,none⟩) 1 1) [(k,u)]:=by
      have xb:=Box.new w3 87 #[.int .i64 k,.int .i64 u];refine .inr ⟨w3.heap.size,0,1,rfl,xb.lt,fun q x hq=>?_⟩
      cases q with
      | zero=>simp at hq; subst hq; exact ⟨xb.cell 0 _ rfl,xb.cell 1 _ rfl⟩
      | succ q=>simp at hq
     obtain ⟨v4,w4,hr4,ho4,hg4⟩:=Zl v3 (.slice (some ⟨w3.heap.size,0,none⟩) 1 1) (0+(l.take 0).length) w2.heap.size _ ([]++l.take 0) [(k,u)] 24 (w3.alloc (.cells #[.int .i64 k,.int .i64 u] 87)) (ho3.alloc _) hN b3a.size (by rw [HTL.out]; omega) (by simp);have b4:Below w2.heap.size w2 w4:=b3a.trans ((Below.refl _ _).grown hg4 b3a.size (fun q e=>(ho3.lt q e).1));obtain ⟨v5,w5,hr5,ho5,hg5⟩:=Zl v4 (.slice none 0 0) (0+(l.take 0).length+1) w2.heap.size _ ([]++l.take 0++[(k,u)]) (l.drop 0) 24 w4 ho4 (hD.below b4) b4.size (by rw [HTL.out]; omega) (by rw [HDL.out]; omega);have b5:Below w2.heap.size w2 w5:=b4.trans ((Below.refl _ _).grown hg5 b4.size (fun q e=>(ho4.lt q e).1));obtain ⟨a5,c5,rfl⟩:=(Zj ho5).shape
     have HL5:Hid (([]++l.take 0++[(k,u)]++l.drop 0).length=l.length+1):=by
      show ([]++l.take 0++[(k,u)]++l.drop 0).length=l.length+1
      simp <;> omega
     rw [HL5.out] at ho5 hr5
     have HC5:Hid (Za ([]++l.take 0++[(k,u)]++l.drop 0)=Za (putN n p l k u)):=by
      show Za ([]++l.take 0++[(k,u)]++l.drop 0)=Za (putN n p l k u)
      rw [HPU.out];unfold putL;rw [HAJ'.out];simp
     have t2:=(X4.out.below b4 hX4).cell 2 _ rfl;have m0:=(X4.out.below b5 hX4).cell 0 _ rfl;have m1:=(X4.out.below b5 hX4).cell 1 _ rfl;have m2:=(X4.out.below b5 hX4).cell 2 _ rfl;have mf:=(X4.out.below b5 hX4).free 2;have s0:=(X3.out.below b5 hX3).cell 0 _ rfl;have s1:=(X3.out.below b5 hX3).cell 1 _ rfl;have s2:=(X3.out.below b5 hX3).cell 2 _ rfl;have sf0:=(X3.out.below b5 hX3).free 0;have sf1:=(X3.out.below b5 hX3).free 1;have sf2:=(X3.out.below b5 hX3).free 2;have hne:w1.heap.size≠w.heap.size+1:=by omega
     have HR3:Hid _:=hr3;have HR4:Hid _:=hr4;have HR5:Hid _:=hr5;have HO5:Hid _:=ho5;clear hr3 hr4 hr5 ho3 ho4 ho5 hg3 hg4 hg5 hT hD hN b3 b3a hr2;go_wp2_with (first | (at_builtin; refine Zc rfl _ _ 24 rfl _ _ rfl rfl _ _ HR3.out ?_) | (at_builtin; refine Zc rfl _ _ 24 rfl _ _ rfl rfl _ _ HR4.out ?_) | (at_builtin; refine Zc rfl _ _ 24 rfl _ _ rfl rfl _ _ HR5.out ?_));refine bodyPost_ret (v:=.tuple #[.agg #[.int .i64 n,.int .i64 p,.slice a5 (l.length+1) c5],.bool true,.int .i64 0]) (by simp [results,Tryz.results38,go_sem,s0,s1,s2]) rfl ⟨_,by rw [HFR.out],?_,?_⟩
     ·have hn5:0+(l.take 0).length+1+(l.drop 0).length=l.length+1:=by rw [HTL.out,HDL.out]; omega
      have ho5:=HO5.out;rw [HC5.out,hn5] at ho5;rw [show (putN n p l k u).length=l.length+1 by rw [HPU.out,Zdg]];exact Ze (ownsRow_setCell_below (ownsRow_setCell_below (ownsRow_setCell_below (ownsRow_setCell_below ho5 (a:=⟨w1.heap.size,2,none⟩) hX4 _) (a:=⟨w.heap.size+1,0,none⟩) hX3 _) (a:=⟨w.heap.size+1,1,none⟩) hX3 _) (a:=⟨w.heap.size+1,2,none⟩) hX3 _) (by omega)
     ·have bb5:=bb2.trans (b5.mono bb2.size);exact (((bb5.setCell (p:=⟨w1.heap.size,2,none⟩) (by simp; omega) _).setCell (p:=⟨w.heap.size+1,0,none⟩) (by simp) _).setCell (p:=⟨w.heap.size+1,1,none⟩) (by simp) _).setCell (p:=⟨w.heap.size+1,2,none⟩) (by simp) _
    | some ad =>
     obtain ⟨b,off,rfl⟩:∃ b off,ad=⟨b,off,none⟩:=by
      rcases o2.2 with ⟨e,_⟩ | ⟨g,c,cur,e,_⟩
      ·simp only [Value.slice.injEq] at e; exact absurd e.1 (by simp)
      ·simp only [Value.slice.injEq,Option.some.injEq] at e; exact ⟨g,0,e.1⟩
     have HAJ:Hid (some (⟨b,off,none⟩:Addr)=some ⟨b,off,none⟩):=rfl;have hlj:l.length-j=0:=by omega
     have hjc:j≤cr:=by have:=Zga o2; omega
     have hjl2:j≤l.length:=by omega
     by_cases hcj:cr=j
     ·have hcj':(cr=j)=True:=eq_true hcj;clear hj hja hjl hje hcj
      have HFR:Hid (ZK n p l k=true):=by
       show ZK n p l k=true
       unfold ZK;rw [HM.out];exact decide_eq_true (by rw [HNA.out]; simp; omega)
      have HPU:Hid (putN n p l k u=putL l k u):=by
       show putN n p l k u=putL l k u
       unfold putN;rw [HM.out,if_neg (by rw [HNA.out]; simp; omega)]
      have hT:Syms w2.heap.size w2 (.slice (some ⟨b,off,none⟩) j cr) (l.take j):=Zbr hr2 rfl j (by omega) cr (by rw [HAJ.out] at *; intro e; cases e);have hD:Syms w2.heap.size w2 (.slice (some ⟨b,off,none⟩) 0 (cr-j)) (l.drop j):=by rw [HDN.out]; exact ZcJ _ _
      have HTL:Hid ((l.take j).length=j):=by
       show (l.take j).length=j
       rw [List.length_take]; omega
      have HDL:Hid ((l.drop j).length=l.length-j):=List.length_drop;obtain ⟨v3,w3,hr3,ho3,hg3⟩:=Zl (.slice none 0 0) (.slice (some ⟨b,off,none⟩) j cr) 0 w2.heap.size _ [] (l.take j) 24 w2 (World.ownsRow_nil _ _ _ _) hT (Nat.le_refl _) (by omega) (by rw [HTL.out]; omega);have b3:Below w2.heap.size w2 w3:=(Below.refl _ w2).grown hg3 (Nat.le_refl _) (fun q e=>by cases e);have b3a:Below w2.heap.size w2 (w3.alloc (.cells #[.int .i64 k,.int .i64 u] 87)):=b3.alloc b3.size _
      have hN:Syms (w3.alloc (.cells #[.int .i64 k,.int .i64 u] 87)).heap.size (w3.alloc (.cells #[.int .i64 k,.int .i64 u] 87)) (.slice (some ⟨w3.heap.size,0,none⟩) 1 1) [(k,u)]:=by
       have xb:=Box.new w3 87 #[.int .i64 k,.int .i64 u];refine .inr ⟨w3.heap.size,0,1,rfl,xb.lt,fun q x hq=>?_⟩
       cases q with
       | zero=>simp at hq; subst hq; exact ⟨xb.cell 0 _ rfl,xb.cell 1 _ rfl⟩
       | succ q=>simp at hq
      obtain ⟨v4,w4,hr4,ho4,hg4⟩:=Zl v3 (.slice (some ⟨w3.heap.size,0,none⟩) 1 1) (0+(l.take j).length) w2.heap.size _ ([]++l.take j) [(k,u)] 24 (w3.alloc (.cells #[.int .i64 k,.int .i64 u] 87)) (ho3.alloc _) hN b3a.size (by rw [HTL.out]; omega) (by simp);have b4:Below w2.heap.size w2 w4:=b3a.trans ((Below.refl _ _).grown hg4 b3a.size (fun q e=>(ho3.lt q e).1));obtain ⟨v5,w5,hr5,ho5,hg5⟩:=Zl v4 (.slice (some ⟨b,off,none⟩) 0 (cr-j)) (0+(l.take j).length+1) w2.heap.size _ ([]++l.take j++[(k,u)]) (l.drop j) 24 w4 ho4 (hD.below b4) b4.size (by rw [HTL.out]; omega) (by rw [HDL.out]; omega);have b5:Below w2.heap.size w2 w5:=b4.trans ((Below.refl _ _).grown hg5 b4.size (fun q e=>(ho4.lt q e).1));obtain ⟨a5,c5,rfl⟩:=(Zj ho5).shape
      have HL5:Hid (([]++l.take j++[(k,u)]++l.drop j).length=l.length+1):=by
       show ([]++l.take j++[(k,u)]++l.drop j).length=l.length+1
       simp <;> omega
      rw [HL5.out] at ho5 hr5
      have HC5:Hid (Za ([]++l.take j++[(k,u)]++l.drop j)=Za (putN n p l k u)):=by
       show Za ([]++l.take j++[(k,u)]++l.drop j)=Za (putN n p l k u)
       rw [HPU.out];unfold putL;rw [HAJ'.out];simp
      have t2:=(X4.out.below b4 hX4).cell 2 _ rfl;have m0:=(X4.out.below b5 hX4).cell 0 _ rfl;have m1:=(X4.out.below b5 hX4).cell 1 _ rfl;have m2:=(X4.out.below b5 hX4).cell 2 _ rfl;have mf:=(X4.out.below b5 hX4).free 2;have s0:=(X3.out.below b5 hX3).cell 0 _ rfl;have s1:=(X3.out.below b5 hX3).cell 1 _ rfl;have s2:=(X3.out.below b5 hX3).cell 2 _ rfl;have sf0:=(X3.out.below b5 hX3).free 0;have sf1:=(X3.out.below b5 hX3).free 1;have sf2:=(X3.out.below b5 hX3).free 2;have hne:w1.heap.size≠w.heap.size+1:=by omega
      have HR3:Hid _:=hr3;have HR4:Hid _:=hr4;have HR5:Hid _:=hr5;have HO5:Hid _:=ho5;clear hr3 hr4 hr5 ho3 ho4 ho5 hg3 hg4 hg5 hT hD hN b3 b3a hr2;go_wp2_with (first | (at_builtin; refine Zc rfl _ _ 24 rfl _ _ rfl rfl _ _ HR3.out ?_) | (at_builtin; refine Zc rfl _ _ 24 rfl _ _ rfl rfl _ _ HR4.out ?_) | (at_builtin; refine Zc rfl _ _ 24 rfl _ _ rfl rfl _ _ HR5.out ?_));refine bodyPost_ret (v:=.tuple #[.agg #[.int .i64 n,.int .i64 p,.slice a5 (l.length+1) c5],.bool true,.int .i64 0]) (by simp [results,Tryz.results38,go_sem,s0,s1,s2]) rfl ⟨_,by rw [HFR.out],?_,?_⟩
      ·have hn5:0+(l.take j).length+1+(l.drop j).length=l.length+1:=by rw [HTL.out,HDL.out]; omega
       have ho5:=HO5.out;rw [HC5.out,hn5] at ho5;rw [show (putN n p l k u).length=l.length+1 by rw [HPU.out,Zdg]];exact Ze (ownsRow_setCell_below (ownsRow_setCell_below (ownsRow_setCell_below (ownsRow_setCell_below ho5 (a:=⟨w1.heap.size,2,none⟩) hX4 _) (a:=⟨w.heap.size+1,0,none⟩) hX3 _) (a:=⟨w.heap.size+1,1,none⟩) hX3 _) (a:=⟨w.heap.size+1,2,none⟩) hX3 _) (by omega)
      ·have bb5:=bb2.trans (b5.mono bb2.size);exact (((bb5.setCell (p:=⟨w1.heap.size,2,none⟩) (by simp; omega) _).setCell (p:=⟨w.heap.size+1,0,none⟩) (by simp) _).setCell (p:=⟨w.heap.size+1,1,none⟩) (by simp) _).setCell (p:=⟨w.heap.size+1,2,none⟩) (by simp) _
     ·clear hj hja hjl hje
      have HFR:Hid (ZK n p l k=true):=by
       show ZK n p l k=true
       unfold ZK;rw [HM.out];exact decide_eq_true (by rw [HNA.out]; simp; omega)
      have HPU:Hid (putN n p l k u=putL l k u):=by
       show putN n p l k u=putL l k u
       unfold putN;rw [HM.out,if_neg (by rw [HNA.out]; simp; omega)]
      have hT:Syms w2.heap.size w2 (.slice (some ⟨b,off,none⟩) j cr) (l.take j):=Zbr hr2 rfl j (by omega) cr (by rw [HAJ.out] at *; intro e; cases e);have hD:Syms w2.heap.size w2 (.slice (some ⟨b,off+j * 2,none⟩) 0 (cr-j)) (l.drop j):=by rw [HDN.out]; exact ZcJ _ _
      have HTL:Hid ((l.take j).length=j):=by
       show (l.take j).length=j
       rw [List.length_take]; omega
      have HDL:Hid ((l.drop j).length=l.length-j):=List.length_drop;obtain ⟨v3,w3,hr3,ho3,hg3⟩:=Zl (.slice none 0 0) (.slice (some ⟨b,off,none⟩) j cr) 0 w2.heap.size _ [] (l.take j) 24 w2 (World.ownsRow_nil _ _ _ _) hT (Nat.le_refl _) (by omega) (by rw [HTL.out]; omega);have b3:Below w2.heap.size w2 w3:=(Below.refl _ w2).grown hg3 (Nat.le_refl _) (fun q e=>by cases e);have b3a:Below w2.heap.size w2 (w3.alloc (.cells #[.int .i64 k,.int .i64 u] 87)):=b3.alloc b3.size _
      have hN:Syms (w3.alloc (.cells #[.int .i64 k,.int .i64 u] 87)).heap.size (w3.alloc (.cells #[.int .i64 k,.int .i64 u] 87)) (.slice (some ⟨w3.heap.size,0,none⟩) 1 1) [(k,u)]:=by
       have xb:=Box.new w3 87 #[.int .i64 k,.int .i64 u];refine .inr ⟨w3.heap.size,0,1,rfl,xb.lt,fun q x hq=>?_⟩
       cases q with
       | zero=>simp at hq; subst hq; exact ⟨xb.cell 0 _ rfl,xb.cell 1 _ rfl⟩
       | succ q=>simp at hq
      obtain ⟨v4,w4,hr4,ho4,hg4⟩:=Zl v3 (.slice (some ⟨w3.heap.size,0,none⟩) 1 1) (0+(l.take j).length) w2.heap.size _ ([]++l.take j) [(k,u)] 24 (w3.alloc (.cells #[.int .i64 k,.int .i64 u] 87)) (ho3.alloc _) hN b3a.size (by rw [HTL.out]; omega) (by simp);have b4:Below w2.heap.size w2 w4:=b3a.trans ((Below.refl _ _).grown hg4 b3a.size (fun q e=>(ho3.lt q e).1));obtain ⟨v5,w5,hr5,ho5,hg5⟩:=Zl v4 (.slice (some ⟨b,off+j * 2,none⟩) 0 (cr-j)) (0+(l.take j).length+1) w2.heap.size _ ([]++l.take j++[(k,u)]) (l.drop j) 24 w4 ho4 (hD.below b4) b4.size (by rw [HTL.out]; omega) (by rw [HDL.out]; omega);have b5:Below w2.heap.size w2 w5:=b4.trans ((Below.refl _ _).grown hg5 b4.size (fun q e=>(ho4.lt q e).1));obtain ⟨a5,c5,rfl⟩:=(Zj ho5).shape
      have HL5:Hid (([]++l.take j++[(k,u)]++l.drop j).length=l.length+1):=by
       show ([]++l.take j++[(k,u)]++l.drop j).length=l.length+1
       simp <;> omega
      rw [HL5.out] at ho5 hr5
      have HC5:Hid (Za ([]++l.take j++[(k,u)]++l.drop j)=Za (putN n p l k u)):=by
       show Za ([]++l.take j++[(k,u)]++l.drop j)=Za (putN n p l k u)
       rw [HPU.out];unfold putL;rw [HAJ'.out];simp
      have t2:=(X4.out.below b4 hX4).cell 2 _ rfl;have m0:=(X4.out.below b5 hX4).cell 0 _ rfl;have m1:=(X4.out.below b5 hX4).cell 1 _ rfl;have m2:=(X4.out.below b5 hX4).cell 2 _ rfl;have mf:=(X4.out.below b5 hX4).free 2;have s0:=(X3.out.below b5 hX3).cell 0 _ rfl;have s1:=(X3.out.below b5 hX3).cell 1 _ rfl;have s2:=(X3.out.below b5 hX3).cell 2 _ rfl;have sf0:=(X3.out.below b5 hX3).free 0;have sf1:=(X3.out.below b5 hX3).free 1;have sf2:=(X3.out.below b5 hX3).free 2;have hne:w1.heap.size≠w.heap.size+1:=by omega
      have HR3:Hid _:=hr3;have HR4:Hid _:=hr4;have HR5:Hid _:=hr5;have HO5:Hid _:=ho5;clear hr3 hr4 hr5 ho3 ho4 ho5 hg3 hg4 hg5 hT hD hN b3 b3a hr2;go_wp2_with (first | (at_builtin; refine Zc rfl _ _ 24 rfl _ _ rfl rfl _ _ HR3.out ?_) | (at_builtin; refine Zc rfl _ _ 24 rfl _ _ rfl rfl _ _ HR4.out ?_) | (at_builtin; refine Zc rfl _ _ 24 rfl _ _ rfl rfl _ _ HR5.out ?_));refine bodyPost_ret (v:=.tuple #[.agg #[.int .i64 n,.int .i64 p,.slice a5 (l.length+1) c5],.bool true,.int .i64 0]) (by simp [results,Tryz.results38,go_sem,s0,s1,s2]) rfl ⟨_,by rw [HFR.out],?_,?_⟩
      ·have hn5:0+(l.take j).length+1+(l.drop j).length=l.length+1:=by rw [HTL.out,HDL.out]; omega
       have ho5:=HO5.out;rw [HC5.out,hn5] at ho5;rw [show (putN n p l k u).length=l.length+1 by rw [HPU.out,Zdg]];exact Ze (ownsRow_setCell_below (ownsRow_setCell_below (ownsRow_setCell_below (ownsRow_setCell_below ho5 (a:=⟨w1.heap.size,2,none⟩) hX4 _) (a:=⟨w.heap.size+1,0,none⟩) hX3 _) (a:=⟨w.heap.size+1,1,none⟩) hX3 _) (a:=⟨w.heap.size+1,2,none⟩) hX3 _) (by omega)
      ·have bb5:=bb2.trans (b5.mono bb2.size);exact (((bb5.setCell (p:=⟨w1.heap.size,2,none⟩) (by simp; omega) _).setCell (p:=⟨w.heap.size+1,0,none⟩) (by simp) _).setCell (p:=⟨w.heap.size+1,1,none⟩) (by simp) _).setCell (p:=⟨w.heap.size+1,2,none⟩) (by simp) _
end Go.Proofs.YtabdnhkdoeibnaaGreatDoor
