/-
  Piles that are filled place by place. No program is spoken of.
-/
import Derived.Test.YtkigbanldiialaaGreatDoorM30
import Derived.Test.YtkigbanldiialaaGreatDoorM31
import Derived.Test.YtkigbanldiialaaGreatDoorM32
import Derived.OrdersHeld
import Derived.OrdersIn
import Derived.RangeFuncIn
set_option maxRecDepth 100000
set_option maxHeartbeats 8000000
namespace Go.Proofs.YtkigbanldiialaaGreatDoor
theorem ZdS:∀ {l:List (Int×Int)} {k:Int},(∀ x∈l,x.1<k)→aheadOf l k=l.length
 | [],_,_=>rfl
 | x :: l,k,h=>by
  rw [aheadOf,if_pos (h x List.mem_cons_self),ZdS fun y hy=>h y (List.mem_cons_of_mem _ hy),List.length_cons]
def hvN (zs:List Int) (ts:List Nat) (k:Nat):Nat:=codeN zs k ^^^ (ts[k]?.getD 0)
def hOut (os:List Bool) (k:Nat):Bool:=os[k]?.getD false
def Zp (zs:List Int) (os:List Bool) (ts:List Nat):Nat→List (Int×Int)
 | 0=>[]
 | k+1=>if hOut os k=true then Zp zs os ts k else Zp zs os ts k++[((k:Int),((hvN zs ts k:Nat):Int))]
theorem ZcM {zs:List Int} {os:List Bool} {ts:List Nat} {k:Nat} (h:hOut os k=true):Zp zs os ts (k+1)=Zp zs os ts k:=by simp only [Zp]; rw [if_pos h]
theorem Zbv {zs:List Int} {os:List Bool} {ts:List Nat} {k:Nat} (h:hOut os k=false):Zp zs os ts (k+1)=Zp zs os ts k++[((k:Int),((hvN zs ts k:Nat):Int))]:=by simp only [Zp]; rw [if_neg (by simp [h])]
theorem ZaG {zs:List Int} {os:List Bool} {ts:List Nat}:∀ {k:Nat} {x:Int×Int},x∈Zp zs os ts k→∃ j,j<k∧hOut os j=false∧x=((j:Int),((hvN zs ts j:Nat):Int))
 | 0,x,h=>by simp [Zp] at h
 | k+1,x,h=>by
  cases ho:hOut os k with
  | true =>
   rw [ZcM ho] at h
   obtain ⟨j,hj,h2,h3⟩:=ZaG h
   exact ⟨j,by omega,h2,h3⟩
  | false =>
   rw [Zbv ho] at h
   rcases List.mem_append.1 h with h | h
   ·obtain ⟨j,hj,h2,h3⟩:=ZaG h
    exact ⟨j,by omega,h2,h3⟩
   ·simp at h
    exact ⟨k,by omega,ho,h⟩
theorem ZcN {zs:List Int} {os:List Bool} {ts:List Nat} {j:Nat} (ho:hOut os j=false):∀ {k:Nat},j<k→((j:Int),((hvN zs ts j:Nat):Int))∈Zp zs os ts k
 | 0,h=>by omega
 | k+1,h=>by
  by_cases e:j=k
  ·subst e
   rw [Zbv ho]
   simp
  ·have ih:=ZcN ho (k:=k) (zs:=zs) (ts:=ts) (by omega)
   cases ho':hOut os k with
   | true=>rw [ZcM ho']; exact ih
   | false=>rw [Zbv ho']; exact List.mem_append.2 (.inl ih)
theorem ZdT {zs:List Int} {os:List Bool} {ts:List Nat} {k:Nat}:∀ x∈Zp zs os ts k,x.1<(k:Int):=by
 intro x hx;obtain ⟨j,hj,_,rfl⟩:=ZaG hx
 show (j:Int)<k
 omega
theorem Zbw (zs:List Int) (os:List Bool) (ts:List Nat):∀ k,Zat (Zp zs os ts k)
 | 0=>List.Pairwise.nil
 | k+1=>by
  cases ho:hOut os k with
  | true=>rw [ZcM ho]; exact Zbw zs os ts k
  | false =>
   rw [Zbv ho]
   unfold Zat
   rw [List.pairwise_append]
   refine ⟨Zbw zs os ts k,List.pairwise_singleton _ _,fun x hx y hy=>?_⟩
   simp at hy; subst hy
   exact ZdT x hx
theorem putN_end {n p:Int} {L:List (Int×Int)} {k v:Int} (hL:∀ x∈L,x.1<k) (h:k<n * p):putN n p L k v=L++[(k,v)]:=by
 have h1:=ZdS hL
 have h2:ZO L k=false:=by
  unfold ZO;rw [h1,List.getElem?_eq_none (Nat.le_refl _)]
 unfold putN;rw [if_neg (by rw [h2]; simp; omega)];unfold putL;rw [h1,List.take_of_length_le (Nat.le_refl _),List.drop_of_length_le (Nat.le_refl _)]
theorem heardL_put {n p:Int} {zs:List Int} {os:List Bool} {ts:List Nat} {k:Nat} (ho:hOut os k=false) (h:(k:Int)<n * p):putN n p (Zp zs os ts k) (k:Int) ((hvN zs ts k:Nat):Int)=Zp zs os ts (k+1):=by
 rw [Zbv ho];exact putN_end ZdT h
theorem Zfj (co:Nat→Int→Int):∀ (P:List Int) (n:Nd) (s:Nat),n.1=(s:Int)→(P.foldl (kid stB co) n).1=((lastOf s P:Nat):Int)
 | [],n,s,h=>h
 | k :: P,n,s,h=>by
  rw [List.foldl_cons]
  exact Zfj co P _ (stepN s k.toNat) (by show stB n.1 k=_; rw [h]; rfl)
theorem Zco (co:Nat→Int→Int) (P:List Int):sta stB co (beginN:Int) P=((lastOf beginN P:Nat):Int):=Zfj co P _ beginN rfl
theorem Zes {s:Nat}:∀ {l:List (Int×Int)},(∀ x∈l,Zbq s x=0)→costN s l=0
 | [],_=>rfl
 | x :: l,h=>by
  rw [costN,h x (by simp),Zes fun y hy=>h y (by simp [hy])]
theorem ZcO (zs:List Int) (k:Nat):hvN zs [] k=codeN zs k:=by unfold hvN; simp
theorem ZfZ (zs:List Int) (os:List Bool) (C j:Nat):costN (stN zs j) (ofL (2 * zs.length) (Zp zs os [] C) j)=0:=by
 refine Zes fun x hx=>?_
 obtain ⟨y,hy,h1,rfl⟩:=Zfx.1 hx;obtain ⟨k,_,_,rfl⟩:=ZaG hy;have h2:segN (2 * zs.length) k=j:=by simpa using h1
 unfold Zbq
 have e:symN (stN zs j) (k / (2 * zs.length))=codeN zs k:=by
  unfold codeN;rw [h2]
 simp only [Int.toNat_natCast];rw [ZcO,e,Nat.xor_self];rfl
theorem ZfC (zs:List Int) (os:List Bool) (C:Nat):∀ i,i≤2 * zs.length→met stB (coB (2 * zs.length) (Zp zs os [] C)) (beginN:Int) ((nibs zs).take i)=0
 | 0,_=>by rw [List.take_zero]; rfl
 | i+1,hi=>by
  have hil:i<(nibs zs).length:=by rw [Zaj]; omega
  obtain ⟨k,hk⟩:∃ k,(nibs zs)[i]? = some k:=⟨(nibs zs)[i],by simp⟩
  have e:(nibs zs).take (i+1)=(nibs zs).take i++[k]:=by rw [List.take_add_one,hk]; rfl
  have e2:stB (sta stB (coB (2 * zs.length) (Zp zs os [] C)) (beginN:Int) ((nibs zs).take i)) k=((stN zs i:Nat):Int):=by
   rw [← ZaM stB (coB (2 * zs.length) (Zp zs os [] C)) (beginN:Int),← e,Zco];rfl
  rw [e,Za6,ZfC zs os C i (by omega),e2,List.length_take,Nat.min_eq_left (by omega)];unfold coB;rw [Int.toNat_natCast,ZfZ];rfl
theorem ZdU (zs:List Int):Nibs (nibs zs):=fun k hk=>by have:=ZdR zs k hk; omega
theorem told_own (zs:List Int) (os:List Bool) (C a b:Nat) (hb:1≤b) (h0:1≤zs.length) {n:Nd} {t:List Nd} (hl:(Zi stB (coB (2 * zs.length) (Zp zs os [] C)) (2 * zs.length) (beginN:Int) b a (2 * zs.length)).1=n :: t) (ht:∀ u,t.head? = some u→u.2.1≠n.2.1)
  (hc:¬ (0≤(Zi stB (coB (2 * zs.length) (Zp zs os [] C)) (2 * zs.length) (beginN:Int) b a (2 * zs.length)).2∧(Zi stB (coB (2 * zs.length) (Zp zs os [] C)) (2 * zs.length) (beginN:Int) b a (2 * zs.length)).2≤n.2.1)):Zw n=nibs zs∧n.2.1=0:=by
 obtain ⟨h1,h2,h3,h4⟩:=Zea stB (coB (2 * zs.length) (Zp zs os [] C)) (2 * zs.length) (beginN:Int) (ZaI _ _) a b hb (by omega) hl ht hc;have hT:=ZfC zs os C (2 * zs.length) (Nat.le_refl _);rw [List.take_of_length_le (by rw [Zaj]; exact Nat.le_refl _)] at hT;have hpos:=ZbS stB (coB (2 * zs.length) (Zp zs os [] C)) (beginN:Int) (ZaI _ _) (Zw n);have hm:=h1.2.1
 have hp:nibs zs=Zw n:=by
  refine Classical.byContradiction fun hne=>?_
  have:=h4 (nibs zs) (ZdU zs) (Zaj zs) hne;omega
 refine ⟨hp.symm,?_⟩;rw [hm,← hp];exact hT
theorem pc8_zero:∀ t,t<256→(pcTo 8 t=0↔t=0):=by decide +kernel
theorem Zfk {s:Nat} {x:Int×Int}:∀ {l:List (Int×Int)},x∈l→Zbq s x≤costN s l
 | [],h=>by simp at h
 | y :: l,h=>by
  rw [costN]
  rcases List.mem_cons.1 h with rfl | h
  ·exact Nat.le_add_right _ _
  ·exact Nat.le_trans (Zfk h) (Nat.le_add_left _ _)
theorem pc_pos {x y:Nat} (hx:x<256) (hy:y<256) (h:x≠y):0<pcTo 32 (x ^^^ y):=by
 have hb:=ZeM hx hy;rw [Zgl hb];refine Nat.pos_of_ne_zero fun h0=>h ?_
 have h1:=(pc8_zero _ hb).1 h0;have h2:x ^^^ (x ^^^ y)=x:=by rw [h1,Nat.xor_zero]
 rw [← Nat.xor_assoc,Nat.xor_self,Nat.zero_xor] at h2;exact h2.symm
theorem hOut_nil (k:Nat):hOut [] k=false:=rfl
theorem four_cost {zs:List Int} {C:Nat} (hn:2 * zs.length<65) (hC:4 * (2 * zs.length)≤C) {j s:Nat} (hj:j<2 * zs.length) (hs:s<4294967296) (hne:s≠stN zs j):0<costN s (ofL (2 * zs.length) (Zp zs [] [] C) j):=by
 obtain ⟨i,hi,hd⟩:∃ i,i<4∧symN s i≠symN (stN zs j) i:=by
  refine Classical.byContradiction fun h=>hne (four_inj hs (ZgJ zs j) fun i hi=>?_)
  exact Classical.byContradiction fun h'=>h ⟨i,hi,h'⟩
 have hpos:=Zdr hn hj
 have hk:i * (2 * zs.length)+posN (2 * zs.length) j<C:=by
  have:i * (2 * zs.length)≤3 * (2 * zs.length):=Nat.mul_le_mul_right _ (by omega);omega
 have hm:=ZcN (zs:=zs) (os:=[]) (ts:=[]) (hOut_nil _) hk;rw [ZcO,codeN_place hn hj] at hm
 have hx:(((i:Nat):Int),((symN (stN zs j) i:Nat):Int))∈ofL (2 * zs.length) (Zp zs [] [] C) j:=by
  refine Zfx.2 ⟨_,hm,?_,?_⟩
  ·rw [Int.toNat_natCast,ZcF hn hj]
  ·rw [Int.toNat_natCast,Zdt hpos]
 refine Nat.lt_of_lt_of_le ?_ (Zfk hx);unfold Zbq;simp only [Int.toNat_natCast];exact pc_pos (Zdz _ _) (Zdz _ _) hd
theorem step_inj {s k k':Nat} (hs:s<4294967296) (hk:k<16) (hk':k'<16) (h:stepN s k=stepN s k'):k=k':=by
 unfold stepN at h;have h1:=mix_inj (Zdx hs (by omega)) (Zdx hs (by omega)) h;have h2:s ^^^ (s ^^^ k)=s ^^^ (s ^^^ k'):=by rw [h1]
 rwa [← Nat.xor_assoc,← Nat.xor_assoc,Nat.xor_self,Nat.zero_xor,Nat.zero_xor] at h2
theorem told_four (zs:List Int) (C a b:Nat) (hb:1≤b) (h0:1≤zs.length) (hn:2 * zs.length<65) (hC:4 * (2 * zs.length)≤C) :
  ∃ n t,(Zi stB (coB (2 * zs.length) (Zp zs [] [] C)) (2 * zs.length) (beginN:Int) b a (2 * zs.length)).1=n :: t∧Zw n=nibs zs∧n.2.1=0∧(∀ u,t.head? = some u→u.2.1≠n.2.1)∧¬ (0≤(Zi stB (coB (2 * zs.length) (Zp zs [] [] C)) (2 * zs.length) (beginN:Int) b a (2 * zs.length)).2∧(Zi stB (coB (2 * zs.length) (Zp zs [] [] C)) (2 * zs.length) (beginN:Int) b a (2 * zs.length)).2≤n.2.1):=by
 have hsta:∀ i,sta stB (coB (2 * zs.length) (Zp zs [] [] C)) (beginN:Int) ((nibs zs).take (i+1))=((stN zs i:Nat):Int):=fun i=>by rw [Zco]; rfl
 have hT:=ZfC zs [] C (2 * zs.length) (Nat.le_refl _);rw [List.take_of_length_le (by rw [Zaj]; exact Nat.le_refl _)] at hT
 obtain ⟨_,hpos⟩:=four_pos stB (coB (2 * zs.length) (Zp zs [] [] C)) (2 * zs.length) (beginN:Int) (ZaI _ _) (nibs zs) (Zaj zs) (ZdU zs)
  (fun i _=>by rw [hsta]; unfold coB; rw [Int.toNat_natCast,ZfZ]; rfl)
  (fun i Q k hi _ _ hne=>by
   rw [hsta,Zco] at hne
   rw [Zco]
   unfold coB
   rw [Int.toNat_natCast]
   have:=four_cost hn hC hi (Zbo (Q++[k]) ZeS) (fun e=>hne (by rw [e]))
   omega)
  (fun i k k' hi hk hk' h=>by
   rw [Zco] at h
   unfold stB at h
   rw [Int.toNat_natCast] at h
   have:=step_inj (Zbo ((nibs zs).take i) ZeS) (by omega) (by omega) (Int.ofNat.inj h)
   omega)
 have hU:∀ P,Nibs P→P.length=2 * zs.length→P≠nibs zs→met stB (coB (2 * zs.length) (Zp zs [] [] C)) (beginN:Int) (nibs zs)<met stB (coB (2 * zs.length) (Zp zs [] [] C)) (beginN:Int) P:=fun P hP hl hne=>by
  rw [hT];exact hpos _ P (Nat.le_refl _) hP hl (by rw [List.take_of_length_le (by rw [Zaj]; exact Nat.le_refl _)]; exact hne)
 obtain ⟨n,t,h1,h2,h3,h4,h5⟩:=clear_told stB (coB (2 * zs.length) (Zp zs [] [] C)) (2 * zs.length) (beginN:Int) (ZaI _ _) a b hb (by omega) (nibs zs) (ZdU zs) (Zaj zs) hU (fun i hi=>.inl fun Q hQ hl hne=>by
  rw [hT]
  have h6:=hpos (i+1) Q (by omega) hQ hl hne
  have h7:=ZgC stB (coB (2 * zs.length) (Zp zs [] [] C)) (2 * zs.length) (beginN:Int) (ZaI _ _) a Q (by omega)
  omega)
 exact ⟨n,t,h1,h2,by rw [h3,hT],h4,h5⟩
end Go.Proofs.YtkigbanldiialaaGreatDoor
namespace Go.Proofs.YtkigbanldiialaaGreatDoor
open Go.RowKit
def ZM (N:Nat) (l:List (Int×Int)) (b D i:Nat):List Nd×Int:=Zi stB (coB N l) N (beginN:Int) b D i
def Z2 (N:Nat) (l:List (Int×Int)) (D i:Nat) (L:List Nd):List Nd:=ZG stB (coB N l) N D i L
def kidB (N:Nat) (l:List (Int×Int)) (D i:Nat) (n:Nd) (k:Int):Nd:=kidS stB (coB N l) N D i n k
theorem walkB_next (N:Nat) (l:List (Int×Int)) (b D i:Nat):ZM N l b D (i+1)=(Zax b (Z2 N l D i (ZM N l b D i).1),lmin (ZM N l b D i).2 (cutK sc b (Z2 N l D i (ZM N l b D i).1))):=rfl
theorem kidsB_snoc (N:Nat) (l:List (Int×Int)) (D i:Nat) (L:List Nd) (n:Nd):Z2 N l D i (L++[n])=Z2 N l D i L++Za7.map (kidB N l D i n):=by
 unfold Z2 ZG;rw [List.flatMap_append];simp [kidB]
theorem Zgv {N:Nat} {l:List (Int×Int)} {D i s k:Nat} {n:Nd} (hs:n.1=(s:Int)) (hl:n.2.2.2.length=i):kidB N l D i n (k:Int)=(((stepN s k:Nat):Int),n.2.1+((costN (stepN s k) (ofL N l i):Nat):Int),lst stB (coB N l) N D ((stepN s k:Nat):Int) (i+1) (n.2.1+((costN (stepN s k) (ofL N l i):Nat):Int)),n.2.2.2++[(k:Int)]):=by
 unfold kidB kidS kid;rw [hs,hl,Zfy,Zfz]
theorem Zet {N:Nat} {p:Int} {l:List (Int×Int)} (hp:Zc (N:Int) p l) {b D i:Nat} (hb:1≤b) {n:Nd} (h:n∈(ZM N l b D i).1):(∃ s:Nat,s<4294967296∧n.1=(s:Int))∧0≤n.2.1∧n.2.1≤8192 * (i:Int)∧n.2.2.2.length=i:=by
 obtain ⟨P,h1,h2,h3,_⟩:=(Z5 stB (coB N l) N (beginN:Int) D b hb i).node n h;obtain ⟨s,hs,es⟩:=staB_nat N l P;have e:n.2.1=metB N l P:=h3.2.1;refine ⟨⟨s,hs,h3.1.trans es⟩,by rw [e]; exact metB_pos N l P,by rw [e]; exact Zgt hp i P h1,by rw [h3.2.2]; exact h1⟩
theorem Zfl (N:Nat) (l:List (Int×Int)) {b D i:Nat} (hb:1≤b) (hb2:b≤16):(ZM N l b D i).1.length≤16:=by
 have:=(Z5 stB (coB N l) N (beginN:Int) D b hb i).most;unfold ZM;omega
theorem kidsB_ok {N:Nat} {p:Int} {l:List (Int×Int)} (hp:Zc (N:Int) p l) {b D i:Nat} (hb:1≤b):∀ x∈Z2 N l D i (ZM N l b D i).1,0≤sc x∧x.2.2.2.length=i+1:=by
 intro x hx;obtain ⟨n,hn,k,hk,rfl⟩:=ZaZ stB (coB N l) N hx;obtain ⟨⟨s,hs,es⟩,h1,h2,h3⟩:=Zet hp hb hn;obtain ⟨kn,rfl⟩:∃ kn:Nat,k=(kn:Int):=⟨k.toNat,by omega⟩;have e:=Zgv (N:=N) (l:=l) (D:=D) (k:=kn) es h3;unfold kidB at e;rw [e];refine ⟨?_,by simp [h3]⟩
 show 0≤lst stB (coB N l) N D _ _ _
 exact (Zgs N l hp D _ _ _ (by omega)).1
def decB (L:List Nd) (cut:Int):Option (List Int×Int):=match L with
 | []=>none
 | n :: t=>if t.head?.map (fun u=>u.2.1)=some n.2.1∨(0≤cut∧cut≤n.2.1) then none else some (n.2.2.2,n.2.1)
theorem decB_same {L:List Nd} {cut:Int} {n u:Nd} (h0:L[0]? = some n) (h1:L[1]? = some u) (h:u.2.1=n.2.1):decB L cut=none:=by
 match L,h0,h1 with
 | n' :: u' :: t,h0,h1 =>
  simp at h0 h1;subst h0 h1;unfold decB;simp [h]
theorem Zf0 {L:List Nd} {cut:Int} {n:Nd} (h0:L[0]? = some n) {h1:L[1]? = none∨∃ u,L[1]? = some u∧u.2.1≠n.2.1} (a:0≤cut) (b:cut≤n.2.1):decB L cut=none:=by
 match L,h0 with
 | n' :: t,h0 =>
  simp at h0;subst h0;unfold decB;simp [a,b]
theorem Zcp {L:List Nd} {cut:Int} {n:Nd} (h0:L[0]? = some n) {h1:L[1]? = none∨∃ u,L[1]? = some u∧u.2.1≠n.2.1} (h:¬ (0≤cut∧cut≤n.2.1)):decB L cut=some (n.2.2.2,n.2.1):=by
 match L,h0 with
 | n' :: t,h0 =>
  simp at h0;subst h0;simp only [decB];rw [if_neg];rintro (h2 | h2)
  ·rcases h1 with h1 | ⟨u,hu,hne⟩
   ·cases t with
    | nil=>simp at h2
    | cons v t=>simp at h1
   ·cases t with
    | nil=>simp at h2
    | cons v t=>simp at h2 hu; subst hu; exact hne h2
  ·exact h h2
def Zz (n p:Int):List (Int×Int)→Int→List Int→List (Int×Int)
 | l,_,[]=>l
 | l,k,x :: xs=>Zz n p (putN n p l k x) (k+1) xs
def Zt (n p:Int):List (Int×Int)→Int→List Int→Bool
 | _,_,[]=>false
 | l,k,x :: xs=>Zaz n p l k || Zt n p (putN n p l k x) (k+1) xs
theorem ZcP (n p:Int):∀ (xs:List Int) (l:List (Int×Int)) (k x:Int),Zz n p l k (xs++[x])=putN n p (Zz n p l k xs) (k+(xs.length:Int)) x
 | [],l,k,x=>by simp [Zz]
 | y :: xs,l,k,x=>by
  rw [List.cons_append,Zz,Zz,ZcP n p xs]
  congr 1
  rw [List.length_cons]
  omega
theorem ZdV (n p:Int):∀ (xs:List Int) (l:List (Int×Int)) (k x:Int),Zt n p l k (xs++[x])=(Zt n p l k xs || Zaz n p (Zz n p l k xs) (k+(xs.length:Int)))
 | [],l,k,x=>by simp [Zt,Zz]
 | y :: xs,l,k,x=>by
  rw [List.cons_append,Zt,Zt,Zz,ZdV n p xs,Bool.or_assoc]
  congr 3
  rw [List.length_cons]
  omega
theorem ZaR {n p:Int}:∀ {xs:List Int} {l:List (Int×Int)} {k:Int},Zc n p l→0≤k→(∀ z∈xs,0≤z∧z≤255)→Zc n p (Zz n p l k xs)
 | [],_,_,h,_,_=>h
 | x :: xs,l,k,h,hk,hx=>ZaR (xs:=xs) (putN_ok h hk (hx x (by simp)).1 (hx x (by simp)).2) (by omega) (fun z hz=>hx z (by simp [hz]))
theorem putN_has {n p:Int} {l:List (Int×Int)} {k v:Int} {x:Int×Int} (h:x∈l):x∈putN n p l k v:=by
 unfold putN
 split
 ·exact h
 ·exact ZeH.2 (.inr h)
theorem putN_mem {n p:Int} {l:List (Int×Int)} {k v:Int} {x:Int×Int} (h:x∈putN n p l k v):x∈l∨x=(k,v):=by
 unfold putN at h
 split at h
 ·exact .inl h
 ·exact (ZeH.1 h).elim .inr .inl
theorem Zfm {n p:Int}:∀ {xs:List Int} {l:List (Int×Int)} {k:Int} {x:Int×Int},x∈Zz n p l k xs→x∈l∨∃ j:Nat,∃ v,xs[j]? = some v∧x=(k+(j:Int),v)
 | [],_,_,_,h=>.inl h
 | y :: xs,l,k,x,h=>by
  rcases Zfm (xs:=xs) h with h | ⟨j,v,hv,rfl⟩
  ·rcases putN_mem h with h | rfl
   ·exact .inl h
   ·exact .inr ⟨0,y,rfl,by simp⟩
  ·refine .inr ⟨j+1,v,by simpa using hv,?_⟩
   congr 1
   omega
def Zfn (n p:Int) (l:List (Int×Int)) (k:Int):Prop:=n * p≤k∨∃ v,(k,v)∈l
theorem ZdW {n p:Int} {l:List (Int×Int)} {k:Int} (h:Zc n p l):Zaz n p l k=false↔Zfn n p l k:=by
 unfold Zaz Zfn;rw [← Za1 h.2.2,decide_eq_false_iff_not,Classical.not_not]
theorem Zfn.put {n p:Int} {l:List (Int×Int)} {k k' v:Int} (h:Zfn n p l k):Zfn n p (putN n p l k' v) k:=h.elim .inl fun ⟨u,hu⟩=>.inr ⟨u,putN_has hu⟩
theorem Zeu {n p:Int} {l:List (Int×Int)} {k v:Int} (h:Zc n p l) (hs:Zfn n p l k):putN n p l k v=l:=by
 unfold putN;rw [if_pos];exact hs.elim .inl fun hu=>.inr ((Za1 h.2.2).2 hu)
theorem Zev {n p:Int}:∀ {xs:List Int} {l:List (Int×Int)} {k:Int},Zc n p l→(∀ j:Nat,j<xs.length→Zfn n p l (k+(j:Int)))→Zz n p l k xs=l∧Zt n p l k xs=false
 | [],_,_,_,_=>⟨rfl,rfl⟩
 | x :: xs,l,k,h,hs=>by
  have h0:Zfn n p l k:=by have:=hs 0 (by simp); rwa [show k+((0:Nat):Int)=k by omega] at this
  have e:=Zeu (v:=x) h h0
  have ih:=Zev (xs:=xs) (k:=k+1) h (fun j hj=>by have:=hs (j+1) (by simpa using hj); rwa [show k+((j+1:Nat):Int)=k+1+(j:Int) by omega] at this)
  rw [Zz,Zt,e,ih.1,ih.2,(ZdW h).2 h0]
  exact ⟨rfl,rfl⟩
def Zbx (N:Nat) (l:List (Int×Int)) (b D:Nat):Option (List Int):=(decB (ZM N l b D N).1 (ZM N l b D N).2).map fun x=>x.1
theorem Zew {N:Nat} {l:List (Int×Int)} {b D:Nat} {ps:List Int} (h:Zbx N l b D=some ps):∃ n t,(ZM N l b D N).1=n :: t∧Zw n=ps∧(∀ u,t.head? = some u→u.2.1≠n.2.1)∧¬ (0≤(ZM N l b D N).2∧(ZM N l b D N).2≤n.2.1):=by
 unfold Zbx at h
 cases hw:(ZM N l b D N).1 with
 | nil=>rw [hw] at h; simp [decB] at h
 | cons n t =>
  rw [hw] at h;simp only [decB] at h
  split at h
  ·simp at h
  ·rename_i hc;simp at h;refine ⟨n,t,rfl,h,fun u hu e=>hc (.inl (by rw [hu]; simp [e])),fun e=>hc (.inr e)⟩
theorem toldL_of {N:Nat} {l:List (Int×Int)} {b D:Nat} {n:Nd} {t:List Nd} (h:(ZM N l b D N).1=n :: t) (ht:∀ u,t.head? = some u→u.2.1≠n.2.1) (hc:¬ (0≤(ZM N l b D N).2∧(ZM N l b D N).2≤n.2.1)):Zbx N l b D=some (Zw n):=by
 unfold Zbx;rw [h];simp only [decB];rw [if_neg]
 ·rfl
 ·rintro (h1 | h1)
  ·cases hh:t.head? with
   | none=>rw [hh] at h1; simp at h1
   | some u=>rw [hh] at h1; simp at h1; exact ht u hh h1
  ·exact hc h1
theorem toldL_path {N:Nat} {l:List (Int×Int)} {b D:Nat} (hb:1≤b) (hN:0<N) {ps:List Int} (h:Zbx N l b D=some ps):ps.length=N∧Nibs ps:=by
 obtain ⟨n,t,h1,rfl,h2,h3⟩:=Zew h;have:=Zea stB (coB N l) N (beginN:Int) (ZaI _ _) D b hb hN h1 h2 h3;exact ⟨this.2.1,this.2.2.1⟩
theorem Put_in (n p:Int) (k u:Int) (k0:0≤k) (hk:k≤9223372036854775807) (u0:0≤u) (u1:u≤255) (a:Option Addr) (cap:Nat) (l:List (Int×Int)) (hp:Zc n p l) (w:World) (ha:Syms w.heap.size w (.slice a l.length cap) l) (hc:Zgk a l.length cap) :
  Calls Tryz.prog 57 #[.agg #[.int .i64 n,.int .i64 p,.slice a l.length cap],.int .i64 k,.int .i64 u] w fun e W'=>∃ r,e=.returned (.tuple #[.agg #[.int .i64 n,.int .i64 p,r],.bool (Zaz n p l k),.int .i64 0])∧W'.ownsRow w.heap.size 79 2 r (putN n p l k u).length (Zb (putN n p l k u))∧Below w.heap.size w W':=by
 have hql:=Z6 l k;obtain ⟨q,hq⟩:∃ q,aheadOf l k=q:=⟨_,rfl⟩;rw [hq] at hql
 cases ht:ZO l k with
 | true =>
  have h1:Zaz n p l k=false:=by unfold Zaz; exact decide_eq_false (by simp [ht])
  have h2:putN n p l k u=l:=by unfold putN; rw [if_pos (.inr ht)]
  rw [h1,h2];exact Put_stands n p k u k0 hk u0 u1 a cap l q hq ht hp w ha
 | false =>
  by_cases hMk:n * p≤k
  ·have h1:Zaz n p l k=false:=by unfold Zaz; exact decide_eq_false (by simp [hMk])
   have h2:putN n p l k u=l:=by unfold putN; rw [if_pos (.inl hMk)]
   rw [h1,h2];exact Put_beyond n p k u k0 hk u0 u1 a cap l q hq ht hMk hp w ha
  ·have h1:Zaz n p l k=true:=by unfold Zaz; exact decide_eq_true (by rw [ht]; simp; omega)
   have h2:putN n p l k u=putL l k u:=by unfold putN; rw [if_neg (by rw [ht]; simp; omega)]
   rw [h1,h2,putL_len]
   cases a with
   | none=>exact Put_fresh2 n p k u k0 hk u0 u1 cap l q hq ht (by omega) hp w ha
   | some ad =>
    obtain ⟨b,off,spot⟩:=ad;obtain rfl:spot=none:=hc.2 _ rfl;have hlc:=hc.1;by_cases h3:q<l.length
    ·exact Put_fresh1 n p k u k0 hk u0 u1 b off cap l q hq ht (by omega) h3 (by omega) hp w ha
    ·by_cases h4:q<cap
     ·exact Put_fresh3 n p k u k0 hk u0 u1 b off cap l q hq ht (by omega) (by omega) h4 hp w ha
     ·exact Put_fresh4 n p k u k0 hk u0 u1 b off cap l q hq ht (by omega) (by omega) (by omega) hp w ha
end Go.Proofs.YtkigbanldiialaaGreatDoor
namespace Go.Proofs.YtkigbanldiialaaGreatDoor
open Go
section
variable {F:Fence} {n:Nat} {P:Program} {ops:Array Oper} {Q:Exit→Act→World→Prop} {md:Region.Mode} {S:World→Prop}
def Zcq (F:Fence) (ops:Array Oper):Prop:=∀ (j:Nat) (o:Oper),ops[j]? = some o→∀ ρ:Operand→Value,o.semAt F.round ρ=execOp ρ o
def ZK (P:Program) (ops:Array Oper) (S:World→Prop) (o:Oper) (v:Value) (a:Act):Prop:=YieldsIf P ops S o v a∧∀ w,o.about P w a.eval=none
theorem ZK.wpOpIn {i:Nat} {o:Oper} {v:Value} {a:Act} (hpl:Zcq F ops) (hi:ops[i]? = some o) (hy:ZK P ops S o v a)
  {K:Act→World→Prop} {w:World} (hS:S w) (h:K (a.put o.dst v) w):wpOpIn F n P ops Q i K a w:=by
 unfold Go.wpOpIn;simp only [hi];have hab:∀ f,o.about P w a.eval=some f→F.fn f:=fun f hf=>by rw [hy.2 w] at hf; cases hf
 rcases hy.1 with ⟨hw,hv⟩ | ⟨hw,rfl⟩
 ·simp only [hw,if_true,Oper.wpIn,hpl i o hi,hv w hS,Oper.uponIn]; exact ⟨hab,h⟩
 ·simp only [hw,Bool.false_eq_true,if_false]; exact ⟨hab,h⟩
theorem ZK.of_same {o:Oper} {v:Value} {a a':Act} (hy:ZK P ops S o v a) (he:execOp a'.eval o=execOp a.eval o)
  (hw:Region.wanted o (yielded ops a'.tmps)=Region.wanted o (yielded ops a.tmps)) (hb:∀ w,o.about P w a'.eval=o.about P w a.eval):ZK P ops S o v a' :=
 ⟨hy.1.of_same he hw,fun w=>by rw [hb w]; exact hy.2 w⟩
theorem wpOpIn_putHeld {j:Nat} {oi oj:Oper} {v:Value} (hpl:Zcq F ops) (hj:ops[j]? = some oj) (hap:oi.apart ops oj=true)
  (hsi:∀ cs b,oi.op≠.select cs b) (hsj:∀ cs b,oj.op≠.select cs b)
  (hQ:∀ c a w,Q (.panic c) (a.put oi.dst v) w→Q (.panic c) a w) {K:Act→World→Prop} {a:Act} {w:World}
  (hy:ZK P ops S oi v a) (h:wpOpIn F n P ops Q j K (a.put oi.dst v) w) :
  wpOpIn F n P ops Q j (fun a' w'=>ZK P ops S oi v a'∧K (a'.put oi.dst v) w') a w:=by
 obtain ⟨h1,h2,h3⟩:=Oper.apart_spec hap
 have keep:∀ (a:Act),ZK P ops S oi v a→∀ u,ZK P ops S oi v (a.put oj.dst u):=fun a hy u =>
  hy.of_same (execOp_put oi hsi a oj.dst u h3) (wanted_put oi a oj.dst u h3) (fun w=>about_put oi w a oj.dst u h3)
 have keepD:∀ d,ZK P ops S oi v { a with defers:=d :: a.defers }:=fun d=>hy.of_same rfl rfl (fun _=>rfl)
 have hplj:=hpl j oj hj;unfold wpOpIn at *;simp only [hj] at h ⊢;rw [wanted_put oj a oi.dst v h1,about_put oj w a oi.dst v h1] at h
 split
 ·rename_i hw;simp only [hw,if_true] at h;unfold Oper.wpIn at *;rw [about_put oj w a oi.dst v h1] at h;refine ⟨h.1,?_⟩;have h:=h.2;rw [hplj,execOp_put oj hsj a oi.dst v h1] at h;rw [hplj];generalize (execOp a.eval oj).run P w=r at *
  cases r with
  | ok x w' =>
   cases x <;> simp only [Oper.uponIn] at h ⊢
   case value u=>exact ⟨keep a hy u,by rw [← Act.put_comm a v u h2]; exact h⟩
   case skip=>exact ⟨keep a hy _,by rw [← Act.put_comm a v undef h2]; exact h⟩
   case defer d =>
    refine ⟨keep _ (keepD d) _,?_⟩;rw [← Act.put_comm _ v undef h2,← Act.put_defers];exact h
   case enter f args =>
    refine ⟨h.1,CallsIn.mono h.2 fun e w'' he=>?_⟩
    cases e with
    | returned u=>exact ⟨keep a hy u,by rw [← Act.put_comm a v u h2]; exact he⟩
    | panicked c=>exact hQ _ _ _ he
    | outgrown=>exact he
   case row row args=>exact ⟨h.1,RowsIn.mono h.2 fun u w'' he=>⟨keep a hy u,by rw [← Act.put_comm a v u h2]; exact he⟩⟩
   case round l f tmps assign body =>
    refine ⟨h.1,RoundIn.mono h.2 fun e w'' he=>?_⟩
    cases e with
    | returned u=>exact ⟨keep a hy u,by rw [← Act.put_comm a v u h2]; exact he⟩
    | panicked c=>exact hQ _ _ _ he
    | outgrown=>exact he
  | halt x w' =>
   cases x <;> simp only [Oper.uponIn] at h ⊢
   case panic u=>exact hQ _ _ _ h
 ·rename_i hw;simp only [hw] at h;exact ⟨h.1,keep a hy _,by rw [← Act.put_comm a v undef h2]; exact h.2⟩
def Z4 (F:Fence) (n:Nat) (P:Program) (md:Region.Mode) (ops:Array Oper) (Q:Exit→Act→World→Prop) (S:World→Prop):Nat→Array Bool→Act→World→Prop
 | 0,listed,a,w=>Region.ready md ops listed=[]∧Q .normal a w
 | fuel+1,listed,a,w =>
  (Region.ready md ops listed=[]→Q .normal a w) ∧
  ∀ i∈Region.ready md ops listed,wpOpIn F n P ops Q i (fun a' w'=>S w'∧Z4 F n P md ops Q S fuel (listed.setIfInBounds i true) a' w') a w
theorem Zby:∀ (fuel:Nat) (listed:Array Bool) (a:Act) (w:World),Z4 F n P md ops Q S fuel listed a w→wpAnyIn F n P md ops Q fuel listed a w
 | 0,_,_,_,h=>h
 | fuel+1,_,_,_,h=>⟨h.1,fun i hi=>wpOpIn_mono (fun a' w' h'=>Zby fuel _ a' w' h'.2) (h.2 i hi)⟩
theorem wpAnyHeld_first {i:Nat} {oi:Oper} {v:Value} (hpl:Zcq F ops) (hi:ops[i]? = some oi) (hsel:∀ (j:Nat) (o:Oper) cs b,ops[j]? = some o→o.op≠.select cs b)
  (hQ:∀ c a w,Q (.panic c) (a.put oi.dst v) w→Q (.panic c) a w) :
  ∀ (fuel:Nat) (listed:Array Bool) (a:Act) (w:World),
   (∀ j oj,ops[j]? = some oj→j≠i→listed.getD j true=false→(∀ e∈oj.after,Region.binds md e=true→e.on≠i)→oi.apart ops oj=true) →
   i∈Region.ready md ops listed→ZK P ops S oi v a→S w →
   Z4 F n P md ops Q S fuel (listed.setIfInBounds i true) (a.put oi.dst v) w→Z4 F n P md ops Q S (fuel+1) listed a w:=by
 intro fuel
 induction fuel with
 | zero =>
  intro listed a w _ hr hy hS H;refine ⟨fun h=>(by rw [h] at hr; cases hr),fun j hj=>?_⟩;by_cases hji:j=i
  ·subst hji; exact hy.wpOpIn hpl hi hS ⟨hS,H⟩
  ·have:=ready_mono hj hji;rw [H.1] at this
   cases this
 | succ fuel ih =>
  intro listed a w hfree hr hy hS H;refine ⟨fun h=>(by rw [h] at hr; cases hr),fun j hj=>?_⟩;by_cases hji:j=i
  ·subst hji; exact hy.wpOpIn hpl hi hS ⟨hS,H⟩
  ·have h1:=H.2 j (ready_mono hj hji);obtain ⟨hjun,oj,hoj,hall⟩:=mem_ready.1 hj
   have hnot:∀ e∈oj.after,Region.binds md e=true→e.on≠i:=fun e he hb heq=>by
    have h1:=hall e he hb;have h0:=(mem_ready.1 hr).1;rw [heq] at h1;rcases Nat.lt_or_ge i listed.size with h' | h'
    ·simp [h'] at h0 h1; rw [h0] at h1; cases h1
    ·simp [Array.getElem?_eq_none h'] at h1
   have h2:=wpOpIn_putHeld hpl hoj (hfree j oj hoj hji hjun hnot) (fun cs b=>hsel i oi cs b hi) (fun cs b=>hsel j oj cs b hoj) hQ hy h1
   have hfree':∀ k ok,ops[k]? = some ok→k≠i→(listed.setIfInBounds j true).getD k true=false →
     (∀ e∈ok.after,Region.binds md e=true→e.on≠i)→oi.apart ops ok=true:=fun k ok hk hki hun hno=>by
    refine hfree k ok hk hki ?_ hno;by_cases hjk:j=k
    ·subst hjk; exact hjun
    ·rw [getD_set_ne true hjk] at hun; exact hun
   refine wpOpIn_mono (fun a' w' h3=>⟨h3.2.1,ih (listed.setIfInBounds j true) a' w' hfree' (ready_mono hr (Ne.symm hji)) h3.1 h3.2.1 ?_⟩) h2;rw [Array.setIfInBounds_comm _ _ hji];exact h3.2.2
theorem Zs {i:Nat} {oi:Oper} {v:Value} {fuel:Nat} {listed:Array Bool} {a:Act} {w:World} (hpl:Zcq F ops) (hi:ops[i]? = some oi)
  (hs:Region.noSelect ops=true) (hf:Region.free md ops listed i=true) (hr:(Region.ready md ops listed).contains i=true)
  (hQ:∀ c a w,Q (.panic c) (a.put oi.dst v) w→Q (.panic c) a w) (hy:ZK P ops S oi v a) (hS:S w)
  (h:Z4 F n P md ops Q S fuel (listed.setIfInBounds i true) (a.put oi.dst v) w):Z4 F n P md ops Q S (fuel+1) listed a w :=
 wpAnyHeld_first hpl hi (Region.noSelect_spec hs) hQ fuel listed a w (Region.free_spec hi hf) (by simpa using hr) hy hS h
theorem Zcr {i:Nat} {o:Oper} {fuel:Nat} {listed:Array Bool} {a:Act} {w:World} (hr:Region.ready md ops listed=[i]) (ho:ops[i]? = some o) (hw:Region.wanted o (yielded ops a.tmps)=true)
  (h:∀ K:Act→World→Prop,(∀ a' w',S w'→Z4 F n P md ops Q S fuel (listed.setIfInBounds i true) a' w'→K a' w')→o.wpIn F n P a w K Q):Z4 F n P md ops Q S (fuel+1) listed a w:=by
 refine ⟨(fun h0=>by rw [hr] at h0; cases h0),fun j hj=>?_⟩;rw [hr] at hj;simp at hj;subst hj;unfold wpOpIn;simp only [ho,hw,if_true];exact h _ fun a' w' h1 h2=>⟨h1,h2⟩
theorem wpAnyHeld_done {listed:Array Bool} {a:Act} {w:World} (hr:Region.ready md ops listed=[]) (h:Q .normal a w) :
  ∀ fuel,Z4 F n P md ops Q S fuel listed a w
 | 0=>⟨hr,h⟩
 | _+1=>⟨fun _=>h,by rw [hr]; simp⟩
theorem wpIn_region_held {id:Nat} {a:Act} {w:World} (S:World→Prop) (hm:P.follows .mixedOrders=true)
  (h:Z4 F n P .any ops Q S ops.size (Array.replicate ops.size false) a { w with drawn:=w.drawn+1 }):(Code.region id ops true).wpIn F n P Q a w :=
 wpIn_region_any hm (Zby _ _ _ _ h)
end
end Go.Proofs.YtkigbanldiialaaGreatDoor
namespace Go.Proofs.YtkigbanldiialaaGreatDoor
open Go.RowKit Go.Shelf
attribute [local go_sem] Oper.semAt_some
abbrev Rs:=Int×Int×Int×Option Addr×Nat×Nat
def toRn (x:Rs):Rn:=(x.1,x.2.1,x.2.2.1,.slice x.2.2.2.1 x.2.2.2.2.1 x.2.2.2.2.2)
def Zgw (x:Rs):Array Value:=#[.agg #[.int .u32 x.1,.int .i64 x.2.1,.int .i64 x.2.2.1,.slice x.2.2.2.1 x.2.2.2.2.1 x.2.2.2.2.2]]
theorem ownFrom_spared {β:Type} {X:Nat→Prop} {B:Nat} {w₀:World} (hB:w₀.heap.size≤B):OwnFrom B (fun (_:β) W=>Spared X w₀ W):=fun _ A C row hs hg hr =>
 ⟨hg.os.trans hs.os,hg.tape.trans hs.tape,hg.output.trans hs.output,Nat.le_trans hs.size hg.size,fun k hk hx=>(hg.block k (Nat.lt_of_lt_of_le hk hs.size) (fun e=>by have:=(hr k e.symm).1; omega)).trans (hs.block k hk hx)⟩
def ZgK (D:Nat):Deferred:={ target:=.collected D,args:=#[] }
def Zbf (n₁:Nat) (Ds:List Nat) (W:World):Prop:=Ds.Nodup∧∀ D∈Ds,n₁≤D∧W.heap[D]? = some (.deferred (some []))
theorem Zbf.next {n₁:Nat} {Ds:List Nat} {W W':World} (h:Zbf n₁ Ds W) (hh:∀ D∈Ds,W'.heap[D]? = W.heap[D]?):Zbf n₁ Ds W':=⟨h.1,fun D hD=>⟨(h.2 D hD).1,(hh D hD).trans (h.2 D hD).2⟩⟩
theorem Zbf.lt {n₁:Nat} {Ds:List Nat} {W:World} (h:Zbf n₁ Ds W):∀ D∈Ds,D<W.heap.size:=fun D hD=>(Array.getElem?_eq_some_iff.1 (h.2 D hD).2).1
theorem Zbf.cons {n₁ D:Nat} {Ds:List Nat} {W:World} (h:Zbf n₁ Ds W) (hD:W.heap[D]? = some (.deferred (some []))) (hn:n₁≤D) (hne:D ∉ Ds):Zbf n₁ (D :: Ds) W :=
 ⟨List.nodup_cons.2 ⟨hne,h.1⟩,fun E hE=>by
  rcases List.mem_cons.1 hE with rfl | hE
  ·exact ⟨hn,hD⟩
  ·exact h.2 E hE⟩
theorem Zc0 {n n₁:Nat} {P:Program} {fn:Func} {tmps:Array Value} {R:Ending→World→Prop} {v:Value} (hv:∀ W,(results fn tmps).run P W=.ok v W) (T:World→Prop) (hT:∀ W D o,T W→n₁≤D→W.heap[D]? = some (.deferred (some []))→T (W.putObj D o)) (hR:∀ W,T W→R (.returned v) W) :
  ∀ (Ds:List Nat) (W:World),Zbf n₁ Ds W→T W→LeavesInM Fence.wide n P fn tmps R (Ds.map ZgK) .returning W
 | [],W,_,h=>⟨_,hv W,hR W h⟩
 | D :: Ds,W,hm,h=>by
  obtain ⟨h1,h2⟩:=hm.2 D (by simp)
  refine ⟨by simp,.inl ⟨D,_,rfl,run_takeDeferred h2,?_⟩⟩
  refine Zc0 hv T hT hR Ds _ ⟨(List.nodup_cons.1 hm.1).2,fun E hE=>?_⟩ (hT _ _ _ h h1 h2)
  have hne:E≠D:=fun e=>(List.nodup_cons.1 hm.1).1 (e▸hE)
  exact ⟨(hm.2 E (by simp [hE])).1,(World.putObj_heap_other hne).trans (hm.2 E (by simp [hE])).2⟩
theorem round_wide {m m' lp:Nat} {P:Program} {l:Nat} {f:FuncId} {tmps:Array Value} {assign body:Code} {w:World} {R:Ending→World→Prop} (h:RoundIn Fence.wide m P l f tmps assign body w R):RoundIn (Fence.wide.inRound lp) m' P l f tmps assign body w R:=⟨h.1,fun c cs _=>h.2 c cs (room_wide _)⟩
def notDefer:Op→Bool
 | .defer _=>false
 | _=>true
theorem ZF {ops:Array Oper} {l:Nat} (h:ops.toList.all (fun o=>notDefer o.op)=true):Zcq (Fence.wide.inRound l) ops:=by
 intro j o hj ρ;refine Oper.semAt_some _ _ _ (fun c hc=>?_);have:=List.all_eq_true.1 h o (List.mem_of_getElem? (by simpa using hj));rw [hc] at this
 cases this
theorem ZbL {base:Nat} {W W':World} {row:Option Nat} {r:List Rn} {l:List Nd} (h:ZH base W r l) (hg:W.grownBy W' row) (hr:∀ g,row=some g→∃ o:Obj,W.heap[g]? = some o∧o.isCells=false):ZH base W' r l:=by
 refine ⟨h.1,fun j x y hx hy=>?_,h.2.2⟩;obtain ⟨h1,h2,h3,h4⟩:=h.2.1 j x y hx hy;refine ⟨h1,h2,h3,h4.kept hg ?_⟩;rcases h4.2 with ⟨e,_⟩ | ⟨g,cap,cur,e,_,hgb,_⟩
 ·rw [e]; exact .inl rfl
 ·rw [e];refine .inr fun e'=>?_
  obtain ⟨o,ho,hc⟩:=hr g e'.symm;rw [hgb] at ho
  cases ho
  cases hc
theorem ownRns_spared {X:Nat→Prop} {base:Nat} {W W':World} {r:List Rn} {l:List Nd} (h:ZH base W r l) (hs:Spared X W W') (hX:∀ j,base≤j→¬ X j):ZH base W' r l :=
 ⟨h.1,fun j x y hx hy=>by obtain ⟨h1,h2,h3,h4⟩:=h.2.1 j x y hx hy; exact ⟨h1,h2,h3,hs.row h4 hX⟩,h.2.2⟩
end Go.Proofs.YtkigbanldiialaaGreatDoor
namespace Go.Proofs.YtkigbanldiialaaGreatDoor
open Go.RowKit Go.Shelf
attribute [local go_sem] Oper.semAt_some
theorem nodes1_in (n q lo Bl Bh Bd b off N cap:Nat) (l:List (Int×Int)) (p:Int) (hp:Zc (N:Int) p l) (D:Nat) (hD:D≤2) (i:Nat) (hi:i<N) (L:List Nd) (m:Nat) (hm:L.length=m) (hm16:m≤16) (la:Option Addr) (lc:Nat) (n₀ n₁:Nat) (X:Nat→Prop)
  (hLn:∀ n∈L,(∃ s:Nat,s<4294967296∧n.1=(s:Int))∧0≤n.2.1∧n.2.1≤8192 * (i:Int)∧n.2.2.2.length=i)
  (J:List Rs→World→Prop) (hJ:∀ s A B,J s A→Below n₁ A B→J s B)
  (hY:∀ pre x W,J pre W→pre.length<m * 16→YieldAt Fence.wide q Tryz.prog lo (Zgw x) W fun e W'=>e=.returned (.bool true)∧J (pre++[x]) W'∧Spared X W W')
  (hX1:∀ k,X k→k<n₁) (hX0:∀ k,X k→n₀≤k) (hXh:¬ X Bh) (hXd:¬ X Bd)
  (W:World) (hn₁:W.heap.size=n₁) (hn₀:n₀≤n₁)
  (xl:Box W Bl 117 #[.slice la m lc]) (xh:Box W Bh 136 #[.slice (some ⟨b,off,none⟩) N cap]) (xd:Box W Bd 3 #[.int .i64 ((D+1:Nat):Int)])
  (hS:Segs n₀ W (.slice (some ⟨b,off,none⟩) N cap) (Zbd N l)) (hLN:Z8 n₀ W (.slice la m lc) L) (h0:J [] W) :
  CallsIn Fence.wide n Tryz.prog 109 #[.func (.yield lo) #[] #[],.pointer (some ⟨Bl,0,none⟩),.pointer (some ⟨Bh,0,none⟩),.pointer (some ⟨Bd,0,none⟩)] W fun e W'=>(∃ v,e=.returned v)∧∃ xs,ZH n₁ W' (xs.map toRn) (Z2 N l D i L)∧J xs W':=by
 refine callsIn_wide.2 ((callsIn_wide (n:=9)).1 ?_);have hN2:N<65:=by have:=hp.1.2.1; omega
 have HP:Hid (Zc (N:Int) p l):=hp;have HS:Hid (Segs n₀ W (.slice (some ⟨b,off,none⟩) N cap) (Zbd N l)):=hS;have HLN:Hid (Z8 n₀ W (.slice la m lc) L):=hLN;have HML:Hid (L.length=m):=hm;have HLn:Hid (∀ n∈L,(∃ s:Nat,s<4294967296∧n.1=(s:Int))∧0≤n.2.1∧n.2.1≤8192 * (i:Int)∧n.2.2.2.length=i):=hLn;have HJ:Hid (∀ s A B,J s A→Below n₁ A B→J s B):=hJ;have HY:Hid (∀ pre x W,J pre W→pre.length<m * 16→YieldAt Fence.wide q Tryz.prog lo (Zgw x) W fun e W'=>e=.returned (.bool true)∧J (pre++[x]) W'∧Spared X W W'):=hY;have HN1:Hid (W.heap.size=n₁):=hn₁;obtain ⟨D1,hD1⟩:∃ D1,D+1=D1:=⟨_,rfl⟩;rw [hD1] at xd;have HD1:Hid (D+1=D1):=hD1;have hll:=xl.lt;have hlh:=xh.lt;have hld:=xd.lt;have cl:=xl.cell 0 _ rfl;have ch:=xh.cell 0 _ rfl;have cd:=xd.cell 0 _ rfl
 have xy:Box (W.alloc (.cells #[.func (.yield lo) #[] #[]] 154)) n₁ 154 #[.func (.yield lo) #[] #[]]:=by
  have:=Box.new W 154 #[.func (.yield lo) #[] #[]];rw [HN1.out] at this;exact this
 have b1:Below W.heap.size W (W.alloc (.cells #[.func (.yield lo) #[] #[]] 154)):=(Below.refl W.heap.size W).alloc (Nat.le_refl _) _;have hs1:(W.alloc (.cells #[.func (.yield lo) #[] #[]] 154)).heap.size=n₁+1:=by simp [HN1.out]
 clear hp hS hLN hm hLn hJ hY hD1;rw [HN1.out] at hll hlh hld;refine callsIn_of_wp_marks Tryz.func109 rfl trivial ?_ rfl;simp only [Tryz.ntmps109,List.size_toArray,List.length_cons,List.length_nil,Nat.reduceAdd,Nat.reduceSub,Array.replicate_succ,Array.replicate_zero,List.push_toArray,List.append_toArray,List.nil_append,List.cons_append];clear hn₁;have cl':=(b1.cell (p:=⟨Bl,0,none⟩) (by rw [HN1.out]; exact hll)).trans cl;gi_wp2;obtain ⟨W1,hW1⟩:∃ W1,W.alloc (.cells #[.func (.yield lo) #[] #[]] 154)=W1:=⟨_,rfl⟩;rw [hW1] at xy b1 hs1 ⊢;rw [HN1.out] at b1 ⊢;clear cl cl' ch cd hW1;have xh1:=xh.below b1 hlh;have xd1:=xd.below b1 hld;have h01:=HJ.out _ _ _ h0 b1;have HS1:Hid (Segs n₀ W1 (.slice (some ⟨b,off,none⟩) N cap) (Zbd N l)):=HS.out.below (b1.mono hn₀);have HL1:Hid (Z8 n₀ W1 (.slice la m lc) L):=HLN.out.below (b1.mono hn₀);clear xh xd xl h0 HS HLN;refine wpIn_loop (fun a' w'=>∃ u6 u7 u8 u9 u13 u14 u15 u16 u17 u18 u19 u20 u21 u22 u23 u24 u25 u26 u27 u28 u29 u30 u31 u32 u33 u34 u35 u36 u37 u38 u39 u40 u41 u42 u43 u44 u45 u46 u47,∃ (k:Nat) (xs:List Rs) (Ds:List Nat),k≤m∧J xs w'∧ZH n₁ w' (xs.map toRn) (Z2 N l D i (L.take k))∧Spared X W1 w'∧Zbf (n₁+1) Ds w'∧a'={ tmps:=#[.func (.yield lo) #[] #[],.pointer (some ⟨Bl,0,none⟩),.pointer (some ⟨Bh,0,none⟩),.pointer (some ⟨Bd,0,none⟩),.pointer (some ⟨n₁,0,none⟩),undef,u6,u7,u8,u9,.slice la m lc,.int .i64 (m:Int),.int .i64 (k:Int),u13,u14,u15,u16,u17,u18,u19,u20,u21,u22,u23,u24,u25,u26,u27,u28,u29,u30,u31,u32,u33,u34,u35,u36,u37,u38,u39,u40,u41,u42,u43,u44,u45,u46,u47],defers:=Ds.map ZgK }) (fun a' _=>m-(intOf (a'.tmps.getD 12 undef)).toNat) ?_ ?_
 ·exact ⟨_,_,_,_,_,_,_,_,_,_,_,_,_,_,_,_,_,_,_,_,_,_,_,_,_,_,_,_,_,_,_,_,_,_,_,_,_,_,_,0,[],[],Nat.zero_le _,h01,by rw [List.take_zero]; exact Zen _ _,Spared.refl _ _,⟨List.nodup_nil,fun D hD=>by simp at hD⟩,rfl⟩
 ·rintro a' wr ⟨u6,u7,u8,u9,u13,u14,u15,u16,u17,u18,u19,u20,u21,u22,u23,u24,u25,u26,u27,u28,u29,u30,u31,u32,u33,u34,u35,u36,u37,u38,u39,u40,u41,u42,u43,u44,u45,u46,u47,k,xs,Ds,hk,hJs,hO,hSp,hMk,rfl⟩;have hsz:n₁+1≤wr.heap.size:=by have:=hSp.size; omega
  have hXn:∀ j,n₁≤j→¬ X j:=fun j hj hx=>by have:=hX1 j hx; omega
  have yy:Box wr n₁ 154 #[.func (.yield lo) #[] #[]]:=hSp.heap (hXn _ (Nat.le_refl _)) xy;have yh:Box wr Bh 136 #[.slice (some ⟨b,off,none⟩) N cap]:=hSp.heap hXh xh1;have yd:Box wr Bd 3 #[.int .i64 (D1:Int)]:=hSp.heap hXd xd1;have bn:Below n₀ W1 wr:=hSp.below (fun j hj hx=>by have:=hX0 j hx; omega) (by omega);by_cases hlt:k<m
  ·obtain ⟨nd,hn⟩:∃ nd,L[k]? = some nd:=⟨L[k]'(by rw [HML.out]; exact hlt),by simp⟩;obtain ⟨⟨s,hs,es⟩,hM0,hM1,hpl⟩:=HLn.out nd (List.mem_of_getElem? hn);obtain ⟨ns,M,nsc,ps⟩:=nd;have es':ns=(s:Int):=es;subst es';have hpl':ps.length=i:=hpl
   have HTK:Hid (L.take (k+1)=L.take k++[((s:Int),M,nsc,ps)]):=by
    show L.take (k+1)=L.take k++[((s:Int),M,nsc,ps)]
    rw [List.take_add_one,hn]; rfl
   have HPL:Hid (ps.length=i):=hpl';have hM0':0≤M:=hM0;have hM1':M≤8192 * (i:Int):=hM1;obtain ⟨lb,lof,rfl,hlb,hcl⟩:=Zbc (HL1.out.below bn) HML.out (by omega);obtain ⟨pv,hpv,c0,c1,c2,c3⟩:=hcl k _ hn;obtain ⟨pa,pc,e8⟩:=hpv.shape;have e8':pv=.slice pa i pc:=by rw [e8]; show Value.slice pa ps.length pc=_; rw [hpl']
   subst e8';have HPV:Hid (Za .i64 n₀ wr (.slice pa i pc) ps):=hpv;have ch:=(yh.alloc (.cells #[.int .u32 (s:Int),.int .i64 M,.int .i64 nsc,.slice pa i pc] 122)).cell 0 _ rfl;have d0:decide ((k:Int)<(m:Int))=true:=decide_eq_true (by omega);have d0':decide (k<m)=true:=decide_eq_true hlt;have f1:Fence.wide.fn 110:=trivial;have hn1:(1:Nat)≤9:=by omega
   have HN:Hid (L[k]? = some ((s:Int),M,nsc,ps)):=hn;clear hcl hpv e8 hpl hpl' es hM0 hM1 hn;gi_wp2_with (gi_at_call 110; refine (ZdO (9-1) _ ⟨_,_,_,rfl⟩ i s M _).mono ?_; rintro e w2 ⟨rfl,rfl⟩);have yn:Box (((wr.alloc (.cells #[.int .u32 (s:Int),.int .i64 M,.int .i64 nsc,.slice pa i pc] 122)).alloc (.cells #[.slice (some ⟨b,off,none⟩) N cap] 136)).alloc (.cells #[.int .i64 (i:Int),.int .u32 (s:Int),.int .i64 M] 140)) wr.heap.size 122 #[.int .u32 (s:Int),.int .i64 M,.int .i64 nsc,.slice pa i pc]:=((Box.new wr 122 _).alloc _).alloc _
   have yq:Box (((wr.alloc (.cells #[.int .u32 (s:Int),.int .i64 M,.int .i64 nsc,.slice pa i pc] 122)).alloc (.cells #[.slice (some ⟨b,off,none⟩) N cap] 136)).alloc (.cells #[.int .i64 (i:Int),.int .u32 (s:Int),.int .i64 M] 140)) (wr.heap.size+1) 136 #[.slice (some ⟨b,off,none⟩) N cap]:=by
    have:=(Box.new (wr.alloc (.cells #[.int .u32 (s:Int),.int .i64 M,.int .i64 nsc,.slice pa i pc] 122)) 136 #[.slice (some ⟨b,off,none⟩) N cap]).alloc (.cells #[.int .i64 (i:Int),.int .u32 (s:Int),.int .i64 M] 140);simpa using this
   have yp:Box (((wr.alloc (.cells #[.int .u32 (s:Int),.int .i64 M,.int .i64 nsc,.slice pa i pc] 122)).alloc (.cells #[.slice (some ⟨b,off,none⟩) N cap] 136)).alloc (.cells #[.int .i64 (i:Int),.int .u32 (s:Int),.int .i64 M] 140)) (wr.heap.size+1+1) 140 #[.int .i64 (i:Int),.int .u32 (s:Int),.int .i64 M]:=by
    have:=Box.new ((wr.alloc (.cells #[.int .u32 (s:Int),.int .i64 M,.int .i64 nsc,.slice pa i pc] 122)).alloc (.cells #[.slice (some ⟨b,off,none⟩) N cap] 136)) 140 #[.int .i64 (i:Int),.int .u32 (s:Int),.int .i64 M];simpa using this
   have bS:Below wr.heap.size wr (((wr.alloc (.cells #[.int .u32 (s:Int),.int .i64 M,.int .i64 nsc,.slice pa i pc] 122)).alloc (.cells #[.slice (some ⟨b,off,none⟩) N cap] 136)).alloc (.cells #[.int .i64 (i:Int),.int .u32 (s:Int),.int .i64 M] 140)):=(((Below.refl wr.heap.size wr).alloc (Nat.le_refl _) _).alloc (by simp) _).alloc (by simp; omega) _;have hsS:(((wr.alloc (.cells #[.int .u32 (s:Int),.int .i64 M,.int .i64 nsc,.slice pa i pc] 122)).alloc (.cells #[.slice (some ⟨b,off,none⟩) N cap] 136)).alloc (.cells #[.int .i64 (i:Int),.int .u32 (s:Int),.int .i64 M] 140)).heap.size=wr.heap.size+3:=by simp
   obtain ⟨Ws,hWs⟩:∃ Ws,((wr.alloc (.cells #[.int .u32 (s:Int),.int .i64 M,.int .i64 nsc,.slice pa i pc] 122)).alloc (.cells #[.slice (some ⟨b,off,none⟩) N cap] 136)).alloc (.cells #[.int .i64 (i:Int),.int .u32 (s:Int),.int .i64 M] 140)=Ws:=⟨_,rfl⟩;rw [hWs] at yn yq yp bS hsS ⊢;clear hWs ch c0 c1 c2 c3 d0 d0';have HJS:=HJ.out _ _ _ hJs (bS.mono (by omega));have HOS:=hO.below bS (Nat.le_refl _);have zy:=yy.next bS;have zh:=yh.next bS;have zd:=yd.next bS;have HMk:Hid (Zbf (n₁+1) Ds Ws):=hMk.next fun E hE=>bS.block E (hMk.lt E hE)
   have HSpS:Hid (Spared X W1 Ws):=hSp.trans (Spared.of_below bS);have bnS:Below n₀ W1 Ws:=bn.trans (bS.mono (by omega))
   have hkl:(Z2 N l D i (L.take k)).length=k * 16:=by
    unfold Z2;rw [Zal,List.length_take,HML.out,Nat.min_eq_left (by omega)]
   have HKL:Hid ((Z2 N l D i (L.take k)).length=k * 16):=hkl;clear hkl hJs hO hSp hMk yy yh yd bn
   refine wpIn_rangeFunc_ownH rfl hn1 (gf:=113) (lb:=#[.pointer (some ⟨wr.heap.size+1,0,none⟩),.pointer (some ⟨wr.heap.size+1+1,0,none⟩)]) rfl trivial (enters_of Tryz.func113 (by kernel_rfl) rfl)
    (ZbR (9-1) (by omega) (wr.heap.size+1) (wr.heap.size+1+1) b off N cap l p HP.out i s hi hs M hM0' (by omega) n₀ Ws (by omega) yq yp (HS1.out.below bnS))
    KpB.trans (KpB.turn (by omega) (by omega) (by omega)) (Below.refl _ _) (fun _=>rfl)
    (fun pre W'=>(∃ xs':List Rs,J xs' W'∧ZH n₁ W' (xs'.map toRn) (Z2 N l D i (L.take k)++pre.map fun j:Nat=>kidB N l D i ((s:Int),M,nsc,ps) (j:Int)))∧Spared X Ws W')
    (fun _ _ _=>False)
    (fun pre A C row hs hg hr=>⟨by
      obtain ⟨⟨xs',h1,h2⟩,h3⟩:=hs
      refine ⟨xs',HJ.out _ _ _ h1 ⟨hg.os,hg.tape,hg.output,hg.size,fun j hj=>hg.block j (by have:=h3.size; omega) (fun e=>by have:=(hr j e.symm).1; omega)⟩,ZbL h2 hg (fun g e=>(hr g e).2)⟩,ownFrom_spared (Nat.le_refl _) pre A C row hs.2 hg hr⟩)
    (fun _ _ _ _ _ hs _ _=>hs)
    ⟨⟨xs,HJS,by rw [List.map_nil,List.append_nil]; exact HOS⟩,Spared.refl _ _⟩
    (fun j a' W'=>∃ Bc,n₁≤Bc∧Box W' Bc 140 #[.int .i64 ((i+1:Nat):Int),.int .u32 ((stepN s j:Nat):Int),.int .i64 (M+((costN (stepN s j) (ofL N l i):Nat):Int))]∧a'={ tmps:=#[.func (.yield lo) #[] #[],.pointer (some ⟨Bl,0,none⟩),.pointer (some ⟨Bh,0,none⟩),.pointer (some ⟨Bd,0,none⟩),.pointer (some ⟨n₁,0,none⟩),undef,.pointer (some ⟨wr.heap.size,0,none⟩),.int .i64 (j:Int),.pointer (some ⟨Bc,0,none⟩),u9,.slice (some ⟨lb,lof,none⟩) m lc,.int .i64 (m:Int),.int .i64 (k:Int),.bool true,.pointer (some ⟨lb,lof+k * 4,none⟩),.agg #[.int .u32 (s:Int),.int .i64 M,.int .i64 nsc,.slice pa i pc],.slice (some ⟨b,off,none⟩) N cap,.pointer (some ⟨wr.heap.size,3,none⟩),.slice pa i pc,.int .i64 (i:Int),.pointer (some ⟨wr.heap.size,0,none⟩),.int .u32 (s:Int),.pointer (some ⟨wr.heap.size,1,none⟩),.int .i64 M,.agg #[.int .i64 (i:Int),.int .u32 (s:Int),.int .i64 M],.func (.func 113) #[] #[.pointer (some ⟨wr.heap.size+1,0,none⟩),.pointer (some ⟨wr.heap.size+1+1,0,none⟩)],.int .i64 (j:Int),ZfB N l i s M j,u28,u29,u30,u31,u32,u33,u34,u35,u36,u37,u38,u39,u40,u41,u42,u43,u44,u45,u46,u47],defers:=[] })
    ?hAx ?assign ?body ?done ?stop
   case hAx =>
    rintro j a' u Y Z row ⟨Bc,h1,h2,h3⟩ hg hr;exact ⟨Bc,h1,Zbu Bc _ (fun _:Unit=>_) u Y Z row h2 hg (fun r e=>(hr r e).2),h3⟩
   case assign =>
    rintro lp pre j W' K ⟨⟨xs',h1,h2⟩,h3⟩ hK;have hsW:=h3.size;have bA:=(Below.refl W'.heap.size W').alloc (Nat.le_refl _) (.cells #[.int .i64 ((i+1:Nat):Int),.int .u32 ((stepN s j:Nat):Int),.int .i64 (M+((costN (stepN s j) (ofL N l i):Nat):Int))] 140);simp only [Zeo,ZfB];gi_wp2;exact hK _ _ ((KeepsOthers.alloc _ _).from _) (KpB.of_below bA (by omega) (by omega) (by omega)) ⟨⟨xs',HJ.out _ _ _ h1 (bA.mono (by omega)),h2.below bA (Nat.le_refl _)⟩,h3.trans (Spared.of_below bA)⟩ ⟨W'.heap.size,by omega,Box.new W' _ _,rfl⟩
   case body =>
    rintro lp pre j a' W' hlo ⟨r,hr⟩ ⟨⟨xs',h1,h2⟩,h3⟩ ⟨Bc,hBc,yx,rfl⟩ hlt16;have hsW:=h3.size;have vn:Box W' wr.heap.size 122 #[.int .u32 (s:Int),.int .i64 M,.int .i64 nsc,.slice pa i pc]:=h3.heap (hXn _ (by omega)) yn;have vy:Box W' n₁ 154 #[.func (.yield lo) #[] #[]]:=h3.heap (hXn _ (Nat.le_refl _)) zy;have vh:Box W' Bh 136 #[.slice (some ⟨b,off,none⟩) N cap]:=h3.heap hXh zh;have vd:Box W' Bd 3 #[.int .i64 (D1:Int)]:=h3.heap hXd zd;have bnW:Below n₀ W1 W':=bnS.trans (h3.below (fun j hj hx=>by have:=hX0 j hx; omega) (by omega));have cn3:=vn.cell 3 _ rfl;have bA:Below W'.heap.size W' ((W'.alloc (.cells #[.int .i64 (j:Int)] 3)).alloc (.cells #[.slice pa i pc,.slice (some ⟨W'.heap.size,0,none⟩) 1 1] 52)):=((Below.refl W'.heap.size W').alloc (Nat.le_refl _) _).alloc (by simp) _
    have xg:Box ((W'.alloc (.cells #[.int .i64 (j:Int)] 3)).alloc (.cells #[.slice pa i pc,.slice (some ⟨W'.heap.size,0,none⟩) 1 1] 52)) (W'.heap.size+1) 52 #[.slice pa i pc,.slice (some ⟨W'.heap.size,0,none⟩) 1 1]:=by
     have:=Box.new (W'.alloc (.cells #[.int .i64 (j:Int)] 3)) 52 #[.slice pa i pc,.slice (some ⟨W'.heap.size,0,none⟩) 1 1];simpa using this
    have xo:Box ((W'.alloc (.cells #[.int .i64 (j:Int)] 3)).alloc (.cells #[.slice pa i pc,.slice (some ⟨W'.heap.size,0,none⟩) 1 1] 52)) W'.heap.size 3 #[.int .i64 (j:Int)]:=(Box.new W' 3 _).alloc _;have hsA:((W'.alloc (.cells #[.int .i64 (j:Int)] 3)).alloc (.cells #[.slice pa i pc,.slice (some ⟨W'.heap.size,0,none⟩) 1 1] 52)).heap.size=W'.heap.size+2:=by simp
    have hps:Za .i64 n₀ W' (.slice pa i pc) ps:=HPV.out.below ((bS.mono (by omega)).trans (h3.below (fun j hj hx=>by have:=hX0 j hx; omega) (by omega)))
    have HCC:Hid (∀ WA:World,WA=((W'.alloc (.cells #[.int .i64 (j:Int)] 3)).alloc (.cells #[.slice pa i pc,.slice (some ⟨W'.heap.size,0,none⟩) 1 1] 52))→CallsIn Fence.wide (9-1-1-1) Tryz.prog 111 #[.slice (some ⟨W'.heap.size+1,0,none⟩) 2 2] WA fun e V=>∃ ra rc,e=.returned (.slice ra (i+1) rc)∧V.ownsRow WA.heap.size 3 1 (.slice ra (i+1) rc) (i+1) ((ps++[(j:Int)]).map (Value.int .i64))∧Below WA.heap.size WA V):=by
     rintro WA rfl;refine callsIn_wide.2 ?_
     have:=concatInts_ok (W'.heap.size+1) pa (some ⟨W'.heap.size,0,none⟩) pc 1 ps [(j:Int)] (by have:=HPL.out; omega) (by simp) (by simp) ((W'.alloc (.cells #[.int .i64 (j:Int)] 3)).alloc (.cells #[.slice pa i pc,.slice (some ⟨W'.heap.size,0,none⟩) 1 1] 52)) (by rw [HPL.out]; exact xg.cell 0 _ rfl) (xg.cell 1 _ rfl) (by rw [HPL.out]; exact (hps.below (bA.mono (by omega))).mono (by rw [hsA]; omega)) (.inr ⟨W'.heap.size,0,1,rfl,by rw [hsA]; omega,fun t ht=>by
      have ht0:t=0:=by simpa using ht
      subst ht0
      exact xo.cell 0 _ rfl⟩)
     refine this.mono ?_;rintro e V ⟨rr,rfl,ho,hb⟩;rw [HPL.out] at ho;obtain ⟨ra,rc,rfl⟩:=ZbK ho;exact ⟨ra,rc,rfl,ho,hb⟩
    have HC:=CallsIn.inRound lp (HCC.out _ rfl);have f2:Fence.wide.fn 111:=trivial;have h12:1≤9-1-1:=by omega
    clear HCC hps;gi_wp2_with (gi_at_call 111; refine HC.mono ?_; rintro e w2 ⟨ra,rc,rfl,o2,b2⟩);have bA2:Below W'.heap.size W' w2:=bA.trans (b2.mono (by omega));have hst:=Zcc s j;have hcb:=Zch HP.out i (stepN s j);have HKE:=Zgv (N:=N) (l:=l) (D:=D) (i:=i) (s:=s) (k:=j) (n:=((s:Int),M,nsc,ps)) rfl HPL.out;obtain ⟨ct,hct⟩:∃ ct,costN (stepN s j) (ofL N l i)=ct:=⟨_,rfl⟩;rw [hct] at HKE hcb yx;obtain ⟨tt,htt⟩:∃ tt,stepN s j=tt:=⟨_,rfl⟩;rw [htt] at HKE hst yx;obtain ⟨I,hI⟩:∃ I,i+1=I:=⟨_,rfl⟩;rw [hI] at HKE yx o2;rw [hI];obtain ⟨V,hV⟩:∃ V,lst stB (coB N l) N D (tt:Int) I (M+(ct:Int))=V:=⟨_,rfl⟩;rw [hV] at HKE;have HSC:=(callsIn_wide (n:=9-1-1-1)).2 (score_ok b off N cap l p HP.out D hD I tt (by omega) hst (M+(ct:Int)) (by omega) (by omega) w2.drew ((HS1.out.below (bnW.trans (bA2.mono (by omega)))).mono (by have:=bA2.size; show n₀≤w2.heap.size; omega)));rw [hV,HD1.out] at HSC;have HSC':=CallsIn.inRound lp HSC;have hSS:Box w2.drew n₁ 154 #[.func (.yield lo) #[] #[]]∧Box w2.drew Bc 140 #[.int .i64 (I:Int),.int .u32 (tt:Int),.int .i64 (M+(ct:Int))]∧Box w2.drew Bh 136 #[.slice (some ⟨b,off,none⟩) N cap]∧Box w2.drew Bd 3 #[.int .i64 (D1:Int)]:=⟨vy.next bA2.drew,yx.next bA2.drew,vh.next bA2.drew,vd.next bA2.drew⟩;refine wpIn_region_held (fun u=>Box u n₁ 154 #[.func (.yield lo) #[] #[]]∧Box u Bc 140 #[.int .i64 (I:Int),.int .u32 (tt:Int),.int .i64 (M+(ct:Int))]∧Box u Bh 136 #[.slice (some ⟨b,off,none⟩) N cap]∧Box u Bd 3 #[.int .i64 (D1:Int)]) (by kernel_rfl) ?_
    change Z4 _ _ _ _ _ _ _ _ _ _ (World.drew _)
    refine Zs (i:=0) (v:=.func (.yield lo) #[] #[]) (ZF (by kernel_rfl)) rfl (by kernel_rfl) (by kernel_rfl) (by kernel_rfl) (fun _ _ _ h=>h) ⟨.inl ⟨by rfl,fun u hu=>?_⟩,fun _=>rfl⟩ hSS ?_
    ·have g:=hu.1.cell 0 _ rfl; go_simp
    refine Zs (i:=1) (v:=.pointer (some ⟨Bc,1,none⟩)) (ZF (by kernel_rfl)) rfl (by kernel_rfl) (by kernel_rfl) (by kernel_rfl) (fun _ _ _ h=>h) ⟨.inl ⟨by rfl,fun u hu=>?_⟩,fun _=>rfl⟩ hSS ?_
    ·go_simp
    refine Zs (i:=2) (v:=.int .u32 (tt:Int)) (ZF (by kernel_rfl)) rfl (by kernel_rfl) (by kernel_rfl) (by kernel_rfl) (fun _ _ _ h=>h) ⟨.inl ⟨by rfl,fun u hu=>?_⟩,fun _=>rfl⟩ hSS ?_
    ·have g:=hu.2.1.cell 1 _ rfl; go_simp
    refine Zs (i:=3) (v:=.pointer (some ⟨Bc,2,none⟩)) (ZF (by kernel_rfl)) rfl (by kernel_rfl) (by kernel_rfl) (by kernel_rfl) (fun _ _ _ h=>h) ⟨.inl ⟨by rfl,fun u hu=>?_⟩,fun _=>rfl⟩ hSS ?_
    ·go_simp
    refine Zs (i:=4) (v:=.int .i64 (M+(ct:Int))) (ZF (by kernel_rfl)) rfl (by kernel_rfl) (by kernel_rfl) (by kernel_rfl) (fun _ _ _ h=>h) ⟨.inl ⟨by rfl,fun u hu=>?_⟩,fun _=>rfl⟩ hSS ?_
    ·have g:=hu.2.1.cell 2 _ rfl; go_simp
    refine Zs (i:=5) (v:=.slice (some ⟨b,off,none⟩) N cap) (ZF (by kernel_rfl)) rfl (by kernel_rfl) (by kernel_rfl) (by kernel_rfl) (fun _ _ _ h=>h) ⟨.inl ⟨by rfl,fun u hu=>?_⟩,fun _=>rfl⟩ hSS ?_
    ·have g:=hu.2.2.1.cell 0 _ rfl; go_simp
    refine Zs (i:=6) (v:=.agg #[.int .i64 (I:Int),.int .u32 (tt:Int),.int .i64 (M+(ct:Int))]) (ZF (by kernel_rfl)) rfl (by kernel_rfl) (by kernel_rfl) (by kernel_rfl) (fun _ _ _ h=>h) ⟨.inl ⟨by rfl,fun u hu=>?_⟩,fun _=>rfl⟩ hSS ?_
    ·have g:=hu.2.1.cell 0 _ rfl; have g1:=hu.2.1.cell 1 _ rfl; have g2:=hu.2.1.cell 2 _ rfl; go_simp
    refine Zs (i:=7) (v:=.int .i64 (D1:Int)) (ZF (by kernel_rfl)) rfl (by kernel_rfl) (by kernel_rfl) (by kernel_rfl) (fun _ _ _ h=>h) ⟨.inl ⟨by rfl,fun u hu=>?_⟩,fun _=>rfl⟩ hSS ?_
    ·have g:=hu.2.2.2.cell 0 _ rfl; go_simp
    refine Zs (i:=9) (v:=.slice ra I rc) (ZF (by kernel_rfl)) rfl (by kernel_rfl) (by kernel_rfl) (by kernel_rfl) (fun _ _ _ h=>h) ⟨.inl ⟨by rfl,fun u hu=>?_⟩,fun _=>rfl⟩ hSS ?_
    ·go_simp
    refine Zcr (i:=8) (by kernel_rfl) rfl (by rfl) fun K hK=>?_
    have f3:Fence.wide.fn 112:=trivial;go_simp;refine HSC'.mono ?_;rintro e w3 ⟨rfl,b3⟩;have b3':Below W'.heap.size W' w3:=bA2.drew.trans (b3.mono (by have:=bA2.size; show W'.heap.size≤w2.heap.size; omega));replace hSS:Box w3 n₁ 154 #[.func (.yield lo) #[] #[]]∧Box w3 Bc 140 #[.int .i64 (I:Int),.int .u32 (tt:Int),.int .i64 (M+(ct:Int))]∧Box w3 Bh 136 #[.slice (some ⟨b,off,none⟩) N cap]∧Box w3 Bd 3 #[.int .i64 (D1:Int)]:=⟨hSS.1.next b3,hSS.2.1.next b3,hSS.2.2.1.next b3,hSS.2.2.2.next b3⟩;refine hK _ _ hSS ?_;clear hK
    obtain ⟨fn,tmps,assign,body,hy,hR⟩:=HY.out xs' ((tt:Int),M+(ct:Int),V,ra,I,rc) w3 (HJ.out _ _ _ h1 (b3'.mono (by omega))) (by
     have e1:=h2.1
     rw [List.length_map,List.length_append,HKL.out,List.length_map] at e1
     omega)
    simp only [Zgw] at hy;refine Zs (i:=10) (v:=.agg #[.int .u32 (tt:Int),.int .i64 (M+(ct:Int)),.int .i64 V,.slice ra I rc]) (ZF (by kernel_rfl)) rfl (by kernel_rfl) (by kernel_rfl) (by kernel_rfl) (fun _ _ _ h=>h) ⟨.inl ⟨by rfl,fun u hu=>?_⟩,fun _=>rfl⟩ hSS ?_
    ·go_simp
    refine Zcr (i:=11) (by kernel_rfl) rfl (by rfl) fun K hK=>?_
    go_simp
    try rw [hy]
    try go_simp
    refine (round_wide hR).mono ?_;rintro e W4 ⟨rfl,hJ4,hS4⟩;have b3s:=b3'.size;replace hSS:Box W4 n₁ 154 #[.func (.yield lo) #[] #[]]∧Box W4 Bc 140 #[.int .i64 (I:Int),.int .u32 (tt:Int),.int .i64 (M+(ct:Int))]∧Box W4 Bh 136 #[.slice (some ⟨b,off,none⟩) N cap]∧Box W4 Bd 3 #[.int .i64 (D1:Int)]:=⟨hS4.heap (hXn _ (Nat.le_refl _)) hSS.1,hS4.heap (hXn _ hBc) hSS.2.1,hS4.heap hXh hSS.2.2.1,hS4.heap hXd hSS.2.2.2⟩;refine hK _ _ hSS ?_;clear hK;refine Zs (i:=12) (v:=.bool false) (ZF (by kernel_rfl)) rfl (by kernel_rfl) (by kernel_rfl) (by kernel_rfl) (fun _ _ _ h=>h) ⟨.inl ⟨by rfl,fun u hu=>?_⟩,fun _=>rfl⟩ hSS ?_
    ·go_simp
    refine wpAnyHeld_done (by kernel_rfl) ?_ _;have o3:=ZJ o2 (show Below w2.heap.size w2 w3 from (Below.refl w2.heap.size w2).drew.trans b3) (Nat.le_refl _)
    have h2':=(h2.below b3' (Nat.le_refl _)).snoc (x:=toRn ((tt:Int),M+(ct:Int),V,ra,I,rc)) (y:=kidB N l D i ((s:Int),M,nsc,ps) (j:Int)) (by rw [HKE]; rfl) (by rw [HKE]; rfl) (by rw [HKE]; rfl) (by
     rw [HKE]
     show World.ownsRow _ _ _ _ _ (ps++[(j:Int)]).length _
     rw [show (ps++[(j:Int)]).length=I by rw [List.length_append,HPL.out,← hI]; rfl]
     exact o3) (by omega) (fun u hu g hg=>by have:=h2.lt u hu g hg; omega)
    have h2'':ZH n₁ W4 ((xs'++[((tt:Int),M+(ct:Int),V,ra,I,rc)]).map toRn) (Z2 N l D i (L.take k)++(pre++[j]).map fun j:Nat=>kidB N l D i ((s:Int),M,nsc,ps) (j:Int)):=by
     rw [List.map_append,List.map_append,← List.append_assoc];exact ownRns_spared h2' hS4 hXn
    have hSW:Spared X W' W4:=(Spared.of_below b3').trans hS4;gi_wp2;exact ⟨hSW.keeps (fun j hj=>hXn j (by omega)),⟨hSW.below (fun j hj hx=>by have:=hX0 j hx; omega) (by omega),hSW.block _ (by omega) (hXn _ (by omega)),hSW.block _ (by omega) (hXn _ (by omega))⟩,⟨_,hJ4,h2''⟩,h3.trans hSW⟩
   case done =>
    rintro E ys W' hE rfl ⟨⟨xs',h1,h2⟩,h3⟩ hK;have hrg:(List.range 16).map (fun j:Nat=>kidB N l D i ((s:Int),M,nsc,ps) (j:Int))=Za7.map (kidB N l D i ((s:Int),M,nsc,ps)):=by unfold Za7; rw [List.map_map]; rfl
    rw [hrg,← kidsB_snoc,← HTK.out] at h2;have hMk':Zbf (n₁+1) (E :: Ds) W':=(HMk.out.next fun F hF=>h3.block F (HMk.out.lt F hF) (hXn F (by have:=(HMk.out.2 F hF).1; omega))).cons hK (by omega) (fun hF=>by have:=HMk.out.lt E hF; omega);have hSp':=HSpS.out.trans h3;clear hrg;gi_wp2;exact ⟨⟨_,_,_,_,_,_,_,_,_,_,_,_,_,_,_,_,_,_,_,_,_,_,_,_,_,_,_,_,_,_,_,_,_,_,_,_,_,_,_,k+1,xs',E :: Ds,hlt,h1,h2,hSp',hMk',rfl⟩,by simp [intOf]; omega⟩
   case stop =>
    rintro E c pre W' _ _ h _;exact h.elim
  ·obtain rfl:k=m:=by omega
   rw [List.take_of_length_le (by rw [HML.out]; exact Nat.le_refl _)] at hO;gi_wp2;exact Zc0 (n₁:=n₁+1) (fun W=>results_none rfl _ _ _) (fun W'=>ZH n₁ W' (xs.map toRn) (Z2 N l D i L)∧J xs W') (fun W' E o h hn hE=>⟨ZbL h.1 (grownBy_putObj' W' E o) (fun g e=>by cases e; exact ⟨_,hE,rfl⟩),HJ.out _ _ _ h.2 (ZaQ o (by omega))⟩) (fun W' h=>⟨⟨_,rfl⟩,xs,h⟩) Ds wr hMk ⟨hO,hJs⟩
end Go.Proofs.YtkigbanldiialaaGreatDoor
namespace Go.Proofs.YtkigbanldiialaaGreatDoor
open Go.RowKit Go.Shelf
attribute [local go_sem] Oper.semAt_some
theorem infoNodeB:(Tryz.prog.info? 122).map (fun i=>(i.zero,i.size,i.bytes))=some (some (.agg #[.int .u32 0,.int .i64 0,.int .i64 0,.slice none 0 0]),4,48):=by kernel_rfl
theorem spared_append {X:Nat→Prop} {W w5:World} {tmp:Obj} {g B:Nat} {v':Value} (hgrow:(W.alloc tmp).grownBy w5 (some g)) (hg:X g) (hB:X B):Spared X W (w5.setCell ⟨B,0,none⟩ v'):=by
 refine ⟨hgrow.os,hgrow.tape,hgrow.output,?_,fun k hk hx=>?_⟩
 ·have h1:=hgrow.size;have h2:(w5.setCell ⟨B,0,none⟩ v').heap.size=w5.heap.size:=by simp [World.setCell]
  rw [h2];simp at h1;omega
 ·rw [Below.heap_setCell _ _ _ _ (fun e=>hx (by rw [show k=B from e]; exact hB))];exact (hgrow.block k (by simp; omega) (fun e=>hx (by cases e; exact hg))).trans (Below.heap_alloc W tmp k hk)
theorem ZgL {A B:World} {base e size n cap k g:Nat} {xs:List Value} (h:A.ownsRow base e size (.slice (some ⟨g,0,none⟩) n cap) k xs) (hb:B.heap[g]? = A.heap[g]?):B.ownsRow base e size (.slice (some ⟨g,0,none⟩) n cap) k xs:=by
 refine ⟨h.1,?_⟩;rcases h.2 with h0 | ⟨g',cap',cur,hv,hbs,hg,hk,hm,hs,ht⟩
 ·exact .inl h0
 ·cases hv
  exact .inr ⟨g,cap,cur,rfl,hbs,hb.trans hg,hk,hm,hs,ht⟩
theorem ZH.base {b b':Nat} {W:World} {r:List Rn} {l:List Nd} (h:ZH b W r l) (hb:b'≤b):ZH b' W r l:=⟨h.1,fun j x y hx hy=>by obtain ⟨h1,h2,h3,h4⟩:=h.2.1 j x y hx hy; exact ⟨h1,h2,h3,Za3 h4 hb⟩,h.2.2⟩
theorem rnCells_snoc' (xs:List Rs) (x:Rs):Zy ((xs++[x]).map toRn)=Zy (xs.map toRn)++[.int .u32 x.1,.int .i64 x.2.1,.int .i64 x.2.2.1,.slice x.2.2.2.1 x.2.2.2.2.1 x.2.2.2.2.2]:=by
 rw [List.map_append,List.map_cons,List.map_nil,ZcX];rfl
theorem nodes_in (n:Nat) (v u:Value) (hv:ZcY v) (hu:ZcY u) (d:Int) (w:World):CallsIn Fence.wide n Tryz.prog 102 #[v,u,.int .i64 d] w fun e w'=>e=.returned (.func (.func 109) #[] #[.pointer (some ⟨w.heap.size+1,0,none⟩),.pointer (some ⟨w.heap.size,0,none⟩),.pointer (some ⟨w.heap.size+1+1,0,none⟩)])∧w'=((w.alloc (.cells #[v] 136)).alloc (.cells #[u] 117)).alloc (.cells #[.int .i64 d] 3):=by
 obtain ⟨a,k,c,rfl⟩:=hv;obtain ⟨a',k',c',rfl⟩:=hu;refine callsIn_of_wp Tryz.func102 rfl trivial ?_ rfl;simp only [Tryz.ntmps102,List.size_toArray,List.length_cons,List.length_nil,Nat.reduceAdd,Nat.reduceSub,Array.replicate_succ,Array.replicate_zero,List.push_toArray,List.append_toArray,List.nil_append,List.cons_append];gi_wp2;go_ret;exact ⟨rfl,rfl⟩
theorem allChildren_ok (b off N cap:Nat) (l:List (Int×Int)) (p:Int) (hp:Zc (N:Int) p l) (D:Nat) (hD:D≤2) (i:Nat) (hi:i<N) (L:List Nd) (m:Nat) (hm:L.length=m) (hm1:1≤m) (hm16:m≤16) (la:Option Addr) (lc:Nat)
  (hLn:∀ n∈L,(∃ s:Nat,s<4294967296∧n.1=(s:Int))∧0≤n.2.1∧n.2.1≤8192 * (i:Int)∧n.2.2.2.length=i) (w:World)
  (hS:Segs w.heap.size w (.slice (some ⟨b,off,none⟩) N cap) (Zbd N l)) (hLN:Z8 w.heap.size w (.slice la m lc) L) :
  Calls Tryz.prog 89 #[.slice (some ⟨b,off,none⟩) N cap,.slice la m lc,.int .i64 ((D+1:Nat):Int)] w fun e W'=>∃ r,e=.returned r∧Z8 W'.heap.size W' r (Z2 N l D i L)∧Below w.heap.size w W':=by
 refine (callsIn_wide (n:=9)).1 ?_;obtain ⟨i0,hi0,hz0,hz1,hz2⟩:=info_parts infoNodeB;obtain ⟨M,hM⟩:∃ M,m * 16=M:=⟨_,rfl⟩;have e16:(16:Int) * (m:Int)=(M:Int):=by omega
 have hM2:M≤256:=by omega
 have hM1:1≤M:=by omega
 have hn1:(1:Nat)≤9:=by omega
 obtain ⟨D1,hD1⟩:∃ D1,D+1=D1:=⟨_,rfl⟩;rw [hD1];have HD1:Hid (D+1=D1):=hD1;have f1:Fence.wide.fn 102:=trivial;have HP:Hid (Zc (N:Int) p l):=hp;have HM:Hid (m * 16=M):=hM;have HML:Hid (L.length=m):=hm;have HLn:Hid (∀ n∈L,(∃ s:Nat,s<4294967296∧n.1=(s:Int))∧0≤n.2.1∧n.2.1≤8192 * (i:Int)∧n.2.2.2.length=i):=hLn;have HS:Hid (Segs w.heap.size w (.slice (some ⟨b,off,none⟩) N cap) (Zbd N l)):=hS;have HLN:Hid (Z8 w.heap.size w (.slice la m lc) L):=hLN;clear hp hM hm hLn hS hLN hD1;refine callsIn_of_wp_marks Tryz.func89 rfl trivial ?_ rfl;simp only [Tryz.ntmps89,List.size_toArray,List.length_cons,List.length_nil,Nat.reduceAdd,Nat.reduceSub,Array.replicate_succ,Array.replicate_zero,List.push_toArray,List.append_toArray,List.nil_append,List.cons_append];gi_wp2_with (first | (gi_at_make; refine wpListIn_make_own _ rfl _ _ 117 rfl w.heap.size 122 i0 (.agg #[.int .u32 0,.int .i64 0,.int .i64 0,.slice none 0 0]) 4 Tryz.underlying117 hi0 hz0 hz1 .i64 .i64 _ M rfl rfl (by omega) (by rw [hz2]; omega) (by unfold maxLen; omega) (Nat.le_refl _) ?_; intro w1 hown1 hgrow1) | (gi_at_call 102; refine (nodes_in (9-1) _ _ ⟨_,_,_,rfl⟩ ⟨_,_,_,rfl⟩ _ _).mono ?_; rintro e w2 ⟨rfl,rfl⟩));have hg0:w.heap.size<w1.heap.size:=(hown1.lt w.heap.size rfl).2;have hB01:Below w.heap.size w w1:=(Below.refl _ w).grown hgrow1 (Nat.le_refl _) (fun k e=>by cases e);have bO:Box ((((w1.alloc (.cells #[.slice (some ⟨w.heap.size,0,none⟩) 0 M] 117)).alloc (.cells #[.slice (some ⟨b,off,none⟩) N cap] 136)).alloc (.cells #[.slice la m lc] 117)).alloc (.cells #[.int .i64 (D1:Int)] 3)) w1.heap.size 117 #[.slice (some ⟨w.heap.size,0,none⟩) 0 M]:=(((Box.new w1 117 _).alloc _).alloc _).alloc _;have bH:=((Box.new (w1.alloc (.cells #[.slice (some ⟨w.heap.size,0,none⟩) 0 M] 117)) 136 #[.slice (some ⟨b,off,none⟩) N cap]).alloc (.cells #[.slice la m lc] 117)).alloc (.cells #[.int .i64 (D1:Int)] 3);have bL:=(Box.new ((w1.alloc (.cells #[.slice (some ⟨w.heap.size,0,none⟩) 0 M] 117)).alloc (.cells #[.slice (some ⟨b,off,none⟩) N cap] 136)) 117 #[.slice la m lc]).alloc (.cells #[.int .i64 (D1:Int)] 3);have bD:=Box.new (((w1.alloc (.cells #[.slice (some ⟨w.heap.size,0,none⟩) 0 M] 117)).alloc (.cells #[.slice (some ⟨b,off,none⟩) N cap] 136)).alloc (.cells #[.slice la m lc] 117)) 3 #[.int .i64 (D1:Int)];simp only [World.size_alloc] at bH bL bD;have b10:Below w1.heap.size w1 ((((w1.alloc (.cells #[.slice (some ⟨w.heap.size,0,none⟩) 0 M] 117)).alloc (.cells #[.slice (some ⟨b,off,none⟩) N cap] 136)).alloc (.cells #[.slice la m lc] 117)).alloc (.cells #[.int .i64 (D1:Int)] 3)):=((((Below.refl w1.heap.size w1).alloc (Nat.le_refl _) _).alloc (by simp) _).alloc (by simp; omega) _).alloc (by simp; omega) _;have hsz:((((w1.alloc (.cells #[.slice (some ⟨w.heap.size,0,none⟩) 0 M] 117)).alloc (.cells #[.slice (some ⟨b,off,none⟩) N cap] 136)).alloc (.cells #[.slice la m lc] 117)).alloc (.cells #[.int .i64 (D1:Int)] 3)).heap.size=w1.heap.size+4:=by simp
 obtain ⟨W0,hW0⟩:∃ W0,(((w1.alloc (.cells #[.slice (some ⟨w.heap.size,0,none⟩) 0 M] 117)).alloc (.cells #[.slice (some ⟨b,off,none⟩) N cap] 136)).alloc (.cells #[.slice la m lc] 117)).alloc (.cells #[.int .i64 (D1:Int)] 3)=W0:=⟨_,rfl⟩;rw [hW0] at bO bH bL bD b10 hsz ⊢;clear hW0;have hB00:Below w.heap.size w W0:=hB01.trans (b10.mono (by omega));have hrow0:W0.ownsRow w.heap.size 122 4 (.slice (some ⟨w.heap.size,0,none⟩) 0 M) 0 []:=ZJ hown1 b10 (Nat.le_refl _);clear hown1 hgrow1 hB01
 refine wpIn_rangeFunc_all (α:=Rs) (encs:=Zgw) (N:=M) (X:=fun k=>k=w.heap.size∨k=w1.heap.size) rfl hn1 (gf:=109) (lb:=#[.pointer (some ⟨w1.heap.size+1+1,0,none⟩),.pointer (some ⟨w1.heap.size+1,0,none⟩),.pointer (some ⟨w1.heap.size+1+1+1,0,none⟩)]) rfl trivial (enters_of Tryz.func109 (by kernel_rfl) rfl)
  (fun k hk=>by rcases hk with rfl | rfl <;> omega) (fun _=>rfl)
  (fun pre W=>Box W w1.heap.size 117 #[.slice (some ⟨w.heap.size,0,none⟩) pre.length M]∧W.ownsRow w.heap.size 122 4 (.slice (some ⟨w.heap.size,0,none⟩) pre.length M) pre.length (Zy (pre.map toRn))∧Below w.heap.size W0 W)
  (fun s A B h hb=>⟨h.1.below hb (by omega),ZgL h.2.1 (hb.block _ (by omega)),h.2.2.trans (hb.mono (by omega))⟩)
  ⟨bO,hrow0,Below.refl _ _⟩
  (fun xs W=>ZH W0.heap.size W (xs.map toRn) (Z2 N l D i L))
  (fun xs W lo o o' h hl ho=>ZbL h (grownBy_putObj' W lo o') (fun g e=>by cases e; exact ⟨_,hl,ho⟩))
  ?seq
  (fun x a' W=>∃ Bx,w1.heap.size<Bx∧Box W Bx 122 #[.int .u32 x.1,.int .i64 x.2.1,.int .i64 x.2.2.1,.slice x.2.2.2.1 x.2.2.2.2.1 x.2.2.2.2.2]∧a'={ tmps:=#[.slice (some ⟨b,off,none⟩) N cap,.slice la m lc,.int .i64 (D1:Int),undef,undef,undef,.slice none 0 0,.pointer (some ⟨w1.heap.size,0,none⟩),.pointer (some ⟨Bx,0,none⟩),.slice la m lc,.int .i64 (m:Int),.int .i64 (M:Int),.slice (some ⟨w.heap.size,0,none⟩) 0 M,.slice (some ⟨b,off,none⟩) N cap,.slice la m lc,.int .i64 (D1:Int),.func (.func 109) #[] #[.pointer (some ⟨w1.heap.size+1+1,0,none⟩),.pointer (some ⟨w1.heap.size+1,0,none⟩),.pointer (some ⟨w1.heap.size+1+1+1,0,none⟩)],.agg #[.int .u32 x.1,.int .i64 x.2.1,.int .i64 x.2.2.1,.slice x.2.2.2.1 x.2.2.2.2.1 x.2.2.2.2.2],undef,undef,undef,undef,undef],defers:=[] })
  (fun x a' W lo o o' h hl ho=>by
   obtain ⟨Bx,h1,h2,h3⟩:=h
   exact ⟨Bx,h1,Zbu Bx _ (fun _:Unit=>_) () W _ (some lo) h2 (grownBy_putObj' W lo o') (fun r e=>by cases e; exact ⟨_,hl,ho⟩),h3⟩)
  ?assign ?body ?done
 case seq =>
  intro W1 J hb hs1 hJ hY h0;refine (nodes1_in (9-1) _ (W0.heap.size+1) (w1.heap.size+1+1) (w1.heap.size+1) (w1.heap.size+1+1+1) b off N cap l p HP.out D hD i hi L m HML.out hm16 la lc w.heap.size W1.heap.size (fun k=>(k=w.heap.size∨k=w1.heap.size)∨k=W0.heap.size+1) HLn.out J hJ (fun pre x W h hl=>hY pre x W h (by rw [← HM.out]; exact hl)) (fun k hk=>by rcases hk with (rfl | rfl) | rfl <;> omega) (fun k hk=>by rcases hk with (rfl | rfl) | rfl <;> omega) (by omega) (by omega) W1 rfl (by omega) (bL.below hb (by omega)) (bH.below hb (by omega)) (by rw [HD1.out]; exact bD.below hb (by omega)) ((HS.out.below hB00).below (hb.mono (by omega))) ((HLN.out.below hB00).below (hb.mono (by omega))) h0).mono ?_;rintro e W' ⟨hv,xs,h1,h2⟩;exact ⟨hv,xs,h1.base (by omega),h2⟩
 case assign =>
  rintro lo pre x W K ⟨h1,h2,h3⟩ hK;have hsW:=h3.size;have bA:=(Below.refl W.heap.size W).alloc (Nat.le_refl _) (.cells #[.int .u32 x.1,.int .i64 x.2.1,.int .i64 x.2.2.1,.slice x.2.2.2.1 x.2.2.2.2.1 x.2.2.2.2.2] 122);simp only [Zgw];gi_wp2;exact hK _ _ (Spared.of_below bA) ⟨h1.alloc _,ZgL h2 (bA.block _ (by omega)),h3.trans (bA.mono (by omega))⟩ ⟨W.heap.size,by omega,Box.new W _ _,rfl⟩
 case body =>
  rintro lo pre x a' W hsW ⟨h1,h2,h3⟩ ⟨Bx,hBx,yx,rfl⟩ hlt;have hsz3:=h3.size;have hc:=h1.cell 0 _ rfl;obtain ⟨k0,k1,k2,k3⟩:=yx.c4;have HXC:Hid (Zy ((pre++[x]).map toRn)=Zy (pre.map toRn)++[.int .u32 x.1,.int .i64 x.2.1,.int .i64 x.2.2.1,.slice x.2.2.2.1 x.2.2.2.2.1 x.2.2.2.2.2]):=rnCells_snoc' pre x;have hvb:Boxed W w1.heap.size 117 (.slice (some ⟨w.heap.size,0,none⟩) pre.length M):=h1;gi_wp2_with (gi_at_builtin; refine wpListIn_append_fits _ rfl _ _ 117 rfl w.heap.size 122 i0 4 Tryz.underlying117 hi0 hz1 w.heap.size pre.length M (Zy (pre.map toRn)) rfl (h2.alloc _) ⟨W.heap.size,0,none⟩ 1 1 [.int .u32 x.1,.int .i64 x.2.1,.int .i64 x.2.2.1,.slice x.2.2.2.1 x.2.2.2.2.1 x.2.2.2.2.2] rfl rfl (World.news_of_block (World.alloc_heap_new _ _)) (by simp [Value.oneCell']) (by omega) ?_; intro w5 hown' hgrow; obtain ⟨hv1,hv2,hr2,hk2,hb2⟩:=hvb.appended (by decide) h2 (by omega) (by omega) hown' hgrow; have hc1:=hv1.cell; have hf1:=hv1.frozen);refine ⟨spared_append hgrow (.inl rfl) (.inr rfl),?_,?_,h3.trans hb2⟩
  ·rw [List.length_append];exact hv2
  ·rw [List.length_append,HXC.out];exact hr2
 case done =>
  rintro E xs W hE hO ⟨h1,h2,h3⟩ hK;have hc:=h1.cell 0 _ rfl;have hO':=ZbL hO (grownBy_putObj' W E (.deferred none)) (fun g e=>by cases e; exact ⟨_,hK,rfl⟩);have h2':=ownsRow_putObj h2 (.deferred none) hK rfl;have hB':=(hB00.trans h3).trans (ZaQ (l:=E) (W:=W) (.deferred none) (by omega));gi_wp2;refine ⟨by simp,.inl ⟨_,_,rfl,run_takeDeferred hK,?_⟩⟩;exact ⟨_,results_tmp rfl _ _ _,_,rfl,⟨xs.map toRn,ZbJ h2',hO'.rns⟩,hB'⟩
end Go.Proofs.YtkigbanldiialaaGreatDoor
namespace Go.Proofs.YtkigbanldiialaaGreatDoor
open Go.RowKit
def ZaK (n₀:Nat) (W:World) (v:Value) (l:List Nd):Prop:=∃ r,Raw n₀ W v r∧ZaV n₀ W r l∧∀ x∈r,∃ a n c,x.2.2.2=Value.slice a n c∧n≤c
theorem ZaK.nodes {n₀:Nat} {W:World} {v:Value} {l:List Nd} (h:ZaK n₀ W v l):Z8 n₀ W v l:=by obtain ⟨r,h1,h2,_⟩:=h; exact ⟨r,h1,h2⟩
theorem ZaK.next {W W':World} {v:Value} {l:List Nd} (h:ZaK W.heap.size W v l) (hb:Below W.heap.size W W'):ZaK W'.heap.size W' v l:=by obtain ⟨r,h1,h2,h3⟩:=h; exact ⟨r,(h1.below hb).mono hb.size,(h2.below hb).mono hb.size,h3⟩
theorem Zaq.nodesC {base:Nat} {W:World} {v:Value} {l:List Nd} (h:Zaq base W v l):ZaK W.heap.size W v l:=by
 obtain ⟨r,h1,h2⟩:=h;refine ⟨r,ZbJ h1,h2.rns,fun x hx=>?_⟩;obtain ⟨j,hj,e⟩:=List.getElem_of_mem hx;have hjl:j<l.length:=by rw [← h2.1]; exact hj
 obtain ⟨_,_,_,h4⟩:=h2.2.1 j x (l[j]) (by rw [← e]; simp) (by simp);obtain ⟨a,c,e4⟩:=ZbK h4;rw [e4] at h4;exact ⟨_,_,_,e4,rowN_cap h4⟩
theorem ZaK.cap {n₀:Nat} {W:World} {v:Value} {l:List Nd} (h:ZaK n₀ W v l) {n cap:Nat} {a:Option Addr} (hv:v=.slice a n cap) (hl:l.length=n) (h0:0<n):∃ b off,a=some ⟨b,off,none⟩∧∀ (j:Nat) (y:Nd),l[j]? = some y →
   ∃ pa pc,y.2.2.2.length≤pc∧Za .i64 n₀ W (.slice pa y.2.2.2.length pc) y.2.2.2∧W.cell? ⟨b,off+j * 4+1,none⟩=some (.int .i64 y.2.1)∧W.cell? ⟨b,off+j * 4+3,none⟩=some (.slice pa y.2.2.2.length pc):=by
 obtain ⟨r,h1,h2,h3⟩:=h;subst hv;obtain ⟨b,off,rfl,_,hc⟩:=ZgI h1 (h2.1.trans hl) h0;refine ⟨b,off,rfl,fun j y hy=>?_⟩;obtain ⟨p,hp,hh⟩:=h2.get hy;obtain ⟨pa,pn,pc,e,hle⟩:=h3 _ (List.mem_of_getElem? hp);obtain ⟨pa',pc',e'⟩:=hh.shape;have e'':p=.slice pa pn pc:=e;have hcc:=hc j _ hp;rw [e'] at hh hcc;rw [e'] at e''
 cases e''
 exact ⟨_,_,hle,hh,hcc.2.1,hcc.2.2.2⟩
theorem Walk_ok (N:Nat) (p:Int) (a:Option Addr) (cap:Nat) (l:List (Int×Int)) (hp:Zc (N:Int) p l) (b:Nat) (hb1:1≤b) (hb2:b≤16) (D:Nat) (hD:D≤2) (w:World) (ha:Syms w.heap.size w (.slice a l.length cap) l) (hF:Zm w) :
  Calls Tryz.prog 73 #[.agg #[.int .i64 N,.int .i64 p,.slice a l.length cap],.int .i64 (b:Int),.int .i64 ((D+1:Nat):Int)] w fun e W'=>∃ r,e=.returned (.tuple #[r,.int .i64 (ZM N l b D N).2,.int .i64 0])∧ZaK W'.heap.size W' r (ZM N l b D N).1∧Below w.heap.size w W':=by
 have hN1:1≤N:=by have:=hp.1.1; omega
 have hN2:N<65:=by have:=hp.1.2.1; omega
 have b1:Below w.heap.size w (w.alloc (.cells #[.int .i64 N,.int .i64 p,.slice a l.length cap] 37)):=(Below.refl w.heap.size w).alloc (Nat.le_refl _) _;have HP:Hid (Zc (N:Int) p l):=hp;have HBS:=bySegment_ok N p a cap l hp _ (ha.next b1) (hF.next b1);have HAC:Hid (∀ (sb so scap i:Nat) (L:List Nd) (m:Nat) (la:Option Addr) (lc:Nat) (wx:World),i<N→L.length=m→1≤m→m≤16→(∀ n∈L,(∃ s:Nat,s<4294967296∧n.1=(s:Int))∧0≤n.2.1∧n.2.1≤8192 * (i:Int)∧n.2.2.2.length=i)→Segs wx.heap.size wx (.slice (some ⟨sb,so,none⟩) N scap) (Zbd N l)→Z8 wx.heap.size wx (.slice la m lc) L→Calls Tryz.prog 89 #[.slice (some ⟨sb,so,none⟩) N scap,.slice la m lc,.int .i64 ((D+1:Nat):Int)] wx fun e W'=>∃ r,e=.returned r∧Z8 W'.heap.size W' r (Z2 N l D i L)∧Below wx.heap.size wx W'):=fun sb so scap i L m la lc wx h1 h2 h3 h4 h5 h6 h7=>allChildren_ok sb so N scap l p hp D hD i h1 L m h2 h3 h4 la lc h5 wx h6 h7
 obtain ⟨D1,hD1⟩:∃ D1,D+1=D1:=⟨_,rfl⟩;rw [hD1] at HAC ⊢;have g1:decide ((b:Int)<1)=false:=decide_eq_false (by omega);have g2:decide ((16:Int)<(b:Int))=false:=decide_eq_false (by omega);have g2':decide (16<b)=false:=decide_eq_false (by omega);have g1':decide (b<1)=false:=decide_eq_false (by omega);have HID:=isDepth_yes (D1:Int) (by omega) (by omega);clear hp ha hF hD1;go_enter Tryz.func73,Tryz.ntmps73;go_wp2;go_step3;go_wp2_with fail;refine HBS.mono ?_;rintro e w2 ⟨r,rfl,hSg,b2⟩;clear HBS;obtain ⟨sb,so,scap,e3,hsb⟩:=hSg.shape;rw [ZdN] at e3;subst e3;have bb2:=b1.trans (b2.mono b1.size);clear b1 b2;go_wp2_with fail;refine (HID w2).mono ?_;rintro e wz ⟨rfl,rfl⟩;go_wp2_with fail;refine (root_any w2).mono ?_;rintro e w3 ⟨rfl,b3⟩;have bb3:=bb2.trans (b3.mono bb2.size);have b4:Below w3.heap.size w3 (w3.alloc (.cells #[.int .u32 (beginN:Int),.int .i64 0,.int .i64 0,.slice none 0 0] 122)):=(Below.refl _ _).alloc (Nat.le_refl _) _
 have hR:ZaK (w3.alloc (.cells #[.int .u32 (beginN:Int),.int .i64 0,.int .i64 0,.slice none 0 0] 122)).heap.size (w3.alloc (.cells #[.int .u32 (beginN:Int),.int .i64 0,.int .i64 0,.slice none 0 0] 122)) (.slice (some ⟨w3.heap.size,0,none⟩) 1 1) [((beginN:Int),0,0,[])]:=by
  refine ⟨[((beginN:Int),0,0,.slice none 0 0)],ZbJ (base:=0) (k:=1) (e:=122) ⟨rfl,.inr ⟨w3.heap.size,1,#[.int .u32 (beginN:Int),.int .i64 0,.int .i64 0,.slice none 0 0],rfl,Nat.zero_le _,World.alloc_heap_new _ _,Nat.le_refl _,by unfold maxLen; omega,rfl,rfl⟩⟩,(rnsOf_nil _ _).snoc (x:=((beginN:Int),0,0,.slice none 0 0)) (y:=((beginN:Int),0,0,[])) ⟨rfl,rfl,rfl,.inl ⟨⟨_,_,rfl,fun _=>rfl⟩,rfl⟩⟩,fun x hx=>⟨none,0,0,by simp at hx; rw [hx],Nat.le_refl _⟩⟩
 have HS4:Hid (Segs (w3.alloc (.cells #[.int .u32 (beginN:Int),.int .i64 0,.int .i64 0,.slice none 0 0] 122)).heap.size (w3.alloc (.cells #[.int .u32 (beginN:Int),.int .i64 0,.int .i64 0,.slice none 0 0] 122)) (.slice (some ⟨sb,so,none⟩) N scap) (Zbd N l)):=(hSg.next b3).next b4;have bb4:=bb3.trans (b4.mono bb3.size);have hfd:Sem.run Tryz.prog (Instr.field 140 (.agg #[.int .i64 0,.int .u32 (beginN:Int),.int .i64 0]) 1) w3=.ok (.int .u32 (beginN:Int)) w3:=rfl;clear hSg b3 b4 bb2 bb3;go_wp2;clear hfd;go_step3;go_wp2;obtain ⟨W4,hW4⟩:∃ W,w3.alloc (.cells #[.int .u32 (beginN:Int),.int .i64 0,.int .i64 0,.slice none 0 0] 122)=W:=⟨_,rfl⟩;rw [hW4] at bb4 hR HS4 ⊢;clear hW4;go_loopw [6,7,38] (fun s9 s10 s11 wr=>∃ i:Nat,i≤N∧s11=.int .i64 i∧s10=.int .i64 (ZM N l b D i).2∧ZaK wr.heap.size wr s9 (ZM N l b D i).1∧Below W4.heap.size W4 wr) (fun _ _ i _=>N-(intOf i).toNat)
 case atStart=>exact ⟨0,Nat.zero_le _,rfl,rfl,hR,Below.refl _ _⟩
 case round =>
  obtain ⟨i,hi,rfl,rfl,hL,bw⟩:=hrel;clear hR;by_cases hlt:i<N
  ·have dN:decide ((i:Int)<(N:Int))=true:=decide_eq_true (by omega);have dN':decide (i<N)=true:=decide_eq_true hlt;have hwl:=Zfl N l (D:=D) (i:=i) hb1 hb2;have hwi:=Z5 stB (coB N l) N (beginN:Int) D b hb1 i;have hws:0<(ZM N l b D i).1.length:=hwi.some;have hwc:-1≤(ZM N l b D i).2:=hwi.cut1;have HNB:Hid (∀ n∈(ZM N l b D i).1,(∃ s:Nat,s<4294967296∧n.1=(s:Int))∧0≤n.2.1∧n.2.1≤8192 * (i:Int)∧n.2.2.2.length=i):=fun n hn=>Zet HP.out hb1 hn
   have HKO:Hid (∀ x∈Z2 N l D i (ZM N l b D i).1,0≤sc x∧x.2.2.2.length=i+1):=kidsB_ok HP.out hb1;have HNX:Hid (ZM N l b D (i+1)=(Zax b (Z2 N l D i (ZM N l b D i).1),lmin (ZM N l b D i).2 (cutK sc b (Z2 N l D i (ZM N l b D i).1)))):=walkB_next N l b D i;obtain ⟨L,hLe⟩:∃ L,(ZM N l b D i).1=L:=⟨_,rfl⟩;obtain ⟨cu,hcu⟩:∃ cu,(ZM N l b D i).2=cu:=⟨_,rfl⟩;rw [hLe] at hwl hws HNB HKO HNX hL;rw [hcu] at HNX hwc ⊢;obtain ⟨la,lc,e9⟩:=hL.nodes.shape;obtain ⟨m,hm⟩:∃ m,L.length=m:=⟨_,rfl⟩;rw [hm] at e9 hwl hws;subst e9;have HCC:=HAC.out sb so scap i L m la lc wr hlt hm hws hwl HNB.out (HS4.out.next bw) hL.nodes
   have hkl:(Z2 N l D i L).length=m * 16:=by
    unfold Z2;rw [Zal,hm]
   have HKL:Hid ((Z2 N l D i L).length=m * 16):=hkl
   have hcut:cutK sc b (Z2 N l D i L) = -1∨0≤cutK sc b (Z2 N l D i L):=by
    rcases Zcw sc b (Z2 N l D i L) with ⟨e,_⟩ | ⟨⟨y,hy,ey⟩,_⟩
    ·exact .inl e
    ·refine .inr ?_;rw [← ey];exact (HKO.out y ((ZI sc _).mem_iff.1 (List.mem_of_mem_drop hy))).1
   obtain ⟨c,hc⟩:∃ c,cutK sc b (Z2 N l D i L)=c:=⟨_,rfl⟩;rw [hc] at hcut HNX;have HC:Hid (cutK sc b (Z2 N l D i L)=c):=hc;clear hLe hcu hm hL hkl hc hwi;by_cases hc0:c = -1
   ·have d0:(c == -1)=true:=by simp [hc0]
    have HLM:Hid (lmin cu c=cu):=by
     show lmin cu c=cu
     unfold lmin;rw [if_neg (by omega)]
    clear hc0 hcut;go_wp2_with (first | (go_at_call 89; refine HCC.mono ?_; rintro e w5 ⟨r5,rfl,hk5,b5⟩; have HPK:=ZeR r5 (Z2 N l D i L) (by rw [HKL.out]; omega) (fun x hx=>by rw [(HKO.out x hx).2]; omega) b hb1 hb2 (fun x hx=>(HKO.out x hx).1) w5 hk5; rw [HC.out] at HPK) | (go_at_call 88; refine HPK.mono ?_; rintro e w6 ⟨r6,rfl,o6,b6⟩; clear HPK; have HNW:Hid (ZaK w6.heap.size w6 r6 (Zax b (Z2 N l D i L))):=o6.nodesC; clear o6; have hb6:Below W4.heap.size W4 w6:=(bw.trans (b5.mono bw.size)).trans (b6.mono (Nat.le_trans bw.size b5.size))));go_roundw
    case rel=>exact ⟨i+1,by omega,by go_num,by rw [HNX.out,HLM.out],by rw [HNX.out]; exact HNW.out,hb6⟩
    case measure=>simp [intOf]; omega
   ·have d0:(c == -1)=false:=by rw [beq_eq_false_iff_ne]; exact hc0
    have hc1:0≤c:=hcut.resolve_left hc0;clear hcut hc0;by_cases hu0:cu = -1
    ·have d1:(cu == -1)=true:=by simp [hu0]
     have HLM:Hid (lmin cu c=c):=by
      show lmin cu c=c
      unfold lmin;rw [if_pos ⟨hc1,.inl (by omega)⟩]
     clear hu0 hc1 hwc;go_wp2_with (first | (go_at_call 89; refine HCC.mono ?_; rintro e w5 ⟨r5,rfl,hk5,b5⟩; have HPK:=ZeR r5 (Z2 N l D i L) (by rw [HKL.out]; omega) (fun x hx=>by rw [(HKO.out x hx).2]; omega) b hb1 hb2 (fun x hx=>(HKO.out x hx).1) w5 hk5; rw [HC.out] at HPK) | (go_at_call 88; refine HPK.mono ?_; rintro e w6 ⟨r6,rfl,o6,b6⟩; clear HPK; have HNW:Hid (ZaK w6.heap.size w6 r6 (Zax b (Z2 N l D i L))):=o6.nodesC; clear o6; have hb6:Below W4.heap.size W4 w6:=(bw.trans (b5.mono bw.size)).trans (b6.mono (Nat.le_trans bw.size b5.size))));go_roundw
     case rel=>exact ⟨i+1,by omega,by go_num,by rw [HNX.out,HLM.out],by rw [HNX.out]; exact HNW.out,hb6⟩
     case measure=>simp [intOf]; omega
    ·have d1:(cu == -1)=false:=by rw [beq_eq_false_iff_ne]; exact hu0
     by_cases hcc:c<cu
     ·have d2:decide (c<cu)=true:=decide_eq_true hcc
      have HLM:Hid (lmin cu c=c):=by
       show lmin cu c=c
       unfold lmin;rw [if_pos ⟨hc1,.inr hcc⟩]
      clear hu0 hc1 hwc hcc;go_wp2_with (first | (go_at_call 89; refine HCC.mono ?_; rintro e w5 ⟨r5,rfl,hk5,b5⟩; have HPK:=ZeR r5 (Z2 N l D i L) (by rw [HKL.out]; omega) (fun x hx=>by rw [(HKO.out x hx).2]; omega) b hb1 hb2 (fun x hx=>(HKO.out x hx).1) w5 hk5; rw [HC.out] at HPK) | (go_at_call 88; refine HPK.mono ?_; rintro e w6 ⟨r6,rfl,o6,b6⟩; clear HPK; have HNW:Hid (ZaK w6.heap.size w6 r6 (Zax b (Z2 N l D i L))):=o6.nodesC; clear o6; have hb6:Below W4.heap.size W4 w6:=(bw.trans (b5.mono bw.size)).trans (b6.mono (Nat.le_trans bw.size b5.size))));go_roundw
      case rel=>exact ⟨i+1,by omega,by go_num,by rw [HNX.out,HLM.out],by rw [HNX.out]; exact HNW.out,hb6⟩
      case measure=>simp [intOf]; omega
     ·have d2:decide (c<cu)=false:=decide_eq_false hcc
      have HLM:Hid (lmin cu c=cu):=by
       show lmin cu c=cu
       unfold lmin;rw [if_neg (by omega)]
      clear hu0 hc1 hwc hcc;go_wp2_with (first | (go_at_call 89; refine HCC.mono ?_; rintro e w5 ⟨r5,rfl,hk5,b5⟩; have HPK:=ZeR r5 (Z2 N l D i L) (by rw [HKL.out]; omega) (fun x hx=>by rw [(HKO.out x hx).2]; omega) b hb1 hb2 (fun x hx=>(HKO.out x hx).1) w5 hk5; rw [HC.out] at HPK) | (go_at_call 88; refine HPK.mono ?_; rintro e w6 ⟨r6,rfl,o6,b6⟩; clear HPK; have HNW:Hid (ZaK w6.heap.size w6 r6 (Zax b (Z2 N l D i L))):=o6.nodesC; clear o6; have hb6:Below W4.heap.size W4 w6:=(bw.trans (b5.mono bw.size)).trans (b6.mono (Nat.le_trans bw.size b5.size))));go_roundw
      case rel=>exact ⟨i+1,by omega,by go_num,by rw [HNX.out,HLM.out],by rw [HNX.out]; exact HNW.out,hb6⟩
      case measure=>simp [intOf]; omega
  ·obtain rfl:i=N:=by omega
   go_wp2;rw [Exit.noGoto_ret];refine bodyPost_ret (v:=.tuple #[u6,.int .i64 (ZM i l b D i).2,.int .i64 0]) (by simp [results,Tryz.results73]) rfl ⟨_,rfl,hL,bb4.trans (bw.mono bb4.size)⟩
theorem isTie_ok (la:Option Addr) (m lc:Nat) (L:List Nd) (hm:L.length=m) (h0:0<m) (hm2:m≤1048576) (cu:Int) (hcu:-1≤cu) (w:World) (hL:Z8 w.heap.size w (.slice la m lc) L) :
  Calls Tryz.prog 74 #[.slice la m lc,.int .i64 cu] w fun e w'=>e=.returned (.bool (decB L cu).isNone)∧w=w':=by
 obtain ⟨rb,ro,rfl,_,hc4⟩:=Zbc hL hm h0;obtain ⟨⟨s0,M,c0,ps⟩,hn0⟩:∃ n,L[0]? = some n:=⟨L[0]'(by omega),by simp⟩;have HN0:Hid (L[0]? = some (s0,M,c0,ps)):=hn0;obtain ⟨_,_,_,k1,_,_⟩:=hc4 0 _ hn0;rw [Nat.zero_mul,Nat.add_zero] at k1;have HM:Hid (L.length=m):=hm;have dm0:(0:Int)<(m:Int):=by omega
 clear hn0 hL hm;by_cases hm1:1<m
 ·have dm:decide (1<(m:Int))=true:=decide_eq_true (by omega);have dmN:decide (1<m)=true:=decide_eq_true hm1;obtain ⟨⟨s1,M1,c1,ps1⟩,hn1⟩:∃ n,L[1]? = some n:=⟨L[1]'(by rw [HM.out]; exact hm1),by simp⟩;have HN1:Hid (L[1]? = some (s1,M1,c1,ps1)):=hn1;obtain ⟨_,_,_,q1,_,_⟩:=hc4 1 _ hn1;rw [Nat.one_mul] at q1;clear hc4 hn1;by_cases hmm:M1=M
  ·have de:(M1 == M)=true:=by simp [hmm]
   have HDE:decB L cu=none:=decB_same HN0.out HN1.out hmm;clear hmm
   have HV:Hid ((decB L cu).isNone=true):=by
    show (decB L cu).isNone=true
    rw [HDE];rfl
   rw [HV.out];go_enter Tryz.func74,Tryz.ntmps74;go_wp2;go_ret;exact ⟨rfl,rfl⟩
  ·have de:(M1 == M)=false:=by simp [hmm]
   have HS:Hid (L[1]? = none∨∃ u,L[1]? = some u∧u.2.1≠M):=.inr ⟨_,HN1.out,hmm⟩;clear hmm;by_cases hc0:cu = -1
   ·have d0:(cu != -1)=false:=by simp [hc0]
    have HDE:decB L cu=some (ps,M):=Zcp (n:=(s0,M,c0,ps)) HN0.out (h1:=HS.out) (fun h=>by omega);clear hc0
    have HV:Hid ((decB L cu).isNone=false):=by
     show (decB L cu).isNone=false
     rw [HDE];rfl
    rw [HV.out];go_enter Tryz.func74,Tryz.ntmps74;go_wp2;go_ret;exact ⟨rfl,rfl⟩
   ·have d0:(cu != -1)=true:=by rw [bne_iff_ne]; exact hc0
    by_cases hcm:cu≤M
    ·have d1:decide (cu≤M)=true:=decide_eq_true hcm;have HDE:decB L cu=none:=Zf0 (n:=(s0,M,c0,ps)) HN0.out (h1:=HS.out) (by omega) hcm;clear hc0 hcm
     have HV:Hid ((decB L cu).isNone=true):=by
      show (decB L cu).isNone=true
      rw [HDE];rfl
     rw [HV.out];go_enter Tryz.func74,Tryz.ntmps74;go_wp2;go_ret;exact ⟨rfl,rfl⟩
    ·have d1:decide (cu≤M)=false:=decide_eq_false hcm;have HDE:decB L cu=some (ps,M):=Zcp (n:=(s0,M,c0,ps)) HN0.out (h1:=HS.out) (fun h=>hcm h.2);clear hc0 hcm
     have HV:Hid ((decB L cu).isNone=false):=by
      show (decB L cu).isNone=false
      rw [HDE];rfl
     rw [HV.out];go_enter Tryz.func74,Tryz.ntmps74;go_wp2;go_ret;exact ⟨rfl,rfl⟩
 ·have dm:decide (1<(m:Int))=false:=decide_eq_false (by omega);have dmN:decide (1<m)=false:=decide_eq_false hm1;have HS:Hid (L[1]? = none∨∃ u,L[1]? = some u∧u.2.1≠M):=.inl (List.getElem?_eq_none (by rw [HM.out]; omega));clear hc4;by_cases hc0:cu = -1
  ·have d0:(cu != -1)=false:=by simp [hc0]
   have HDE:decB L cu=some (ps,M):=Zcp (n:=(s0,M,c0,ps)) HN0.out (h1:=HS.out) (fun h=>by omega);clear hc0
   have HV:Hid ((decB L cu).isNone=false):=by
    show (decB L cu).isNone=false
    rw [HDE];rfl
   rw [HV.out];go_enter Tryz.func74,Tryz.ntmps74;go_wp2;go_ret;exact ⟨rfl,rfl⟩
  ·have d0:(cu != -1)=true:=by rw [bne_iff_ne]; exact hc0
   by_cases hcm:cu≤M
   ·have d1:decide (cu≤M)=true:=decide_eq_true hcm;have HDE:decB L cu=none:=Zf0 (n:=(s0,M,c0,ps)) HN0.out (h1:=HS.out) (by omega) hcm;clear hc0 hcm
    have HV:Hid ((decB L cu).isNone=true):=by
     show (decB L cu).isNone=true
     rw [HDE];rfl
    rw [HV.out];go_enter Tryz.func74,Tryz.ntmps74;go_wp2;go_ret;exact ⟨rfl,rfl⟩
   ·have d1:decide (cu≤M)=false:=decide_eq_false hcm;have HDE:decB L cu=some (ps,M):=Zcp (n:=(s0,M,c0,ps)) HN0.out (h1:=HS.out) (fun h=>hcm h.2);clear hc0 hcm
    have HV:Hid ((decB L cu).isNone=false):=by
     show (decB L cu).isNone=false
     rw [HDE];rfl
    rw [HV.out];go_enter Tryz.func74,Tryz.ntmps74;go_wp2;go_ret;exact ⟨rfl,rfl⟩
theorem decB_some {L:List Nd} {cut:Int} {ps:List Int} {M:Int} (h:decB L cut=some (ps,M)):∃ s c,L[0]? = some (s,M,c,ps):=by
 match L with
 | []=>cases h
 | ⟨s,M',c,ps'⟩ :: t =>
  simp only [decB] at h
  split at h
  ·cases h
  ·cases h
   exact ⟨s,c,rfl⟩
theorem Decode_ok (N:Nat) (p:Int) (a:Option Addr) (cap:Nat) (l:List (Int×Int)) (hp:Zc (N:Int) p l) (b:Nat) (hb1:1≤b) (hb2:b≤16) (D:Nat) (hD:D≤2) (w:World) (ha:Syms w.heap.size w (.slice a l.length cap) l) (hF:Zm w) :
  Calls Tryz.prog 58 #[.agg #[.int .i64 N,.int .i64 p,.slice a l.length cap],.int .i64 (b:Int),.int .i64 ((D+1:Nat):Int)] w fun e W'=>((decB (ZM N l b D N).1 (ZM N l b D N).2=none∧e=.returned (.tuple #[.slice none 0 0,.int .i64 0,.int .i64 5]))∨∃ ps M,decB (ZM N l b D N).1 (ZM N l b D N).2=some (ps,M)∧∃ qa qc,e=.returned (.tuple #[.slice qa ps.length qc,.int .i64 M,.int .i64 0])∧ps.length≤qc∧Za .i64 W'.heap.size W' (.slice qa ps.length qc) ps)∧Below w.heap.size w W':=by
 have b1:Below w.heap.size w (w.alloc (.cells #[.int .i64 N,.int .i64 p,.slice a l.length cap] 37)):=(Below.refl w.heap.size w).alloc (Nat.le_refl _) _;have HWK:=Walk_ok N p a cap l hp b hb1 hb2 D hD _ (ha.next b1) (hF.next b1);have hwi:=Z5 stB (coB N l) N (beginN:Int) D b hb1 N;have hsome:0<(ZM N l b D N).1.length:=hwi.some;have hwc:-1≤(ZM N l b D N).2:=hwi.cut1;have hwl:=Zfl N l (D:=D) (i:=N) hb1 hb2;obtain ⟨L,hL⟩:∃ L,(ZM N l b D N).1=L:=⟨_,rfl⟩;obtain ⟨cu,hcu⟩:∃ cu,(ZM N l b D N).2=cu:=⟨_,rfl⟩;rw [hL] at HWK hwl hsome ⊢;rw [hcu] at HWK hwc ⊢;obtain ⟨D1,hD1⟩:∃ D1,D+1=D1:=⟨_,rfl⟩;rw [hD1] at HWK ⊢;obtain ⟨m,hm⟩:∃ m,L.length=m:=⟨_,rfl⟩;have HM:Hid (L.length=m):=hm;rw [hm] at hwl hsome;obtain ⟨oz,hoz⟩:∃ oz,decB L cu=oz:=⟨_,rfl⟩;have HOZ:Hid (decB L cu=oz):=hoz;rw [hoz];clear hwi hL hcu hD1 hm hp ha hF hoz;go_enter Tryz.func58,Tryz.ntmps58;go_wp2_with fail;refine HWK.mono ?_;rintro e w4 ⟨r4,rfl,hN4,b4⟩;clear HWK;have bb4:=b1.trans (b4.mono b1.size);obtain ⟨ra,rc,e4⟩:=hN4.nodes.shape;rw [HM.out] at e4;subst e4;have HT:=isTie_ok ra m rc L HM.out hsome (by omega) cu hwc w4 hN4.nodes;rw [HOZ.out] at HT;obtain ⟨rb,ro,rfl,hc4⟩:=hN4.cap rfl HM.out hsome
 cases oz with
 | none =>
  clear hc4 hN4 b1 b4;go_wp2_with (go_at_call 74; refine HT.mono ?_; rintro e wz ⟨rfl,rfl⟩);go_ret3
  first | exact ⟨.inl ⟨rfl,rfl⟩,bb4⟩ | exact ⟨rfl,bb4⟩
 | some z =>
  obtain ⟨ps,M⟩:=z;obtain ⟨s0,c0,hn0⟩:=decB_some HOZ.out;obtain ⟨pa,pc,hpc,hpv,k1,k3⟩:=hc4 0 _ hn0;rw [Nat.zero_mul,Nat.add_zero] at k1 k3;have HPC:Hid (ps.length≤pc):=hpc;have HPH:Hid (Za .i64 w4.heap.size w4 (.slice pa ps.length pc) ps):=hpv;have dm0:(0:Int)<(m:Int):=by omega
  clear hpv b1 b4 hN4 hc4 hn0 hpc;go_wp2_with (go_at_call 74; refine HT.mono ?_; rintro e wz ⟨rfl,rfl⟩);go_quiet (fail);go_wp2;go_ret3;exact ⟨.inr ⟨ps,M,rfl,_,_,rfl,HPC.out,HPH.out⟩,ZN bb4 _⟩
end Go.Proofs.YtkigbanldiialaaGreatDoor
