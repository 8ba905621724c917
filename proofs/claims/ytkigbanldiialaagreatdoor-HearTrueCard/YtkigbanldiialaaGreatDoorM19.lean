/-
  The beam's numbers over a pile: its step, its cost, within their bounds. No program is spoken of.
-/
import Derived.Test.YtkigbanldiialaaGreatDoorM07
import Derived.Test.YtkigbanldiialaaGreatDoorM10
import Derived.Test.YtkigbanldiialaaGreatDoorM15
import Derived.Test.YtkigbanldiialaaGreatDoorM17
import Derived.Test.YtkigbanldiialaaGreatDoorM18
namespace Go.Proofs.YtkigbanldiialaaGreatDoor
def stB (s k:Int):Int:=((stepN s.toNat k.toNat:Nat):Int)
def coB (N:Nat) (l:List (Int×Int)) (j:Nat) (s:Int):Int:=((costN s.toNat (ofL N l j):Nat):Int)
theorem Zfy (s k:Nat):stB (s:Int) (k:Int)=((stepN s k:Nat):Int):=rfl
theorem Zfz (N:Nat) (l:List (Int×Int)) (j s:Nat):coB N l j (s:Int)=((costN s (ofL N l j):Nat):Int):=rfl
theorem ZaI (N:Nat) (l:List (Int×Int)):∀ (j:Nat) (s:Int),0≤coB N l j s:=fun j s=>by unfold coB; omega
theorem ZgG {N:Nat} {p:Int} {l:List (Int×Int)} (h:Zc (N:Int) p l) (j:Nat):ZaB (ofL N l j):=by
 intro x hx;unfold ofL at hx;obtain ⟨y,hy,rfl⟩:=List.mem_map.1 hx;obtain ⟨h1,h2,h3,h4⟩:=h.2.1 y ((List.mem_filter.1 hy).1);have hp:=h.1.2.2;have hN:=h.1.1
 have hlt:y.1.toNat / N<256:=by
  rw [Nat.div_lt_iff_lt_mul (by omega)];have hm:(N:Int) * p≤(N:Int) * 16:=Int.mul_le_mul_of_nonneg_left hp.2 (by omega);have:y.1<256 * N:=by omega
  omega
 refine ⟨Int.natCast_nonneg _,?_,h3,h4⟩;exact Int.ofNat_le.2 (Nat.le_of_lt_succ hlt)
theorem ofL_len {N:Nat} {p:Int} {l:List (Int×Int)} (h:Zc (N:Int) p l) (j:Nat):(ofL N l j).length≤1024:=by
 have h1:=ofL_len_le N l j;have h2:=Zap h;have h3:=h.1.prod;omega
theorem Zch {N:Nat} {p:Int} {l:List (Int×Int)} (h:Zc (N:Int) p l) (j s:Nat):costN s (ofL N l j)≤8192:=by
 have h1:=ZeN (s:=s) (ZgG h j);have h2:=ofL_len h j;omega
theorem coB_le {N:Nat} {p:Int} {l:List (Int×Int)} (h:Zc (N:Int) p l) (j:Nat) (s:Int):coB N l j s≤8192:=by
 have:=Zch h j s.toNat;unfold coB;omega
end Go.Proofs.YtkigbanldiialaaGreatDoor
namespace Go.Proofs.YtkigbanldiialaaGreatDoor
open Go.RowKit
def ZbZ (z:Int):Bool:=decide (1≤z) && decide (z≤16)
def bArg (z s m:Int):Bool:=decide (1≤z) && decide (z≤16) && decide (0≤s) && decide (s<1073741824) && decide (0≤m) && decide (m≤3)
def bLen (z m:Int) (n:Nat):Bool:=decide ((n:Int)≤z) && (decide (2≤m) || decide (z≤(n:Int)))
def errB (z s m:Int) (n:Nat):Int:=if bArg z s m then (if bLen z m n then 0 else 2) else 1
theorem Zba (z s m:Int):bArg z s m=true↔(1≤z∧z≤16)∧(0≤s∧s<1073741824)∧0≤m∧m≤3:=by
 simp only [bArg,Bool.and_eq_true,decide_eq_true_eq];omega
theorem ZbI (z m:Int) (n:Nat):bLen z m n=true↔(n:Int)≤z∧(2≤m∨z≤n):=by
 simp only [bLen,Bool.and_eq_true,Bool.or_eq_true,decide_eq_true_eq]
theorem Zci {z s m:Int} {n:Nat}:errB z s m n=0↔bArg z s m=true∧bLen z m n=true:=by
 unfold errB
 cases bArg z s m <;> cases bLen z m n <;> simp
theorem Zcj {z s m:Int} {n:Nat} (h:bArg z s m=false):errB z s m n=1:=by simp [errB,h]
theorem ZfS {z s m:Int} {n:Nat} (h:bArg z s m=true) (h':bLen z m n=false):errB z s m n=2:=by simp [errB,h,h']
def Zb0 (Z:Nat) (s m:Int) (xs:List Int):Prop:=(1≤Z∧Z≤16)∧(0≤s∧s<1073741824)∧(0≤m∧m≤3)∧xs.length≤Z∧(2≤m∨Z≤xs.length)
theorem Zck (Z:Nat) (s m:Int) (xs:List Int):errB (Z:Int) s m xs.length=0↔Zb0 Z s m xs:=by
 rw [Zci,Zba,ZbI];unfold Zb0;omega
def Zgm (s m:Int) (n:Nat):List Int:=Zj 4 s++[m,(n:Int)]
def ZdE (Z:Nat) (s m:Int) (xs:List Int):List Int:=Zgm s m xs.length++xs++List.replicate (Z-xs.length) 0
def Zu (Z:Nat) (s m:Int) (xs:List Int):List Int:=Zbg (ZdE Z s m xs)
theorem Zav (s:Int):Zj 4 s=[s / 2 ^ 24 % 256,s / 2 ^ 16 % 256,s / 2 ^ 8 % 256,s / 2 ^ 0 % 256]:=by
 simp [Zj,List.range,List.range.loop]
theorem headB_len (s m:Int) (n:Nat):(Zgm s m n).length=6:=by simp [Zgm,ZU]
theorem Zfb {Z:Nat} {s m:Int} {xs:List Int} (h:xs.length≤Z):(ZdE Z s m xs).length=Z+6:=by
 simp only [ZdE,List.length_append,headB_len,List.length_replicate];omega
theorem Zek (xs:List Int):(Zbg xs).length=xs.length+4:=by simp [Zbg,four]
theorem ZcI {Z:Nat} {s m:Int} {xs:List Int} (h:xs.length≤Z):(Zu Z s m xs).length=Z+10:=by
 rw [Zu,Zek,Zfb h]
theorem ZcJ (k:Nat) (s:Int):∀ z∈Zj k s,0≤z∧z≤255:=fun z hz=>by
 obtain ⟨i,_,rfl⟩:=List.mem_map.1 hz
 have h0:=Int.emod_nonneg (s / 2 ^ (8 * (k-1-i))) (show (256:Int)≠0 by decide)
 have h1:=Int.emod_lt_of_pos (s / 2 ^ (8 * (k-1-i))) (show (0:Int)<256 by decide)
 omega
theorem headB_bd {s m:Int} {n:Nat} (hm:0≤m∧m≤255) (hn:n≤255):∀ z∈Zgm s m n,0≤z∧z≤255:=fun z hz=>by
 rcases List.mem_append.1 hz with h | h
 ·exact ZcJ 4 s z h
 ·simp at h
  omega
theorem ZfT {Z:Nat} {s m:Int} {xs:List Int} (h:Zb0 Z s m xs) (bx:∀ z∈xs,0≤z∧z≤255):∀ z∈ZdE Z s m xs,0≤z∧z≤255:=fun z hz=>by
 obtain ⟨h1,h2,h3,h4,_⟩:=h
 rcases List.mem_append.1 hz with h | h
 ·rcases List.mem_append.1 h with h | h
  ·exact headB_bd (by omega) (by omega) z h
  ·exact bx z h
 ·have:=List.eq_of_mem_replicate h
  omega
theorem sealL_bdB {xs:List Int} (bx:∀ z∈xs,0≤z∧z≤255):∀ z∈Zbg xs,0≤z∧z≤255:=fun z hz=>by
 rcases List.mem_append.1 hz with h | h
 ·exact bx z h
 ·exact Zgh _ z h
theorem Zfc {Z:Nat} {s m:Int} {xs:List Int} (h:Zb0 Z s m xs) (bx:∀ z∈xs,0≤z∧z≤255):∀ z∈Zu Z s m xs,0≤z∧z≤255:=sealL_bdB (ZfT h bx)
theorem beNum_four (a b c d:Int):ZaU [a,b,c,d]=((a * 256+b) * 256+c) * 256+d:=by simp [ZaU]
theorem beNum_beBytes {s:Int} (h0:0≤s) (h1:s<4294967296):ZaU (Zj 4 s)=s:=by
 rw [Zav,beNum_four];have e1:(2:Int) ^ 24=16777216:=by decide
 have e2:(2:Int) ^ 16=65536:=by decide
 have e3:(2:Int) ^ 8=256:=by decide
 have e4:(2:Int) ^ 0=1:=by decide
 rw [e1,e2,e3,e4];omega
theorem Zcl (Z:Nat) (s m:Int) (xs:List Int):Zu Z s m xs=Zj 4 s++(m :: (xs.length:Int) :: (xs++(List.replicate (Z-xs.length) 0++four (sum32 (ZdE Z s m xs))))):=by
 simp [Zu,Zbg,ZdE,Zgm,List.append_assoc]
theorem bytesB_take4 (Z:Nat) (s m:Int) (xs:List Int):(Zu Z s m xs).take 4=Zj 4 s:=by rw [Zcl,Zav]; rfl
theorem bytesB_get4 (Z:Nat) (s m:Int) (xs:List Int):(Zu Z s m xs)[4]? = some m:=by rw [Zcl,Zav]; rfl
theorem bytesB_get5 (Z:Nat) (s m:Int) (xs:List Int):(Zu Z s m xs)[5]? = some (xs.length:Int):=by rw [Zcl,Zav]; rfl
theorem bytesB_drop6 (Z:Nat) (s m:Int) (xs:List Int):(Zu Z s m xs).drop 6=xs++(List.replicate (Z-xs.length) 0++four (sum32 (ZdE Z s m xs))):=by rw [Zcl,Zav]; rfl
def rdS (zs:List Int):Int:=ZaU (zs.take 4)
def rdM (zs:List Int):Int:=zs[4]?.getD 0
def rdN (zs:List Int):Nat:=(zs[5]?.getD 0).toNat
def rdX (zs:List Int):List Int:=(zs.drop 6).take (rdN zs)
def Zcm (Z:Nat) (zs:List Int):Prop:=rdN zs≤Z∧Zb0 Z (rdS zs) (rdM zs) (rdX zs)∧Zu Z (rdS zs) (rdM zs) (rdX zs)=zs
theorem Zfd {Z:Nat} {s m:Int} {xs:List Int} (h:Zb0 Z s m xs):rdS (Zu Z s m xs)=s:=by
 rw [rdS,bytesB_take4,beNum_beBytes h.2.1.1 (by have:=h.2.1.2; omega)]
theorem rdM_bytes (Z:Nat) (s m:Int) (xs:List Int):rdM (Zu Z s m xs)=m:=by rw [rdM,bytesB_get4]; rfl
theorem Zfe (Z:Nat) (s m:Int) (xs:List Int):rdN (Zu Z s m xs)=xs.length:=by rw [rdN,bytesB_get5]; rfl
theorem rdX_bytes (Z:Nat) (s m:Int) (xs:List Int):rdX (Zu Z s m xs)=xs:=by
 rw [rdX,Zfe,bytesB_drop6,List.take_append_of_le_length (Nat.le_refl _),List.take_length]
theorem readOk_bytes {Z:Nat} {s m:Int} {xs:List Int} (h:Zb0 Z s m xs):Zcm Z (Zu Z s m xs):=by
 unfold Zcm;rw [Zfd h,rdM_bytes,Zfe,rdX_bytes];exact ⟨h.2.2.2.1,h,rfl⟩
theorem isSealed_sealB (xs:List Int):ZQ (Zbg xs)=true:=by
 have hl:=Zek xs
 have ht:(Zbg xs).take ((Zbg xs).length-4)=xs:=by
  rw [hl,Nat.add_sub_cancel];unfold Zbg;rw [List.take_append_of_le_length (Nat.le_refl _),List.take_length]
 unfold ZQ;rw [ht,decide_eq_true rfl,decide_eq_true (show 4≤(Zbg xs).length by omega)];rfl
def Zak (s r f:Int) (xs:List Int):Prop:=(0≤s∧s<1073741824)∧(0≤r∧r≤255)∧(0≤f∧f≤65535)∧1≤xs.length∧xs.length≤64
def Zbr (s r f:Int) (n:Nat):List Int:=68 :: (Zj 4 s++(r :: (Zj 2 f++[(n:Int)])))
def ZgA (s r f:Int) (xs:List Int):List Int:=Zbr s r f xs.length++(Zj 2 (sum16 (Zbr s r f xs.length):Int)++xs)
theorem headD_len (s r f:Int) (n:Nat):(Zbr s r f n).length=9:=by simp [Zbr,ZU]
theorem headD_bd {s r f:Int} {n:Nat} (hr:0≤r∧r≤255) (hn:n≤255):∀ z∈Zbr s r f n,0≤z∧z≤255:=fun z hz=>by
 unfold Zbr at hz
 rcases List.mem_cons.1 hz with rfl | hz
 ·omega
 rcases List.mem_append.1 hz with h | h
 ·exact ZcJ 4 s z h
 rcases List.mem_cons.1 h with rfl | h
 ·exact hr
 rcases List.mem_append.1 h with h | h
 ·exact ZcJ 2 f z h
 ·simp at h
  omega
def dR (zs:List Int):Int:=zs[5]?.getD 0
def dN (zs:List Int):Int:=zs[8]?.getD 0
def dX (zs:List Int):List Int:=zs.drop 11
end Go.Proofs.YtkigbanldiialaaGreatDoor
namespace Go.Proofs.YtkigbanldiialaaGreatDoor
section
variable (st:Int→Int→Int) (co:Nat→Int→Int) (N:Nat)
theorem ZgH (hco:∀ i s,0≤co i s):∀ (a:Nat) (s:Int) (i:Nat) (m:Int),0≤m→m≤lst st co N a s i m
 | 0,s,i,m,_=>Int.le_refl _
 | a+1,s,i,m,hm=>by
  simp only [lst]
  split
  ·exact Int.le_refl _
  ·have each:∀ k,m≤lst st co N a (st s k) (i+1) (m+co i (st s k)):=fun k=>by
    have h1:=hco i (st s k)
    have:=ZgH hco a (st s k) (i+1) (m+co i (st s k)) (by omega)
    omega
   obtain ⟨hm1,_⟩:=Zc5 (l:=Za7.map fun k=>lst st co N a (st s k) (i+1) (m+co i (st s k))) (fun x hx=>by obtain ⟨k,_,rfl⟩:=List.mem_map.1 hx; have:=each k; omega) (by simp [ZeD])
   obtain ⟨k,_,e⟩:=List.mem_map.1 hm1
   rw [← e]
   exact each k
theorem Zgn:∀ (a:Nat) (s:Int) (i:Nat) (m:Int),i≤N→lst st co N a s i m=lst st co N (min a (N-i)) s i m
 | 0,s,i,m,_=>by rw [Nat.zero_min]
 | a+1,s,i,m,hi=>by
  by_cases he:i=N
  ·subst he
   rw [Nat.sub_self,Nat.min_zero]
   simp [lst]
  ·have e:min (a+1) (N-i)=min a (N-(i+1))+1:=by omega
   rw [e]
   simp only [lst]
   rw [if_neg he,if_neg he]
   congr 1
   refine List.map_congr_left fun k _=>?_
   exact Zgn a _ (i+1) _ (by omega)
end
def kidL (N:Nat) (l:List (Int×Int)) (a:Nat) (s:Int) (i:Nat) (m:Int) (k:Nat):Int:=lst stB (coB N l) N a (stB s (k:Int)) (i+1) (m+coB N l i (stB s (k:Int)))
theorem Zgo (N:Nat) (l:List (Int×Int)) (a:Nat) (s:Int) (i:Nat) (m:Int) (hm:0≤m) (k:Nat):m+coB N l i (stB s (k:Int))≤kidL N l a s i m k:=by
 have h:=ZaI N l i (stB s (k:Int));exact ZgH stB (coB N l) N (ZaI N l) a _ _ _ (by omega)
theorem ZfU (N:Nat) (l:List (Int×Int)) (a:Nat) (s:Int) (i:Nat) (m:Int) (hm:0≤m) (k:Nat):m≤kidL N l a s i m k:=by
 have h:=ZaI N l i (stB s (k:Int));have:=Zgo N l a s i m hm k;omega
def Zay (L:Nat→Int) (best:Int) (pre:List Nat):Int:=pre.foldl (fun b k=>min (L k) b) best
theorem bestF_snoc (L:Nat→Int) (best:Int) (pre:List Nat) (k:Nat):Zay L best (pre++[k])=min (L k) (Zay L best pre):=by unfold Zay; rw [List.foldl_append]; rfl
theorem bestF_append (L:Nat→Int) (best:Int) (pre rest:List Nat):Zay L best (pre++rest)=Zay L (Zay L best pre) rest:=by unfold Zay; rw [List.foldl_append]
theorem ZcK (L:Nat→Int):∀ (pre:List Nat) (best:Int),(∀ k∈pre,Zay L best pre≤L k)∧Zay L best pre≤best∧(Zay L best pre=best∨∃ k∈pre,Zay L best pre=L k)
 | [],best=>⟨fun k hk=>by simp at hk,Int.le_refl _,.inl rfl⟩
 | x :: pre,best=>by
  obtain ⟨h1,h2,h3⟩:=ZcK L pre (min (L x) best)
  have e:Zay L best (x :: pre)=Zay L (min (L x) best) pre:=rfl
  rw [e]
  refine ⟨fun k hk=>?_,by omega,?_⟩
  ·rcases List.mem_cons.1 hk with rfl | hk
   ·omega
   ·exact h1 k hk
  ·rcases h3 with h3 | ⟨k,hk,h3⟩
   ·by_cases hx:L x≤best
    ·exact .inr ⟨x,by simp,by rw [h3]; omega⟩
    ·exact .inl (by rw [h3]; omega)
   ·exact .inr ⟨k,by simp [hk],h3⟩
theorem bestF_low {L:Nat→Int} {m:Int} (hL:∀ k,m≤L k):∀ (pre:List Nat),Zay L m pre=m:=fun pre=>by
 obtain ⟨_,h2,h3⟩:=ZcK L pre m
 rcases h3 with h3 | ⟨k,_,h3⟩
 ·exact h3
 ·have:=hL k
  omega
theorem bestF_stop {L:Nat→Int} {m best:Int} (hL:∀ k,m≤L k) {pre xs:List Nat} (hp:pre <+: xs) (h:Zay L best pre=m):Zay L best xs=m:=by
 obtain ⟨r,rfl⟩:=hp;rw [bestF_append,h];exact bestF_low hL r
theorem bestF_all (N:Nat) (l:List (Int×Int)) (a:Nat) (s:Int) (i:Nat) (m best:Int) (hm:0≤m) (hi:i≠N):Zay (kidL N l a s i m) best (List.range 16)=min (lst stB (coB N l) N (a+1) s i m) best:=by
 have e:lst stB (coB N l) N (a+1) s i m=minF ((List.range 16).map (kidL N l a s i m)):=by
  simp only [lst];rw [if_neg hi];unfold Za7;rw [List.map_map];rfl
 rw [e];obtain ⟨h1,h2⟩:=Zc5 (l:=(List.range 16).map (kidL N l a s i m)) (fun x hx=>by obtain ⟨k,_,rfl⟩:=List.mem_map.1 hx; have:=ZfU N l a s i m hm k; omega) (by simp);obtain ⟨k0,hk0,e0⟩:=List.mem_map.1 h1;obtain ⟨g1,g2,g3⟩:=ZcK (kidL N l a s i m) (List.range 16) best;have q1:=g1 k0 hk0;rw [e0] at q1;rcases g3 with g3 | ⟨k,hk,g3⟩
 ·omega
 ·have q2:=h2 _ (List.mem_map.2 ⟨k,hk,rfl⟩);omega
theorem ofL_16 {N s:Nat} {p:Int} {l:List (Int×Int)} (hp:Zc (N:Int) p l) (hs:s<N):(ofL N l s).length≤16:=by
 obtain ⟨P,rfl⟩:=Int.eq_ofNat_of_zero_le (a:=p) (by have:=hp.1.2.2.1; omega);have h1:=Zfv N l s P;rw [ZgF hp hs] at h1;have:=hp.1.2.2.2;omega
end Go.Proofs.YtkigbanldiialaaGreatDoor
