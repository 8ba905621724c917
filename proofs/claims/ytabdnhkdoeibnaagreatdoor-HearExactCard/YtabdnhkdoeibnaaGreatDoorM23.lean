/-
  What bit.isSize, bit.fits, bit.Put, bit.Get answer, for every argument.
-/
import Derived.Test.YtabdnhkdoeibnaaGreatDoorM01
import Derived.Test.YtabdnhkdoeibnaaGreatDoorM05
import Derived.Test.YtabdnhkdoeibnaaGreatDoorM06
import Derived.Test.YtabdnhkdoeibnaaGreatDoorM15
import Derived.Maps.AppendAt
set_option maxRecDepth 100000
set_option maxHeartbeats 2000000
namespace Go.Proofs.YtabdnhkdoeibnaaGreatDoor
open Go.RowKit
theorem ZfL (n:Int) (w:World) (h1:1≤n) (h2:n≤4) :
  Calls Tryz.prog 77 #[.int .i64 n] w fun e w'=>e=.returned (.bool true)∧w=w':=by
 go_enter Tryz.func77,Tryz.ntmps77;go_wp2;go_ret;exact ⟨rfl,rfl⟩
theorem fits_neg (n k:Int) (w:World) (h:n<0) :
  Calls Tryz.prog 78 #[.int .i64 n,.int .i64 k] w fun e w'=>e=.returned (.bool false)∧w=w':=by
 go_enter Tryz.func78,Tryz.ntmps78;go_wp2;go_ret;exact ⟨rfl,rfl⟩
theorem ZhI (n k:Int) (w:World) (h:0≤n) (h0:0≤k) (hk:k≤32) :
  Calls Tryz.prog 78 #[.int .i64 n,.int .i64 k] w fun e w'=>e=.returned (.bool (n / 2 ^ k.toNat == 0))∧w=w':=by
 obtain ⟨m,rfl⟩:=Int.eq_ofNat_of_zero_le h0;rw [Int.toNat_natCast];go_enter Tryz.func78,Tryz.ntmps78;go_wp2;go_ret;exact ⟨rfl,rfl⟩
theorem fits_no (n k:Int) (w:World) (h0:0≤k) (hk:k≤32) (hn:n<0∨¬ n / 2 ^ k.toNat=0) :
  Calls Tryz.prog 78 #[.int .i64 n,.int .i64 k] w fun e w'=>e=.returned (.bool false)∧w=w':=by
 by_cases h:n<0
 ·exact fits_neg n k w h
 ·have e:=ZhI n k w (by omega) h0 hk;rw [beq_eq_false_iff_ne.2 (by omega)] at e;exact e
theorem ZhJ (n k:Int) (w:World) (h:0≤n) (h0:0≤k) (hk:k≤32) (hn:n / 2 ^ k.toNat=0) :
  Calls Tryz.prog 78 #[.int .i64 n,.int .i64 k] w fun e w'=>e=.returned (.bool true)∧w=w':=by
 have e:=ZhI n k w h h0 hk;rw [beq_iff_eq.2 hn] at e;exact e
def Zp (s:Nat) (n:Int):List Int:=(List.range s).map (fun i=>n / 2 ^ (8 * (s-1-i)) % 256)
theorem Zac (s:Nat) (n:Int):(Zp s n).length=s:=by simp [Zp]
theorem Zd6 (s m:Nat) (n:Int) (h:m<s):(Zp s n).take (s-m)=(Zp s n).take (s-(m+1))++[n / 2 ^ (8 * m) % 256]:=by
 have e:s-m=s-(m+1)+1:=by omega
 rw [e,List.take_add_one];have hi:s-(m+1)<s:=by omega
 have:(Zp s n)[s-(m+1)]? = some (n / 2 ^ (8 * m) % 256):=by
  simp only [Zp,List.getElem?_map,List.getElem?_range hi,Option.map_some];rw [show s-1-(s-(m+1))=m from by omega]
 rw [this]; rfl
theorem Zd7 {w w':World} {base e n g cap:Nat} {xs:List Value} (hown:w.ownsRow base e 1 (.slice (some ⟨g,0,none⟩) n cap) n xs) (hg:w.grownBy w' (some g)) (hb:base≤w.heap.size):Below base w w' :=
 (Below.refl _ w).grown hg hb (fun k e=>by cases e; exact (hown.lt g rfl).1)
theorem ZhK {kd:IntKind} {n₀:Nat} {W:World} {a:Option Addr} {cap:Nat} {zs:List Int} (h:Zb kd n₀ W (.slice a zs.length cap) zs) :
  (a=none→zs.length=0∧cap=0)∧∀ ad,a=some ad→∀ j u,(zs.map (Value.int kd))[j]? = some u→W.cell? (ad.add j)=some u:=by
 rcases h with ⟨⟨a',cap',e,hc⟩,rfl⟩ | ⟨b,off,cap',e,_,hcs⟩
 ·cases e
  exact ⟨fun e=>⟨rfl,hc e⟩,by simp⟩
 ·cases e
  exact ⟨fun e=>(by cases e),fun ad e=>by cases e; exact Zbp hcs⟩
theorem Ziv (a:Option Addr) (cap:Nat) (zs:List Int) (n:Int) (s:Nat) (w:World) (n₀:Nat) (h1:1≤s) (h2:s≤4) (h3:0≤n) (h4:n / 2 ^ (8 * s)=0) (h5:zs.length≤4096-s) (hn₀:n₀≤w.heap.size) (hH:Zb .u8 n₀ w (.slice a zs.length cap) zs) :
  Calls Tryz.prog 51 #[.slice a zs.length cap,.int .i64 n,.int .i64 s] w fun e W'=>∃ r,e=.returned (.tuple #[r,.int .i64 0])∧W'.ownsRow w.heap.size 5 1 r (zs.length+s) ((zs++Zp s n).map (Value.int .u8))∧Below w.heap.size w W':=by
 obtain ⟨i0,hi,hz0,hz1,hz2⟩:=info_parts Zcg
 have H4:Hid (n / 2 ^ (8 * (s:Int)).toNat=0):=by
  have e:(8 * (s:Int)).toNat=8 * s:=by omega
  show n / 2 ^ (8 * (s:Int)).toNat=0
  rw [e]; exact h4
 clear h4;have d5:decide (4096-(s:Int)<(zs.length:Int))=false:=by simp; omega
 have hcc:=(ZhK hH).1;go_enter Tryz.func51,Tryz.ntmps51;go_wp2_with (first | (go_at_call 77; refine (ZfL _ _ (by omega) (by omega)).mono ?_; rintro e w' ⟨rfl,rfl⟩) | (go_at_call 78; refine (ZhJ _ _ _ h3 (by omega) (by omega) H4.out).mono ?_; rintro e w' ⟨rfl,rfl⟩) | (at_make; refine wpList_make_own _ rfl _ _ 27 rfl w.heap.size 5 i0 (.int .u8 0) 1 Tryz.underlying27 hi hz0 hz1 .i64 .i64 _ (zs.length+s) rfl rfl (by omega) (by rw [hz2]; omega) (by unfold maxLen; omega) (Nat.le_refl _) ?_; intro w1 hown1 hgrow1) | (at_builtin; refine wpList_append_fits_any _ rfl _ _ 27 rfl w.heap.size 5 i0 1 Tryz.underlying27 hi hz1 w.heap.size 0 (zs.length+s) [] rfl hown1 a zs.length cap (zs.map (Value.int .u8)) rfl (by simp) hcc (ZhK (hH.below ((Below.refl n₀ w).grown hgrow1 hn₀ (fun k e=>by cases e)))).2 (ZcG _ _) (by omega) ?_; intro w2 hown2 hgrow2));have b1:Below w.heap.size w w1:=(Below.refl _ w).grown hgrow1 (Nat.le_refl _) (fun k e=>by cases e);have b2:Below w.heap.size w w2:=b1.trans (Zd7 hown1 hgrow2 b1.size)
 have hown2':w2.ownsRow w.heap.size 5 1 (.slice (some ⟨w.heap.size,0,none⟩) (zs.length+(s-s)) (zs.length+s)) (zs.length+(s-s)) ((zs++(Zp s n).take (s-s)).map (Value.int .u8)):=by
  simpa using hown2
 have e0:zs.length+(s-s)=zs.length:=by omega
 have E0:Hid (zs.length+(s-s)=zs.length):=e0;clear hown1 hgrow1 hown2 hgrow2 b1 hcc e0 hH;go_loopw [8,9] (fun v i wr=>∃ l:Nat,l≤s∧i=.int .i64 ((l:Int)-1)∧v=.slice (some ⟨w.heap.size,0,none⟩) (zs.length+(s-l)) (zs.length+s)∧wr.ownsRow w.heap.size 5 1 v (zs.length+(s-l)) ((zs++(Zp s n).take (s-l)).map (Value.int .u8))∧Below w.heap.size w wr) (fun _ i _=>(intOf i+1).toNat)
 case atStart=>exact ⟨s,Nat.le_refl _,rfl,by rw [E0.out],by have h:=hown2'; rw [E0.out] at h ⊢; exact h,b2⟩
 case round =>
  obtain ⟨l,hl,rfl,rfl,ho,hbw⟩:=hrel
  cases l with
  | zero =>
   go_wp2;go_ret2;refine ⟨_,rfl,?_,hbw⟩;simpa [List.take_of_length_le,Zac] using ho
  | succ m =>
   have hm:((m+1:Nat):Int)-1=(m:Int):=by omega
   rw [hm];have HM:Hid _:=Zd6 s m n (by omega);have hml:m≤3:=by omega
   go_wp2_with (at_builtin; refine wpList_append_fits _ rfl _ _ 27 rfl w.heap.size 5 i0 1 Tryz.underlying27 hi hz1 w.heap.size (zs.length+(s-(m+1))) (zs.length+s) _ rfl (ho.alloc _) ⟨wr.heap.size,0,none⟩ 1 1 [.int .u8 (n / 2 ^ (8 * m) % 256)] rfl rfl (cell_one_new _ _ _) (by simp [Value.oneCell']) (by omega) ?_; intro w3 hown3 hgrow3);have e1:zs.length+(s-(m+1))+1=zs.length+(s-m):=by omega
   have b3:Below w.heap.size w w3:=(hbw.alloc hbw.size _).trans (Zd7 (ho.alloc _) hgrow3 (by have:=hbw.size; simp; omega));refine ⟨⟨m,by omega,rfl,by rw [e1],?_,b3⟩,by simp [intOf]⟩;rw [HM.out,e1];rw [e1] at hown3;simpa using hown3
def ZaU (l:List Int):Int:=l.foldl (fun acc x=>acc * 256+x) 0
theorem ZdO (l:List Int) (x:Int):ZaU (l++[x])=ZaU l * 256+x:=by simp [ZaU]
theorem beNum_bd (l:List Int) (h:∀ z∈l,0≤z∧z≤255):0≤ZaU l∧ZaU l<256 ^ l.length:=by
 have key:∀ (k:Nat) (l:List Int),l.length=k→(∀ z∈l,0≤z∧z≤255)→0≤ZaU l∧ZaU l<256 ^ l.length:=by
  intro k
  induction k with
  | zero =>
   intro l hl _;rw [List.length_eq_zero_iff.1 hl];simp [ZaU]
  | succ k ih =>
   intro l hl hb;have hne:l≠[]:=fun e=>by rw [e] at hl; simp at hl
   rw [← List.dropLast_concat_getLast hne] at hb ⊢;have h1:=ih l.dropLast (by simp [hl]) (fun z hz=>hb z (List.mem_append_left _ hz));have h2:=hb (l.getLast hne) (by simp);rw [ZdO,List.length_append,List.length_singleton,Int.pow_succ];omega
 exact key _ l rfl h
theorem Zif (acc x:Int) (h0:0≤acc) (h1:acc<4294967296) (hx:0≤x) (hx':x≤255):bits .or .i64 (acc * 256) x=acc * 256+x:=by
 have e63:(2:Int) ^ 63=9223372036854775808:=by decide
 exact bits_join .i64 63 (by decide) Zet 8 (acc * 256) x (by omega) (by simp) (by rw [e63]; omega) hx (by simp; omega) (by rw [e63]; omega)
theorem take_drop_succ {zs:List Int} {t j:Nat} {z:Int} (h:zs[t+j]? = some z):(zs.drop t).take (j+1)=(zs.drop t).take j++[z]:=by
 rw [List.take_add_one,List.getElem?_drop,h]; rfl
theorem Zig (zs:List Int) (hz:∀ z∈zs,0≤z∧z≤255) (t j k:Nat) (hj:j≤k):0≤ZaU ((zs.drop t).take j)∧ZaU ((zs.drop t).take j)<256 ^ k:=by
 have h:=beNum_bd ((zs.drop t).take j) (fun z h=>hz z (List.mem_of_mem_drop (List.mem_of_mem_take h)));have hl:((zs.drop t).take j).length≤k:=Nat.le_trans (List.length_take_le _ _) hj;refine ⟨h.1,Int.lt_of_lt_of_le h.2 ?_⟩;have h':=Int.ofNat_le.2 (Nat.pow_le_pow_right (n:=256) (by decide) hl);rw [Int.natCast_pow,Int.natCast_pow] at h';exact h'
theorem get_ok (b off cap:Nat) (zs:List Int) (t s:Nat) (w:World) (h1:1≤s) (h2:s≤4) (h3:t+s≤zs.length) (hcap:zs.length≤cap) (hl:zs.length≤4294967296) (hz:∀ z∈zs,0≤z∧z≤255)
  (hc:∀ j,j<zs.length→w.cell? ⟨b,off+j,none⟩=some (.int .u8 (zs[j]?.getD 0))) :
  Calls Tryz.prog 124 #[.slice (some ⟨b,off,none⟩) zs.length cap,.int .i64 t,.int .i64 s] w fun e w'=>e=.returned (.tuple #[.int .i64 (ZaU ((zs.drop t).take s)),.int .i64 0])∧w=w':=by
 have d1:decide ((t:Int)<0)=false:=by simp
 have d2:decide (zs.length<t)=false:=by simp; omega
 have d3:decide ((zs.length:Int)-(t:Int)<(s:Int))=false:=by simp; omega
 go_enter Tryz.func124,Tryz.ntmps124;go_wp2_with (go_at_call 77; refine (ZfL _ _ (by omega) (by omega)).mono ?_; rintro e w' ⟨rfl,rfl⟩);go_loop [8,37] (fun n i=>∃ j:Nat,j≤s∧i=.int .i64 j∧n=.int .i64 (ZaU ((zs.drop t).take j))) (fun _ i=>s-(intOf i).toNat)
 case atStart=>exact ⟨0,Nat.zero_le _,rfl,rfl⟩
 case round =>
  obtain ⟨j,hj,rfl,rfl⟩:=hrel;have hbd:=Zig zs hz t j 3;by_cases hlt:j<s
  ·obtain ⟨z,hzk,hz0,hz1⟩:∃ z,zs[t+j]? = some z∧0≤z∧z≤255:=⟨zs[t+j],by simp,(hz _ (List.getElem_mem _)).1,(hz _ (List.getElem_mem _)).2⟩;have hcx:w.cell? ⟨b,off+t+j,none⟩=some (.int .u8 z):=by rw [Nat.add_assoc]; exact (hc (t+j) (by omega)).trans (by rw [hzk]; rfl)
   obtain ⟨h0,h1'⟩:=hbd (by omega)
   have HS:Hid (ZaU ((zs.drop t).take (j+1))=ZaU ((zs.drop t).take j) * 256+z):=by
    show ZaU ((zs.drop t).take (j+1))=ZaU ((zs.drop t).take j) * 256+z
    rw [take_drop_succ hzk,ZdO]
   obtain ⟨acc,hacc⟩:∃ acc,ZaU ((zs.drop t).take j)=acc:=⟨_,rfl⟩;rw [hacc] at h0 h1' HS ⊢;have hor:=Zif acc z h0 (by omega) hz0 hz1;have hwz:IntKind.i64.wrap z=z:=by rw [IntKind.wrap_i64]; omega
   clear hzk hacc hc hbd hz;go_wp2;exact ⟨⟨j+1,by omega,by go_num,by rw [HS.out]⟩,by simp [intOf]; omega⟩
  ·obtain rfl:j=s:=by omega
   go_wp2;go_ret2;exact ⟨rfl,rfl⟩
def Zca (z:Int):Bool:=decide (1≤z) && decide (z≤16)
def bArg (z s m:Int):Bool:=decide (1≤z) && decide (z≤16) && decide (0≤s) && decide (s<1073741824) && decide (0≤m) && decide (m≤3)
def bLen (z m:Int) (n:Nat):Bool:=decide ((n:Int)≤z) && (decide (2≤m) || decide (z≤(n:Int)))
def errB (z s m:Int) (n:Nat):Int:=if bArg z s m then (if bLen z m n then 0 else 2) else 1
theorem Zaq (z s m:Int):bArg z s m=true↔(1≤z∧z≤16)∧(0≤s∧s<1073741824)∧0≤m∧m≤3:=by
 simp only [bArg,Bool.and_eq_true,decide_eq_true_eq];omega
theorem Za6 (z m:Int) (n:Nat):bLen z m n=true↔(n:Int)≤z∧(2≤m∨z≤n):=by
 simp only [bLen,Bool.and_eq_true,Bool.or_eq_true,decide_eq_true_eq]
theorem ZbX {z s m:Int} {n:Nat}:errB z s m n=0↔bArg z s m=true∧bLen z m n=true:=by
 unfold errB
 cases bArg z s m <;> cases bLen z m n <;> simp
theorem ZaV {z s m:Int} {n:Nat} (h:bArg z s m=false):errB z s m n=1:=by simp [errB,h]
theorem Zer {z s m:Int} {n:Nat} (h:bArg z s m=true) (h':bLen z m n=false):errB z s m n=2:=by simp [errB,h,h']
def ZbM (Z:Nat) (s m:Int) (xs:List Int):Prop:=(1≤Z∧Z≤16)∧(0≤s∧s<1073741824)∧(0≤m∧m≤3)∧xs.length≤Z∧(2≤m∨Z≤xs.length)
theorem ZbY (Z:Nat) (s m:Int) (xs:List Int):errB (Z:Int) s m xs.length=0↔ZbM Z s m xs:=by
 rw [ZbX,Zaq,Za6];unfold ZbM;omega
def Zfl (s m:Int) (n:Nat):List Int:=Zp 4 s++[m,(n:Int)]
def Zdq (Z:Nat) (s m:Int) (xs:List Int):List Int:=Zfl s m xs.length++xs++List.replicate (Z-xs.length) 0
def ZC (Z:Nat) (s m:Int) (xs:List Int):List Int:=ZaS (Zdq Z s m xs)
theorem Zbc (s:Int):Zp 4 s=[s / 2 ^ 24 % 256,s / 2 ^ 16 % 256,s / 2 ^ 8 % 256,s / 2 ^ 0 % 256]:=by
 simp [Zp,List.range,List.range.loop]
theorem headB_len (s m:Int) (n:Nat):(Zfl s m n).length=6:=by simp [Zfl,Zac]
theorem Zdr {Z:Nat} {s m:Int} {xs:List Int} (h:xs.length≤Z):(Zdq Z s m xs).length=Z+6:=by
 simp only [Zdq,List.length_append,headB_len,List.length_replicate];omega
theorem ZfM (xs:List Int):(ZaS xs).length=xs.length+4:=by simp [ZaS,four]
theorem ZfN {Z:Nat} {s m:Int} {xs:List Int} (h:xs.length≤Z):(ZC Z s m xs).length=Z+10:=by
 rw [ZC,ZfM,Zdr h]
theorem ZdP (k:Nat) (s:Int):∀ z∈Zp k s,0≤z∧z≤255:=fun z hz=>by
 obtain ⟨i,_,rfl⟩:=List.mem_map.1 hz
 have h0:=Int.emod_nonneg (s / 2 ^ (8 * (k-1-i))) (show (256:Int)≠0 by decide)
 have h1:=Int.emod_lt_of_pos (s / 2 ^ (8 * (k-1-i))) (show (0:Int)<256 by decide)
 omega
theorem headB_bd {s m:Int} {n:Nat} (hm:0≤m∧m≤255) (hn:n≤255):∀ z∈Zfl s m n,0≤z∧z≤255:=fun z hz=>by
 rcases List.mem_append.1 hz with h | h
 ·exact ZdP 4 s z h
 ·simp at h
  omega
theorem Zgo {Z:Nat} {s m:Int} {xs:List Int} (h:ZbM Z s m xs) (bx:∀ z∈xs,0≤z∧z≤255):∀ z∈Zdq Z s m xs,0≤z∧z≤255:=fun z hz=>by
 obtain ⟨h1,h2,h3,h4,_⟩:=h
 rcases List.mem_append.1 hz with h | h
 ·rcases List.mem_append.1 h with h | h
  ·exact headB_bd (by omega) (by omega) z h
  ·exact bx z h
 ·have:=List.eq_of_mem_replicate h
  omega
theorem sealL_bdB {xs:List Int} (bx:∀ z∈xs,0≤z∧z≤255):∀ z∈ZaS xs,0≤z∧z≤255:=fun z hz=>by
 rcases List.mem_append.1 hz with h | h
 ·exact bx z h
 ·exact Zh6 _ z h
theorem bytesB_bd {Z:Nat} {s m:Int} {xs:List Int} (h:ZbM Z s m xs) (bx:∀ z∈xs,0≤z∧z≤255):∀ z∈ZC Z s m xs,0≤z∧z≤255:=sealL_bdB (Zgo h bx)
theorem beNum_four (a b c d:Int):ZaU [a,b,c,d]=((a * 256+b) * 256+c) * 256+d:=by simp [ZaU]
theorem beNum_beBytes {s:Int} (h0:0≤s) (h1:s<4294967296):ZaU (Zp 4 s)=s:=by
 rw [Zbc,beNum_four];have e1:(2:Int) ^ 24=16777216:=by decide
 have e2:(2:Int) ^ 16=65536:=by decide
 have e3:(2:Int) ^ 8=256:=by decide
 have e4:(2:Int) ^ 0=1:=by decide
 rw [e1,e2,e3,e4];omega
theorem Zds (Z:Nat) (s m:Int) (xs:List Int):ZC Z s m xs=Zp 4 s++(m :: (xs.length:Int) :: (xs++(List.replicate (Z-xs.length) 0++four (sum32 (Zdq Z s m xs))))):=by
 simp [ZC,ZaS,Zdq,Zfl,List.append_assoc]
theorem bytesB_take4 (Z:Nat) (s m:Int) (xs:List Int):(ZC Z s m xs).take 4=Zp 4 s:=by rw [Zds,Zbc]; rfl
theorem bytesB_get4 (Z:Nat) (s m:Int) (xs:List Int):(ZC Z s m xs)[4]? = some m:=by rw [Zds,Zbc]; rfl
theorem bytesB_get5 (Z:Nat) (s m:Int) (xs:List Int):(ZC Z s m xs)[5]? = some (xs.length:Int):=by rw [Zds,Zbc]; rfl
theorem bytesB_drop6 (Z:Nat) (s m:Int) (xs:List Int):(ZC Z s m xs).drop 6=xs++(List.replicate (Z-xs.length) 0++four (sum32 (Zdq Z s m xs))):=by rw [Zds,Zbc]; rfl
def rdS (zs:List Int):Int:=ZaU (zs.take 4)
def rdM (zs:List Int):Int:=zs[4]?.getD 0
def rdN (zs:List Int):Nat:=(zs[5]?.getD 0).toNat
def rdX (zs:List Int):List Int:=(zs.drop 6).take (rdN zs)
def Zby (Z:Nat) (zs:List Int):Prop:=rdN zs≤Z∧ZbM Z (rdS zs) (rdM zs) (rdX zs)∧ZC Z (rdS zs) (rdM zs) (rdX zs)=zs
theorem ZgP {Z:Nat} {s m:Int} {xs:List Int} (h:ZbM Z s m xs):rdS (ZC Z s m xs)=s:=by
 rw [rdS,bytesB_take4,beNum_beBytes h.2.1.1 (by have:=h.2.1.2; omega)]
theorem rdM_bytes (Z:Nat) (s m:Int) (xs:List Int):rdM (ZC Z s m xs)=m:=by rw [rdM,bytesB_get4]; rfl
theorem ZgQ (Z:Nat) (s m:Int) (xs:List Int):rdN (ZC Z s m xs)=xs.length:=by rw [rdN,bytesB_get5]; rfl
theorem rdX_bytes (Z:Nat) (s m:Int) (xs:List Int):rdX (ZC Z s m xs)=xs:=by
 rw [rdX,ZgQ,bytesB_drop6,List.take_append_of_le_length (Nat.le_refl _),List.take_length]
theorem readOk_bytes {Z:Nat} {s m:Int} {xs:List Int} (h:ZbM Z s m xs):Zby Z (ZC Z s m xs):=by
 unfold Zby;rw [ZgP h,rdM_bytes,ZgQ,rdX_bytes];exact ⟨h.2.2.2.1,h,rfl⟩
theorem isSealed_sealB (xs:List Int):Zv (ZaS xs)=true:=by
 have hl:=ZfM xs
 have ht:(ZaS xs).take ((ZaS xs).length-4)=xs:=by
  rw [hl,Nat.add_sub_cancel];unfold ZaS;rw [List.take_append_of_le_length (Nat.le_refl _),List.take_length]
 unfold Zv;rw [ht,decide_eq_true rfl,decide_eq_true (show 4≤(ZaS xs).length by omega)];rfl
theorem Zcv (z s m:Int) (a:Option Addr) (n cap:Nat) (w:World) :
  Calls Tryz.prog 62 #[.int .i64 z,.agg #[.int .i64 s,.int .i64 m,.slice a n cap]] w fun e w'=>e=.returned (.int .i64 (errB z s m n))∧Below w.heap.size w w':=by
 have b1:Below w.heap.size w (w.alloc (.cells #[.int .i64 s,.int .i64 m,.slice a n cap] 68)):=(Below.refl w.heap.size w).alloc (Nat.le_refl _) _;by_cases h0:z<1
 ·have d0:decide (z<1)=true:=decide_eq_true h0;rw [ZaV (by rw [← Bool.not_eq_true,Zaq]; omega)];clear h0;go_enter Tryz.func62,Tryz.ntmps62;go_wp2;go_ret;exact ⟨rfl,b1⟩
 have d0:decide (z<1)=false:=decide_eq_false h0;by_cases h1:16<z
 ·have d1:decide (16<z)=true:=decide_eq_true h1;rw [ZaV (by rw [← Bool.not_eq_true,Zaq]; omega)];clear h0 h1;go_enter Tryz.func62,Tryz.ntmps62;go_wp2;go_ret;exact ⟨rfl,b1⟩
 have d1:decide (16<z)=false:=decide_eq_false h1;by_cases h2:s<0
 ·have d2:decide (s<0)=true:=decide_eq_true h2;rw [ZaV (by rw [← Bool.not_eq_true,Zaq]; omega)];clear h0 h1 h2;go_enter Tryz.func62,Tryz.ntmps62;go_wp2;go_ret;exact ⟨rfl,b1⟩
 have d2:decide (s<0)=false:=decide_eq_false h2;by_cases h3:1073741824≤s
 ·have d3:decide (1073741824≤s)=true:=decide_eq_true h3;rw [ZaV (by rw [← Bool.not_eq_true,Zaq]; omega)];clear h0 h1 h2 h3;go_enter Tryz.func62,Tryz.ntmps62;go_wp2;go_ret;exact ⟨rfl,b1⟩
 have d3:decide (1073741824≤s)=false:=decide_eq_false h3;by_cases h4:m<0
 ·have d4:decide (m<0)=true:=decide_eq_true h4;rw [ZaV (by rw [← Bool.not_eq_true,Zaq]; omega)];clear h0 h1 h2 h3 h4;go_enter Tryz.func62,Tryz.ntmps62;go_wp2;go_ret;exact ⟨rfl,b1⟩
 have d4:decide (m<0)=false:=decide_eq_false h4;by_cases h5:3<m
 ·have d5:decide (3<m)=true:=decide_eq_true h5;rw [ZaV (by rw [← Bool.not_eq_true,Zaq]; omega)];clear h0 h1 h2 h3 h4 h5;go_enter Tryz.func62,Tryz.ntmps62;go_wp2;go_ret;exact ⟨rfl,b1⟩
 have d5:decide (3<m)=false:=decide_eq_false h5;have hA:bArg z s m=true:=(Zaq _ _ _).2 (by omega);by_cases h6:z<(n:Int)
 ·have d6:decide (z<(n:Int))=true:=decide_eq_true h6;rw [Zer hA (by rw [← Bool.not_eq_true,Za6]; omega)];clear hA h0 h1 h2 h3 h4 h5 h6;go_enter Tryz.func62,Tryz.ntmps62;go_wp2;go_ret;exact ⟨rfl,b1⟩
 have d6:decide (z<(n:Int))=false:=decide_eq_false h6;by_cases h7:m<2
 ·have d7:decide (m<2)=true:=decide_eq_true h7;by_cases h8:(n:Int)<z
  ·have d8:decide ((n:Int)<z)=true:=decide_eq_true h8;rw [Zer hA (by rw [← Bool.not_eq_true,Za6]; omega)];clear hA h0 h1 h2 h3 h4 h5 h6 h7 h8;go_enter Tryz.func62,Tryz.ntmps62;go_wp2;go_ret;exact ⟨rfl,b1⟩
  have d8:decide ((n:Int)<z)=false:=decide_eq_false h8;rw [ZbX.2 ⟨hA,(Za6 _ _ _).2 (by omega)⟩];clear hA h0 h1 h2 h3 h4 h5 h6 h7 h8;go_enter Tryz.func62,Tryz.ntmps62;go_wp2;go_ret;exact ⟨rfl,b1⟩
 have d7:decide (m<2)=false:=decide_eq_false h7;rw [ZbX.2 ⟨hA,(Za6 _ _ _).2 (by omega)⟩];clear hA h0 h1 h2 h3 h4 h5 h6 h7;go_enter Tryz.func62,Tryz.ntmps62;go_wp2;go_ret;exact ⟨rfl,b1⟩
theorem refBe_any (n:Int) (s:Nat) (h2:s≤4) (w:World) :
  Calls Tryz.prog 86 #[.int .i64 n,.int .i64 s] w fun e W'=>∃ r,e=.returned r∧W'.ownsRow w.heap.size 5 1 r s ((Zp s n).map (Value.int .u8))∧Below w.heap.size w W':=by
 obtain ⟨i0,hi,hz0,hz1,hz2⟩:=info_parts Zcg;go_enter Tryz.func86,Tryz.ntmps86;go_wp2;go_loopw [5,6] (fun v i wr=>∃ l:Nat,l≤s∧i=.int .i64 ((l:Int)-1)∧wr.ownsRow w.heap.size 5 1 v (s-l) (((Zp s n).take (s-l)).map (Value.int .u8))∧Below w.heap.size w wr) (fun _ i _=>(intOf i+1).toNat)
 case atStart=>exact ⟨s,Nat.le_refl _,rfl,by simpa using World.ownsRow_nil _ _ _ _,Below.refl _ _⟩
 case round =>
  obtain ⟨l,hl,rfl,ho,hbw⟩:=hrel
  cases l with
  | zero =>
   go_wp2;go_ret;refine ⟨_,rfl,?_,hbw⟩;simpa [List.take_of_length_le,Zac] using ho
  | succ m =>
   have hm:((m+1:Nat):Int)-1=(m:Int):=by omega
   rw [hm];have HM:Hid _:=Zd6 s m n (by omega);have hml:m≤3:=by omega
   go_wp2_with (at_builtin; refine wpList_append_own _ rfl _ _ 27 rfl w.heap.size 5 i0 (.int .u8 0) 1 1 Tryz.underlying27 hi hz0 hz1 hz2 rfl (by decide) _ (s-(m+1)) _ rfl (ho.alloc _) ⟨wr.heap.size,0,none⟩ 1 1 [.int .u8 (n / 2 ^ (8 * m) % 256)] rfl rfl (cell_one_new _ _ _) (by simp [Value.oneCell']) (by unfold maxLen; omega) (by omega) (by have:=hbw.size; simp; omega) ?_; intro v3 w3 hown3 hgrow3 _);have e1:s-(m+1)+1=s-m:=by omega
   have b3:Below w.heap.size w w3:=(hbw.alloc hbw.size _).trans ((Below.refl _ _).grown hgrow3 (by have:=hbw.size; simp; omega) (fun k e=>(ho.lt k e).1));refine ⟨⟨m,by omega,rfl,?_,b3⟩,by simp [intOf]⟩;rw [HM.out];rw [e1] at hown3;simpa using hown3
theorem ZcR (b off cap:Nat) (zs:List Int) (h4:zs.length≤4) (bz:∀ z∈zs,0≤z∧z≤255) (w:World)
  (hc:∀ j,j<zs.length→w.cell? ⟨b,off+j,none⟩=some (.int .u8 (zs[j]?.getD 0))) :
  Calls Tryz.prog 61 #[.slice (some ⟨b,off,none⟩) zs.length cap] w fun e w'=>e=.returned (.int .i64 (ZaU zs))∧w=w':=by
 go_enter Tryz.func61,Tryz.ntmps61;go_wp2;go_loop [3,4] (fun v i=>∃ k:Nat,k≤zs.length∧i=.int .i64 k∧v=.int .i64 (ZaU (zs.take k))) (fun _ i=>zs.length-(intOf i).toNat)
 case atStart=>exact ⟨0,Nat.zero_le _,rfl,rfl⟩
 case round =>
  obtain ⟨k,hk,rfl,rfl⟩:=hrel;by_cases hlt:k<zs.length
  ·obtain ⟨x,hx⟩:∃ x,zs[k]? = some x:=⟨zs[k]'hlt,by simp⟩;have hcx:w.cell? ⟨b,off+k,none⟩=some (.int .u8 x):=(hc k hlt).trans (by rw [hx]; rfl);have hx2:=bz x (List.mem_of_getElem? hx);have hb:=Zig zs bz 0 k 3 (by omega);rw [List.drop_zero] at hb;have e3:(256:Int) ^ 3=16777216:=by decide
   rw [e3] at hb
   have HN:Hid (ZaU (zs.take (k+1))=ZaU (zs.take k) * 256+x):=by
    show ZaU (zs.take (k+1))=ZaU (zs.take k) * 256+x
    rw [List.take_add_one,hx]; exact ZdO _ _
   obtain ⟨v,hv⟩:∃ v,ZaU (zs.take k)=v:=⟨_,rfl⟩;rw [hv] at hb HN ⊢;have ej:=Zif v x hb.1 (by omega) hx2.1 hx2.2;have hwz:IntKind.i64.wrap x=x:=by rw [IntKind.wrap_i64]; omega
   clear hv hx hc bz;go_wp2;exact ⟨⟨k+1,by omega,by go_num,by rw [HN.out]⟩,by simp [intOf]; omega⟩
  ·obtain rfl:k=zs.length:=by omega
   rw [List.take_length];go_wp2;go_ret;exact ⟨rfl,rfl⟩
def dArg (s r f:Int):Bool:=decide (0≤s) && decide (s<1073741824) && decide (0≤r) && decide (r≤255) && decide (0≤f) && decide (f≤65535)
def errD (s r f:Int) (n:Nat):Int:=if dArg s r f then (if 1≤n∧n≤64 then 0 else 2) else 1
theorem Zar (s r f:Int):dArg s r f=true↔(0≤s∧s<1073741824)∧(0≤r∧r≤255)∧0≤f∧f≤65535:=by
 simp only [dArg,Bool.and_eq_true,decide_eq_true_eq];omega
theorem ZaW {s r f:Int} {n:Nat} (h:dArg s r f=false):errD s r f n=1:=by simp [errD,h]
theorem Zgp {s r f:Int} {n:Nat} (h:dArg s r f=true) (h':¬ (1≤n∧n≤64)):errD s r f n=2:=by rw [errD,if_pos h,if_neg h']
theorem Ze1 {s r f:Int} {n:Nat}:errD s r f n=0↔dArg s r f=true∧1≤n∧n≤64:=by
 unfold errD
 cases dArg s r f
 ·simp
 ·by_cases h:1≤n∧n≤64
  ·simp [h]
  ·simp [h]
def Zau (s r f:Int) (xs:List Int):Prop:=(0≤s∧s<1073741824)∧(0≤r∧r≤255)∧(0≤f∧f≤65535)∧1≤xs.length∧xs.length≤64
theorem ZbZ (s r f:Int) (xs:List Int):errD s r f xs.length=0↔Zau s r f xs:=by
 rw [Ze1,Zar];unfold Zau;omega
def Zcw (s r f:Int) (n:Nat):List Int:=68 :: (Zp 4 s++(r :: (Zp 2 f++[(n:Int)])))
def Zin (s r f:Int) (xs:List Int):List Int:=Zcw s r f xs.length++(Zp 2 (sum16 (Zcw s r f xs.length):Int)++xs)
theorem headD_len (s r f:Int) (n:Nat):(Zcw s r f n).length=9:=by simp [Zcw,Zac]
theorem headD_bd {s r f:Int} {n:Nat} (hr:0≤r∧r≤255) (hn:n≤255):∀ z∈Zcw s r f n,0≤z∧z≤255:=fun z hz=>by
 unfold Zcw at hz
 rcases List.mem_cons.1 hz with rfl | hz
 ·omega
 rcases List.mem_append.1 hz with h | h
 ·exact ZdP 4 s z h
 rcases List.mem_cons.1 h with rfl | h
 ·exact hr
 rcases List.mem_append.1 h with h | h
 ·exact ZdP 2 f z h
 ·simp at h
  omega
def dS (zs:List Int):Int:=ZaU ((zs.drop 1).take 4)
def dR (zs:List Int):Int:=zs[5]?.getD 0
def dN (zs:List Int):Int:=zs[8]?.getD 0
def dX (zs:List Int):List Int:=zs.drop 11
theorem refData_any (s r f:Int) (a:Option Addr) (n cap:Nat) (w:World) :
  Calls Tryz.prog 17 #[.agg #[.int .i64 s,.int .i64 r,.int .i64 f,.slice a n cap]] w fun e w'=>e=.returned (.int .i64 (errD s r f n))∧Below w.heap.size w w':=by
 have b1:Below w.heap.size w (w.alloc (.cells #[.int .i64 s,.int .i64 r,.int .i64 f,.slice a n cap] 31)):=(Below.refl w.heap.size w).alloc (Nat.le_refl _) _;by_cases h0:s<0
 ·have d0:decide (s<0)=true:=decide_eq_true h0;rw [ZaW (by rw [← Bool.not_eq_true,Zar]; omega)];clear h0;go_enter Tryz.func17,Tryz.ntmps17;go_wp2;go_ret;exact ⟨rfl,b1⟩
 have d0:decide (s<0)=false:=decide_eq_false h0;by_cases h1:1073741824≤s
 ·have d1:decide (1073741824≤s)=true:=decide_eq_true h1;rw [ZaW (by rw [← Bool.not_eq_true,Zar]; omega)];clear h0 h1;go_enter Tryz.func17,Tryz.ntmps17;go_wp2;go_ret;exact ⟨rfl,b1⟩
 have d1:decide (1073741824≤s)=false:=decide_eq_false h1;by_cases h2:r<0
 ·have d2:decide (r<0)=true:=decide_eq_true h2;rw [ZaW (by rw [← Bool.not_eq_true,Zar]; omega)];clear h0 h1 h2;go_enter Tryz.func17,Tryz.ntmps17;go_wp2;go_ret;exact ⟨rfl,b1⟩
 have d2:decide (r<0)=false:=decide_eq_false h2;by_cases h3:255<r
 ·have d3:decide (255<r)=true:=decide_eq_true h3;rw [ZaW (by rw [← Bool.not_eq_true,Zar]; omega)];clear h0 h1 h2 h3;go_enter Tryz.func17,Tryz.ntmps17;go_wp2;go_ret;exact ⟨rfl,b1⟩
 have d3:decide (255<r)=false:=decide_eq_false h3;by_cases h4:f<0
 ·have d4:decide (f<0)=true:=decide_eq_true h4;rw [ZaW (by rw [← Bool.not_eq_true,Zar]; omega)];clear h0 h1 h2 h3 h4;go_enter Tryz.func17,Tryz.ntmps17;go_wp2;go_ret;exact ⟨rfl,b1⟩
 have d4:decide (f<0)=false:=decide_eq_false h4;by_cases h5:65535<f
 ·have d5:decide (65535<f)=true:=decide_eq_true h5;rw [ZaW (by rw [← Bool.not_eq_true,Zar]; omega)];clear h0 h1 h2 h3 h4 h5;go_enter Tryz.func17,Tryz.ntmps17;go_wp2;go_ret;exact ⟨rfl,b1⟩
 have d5:decide (65535<f)=false:=decide_eq_false h5;have hA:dArg s r f=true:=(Zar _ _ _).2 (by omega);clear h0 h1 h2 h3 h4 h5;by_cases h6:n<1
 ·have d6:decide ((n:Int)<1)=true:=decide_eq_true (by omega);have d6':decide (n<1)=true:=decide_eq_true h6;rw [Zgp hA (by omega)];clear hA h6;go_enter Tryz.func17,Tryz.ntmps17;go_wp2;go_ret;exact ⟨rfl,b1⟩
 have d6:decide ((n:Int)<1)=false:=decide_eq_false (by omega);have d6':decide (n<1)=false:=decide_eq_false h6;by_cases h7:64<n
 ·have d7:decide (64<(n:Int))=true:=decide_eq_true (by omega);have d7':decide (64<n)=true:=decide_eq_true h7;rw [Zgp hA (by omega)];clear hA h6 h7;go_enter Tryz.func17,Tryz.ntmps17;go_wp2;go_ret;exact ⟨rfl,b1⟩
 have d7:decide (64<(n:Int))=false:=decide_eq_false (by omega);have d7':decide (64<n)=false:=decide_eq_false h7;rw [Ze1.2 ⟨hA,by omega⟩];clear hA h6 h7;go_enter Tryz.func17,Tryz.ntmps17;go_wp2;go_ret;exact ⟨rfl,b1⟩
theorem keepData_any (s r f s' r' f':Int) (v v':Value) (xs ys:List Int) (w:World) (n₀ n₁:Nat) (h0:n₀≤w.heap.size) (h1:n₁≤w.heap.size) (hy:ys.length≤4611686018427387904) (ha:Zb .u8 n₀ w v xs) (hb:Zb .u8 n₁ w v' ys) :
  Calls Tryz.prog 12 #[.agg #[.int .i64 s,.int .i64 r,.int .i64 f,v],.agg #[.int .i64 s',.int .i64 r',.int .i64 f',v']] w fun e w'=>e=.returned (.bool (decide (s=s'∧r=r'∧f=f'∧xs=ys)))∧Below w.heap.size w w':=by
 have b1:=((Below.refl w.heap.size w).alloc (Nat.le_refl _) (.cells #[.int .i64 s,.int .i64 r,.int .i64 f,v] 31)).alloc (by simp) (.cells #[.int .i64 s',.int .i64 r',.int .i64 f',v'] 31);obtain ⟨a,ca,rfl⟩:=ha.shape;obtain ⟨b,cb,rfl⟩:=hb.shape;have HC:=ZbR (.slice a xs.length ca) (.slice b ys.length cb) xs ys n₀ n₁ _ hy (ha.below (b1.mono h0)) (hb.below (b1.mono h1));clear ha hb;by_cases e0:¬ s=s'
 ·have d0:(s == s')=false:=by simp [e0]
  rw [decide_eq_false (fun h=>e0 h.1)];clear e0 HC;go_enter Tryz.func12,Tryz.ntmps12;go_wp2;go_ret;exact ⟨rfl,b1⟩
 obtain rfl:=Classical.not_not.1 e0;clear e0;by_cases e1:¬ r=r'
 ·have d1:(r == r')=false:=by simp [e1]
  rw [decide_eq_false (fun h=>e1 h.2.1)];clear e1 HC;go_enter Tryz.func12,Tryz.ntmps12;go_wp2;go_ret;exact ⟨rfl,b1⟩
 obtain rfl:=Classical.not_not.1 e1;clear e1;by_cases e2:¬ f=f'
 ·have d2:(f == f')=false:=by simp [e2]
  rw [decide_eq_false (fun h=>e2 h.2.2.1)];clear e2 HC;go_enter Tryz.func12,Tryz.ntmps12;go_wp2;go_ret;exact ⟨rfl,b1⟩
 obtain rfl:=Classical.not_not.1 e2;clear e2
 have HE:Hid (decide (s=s∧r=r∧f=f∧xs=ys)=decide (xs=ys)):=by
  show decide (s=s∧r=r∧f=f∧xs=ys)=decide (xs=ys)
  simp
 rw [HE.out];go_enter Tryz.func12,Tryz.ntmps12;go_wp2_with fail;refine HC.mono ?_;rintro e w2 ⟨rfl,nd,rfl⟩;go_wp2;go_ret;exact ⟨rfl,Zi b1 nd⟩
end Go.Proofs.YtabdnhkdoeibnaaGreatDoor
