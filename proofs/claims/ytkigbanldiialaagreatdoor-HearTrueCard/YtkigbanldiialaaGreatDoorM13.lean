/-
  xor, and, of the machine's signed numbers that are not below 0, as those of natural numbers. No program is spoken of.
-/
import Derived.Test.YtkigbanldiialaaGreatDoorM12
import Derived.Laws.BitsAllLaws
import Derived.Laws.BitsLemmas
set_option maxRecDepth 100000
set_option maxHeartbeats 1000000
namespace Go.Proofs.YtkigbanldiialaaGreatDoor
theorem zi_wrap (n:Int) (h0:0≤n) (h1:n<2 ^ 63):IntKind.i64.wrap n=n:=by
 have e:(2:Int) ^ 63=9223372036854775808:=by decide
 rw [e] at h1; rw [IntKind.wrap_i64]; omega
theorem zi_xor (a b:Nat) (ha:a<2 ^ 62) (hb:b<2 ^ 62):bits .xor .i64 (a:Int) (b:Int)=((a ^^^ b:Nat):Int):=by
 have e:∀ n:Nat,n<2 ^ 62→(BitVec.ofInt 64 (n:Int)).toNat=n:=fun n h=>by
  rw [BitVec.ofInt_natCast,BitVec.toNat_ofNat]; exact Nat.mod_eq_of_lt (by omega)
 have hx:a ^^^ b<2 ^ 62:=Nat.xor_lt_two_pow ha hb
 show IntKind.i64.wrap ((BitVec.ofInt 64 (a:Int) ^^^ BitVec.ofInt 64 (b:Int)).toNat:Int)=_
 rw [BitVec.toNat_xor,e a ha,e b hb]
 exact zi_wrap _ (by omega) (by
  have:((a ^^^ b:Nat):Int)<((2 ^ 62:Nat):Int):=by exact_mod_cast hx
  have e2:((2 ^ 62:Nat):Int)=4611686018427387904:=by decide
  have e3:(2:Int) ^ 63=9223372036854775808:=by decide
  rw [e2] at this
  rw [e3]
  omega)
theorem Ze7 (n:Int) (h0:0≤n) (h1:n<2 ^ 32):IntKind.u32.wrap n=n:=by
 have e:(2:Int) ^ 32=4294967296:=by decide
 rw [e] at h1; rw [IntKind.wrap_u32]; omega
theorem zu8_wrap (n:Int) (h0:0≤n) (h1:n<2 ^ 8):IntKind.u8.wrap n=n:=by
 have e:(2:Int) ^ 8=256:=by decide
 rw [e] at h1; rw [IntKind.wrap_u8]; omega
theorem ZeK (n:Nat):IntKind.u32.wrap (n:Int)=((n % 4294967296:Nat):Int):=by rw [IntKind.wrap_u32]; omega
theorem ZbE (a b:Nat) (ha:a<4294967296) (hb:b<4294967296):bits .xor .u32 (a:Int) (b:Int)=((a ^^^ b:Nat):Int):=by
 have e:∀ n:Nat,n<4294967296→(BitVec.ofInt 32 (n:Int)).toNat=n:=fun n h=>by
  rw [BitVec.ofInt_natCast,BitVec.toNat_ofNat]; exact Nat.mod_eq_of_lt (by omega)
 have hx:a ^^^ b<2 ^ 32:=Nat.xor_lt_two_pow ha hb
 show IntKind.u32.wrap ((BitVec.ofInt 32 (a:Int) ^^^ BitVec.ofInt 32 (b:Int)).toNat:Int)=_
 rw [BitVec.toNat_xor,e a ha,e b hb];exact Ze7 _ (by omega) (by exact_mod_cast hx)
theorem Zdx {a b:Nat} (ha:a<4294967296) (hb:b<4294967296):a ^^^ b<4294967296:=Nat.xor_lt_two_pow (n:=32) ha hb
def xs16 (x:Nat):Nat:=x ^^^ x / 65536
def xs15 (x:Nat):Nat:=x ^^^ x / 32768
def un15 (x:Nat):Nat:=x ^^^ x / 32768 ^^^ x / 1073741824
def mul32 (k x:Nat):Nat:=x * k % 4294967296
def mixN (x:Nat):Nat:=xs16 (mul32 2221713035 (xs15 (mul32 2146121005 (xs16 x))))
def backN (x:Nat):Nat:=xs16 (mul32 493478565 (un15 (mul32 1124208931 (xs16 x))))
theorem Zge (a b k:Nat):(a ^^^ b) / 2 ^ k=a / 2 ^ k ^^^ b / 2 ^ k:=by
 rw [← Nat.shiftRight_eq_div_pow,← Nat.shiftRight_eq_div_pow,← Nat.shiftRight_eq_div_pow,Nat.shiftRight_xor_distrib]
theorem Zbm {x k:Nat} (hx:x<4294967296):x / k<4294967296:=Nat.lt_of_le_of_lt (Nat.div_le_self _ _) hx
theorem ZeL {x:Nat} (hx:x<4294967296):xs16 x<4294967296:=Zdx hx (Zbm hx)
theorem Zgf {x:Nat} (hx:x<4294967296):xs15 x<4294967296:=Zdx hx (Zbm hx)
theorem ZbF (k x:Nat):mul32 k x<4294967296:=Nat.mod_lt _ (by decide)
theorem Zgg (x:Nat):mixN x<4294967296:=ZeL (ZbF _ _)
theorem Zei {x:Nat} (hx:x<4294967296):xs16 (xs16 x)=x:=by
 unfold xs16;have h:=Zge x (x / 65536) 16;rw [show (2:Nat) ^ 16=65536 by rfl] at h;rw [h,show x / 65536 / 65536=0 by omega,Nat.xor_zero,Nat.xor_assoc,Nat.xor_self,Nat.xor_zero]
theorem un15_xs15 {x:Nat} (hx:x<4294967296):un15 (xs15 x)=x:=by
 unfold un15 xs15;have h:=Zge x (x / 32768) 15;have g:=Zge x (x / 32768) 30;rw [show (2:Nat) ^ 15=32768 by rfl] at h;rw [show (2:Nat) ^ 30=1073741824 by rfl] at g;rw [h,g,show x / 32768 / 32768=x / 1073741824 by omega,show x / 32768 / 1073741824=0 by omega,Nat.xor_zero];generalize x / 32768=a;generalize x / 1073741824=b;rw [Nat.xor_assoc x a,← Nat.xor_assoc a a b,Nat.xor_self,Nat.zero_xor,Nat.xor_assoc,Nat.xor_self,Nat.xor_zero]
theorem Zdy (k j x:Nat) (hx:x<4294967296) (h:k * j % 4294967296=1):mul32 j (mul32 k x)=x:=by
 unfold mul32;rw [Nat.mod_mul_mod,Nat.mul_assoc,Nat.mul_mod,h,Nat.mul_one,Nat.mod_mod,Nat.mod_eq_of_lt hx]
theorem ZfO {x:Nat} (hx:x<4294967296):backN (mixN x)=x:=by
 unfold backN mixN;rw [Zei (ZbF _ _),Zdy _ _ _ (Zgf (ZbF _ _)) (by decide),un15_xs15 (ZbF _ _),Zdy _ _ _ (ZeL hx) (by decide),Zei hx]
theorem mix_inj {x y:Nat} (hx:x<4294967296) (hy:y<4294967296) (h:mixN x=mixN y):x=y:=by
 rw [← ZfO hx,← ZfO hy,h]
def symN (s i:Nat):Nat:=if i<4 then s / 2 ^ (8 * i) % 256 else mixN ((s+i * 2654435769) % 4294967296) % 256
theorem Zdz (s i:Nat):symN s i<256:=by
 unfold symN
 split <;> exact Nat.mod_lt _ (by decide)
theorem Zcb {s i:Nat} (h:i<4):symN s i=s / 2 ^ (8 * i) % 256:=if_pos h
theorem symN_high {s i:Nat} (h:¬ i<4):symN s i=mixN ((s+i * 2654435769) % 4294967296) % 256:=if_neg h
def Ze8:List Int→Nat
 | []=>0
 | z :: zs=>z.toNat+256 * Ze8 zs
def ZfP (s k:Nat):List Int:=(List.range k).map fun i=>((symN s i:Nat):Int)
theorem bytes_sum (s a b c d:Nat) (hs:s<4294967296) (h0:a=s % 256) (h1:b=s / 256 % 256) (h2:c=s / 65536 % 256) (h3:d=s / 16777216 % 256):a+256 * (b+256 * (c+256 * d))=s:=by omega
theorem spell_of {s:Nat} (hs:s<4294967296) (f:Nat→Nat) (h0:f 0=s % 256) (h1:f 1=s / 256 % 256) (h2:f 2=s / 65536 % 256) (h3:f 3=s / 16777216 % 256):Ze8 ((List.range 4).map fun i=>((f i:Nat):Int))=s:=by
 have e:((List.range 4).map fun i=>((f i:Nat):Int))=[((f 0:Nat):Int),((f 1:Nat):Int),((f 2:Nat):Int),((f 3:Nat):Int)]:=rfl;rw [e];have h:=bytes_sum s (f 0) (f 1) (f 2) (f 3) hs h0 h1 h2 h3;simpa [Ze8] using h
theorem Zej {s:Nat} (hs:s<4294967296):Ze8 (ZfP s 4)=s :=
 spell_of hs (symN s) (by rw [Zcb (by decide),Nat.mul_zero,Nat.pow_zero,Nat.div_one]) (Zcb (by decide)) (Zcb (by decide)) (Zcb (by decide))
theorem four_inj {s t:Nat} (hs:s<4294967296) (ht:t<4294967296) (h:∀ i,i<4→symN s i=symN t i):s=t:=by
 have e:ZfP s 4=ZfP t 4:=by
  unfold ZfP;apply List.map_congr_left;intro i hi;rw [h i (by simpa using hi)]
 exact (Zej hs).symm.trans ((congrArg Ze8 e).trans (Zej ht))
def beginN:Nat:=2654435769
def stepN (s n:Nat):Nat:=mixN (s ^^^ n)
theorem Zcc (s n:Nat):stepN s n<4294967296:=Zgg _
def Path (zs:List Int):Prop:=∀ z∈zs,0≤z∧z≤15
theorem Path.tail {z:Int} {zs:List Int} (h:Path (z :: zs)):Path zs:=fun x hx=>h x (List.mem_cons_of_mem _ hx)
theorem Path.head {z:Int} {zs:List Int} (h:Path (z :: zs)):0≤z∧z≤15:=h z List.mem_cons_self
theorem Path.take {zs:List Int} (h:Path zs) (k:Nat):Path (zs.take k):=fun x hx=>h x (List.mem_of_mem_take hx)
theorem Path.get {zs:List Int} (h:Path zs) {k:Nat} {z:Int} (e:zs[k]? = some z):0≤z∧z≤15:=h z (List.mem_of_getElem? e)
def Zl (s:Nat):List Int→List Int
 | []=>[]
 | z :: zs=>((stepN s z.toNat:Nat):Int) :: Zl (stepN s z.toNat) zs
def lastOf (s:Nat):List Int→Nat
 | []=>s
 | z :: zs=>lastOf (stepN s z.toNat) zs
theorem Zbn:∀ (s:Nat) (zs:List Int),(Zl s zs).length=zs.length
 | _,[]=>rfl
 | s,z :: zs=>by rw [Zl,List.length_cons,List.length_cons,Zbn]
theorem Zbo:∀ {s:Nat} (zs:List Int),s<4294967296→lastOf s zs<4294967296
 | _,[],h=>h
 | s,z :: zs,_=>Zbo zs (Zcc s z.toNat)
theorem Zbp:∀ (s:Nat) (xs ys:List Int),Zl s (xs++ys)=Zl s xs++Zl (lastOf s xs) ys
 | _,[],_=>rfl
 | s,z :: xs,ys=>by rw [List.cons_append,Zl,Zl,Zbp,List.cons_append,lastOf]
theorem Zcd:∀ (s:Nat) (xs ys:List Int),lastOf s (xs++ys)=lastOf (lastOf s xs) ys
 | _,[],_=>rfl
 | s,z :: xs,ys=>by rw [List.cons_append,lastOf,lastOf,Zcd]
theorem Zce (s:Nat) (xs:List Int) (z:Int):Zl s (xs++[z])=Zl s xs++[((stepN (lastOf s xs) z.toNat:Nat):Int)]:=by rw [Zbp]; rfl
theorem lastOf_snoc (s:Nat) (xs:List Int) (z:Int):lastOf s (xs++[z])=stepN (lastOf s xs) z.toNat:=by rw [Zcd]; rfl
theorem Zcf {zs:List Int} {k:Nat} {z:Int} (hz:zs[k]? = some z):zs.take (k+1)=zs.take k++[z]:=by rw [List.take_add_one,hz]; rfl
theorem Zcg:∀ (s:Nat) (zs:List Int) (k:Nat),Zl s (zs.take k)=(Zl s zs).take k
 | _,[],k=>by simp [Zl]
 | _,_ :: _,0=>rfl
 | s,z :: zs,k+1=>by rw [List.take_succ_cons,Zl,Zl,List.take_succ_cons,Zcg]
theorem statesOf_get {s:Nat} {zs:List Int} {k:Nat} {z:Int} (hz:zs[k]? = some z):(Zl s zs)[k]? = some ((stepN (lastOf s (zs.take k)) z.toNat:Nat):Int):=by
 have hk:=(List.getElem?_eq_some_iff.1 hz).1;have h:=Zcg s zs (k+1);rw [Zcf hz,Zce] at h;have hl:(Zl s (zs.take k)).length=k:=by rw [Zbn,List.length_take]; omega
 have h2:(Zl s (zs.take k)++[((stepN (lastOf s (zs.take k)) z.toNat:Nat):Int)])[k]? = ((Zl s zs).take (k+1))[k]?:=by rw [h]
 rw [List.getElem?_append_right (by omega),hl,Nat.sub_self] at h2;rw [List.getElem?_take,if_pos (by omega)] at h2;exact h2.symm
theorem ZdA {s:Nat} {zs:List Int} {k:Nat} {z:Int} (hz:zs[k]? = some z):lastOf s (zs.take (k+1))=stepN (lastOf s (zs.take k)) z.toNat:=by
 rw [Zcf hz,lastOf_snoc]
end Go.Proofs.YtkigbanldiialaaGreatDoor
namespace Go.Proofs.YtkigbanldiialaaGreatDoor
open Go.RowKit
theorem shift16_num (r b:Nat) (hr:r<65536) (hb:b<2):n16 (r ^^^ b * 32768)=2 * r % 65536 ^^^ (if r / 32768=b then 0 else 4129):=by
 have e:n16 (b * 32768)=if b=1 then 4129 else 0:=by
  obtain rfl | rfl:b=0∨b=1:=by omega
  ·decide
  ·decide
 rw [n16_xor,e];unfold n16;rw [Nat.xor_assoc]
 congr 1
 have h2:r / 32768<2:=by omega
 generalize r / 32768=t at h2;obtain rfl | rfl:t=0∨t=1:=by omega
 all_goals obtain rfl | rfl:b=0∨b=1:=by omega
 all_goals simp
theorem shift32_num (r b:Nat) (hb:b<2):m32 (r ^^^ b)=r / 2 ^^^ (if r % 2=b then 0 else 3988292384):=by
 unfold m32;rw [half_xor,Zeh,show b / 2=0 by omega,Nat.xor_zero]
 congr 1
 have h2:=Nat.mod_two_eq_zero_or_one r;by_cases h:r % 2=b
 ·rw [if_pos h,if_neg (by omega)]
 ·rw [if_neg h,if_pos (by omega)]
def Z7 (xs:List Int):List Nat:=xs.flatMap fun z=>ZbY z.toNat
def Zah (xs:List Int):List Nat:=xs.flatMap fun z=>lows z.toNat
theorem ZcG (xs:List Int):Zad (Zah xs):=fun b hb=>by
 obtain ⟨z,_,h⟩:=List.mem_flatMap.1 hb
 exact Zgd _ b h
theorem highs_get (b j:Nat) (hj:j<8):(ZbY b)[j]? = some (b / 2 ^ (7-j) % 2):=by
 match j,hj with
 | 0,_=>rfl
 | 1,_=>rfl
 | 2,_=>rfl
 | 3,_=>rfl
 | 4,_=>rfl
 | 5,_=>rfl
 | 6,_=>rfl
 | 7,_=>simp [ZbY]
theorem lows_get (b j:Nat) (hj:j<8):(lows b)[j]? = some (b / 2 ^ j % 2):=by
 match j,hj with
 | 0,_=>simp [lows]
 | 1,_=>rfl
 | 2,_=>rfl
 | 3,_=>rfl
 | 4,_=>rfl
 | 5,_=>rfl
 | 6,_=>rfl
 | 7,_=>rfl
theorem feed16_snoc (r:Nat) (l:List Nat) (b:Nat):ZX r (l++[b])=n16 (ZX r l ^^^ b * 32768):=by rw [Za9]; rfl
theorem feed32_snoc (r:Nat) (l:List Nat) (b:Nat):ZW r (l++[b])=m32 (ZW r l ^^^ b):=by rw [Za8]; rfl
def sum16 (xs:List Int):Nat:=ZX 65535 (Z7 xs)
def reg32 (xs:List Int):Nat:=ZW 4294967295 (Zah xs)
def sum32 (xs:List Int):Nat:=reg32 xs ^^^ 4294967295
theorem sum16_lt (xs:List Int):sum16 xs<65536:=Zca _ (by decide)
theorem reg32_lt (xs:List Int):reg32 xs<4294967296:=Zb9 _ (by decide) (ZcG xs)
theorem sum32_lt (xs:List Int):sum32 xs<4294967296:=ZfN (k:=32) (reg32_lt xs) (by decide)
theorem textLow_next {xs:List Int} {k:Nat} {z:Int} (hz:xs[k]? = some z):Zah (xs.take (k+1))=Zah (xs.take k)++lows z.toNat:=by
 rw [List.take_add_one,hz,Option.toList_some];unfold Zah;rw [List.flatMap_append];simp
def four (s:Nat):List Int:=[((s % 256:Nat):Int),((s / 256 % 256:Nat):Int),((s / 65536 % 256:Nat):Int),((s / 16777216 % 256:Nat):Int)]
def Zbg (xs:List Int):List Int:=xs++four (sum32 xs)
theorem Zgh (s:Nat):∀ z∈four s,0≤z∧z≤255:=fun z hz=>by
 simp [four] at hz
 omega
def ZQ (xs:List Int):Bool:=decide (4≤xs.length) && decide (Zbg (xs.take (xs.length-4))=xs)
theorem holds_takeB {kd:IntKind} {n₀ cap:Nat} {w:World} {a:Option Addr} {zs:List Int} (h:Za kd n₀ w (.slice a zs.length cap) zs) (k:Nat) (hk:k≤zs.length):Za kd n₀ w (.slice a (zs.take k).length cap) (zs.take k):=by
 rcases h with ⟨⟨a',c',e,ha⟩,hz⟩ | ⟨b,off,c',e,hb,hc⟩
 ·subst hz
  cases e
  exact .inl ⟨⟨_,_,by simp,ha⟩,by simp⟩
 ·cases e
  refine .inr ⟨b,off,cap,rfl,hb,fun j hj=>?_⟩;rw [List.length_take] at hj;rw [hc j (by omega),List.getElem?_take,if_pos (by omega)]
theorem Zgi (x:Nat) (hx:x<4294967296) (w:World) :
  Calls Tryz.prog 68 #[.int .u32 x] w fun e w'=>e=.returned (.int .u32 ((mixN x:Nat):Int))∧w=w':=by
 have d0:(x:Int) / 65536=((x / 65536:Nat):Int):=by simp
 have e0:bits .xor .u32 (x:Int) ((x / 65536:Nat):Int)=((xs16 x:Nat):Int):=ZbE _ _ hx (Zbm hx);have hy0:=ZeL hx;obtain ⟨q0,hq0⟩:∃ q,x / 65536=q:=⟨_,rfl⟩;obtain ⟨y0,g0⟩:∃ y,xs16 x=y:=⟨_,rfl⟩;rw [hq0] at d0 e0;rw [g0] at e0 hy0;clear hq0
 have e1:IntKind.u32.wrap ((y0:Int) * 2146121005)=((mul32 2146121005 y0:Nat):Int):=by
  have:=ZeK (y0 * 2146121005);rwa [show ((y0 * 2146121005:Nat):Int)=(y0:Int) * 2146121005 by omega] at this
 have hy1:=ZbF 2146121005 y0;obtain ⟨y1,g1⟩:∃ y,mul32 2146121005 y0=y:=⟨_,rfl⟩;rw [g1] at e1 hy1;have d2:(y1:Int) / 32768=((y1 / 32768:Nat):Int):=by simp
 have e2:bits .xor .u32 (y1:Int) ((y1 / 32768:Nat):Int)=((xs15 y1:Nat):Int):=ZbE _ _ hy1 (Zbm hy1);have hy2:=Zgf hy1;obtain ⟨q2,hq2⟩:∃ q,y1 / 32768=q:=⟨_,rfl⟩;obtain ⟨y2,g2⟩:∃ y,xs15 y1=y:=⟨_,rfl⟩;rw [hq2] at d2 e2;rw [g2] at e2 hy2;clear hq2
 have e3:IntKind.u32.wrap ((y2:Int) * 2221713035)=((mul32 2221713035 y2:Nat):Int):=by
  have:=ZeK (y2 * 2221713035);rwa [show ((y2 * 2221713035:Nat):Int)=(y2:Int) * 2221713035 by omega] at this
 have hy3:=ZbF 2221713035 y2;obtain ⟨y3,g3⟩:∃ y,mul32 2221713035 y2=y:=⟨_,rfl⟩;rw [g3] at e3 hy3;have d4:(y3:Int) / 65536=((y3 / 65536:Nat):Int):=by simp
 have e4:bits .xor .u32 (y3:Int) ((y3 / 65536:Nat):Int)=((xs16 y3:Nat):Int):=ZbE _ _ hy3 (Zbm hy3);have hy4:=ZeL hy3;obtain ⟨q4,hq4⟩:∃ q,y3 / 65536=q:=⟨_,rfl⟩;obtain ⟨y4,g4⟩:∃ y,xs16 y3=y:=⟨_,rfl⟩;rw [hq4] at d4 e4;rw [g4] at e4 hy4;clear hq4
 have HR:Hid (mixN x=y4):=by
  show mixN x=y4
  unfold mixN;rw [g0,g1,g2,g3,g4]
 clear g0 g1 g2 g3 g4;go_enter Tryz.func68,Tryz.ntmps68;go_wp2;go_ret;exact ⟨by rw [HR.out]; rfl,rfl⟩
theorem Of_ok (s i:Nat) (_:s<4294967296) (hi:i≤255) (w:World):Calls Tryz.prog 50 #[.int .u32 s,.int .i64 i] w fun e w'=>e=.returned (.tuple #[.int .i64 ((symN s i:Nat):Int),.int .i64 0])∧w=w':=by
 have g0:decide ((i:Int)<0)=false:=decide_eq_false (by omega);have g1:decide (255<(i:Int))=false:=decide_eq_false (by omega);by_cases h:i<4
 ·have HR:Hid (symN s i=s / 2 ^ (8 * i) % 256):=Zcb h;have ed:(s:Int) / 2 ^ (8 * i)=((s / 2 ^ (8 * i):Nat):Int):=by simp
  have hle:s / 2 ^ (8 * i)≤s:=Nat.div_le_self _ _;obtain ⟨y,hy⟩:∃ y,s / 2 ^ (8 * i)=y:=⟨_,rfl⟩;rw [hy] at ed hle HR;clear hy;go_enter Tryz.func50,Tryz.ntmps50;go_wp2;go_ret2;exact ⟨by rw [HR.out]; rfl,rfl⟩
 ·have HR:Hid (symN s i=mixN ((s+i * 2654435769) % 4294967296) % 256):=symN_high h;have e1:IntKind.u32.wrap (i:Int)=(i:Int):=by rw [IntKind.wrap_u32]; omega
  have e2:IntKind.u32.wrap ((i:Int) * 2654435769)=((i * 2654435769 % 4294967296:Nat):Int):=by
   have:=ZeK (i * 2654435769);rwa [show ((i * 2654435769:Nat):Int)=(i:Int) * 2654435769 by omega] at this
  have e3:IntKind.u32.wrap ((s:Int)+((i * 2654435769 % 4294967296:Nat):Int))=(((s+i * 2654435769) % 4294967296:Nat):Int):=by rw [IntKind.wrap_u32]; omega
  obtain ⟨x,hx⟩:∃ x,(s+i * 2654435769) % 4294967296=x:=⟨_,rfl⟩;have hxl:x<4294967296:=by omega
  rw [hx] at e3 HR;obtain ⟨y,hy⟩:∃ y,i * 2654435769 % 4294967296=y:=⟨_,rfl⟩;have hyl:y<4294967296:=by omega
  rw [hy] at e2 e3;have hm:=Zgg x;have HM:=Zgi x hxl w;obtain ⟨y',hy'⟩:∃ y',mixN x=y':=⟨_,rfl⟩;rw [hy'] at hm HR HM;clear hx hy hy';go_enter Tryz.func50,Tryz.ntmps50;go_wp2_with fail;refine HM.mono ?_;rintro e w1 ⟨rfl,rfl⟩;go_wp2;go_ret2;exact ⟨by rw [HR.out]; rfl,rfl⟩
theorem Of_arg (s:Nat) (i:Int) (h:i<0∨255<i) (w:World):Calls Tryz.prog 50 #[.int .u32 s,.int .i64 i] w fun e w'=>e=.returned (.tuple #[.int .i64 0,.int .i64 1])∧w=w':=by
 by_cases h0:i<0
 ·clear h;go_enter Tryz.func50,Tryz.ntmps50;go_wp2;go_ret2;exact ⟨rfl,rfl⟩
 ·have h1:255<i:=by omega
  clear h;go_enter Tryz.func50,Tryz.ntmps50;go_wp2;go_ret2;exact ⟨rfl,rfl⟩
end Go.Proofs.YtkigbanldiialaaGreatDoor
