/-
  xor, and, of the machine's signed numbers that are not below 0, as those of natural numbers. No program is spoken of.
-/
import Derived.Test.YtabdnhkdoeibnaaGreatDoorM10
import Derived.Laws.BitsLemmas
namespace Go.Proofs.YtabdnhkdoeibnaaGreatDoor
theorem Zh4 (n:Int) (h0:0≤n) (h1:n<2 ^ 63):IntKind.i64.wrap n=n:=by
 have e:(2:Int) ^ 63=9223372036854775808:=by decide
 rw [e] at h1; rw [IntKind.wrap_i64]; omega
theorem Zhx (a b:Nat) (ha:a<2 ^ 62) (hb:b<2 ^ 62):bits .xor .i64 (a:Int) (b:Int)=((a ^^^ b:Nat):Int):=by
 have e:∀ n:Nat,n<2 ^ 62→(BitVec.ofInt 64 (n:Int)).toNat=n:=fun n h=>by
  rw [BitVec.ofInt_natCast,BitVec.toNat_ofNat]; exact Nat.mod_eq_of_lt (by omega)
 have hx:a ^^^ b<2 ^ 62:=Nat.xor_lt_two_pow ha hb
 show IntKind.i64.wrap ((BitVec.ofInt 64 (a:Int) ^^^ BitVec.ofInt 64 (b:Int)).toNat:Int)=_
 rw [BitVec.toNat_xor,e a ha,e b hb]
 exact Zh4 _ (by omega) (by
  have:((a ^^^ b:Nat):Int)<((2 ^ 62:Nat):Int):=by exact_mod_cast hx
  have e2:((2 ^ 62:Nat):Int)=4611686018427387904:=by decide
  have e3:(2:Int) ^ 63=9223372036854775808:=by decide
  rw [e2] at this
  rw [e3]
  omega)
theorem zi_mod (i:Nat) (hi:i≤62) (a:Nat) (ha:a<2 ^ 62):bits .and .i64 (a:Int) (2 ^ i-1)=((a % 2 ^ i:Nat):Int):=by
 have h:(a:Int)<2 ^ 63:=by
  have h1:(a:Int)<((2 ^ 62:Nat):Int):=by exact_mod_cast ha
  have e2:((2 ^ 62:Nat):Int)=4611686018427387904:=by decide
  have e3:(2:Int) ^ 63=9223372036854775808:=by decide
  rw [e2] at h1;rw [e3];omega
 rw [bits_mask .i64 63 (by decide) Zh4 i (by omega) a (by omega) h];simp
theorem Zh5 (a:Nat) (ha:a<2 ^ 62):bits .and .i64 (a:Int) 1=((a % 2:Nat):Int):=by
 have:=zi_mod 1 (by decide) a ha;simpa using this
end Go.Proofs.YtabdnhkdoeibnaaGreatDoor
namespace Go.Proofs.YtabdnhkdoeibnaaGreatDoor
open Go.RowKit
def m32 (x:Nat):Nat:=x / 2 ^^^ (if x % 2=1 then 3988292384 else 0)
theorem m32_lt {x:Nat} (h:x<2 ^ 32):m32 x<2 ^ 32:=by
 unfold m32;refine Zhw (by omega) ?_
 split <;> decide
def ZM (r:Nat):List Nat→Nat
 | []=>r
 | b :: l=>ZM (m32 (r ^^^ b)) l
theorem Zbi:∀ (l m:List Nat) (r:Nat),ZM r (l++m)=ZM (ZM r l) m
 | [],_,_=>rfl
 | _ :: l,m,_=>Zbi l m _
def ZaL (l:List Nat):Prop:=∀ b∈l,b<2
theorem ZaL.tail {b:Nat} {l:List Nat} (h:ZaL (b :: l)):ZaL l:=fun x hx=>h x (List.mem_cons_of_mem _ hx)
theorem ZaL.head {b:Nat} {l:List Nat} (h:ZaL (b :: l)):b<2:=h b List.mem_cons_self
theorem ZaL.append {l m:List Nat} (h:ZaL l) (g:ZaL m):ZaL (l++m):=fun x hx=>(List.mem_append.1 hx).elim (h x) (g x)
theorem ZaL.left {l m:List Nat} (h:ZaL (l++m)):ZaL l:=fun x hx=>h x (List.mem_append_left _ hx)
theorem ZaL.right {l m:List Nat} (h:ZaL (l++m)):ZaL m:=fun x hx=>h x (List.mem_append_right _ hx)
theorem ZaL.noughts (k:Nat):ZaL (List.replicate k 0):=fun x hx=>by rw [List.eq_of_mem_replicate hx]; decide
theorem Zbv (l:List Nat):∀ {r:Nat},r<2 ^ 32→ZaL l→ZM r l<2 ^ 32:=by
 induction l with
 | nil=>intro r h _; exact h
 | cons b l ih=>intro r h hb; exact ih (m32_lt (Zhw h (Nat.lt_of_lt_of_le hb.head (by decide)))) hb.tail
def lows (b:Nat):List Nat:=[b % 2,b / 2 % 2,b / 4 % 2,b / 8 % 2,b / 16 % 2,b / 32 % 2,b / 64 % 2,b / 128 % 2]
theorem Zhc (b:Nat):ZaL (lows b):=fun x hx=>by
 simp [lows] at hx
 omega
def n16 (x:Nat):Nat:=2 * x % 65536 ^^^ (if x / 32768 % 2=1 then 4129 else 0)
theorem n16_xor (x y:Nat):n16 (x ^^^ y)=n16 x ^^^ n16 y:=by
 unfold n16;rw [two_mul_xor,show (65536:Nat)=2 ^ 16 by rfl,Nat.xor_mod_two_pow,show (32768:Nat)=2 ^ 15 by rfl,xor_div_pow,Zfy,xor4]
 congr 1
 generalize x / 2 ^ 15=p;generalize y / 2 ^ 15=q;rcases Nat.mod_two_eq_zero_or_one p with hx | hx <;> rcases Nat.mod_two_eq_zero_or_one q with hy | hy
 ·simp [hx,hy,show (p+q) % 2=0 by omega]
 ·simp [hx,hy,show (p+q) % 2=1 by omega]
 ·simp [hx,hy,show (p+q) % 2=1 by omega]
 ·simp [hx,hy,show (p+q) % 2=0 by omega]
theorem n16_lt (x:Nat):n16 x<2 ^ 16:=by
 unfold n16;refine Zhw (Nat.mod_lt _ (by decide)) ?_
 split <;> decide
def Zam (r:Nat):List Nat→Nat
 | []=>r
 | b :: l=>Zam (n16 (r ^^^ b * 32768)) l
theorem Zb7:∀ (l m:List Nat) (r:Nat),Zam r (l++m)=Zam (Zam r l) m
 | [],_,_=>rfl
 | _ :: l,m,_=>Zb7 l m _
theorem Zdj (l:List Nat):∀ {r:Nat},r<2 ^ 16→Zam r l<2 ^ 16:=by
 induction l with
 | nil=>intro r h; exact h
 | cons b l ih=>intro r _; exact ih (n16_lt _)
def Zc9 (b:Nat):List Nat:=[b / 128 % 2,b / 64 % 2,b / 32 % 2,b / 16 % 2,b / 8 % 2,b / 4 % 2,b / 2 % 2,b % 2]
theorem shift16_num (r b:Nat) (hr:r<65536) (hb:b<2):n16 (r ^^^ b * 32768)=2 * r % 65536 ^^^ (if r / 32768=b then 0 else 4129):=by
 have e:n16 (b * 32768)=if b=1 then 4129 else 0:=by
  obtain rfl | rfl:b=0∨b=1:=by omega
  ·decide
  ·decide
 rw [n16_xor,e];unfold n16;rw [Nat.xor_assoc]
 congr 1
 have h2:r / 32768<2:=by omega
 generalize r / 32768=t at h2;obtain rfl | rfl:t=0∨t=1:=by omega
 all_goals obtain rfl | rfl:b=0∨b=1:=by omega
 all_goals simp
theorem ZeQ (r b:Nat) (hb:b<2):m32 (r ^^^ b)=r / 2 ^^^ (if r % 2=b then 0 else 3988292384):=by
 unfold m32;rw [half_xor,Zfy,show b / 2=0 by omega,Nat.xor_zero]
 congr 1
 have h2:=Nat.mod_two_eq_zero_or_one r;by_cases h:r % 2=b
 ·rw [if_pos h,if_neg (by omega)]
 ·rw [if_neg h,if_pos (by omega)]
def ZaB (xs:List Int):List Nat:=xs.flatMap fun z=>Zc9 z.toNat
def Z2 (xs:List Int):List Nat:=xs.flatMap fun z=>lows z.toNat
theorem ZbV (xs:List Int):ZaL (Z2 xs):=fun b hb=>by
 obtain ⟨z,_,h⟩:=List.mem_flatMap.1 hb
 exact Zhc _ b h
theorem highs_get (b j:Nat) (hj:j<8):(Zc9 b)[j]? = some (b / 2 ^ (7-j) % 2):=by
 match j,hj with
 | 0,_=>rfl
 | 1,_=>rfl
 | 2,_=>rfl
 | 3,_=>rfl
 | 4,_=>rfl
 | 5,_=>rfl
 | 6,_=>rfl
 | 7,_=>simp [Zc9]
theorem Zhy (b j:Nat) (hj:j<8):(lows b)[j]? = some (b / 2 ^ j % 2):=by
 match j,hj with
 | 0,_=>simp [lows]
 | 1,_=>rfl
 | 2,_=>rfl
 | 3,_=>rfl
 | 4,_=>rfl
 | 5,_=>rfl
 | 6,_=>rfl
 | 7,_=>rfl
theorem and1_of (z:Int) (j:Nat) (h0:0≤z) (h1:z≤255):bits .and .i64 (z / 2 ^ j) 1=((z.toNat / 2 ^ j % 2:Nat):Int):=by
 obtain ⟨n,rfl⟩:=Int.eq_ofNat_of_zero_le h0;have e:((n:Nat):Int) / 2 ^ j=((n / 2 ^ j:Nat):Int):=by simp
 have hle:n / 2 ^ j≤n:=Nat.div_le_self _ _;rw [e,Zh5 _ (by omega)];rfl
theorem feed16_snoc (r:Nat) (l:List Nat) (b:Nat):Zam r (l++[b])=n16 (Zam r l ^^^ b * 32768):=by rw [Zb7]; rfl
theorem ZeR (r:Nat) (l:List Nat) (b:Nat):ZM r (l++[b])=m32 (ZM r l ^^^ b):=by rw [Zbi]; rfl
def sum16 (xs:List Int):Nat:=Zam 65535 (ZaB xs)
def reg32 (xs:List Int):Nat:=ZM 4294967295 (Z2 xs)
def sum32 (xs:List Int):Nat:=reg32 xs ^^^ 4294967295
theorem sum16_lt (xs:List Int):sum16 xs<65536:=Zdj _ (by decide)
theorem reg32_lt (xs:List Int):reg32 xs<4294967296:=Zbv _ (by decide) (ZbV xs)
theorem Zhz (xs:List Int):sum32 xs<4294967296:=Zhw (k:=32) (reg32_lt xs) (by decide)
theorem Zd2 {xs:List Int} {k:Nat} {z:Int} (hz:xs[k]? = some z):Z2 (xs.take (k+1))=Z2 (xs.take k)++lows z.toNat:=by
 rw [List.take_add_one,hz,Option.toList_some];unfold Z2;rw [List.flatMap_append];simp
def four (s:Nat):List Int:=[((s % 256:Nat):Int),((s / 256 % 256:Nat):Int),((s / 65536 % 256:Nat):Int),((s / 16777216 % 256:Nat):Int)]
def ZaS (xs:List Int):List Int:=xs++four (sum32 xs)
theorem Zh6 (s:Nat):∀ z∈four s,0≤z∧z≤255:=fun z hz=>by
 simp [four] at hz
 omega
def Zv (xs:List Int):Bool:=decide (4≤xs.length) && decide (ZaS (xs.take (xs.length-4))=xs)
theorem ZeS {kd:IntKind} {n₀ cap:Nat} {w:World} {a:Option Addr} {zs:List Int} (h:Zb kd n₀ w (.slice a zs.length cap) zs) (k:Nat) (hk:k≤zs.length):Zb kd n₀ w (.slice a (zs.take k).length cap) (zs.take k):=by
 rcases h with ⟨⟨a',c',e,ha⟩,hz⟩ | ⟨b,off,c',e,hb,hc⟩
 ·subst hz
  cases e
  exact .inl ⟨⟨_,_,by simp,ha⟩,by simp⟩
 ·cases e
  refine .inr ⟨b,off,cap,rfl,hb,fun j hj=>?_⟩;rw [List.length_take] at hj;rw [hc j (by omega),List.getElem?_take,if_pos (by omega)]
end Go.Proofs.YtabdnhkdoeibnaaGreatDoor
