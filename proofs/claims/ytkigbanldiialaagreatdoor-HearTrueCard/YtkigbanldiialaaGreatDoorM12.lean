/-
  Rows of 0 and 1 as numbers: the number that a row spells (the first place is the highest), sums as xor, products without carries, that they are a ring, that a rest is there just once. No function of the program is spoken of.
-/
import Derived.Test.YtkigbanldiialaaGreatDoorM04
import Derived.WalkLawsBesides
import Derived.WalkSpells
set_option maxRecDepth 100000
set_option maxHeartbeats 2000000
namespace Go.Proofs.YtkigbanldiialaaGreatDoor
open Go.RowKit
def Bin (l:List Int):Prop:=∀ x∈l,x=0∨x=1
def ZbX (n:Nat):List Int→Nat
 | []=>n
 | x :: l=>ZbX (2 * n+x.toNat) l
def val (l:List Int):Nat:=ZbX 0 l
def Tr (l:List Int):Prop:=Bin l∧l.head?≠some 0
theorem Bin.nil:Bin []:=fun x h=>by cases h
theorem Bin.tail {x:Int} {l:List Int} (h:Bin (x :: l)):Bin l:=fun y hy=>h y (List.mem_cons_of_mem _ hy)
theorem Bin.head {x:Int} {l:List Int} (h:Bin (x :: l)):x=0∨x=1:=h x (List.mem_cons_self)
theorem Bin.append {l m:List Int} (h:Bin l) (g:Bin m):Bin (l++m):=fun x hx=>(List.mem_append.1 hx).elim (h x) (g x)
theorem Bin.left {l m:List Int} (h:Bin (l++m)):Bin l:=fun x hx=>h x (List.mem_append_left _ hx)
theorem Bin.right {l m:List Int} (h:Bin (l++m)):Bin m:=fun x hx=>h x (List.mem_append_right _ hx)
theorem Bin.take {l:List Int} (h:Bin l) (k:Nat):Bin (l.take k):=fun x hx=>h x (List.mem_of_mem_take hx)
theorem Bin.drop {l:List Int} (h:Bin l) (k:Nat):Bin (l.drop k):=fun x hx=>h x (List.mem_of_mem_drop hx)
theorem Bin.noughts (k:Nat):Bin (List.replicate k 0):=fun _ hx=>.inl (List.eq_of_mem_replicate hx)
theorem Bin.set {l:List Int} (h:Bin l) (k:Nat) {x:Int} (hx:x=0∨x=1):Bin (l.set k x):=fun y hy=>(List.mem_or_eq_of_mem_set hy).elim (h y) (fun e=>e▸hx)
theorem Bin.get {l:List Int} (h:Bin l) {k:Nat} {x:Int} (e:l[k]? = some x):x=0∨x=1:=h x (List.mem_of_getElem? e)
theorem Tr.nil:Tr []:=⟨Bin.nil,by simp⟩
theorem valFrom_eq (l:List Int):∀ n,ZbX n l=n * 2 ^ l.length+val l:=by
 induction l with
 | nil=>intro n; simp [ZbX,val]
 | cons x l ih =>
  intro n;have e:val (x :: l)=ZbX (2 * 0+x.toNat) l:=rfl;rw [e,ZbX,ih,ih,List.length_cons,Nat.pow_succ];have:(2 * n+x.toNat) * 2 ^ l.length=n * (2 ^ l.length * 2)+x.toNat * 2 ^ l.length:=by rw [Nat.add_mul,Nat.mul_comm 2 n,Nat.mul_assoc,Nat.mul_comm 2]
  rw [this]; simp; omega
theorem val_nil:val []=0:=rfl
theorem Zdc (x:Int) (l:List Int):val (x :: l)=x.toNat * 2 ^ l.length+val l:=by
 have:val (x :: l)=ZbX (2 * 0+x.toNat) l:=rfl;rw [this,valFrom_eq]; simp
theorem ZfM {l:List Int} (h:Bin l):val l<2 ^ l.length:=by
 induction l with
 | nil=>simp [val_nil]
 | cons x l ih =>
  have:=ih h.tail;rw [Zdc,List.length_cons,Nat.pow_succ];rcases h.head with rfl | rfl
  ·simp; omega
  ·simp; omega
theorem Tr.ge {l:List Int} (h:Tr l) (h0:l≠[]):2 ^ l.length≤2 * val l:=by
 cases l with
 | nil=>exact absurd rfl h0
 | cons x l =>
  have:x=1:=h.1.head.elim (fun e=>absurd (by rw [e]; rfl) h.2) id;rw [Zdc,List.length_cons,Nat.pow_succ,this]; simp; omega
theorem Tr.len_le {l:List Int} (h:Tr l) {k:Nat} (hk:val l<2 ^ k):l.length≤k:=by
 by_cases h0:l=[]
 ·rw [h0]; simp
 ·have:=h.ge h0;apply Nat.le_of_not_lt;intro hlt;have:2 ^ (k+1)≤2 ^ l.length:=Nat.pow_le_pow_right (by omega) hlt;rw [Nat.pow_succ] at this;omega
theorem Zgc:∀ {l m:List Int},Bin l→Bin m→l.length=m.length→val l=val m→l=m
 | [],[],_,_,_,_=>rfl
 | [],_ :: _,_,_,h,_=>by simp at h
 | _ :: _,[],_,_,h,_=>by simp at h
 | x :: l,y :: m,hl,hm,h,e=>by
  have h':l.length=m.length:=by simpa using h
  have a:=ZfM hl.tail
  have b:=ZfM hm.tail
  rw [Zdc,Zdc,h'] at e
  rw [h'] at a
  have hxy:x=y:=by
   rcases hl.head with rfl | rfl <;> rcases hm.head with rfl | rfl
   ·rfl
   ·simp at e; omega
   ·simp at e; omega
   ·rfl
  subst hxy;rw [Zgc hl.tail hm.tail h' (by omega)]
theorem Tr.inj {l m:List Int} (hl:Tr l) (hm:Tr m) (e:val l=val m):l=m :=
 Zgc hl.1 hm.1 (Nat.le_antisymm (hl.len_le (e▸ZfM hm.1)) (hm.len_le (e▸ZfM hl.1))) e
theorem two_mul_xor (a b:Nat):2 * (a ^^^ b)=2 * a ^^^ 2 * b:=by
 have e:∀ n,2 * n=n <<< 1:=fun n=>by rw [Nat.shiftLeft_eq]; omega
 rw [e,e,e,Nat.shiftLeft_xor_distrib]
theorem half_xor (a b:Nat):(a ^^^ b) / 2=a / 2 ^^^ b / 2:=by
 have e:∀ n,n / 2=n >>> 1:=fun n=>by rw [Nat.shiftRight_eq_div_pow]
 rw [e,e,e,Nat.shiftRight_xor_distrib]
theorem Zeh (a b:Nat):(a ^^^ b) % 2=(a+b) % 2:=by
 have h:=Nat.testBit_xor a b 0;rw [Nat.testBit_zero,Nat.testBit_zero,Nat.testBit_zero] at h;generalize a ^^^ b=c at h ⊢;rcases Nat.mod_two_eq_zero_or_one a with ha | ha <;> rcases Nat.mod_two_eq_zero_or_one b with hb | hb <;> simp [ha,hb] at h <;> omega
def clN:Nat→Nat→Nat→Nat
 | 0,_,_=>0
 | f+1,a,b=>(if a % 2=1 then b else 0) ^^^ 2 * clN f (a / 2) b
def cl (a b:Nat):Nat:=clN a a b
theorem xor4 (a b c d:Nat):(a ^^^ b) ^^^ (c ^^^ d)=(a ^^^ c) ^^^ (b ^^^ d):=by
 rw [Nat.xor_assoc,← Nat.xor_assoc b c d,Nat.xor_comm b c,Nat.xor_assoc c b d,← Nat.xor_assoc]
theorem xor_div_pow (a b k:Nat):(a ^^^ b) / 2 ^ k=a / 2 ^ k ^^^ b / 2 ^ k:=by
 rw [← Nat.shiftRight_eq_div_pow,← Nat.shiftRight_eq_div_pow,← Nat.shiftRight_eq_div_pow,Nat.shiftRight_xor_distrib]
theorem ZfN {a b k:Nat} (ha:a<2 ^ k) (hb:b<2 ^ k):a ^^^ b<2 ^ k:=Nat.xor_lt_two_pow ha hb
def m32 (x:Nat):Nat:=x / 2 ^^^ (if x % 2=1 then 3988292384 else 0)
theorem m32_lt {x:Nat} (h:x<2 ^ 32):m32 x<2 ^ 32:=by
 unfold m32;refine ZfN (by omega) ?_
 split <;> decide
def ZW (r:Nat):List Nat→Nat
 | []=>r
 | b :: l=>ZW (m32 (r ^^^ b)) l
theorem Za8:∀ (l m:List Nat) (r:Nat),ZW r (l++m)=ZW (ZW r l) m
 | [],_,_=>rfl
 | _ :: l,m,_=>Za8 l m _
def Zad (l:List Nat):Prop:=∀ b∈l,b<2
theorem Zad.tail {b:Nat} {l:List Nat} (h:Zad (b :: l)):Zad l:=fun x hx=>h x (List.mem_cons_of_mem _ hx)
theorem Zad.head {b:Nat} {l:List Nat} (h:Zad (b :: l)):b<2:=h b List.mem_cons_self
theorem Zad.append {l m:List Nat} (h:Zad l) (g:Zad m):Zad (l++m):=fun x hx=>(List.mem_append.1 hx).elim (h x) (g x)
theorem Zad.left {l m:List Nat} (h:Zad (l++m)):Zad l:=fun x hx=>h x (List.mem_append_left _ hx)
theorem Zad.right {l m:List Nat} (h:Zad (l++m)):Zad m:=fun x hx=>h x (List.mem_append_right _ hx)
theorem Zad.noughts (k:Nat):Zad (List.replicate k 0):=fun x hx=>by rw [List.eq_of_mem_replicate hx]; decide
theorem Zb9 (l:List Nat):∀ {r:Nat},r<2 ^ 32→Zad l→ZW r l<2 ^ 32:=by
 induction l with
 | nil=>intro r h _; exact h
 | cons b l ih=>intro r h hb; exact ih (m32_lt (ZfN h (Nat.lt_of_lt_of_le hb.head (by decide)))) hb.tail
def lows (b:Nat):List Nat:=[b % 2,b / 2 % 2,b / 4 % 2,b / 8 % 2,b / 16 % 2,b / 32 % 2,b / 64 % 2,b / 128 % 2]
theorem Zgd (b:Nat):Zad (lows b):=fun x hx=>by
 simp [lows] at hx
 omega
def n16 (x:Nat):Nat:=2 * x % 65536 ^^^ (if x / 32768 % 2=1 then 4129 else 0)
theorem n16_xor (x y:Nat):n16 (x ^^^ y)=n16 x ^^^ n16 y:=by
 unfold n16;rw [two_mul_xor,show (65536:Nat)=2 ^ 16 by rfl,Nat.xor_mod_two_pow,show (32768:Nat)=2 ^ 15 by rfl,xor_div_pow,Zeh,xor4]
 congr 1
 generalize x / 2 ^ 15=p;generalize y / 2 ^ 15=q;rcases Nat.mod_two_eq_zero_or_one p with hx | hx <;> rcases Nat.mod_two_eq_zero_or_one q with hy | hy
 ·simp [hx,hy,show (p+q) % 2=0 by omega]
 ·simp [hx,hy,show (p+q) % 2=1 by omega]
 ·simp [hx,hy,show (p+q) % 2=1 by omega]
 ·simp [hx,hy,show (p+q) % 2=0 by omega]
theorem n16_lt (x:Nat):n16 x<2 ^ 16:=by
 unfold n16;refine ZfN (Nat.mod_lt _ (by decide)) ?_
 split <;> decide
def ZX (r:Nat):List Nat→Nat
 | []=>r
 | b :: l=>ZX (n16 (r ^^^ b * 32768)) l
theorem Za9:∀ (l m:List Nat) (r:Nat),ZX r (l++m)=ZX (ZX r l) m
 | [],_,_=>rfl
 | _ :: l,m,_=>Za9 l m _
theorem Zca (l:List Nat):∀ {r:Nat},r<2 ^ 16→ZX r l<2 ^ 16:=by
 induction l with
 | nil=>intro r h; exact h
 | cons b l ih=>intro r _; exact ih (n16_lt _)
def ZbY (b:Nat):List Nat:=[b / 128 % 2,b / 64 % 2,b / 32 % 2,b / 16 % 2,b / 8 % 2,b / 4 % 2,b / 2 % 2,b % 2]
theorem light_any (n b d:Int) (w:World):Calls Tryz.prog 7 #[.int .i64 n,.int .i64 b,.int .i64 d] w fun e w'=>(e=.returned (.bool true)∨e=.returned (.bool false))∧w=w':=by
 go_enter Tryz.func7,Tryz.ntmps7;go_wp2;go_loop [7,8] (fun s7 s8=>∃ (c:Int) (i:Nat),s7=.int .i64 c∧s8=.int .i64 i∧1≤i∧i≤4) (fun _ i=>4-(intOf i).toNat)
 case atStart=>exact ⟨_,1,rfl,rfl,by omega,by omega⟩
 case round =>
  obtain ⟨c,i,rfl,rfl,h1,h4⟩:=hrel;by_cases hd:(i:Int)<d
  ·have dd:decide ((i:Int)<d)=true:=decide_eq_true hd;by_cases hi:i<4
   ·have di:decide ((i:Int)<4)=true:=decide_eq_true (by omega);clear hd;go_wp2;go_round
    case rel=>exact ⟨_,i+1,rfl,by go_num,by omega,by omega⟩
    case measure=>simp [intOf]; omega
   ·have di:decide ((i:Int)<4)=false:=decide_eq_false (by omega);by_cases hc:c≤300000
    ·have dc:decide (c≤300000)=true:=decide_eq_true hc;clear hd hc;go_wp2;go_ret;exact ⟨.inl rfl,rfl⟩
    ·have dc:decide (c≤300000)=false:=decide_eq_false hc;clear hd hc;go_wp2;go_ret;exact ⟨.inr rfl,rfl⟩
  ·have dd:decide ((i:Int)<d)=false:=decide_eq_false hd;by_cases hc:c≤300000
   ·have dc:decide (c≤300000)=true:=decide_eq_true hc;clear hd hc;go_wp2;go_ret;exact ⟨.inl rfl,rfl⟩
   ·have dc:decide (c≤300000)=false:=decide_eq_false hc;clear hd hc;go_wp2;go_ret;exact ⟨.inr rfl,rfl⟩
end Go.Proofs.YtkigbanldiialaaGreatDoor
