/-
  What a state costs, as a number. No program is spoken of.
-/
import Derived.Test.YtkigbanldiialaaGreatDoorM09
import Derived.Test.YtkigbanldiialaaGreatDoorM13
set_option maxRecDepth 100000
set_option maxHeartbeats 2000000
namespace Go.Proofs.YtkigbanldiialaaGreatDoor
def ZaB (l:List (Int×Int)):Prop:=∀ x∈l,0≤x.1∧x.1≤255∧0≤x.2∧x.2≤255
def Zbq (s:Nat) (x:Int×Int):Nat:=pcTo 32 (symN s x.1.toNat ^^^ x.2.toNat)
def costN (s:Nat):List (Int×Int)→Nat
 | []=>0
 | x :: l=>Zbq s x+costN s l
theorem ZcU (s:Nat):∀ l m,costN s (l++m)=costN s l+costN s m
 | [],m=>by simp [costN]
 | x :: l,m=>by rw [List.cons_append,costN,costN,ZcU,Nat.add_assoc]
theorem costN_snoc (s:Nat) (l:List (Int×Int)) (x:Int×Int):costN s (l++[x])=costN s l+Zbq s x:=by rw [ZcU]; simp [costN]
theorem ZeM {a b:Nat} (ha:a<256) (hb:b<256):a ^^^ b<256:=Nat.xor_lt_two_pow (n:=8) ha hb
theorem Zgl {x:Nat} (h:x<256):pcTo 32 x=pcTo 8 x:=by
 rw [show (32:Nat)=8+24 by rfl,Zc6];have e:x >>> 8=0:=by rw [Nat.shiftRight_eq_div_pow]; exact Nat.div_eq_of_lt (by simpa using h)
 rw [e];have:pcTo 24 0=0:=by decide
 omega
theorem oneCost_le {s:Nat} {x:Int×Int} (h:0≤x.2∧x.2≤255):Zbq s x≤8:=by
 unfold Zbq;rw [Zgl (ZeM (Zdz _ _) (by omega))];exact Zfs _ _
theorem ZeN {s:Nat}:∀ {l:List (Int×Int)},ZaB l→costN s l≤8 * l.length
 | [],_=>by simp [costN]
 | x :: l,h=>by
  have h1:=ZeN (s:=s) (l:=l) fun y hy=>h y (List.mem_cons_of_mem _ hy)
  have h2:=oneCost_le (s:=s) (x:=x) (h x List.mem_cons_self).2.2
  rw [costN,List.length_cons]
  omega
theorem ZaB.take {l:List (Int×Int)} (h:ZaB l) (k:Nat):ZaB (l.take k):=fun x hx=>h x (List.mem_of_mem_take hx)
theorem ZaB.drop {l:List (Int×Int)} (h:ZaB l) (k:Nat):ZaB (l.drop k):=fun x hx=>h x (List.mem_of_mem_drop hx)
end Go.Proofs.YtkigbanldiialaaGreatDoor
namespace Go.Proofs.YtkigbanldiialaaGreatDoor
open Go.RowKit
theorem costValue_yes (u:Int) (h0:0≤u) (h1:u≤255) (w:World):Calls Tryz.prog 118 #[.int .i64 u] w fun e w'=>e=.returned (.bool true)∧w=w':=by
 have d0:decide (0≤u)=true:=decide_eq_true h0;have d1:decide (u≤255)=true:=decide_eq_true h1;clear h0 h1;go_enter Tryz.func118,Tryz.ntmps118;go_wp2;go_ret;exact ⟨rfl,rfl⟩
theorem costValue_no (u:Int) (h:u<0∨255<u) (w:World):Calls Tryz.prog 118 #[.int .i64 u] w fun e w'=>e=.returned (.bool false)∧w=w':=by
 by_cases h0:u<0
 ·have d0:decide (0≤u)=false:=decide_eq_false (by omega);clear h h0;go_enter Tryz.func118,Tryz.ntmps118;go_wp2;go_ret;exact ⟨rfl,rfl⟩
 ·have d0:decide (0≤u)=true:=decide_eq_true (by omega);have d1:decide (u≤255)=false:=decide_eq_false (by omega);clear h h0;go_enter Tryz.func118,Tryz.ntmps118;go_wp2;go_ret;exact ⟨rfl,rfl⟩
theorem costOnes_byte (x:Nat):onesZ (x:Int)=pcTo 32 x:=by
 unfold onesZ;rw [if_neg (by omega),Int.toNat_natCast]
theorem CostOf_any (s:Nat) (hs:s<4294967296) (a:Option Addr) (cap:Nat) (l:List (Int×Int)) (hl:l.length≤16) (w:World) (ha:Syms w.heap.size w (.slice a l.length cap) l) :
  Calls Tryz.prog 117 #[.int .u32 s,.slice a l.length cap] w fun e w'=>(ZaB l∧e=.returned (.tuple #[.int .i64 ((costN s l:Nat):Int),.int .i64 0])∨¬ ZaB l∧e=.returned (.tuple #[.int .i64 0,.int .i64 1]))∧Below w.heap.size w w':=by
 have d0:decide ((16:Int)<(l.length:Int))=false:=decide_eq_false (by omega);have d1:decide (16<l.length)=false:=decide_eq_false (by omega);have d2:l.length≤4294967296:=by omega
 clear hl;go_enter Tryz.func117,Tryz.ntmps117;go_wp2;go_loopw [6,16] (fun v i wr=>∃ k:Nat,k≤l.length∧i=.int .i64 k∧v=.int .i64 ((costN s (l.take k):Nat):Int)∧Hid (ZaB (l.take k))∧Below w.heap.size w wr) (fun _ i _=>l.length-(intOf i).toNat)
 case atStart=>exact ⟨0,Nat.zero_le _,rfl,rfl,fun x hx=>by simp at hx,Below.refl _ _⟩
 case round =>
  obtain ⟨k,hk,rfl,rfl,HK,hbw⟩:=hrel;by_cases hlt:k<l.length
  ·obtain ⟨⟨at_,val⟩,hx⟩:∃ x,l[k]? = some x:=⟨l[k],by simp⟩;obtain ⟨b,off,rfl,hb,hcell⟩:=ZbT (ha.next hbw) rfl (by omega);obtain ⟨c1,c2⟩:=hcell k _ hx;simp only at c1 c2;have HM:Hid ((at_,val)∈l):=List.mem_of_getElem? hx
   have HT:Hid (l.take (k+1)=l.take k++[(at_,val)]):=by
    show l.take (k+1)=l.take k++[(at_,val)]
    rw [List.take_add_one,hx]; rfl
   have bV:Below w.heap.size w (wr.alloc (.cells #[.int .i64 at_,.int .i64 val] 79)):=hbw.alloc hbw.size _;have xS:=Box.new wr 79 #[.int .i64 at_,.int .i64 val];by_cases h1:at_<0∨255<at_
   ·have HNO:Hid (¬ ZaB l):=fun h=>by have:=h _ HM.out; simp only at this; omega
    have HA:=fun W=>Of_arg s at_ h1 W
    clear hcell hx;go_wp2_with fail;refine (HA _).mono ?_;rintro e w1 ⟨rfl,rfl⟩;go_wp2;go_ret2;exact ⟨.inr ⟨HNO.out,rfl⟩,bV⟩
   obtain ⟨A,rfl⟩:=Int.eq_ofNat_of_zero_le (a:=at_) (by omega);have hA:A≤255:=by omega
   have hsy:=Zdz s A;by_cases h2:val<0∨255<val
   ·have HNO:Hid (¬ ZaB l):=fun h=>by have:=h _ HM.out; simp only at this; omega
    have HA:=fun W=>Of_ok s A hs hA W
    obtain ⟨y,hy⟩:∃ y,symN s A=y:=⟨_,rfl⟩;rw [hy] at HA hsy;have HB:=fun W=>costValue_no val h2 W
    have KB:Hid _:=HB;clear hcell hx hy h1 h2 HB;go_wp2_with fail;refine (HA _).mono ?_;rintro e w1 ⟨rfl,rfl⟩;obtain ⟨V,hV⟩:∃ V,wr.alloc (.cells #[.int .i64 (A:Int),.int .i64 val] 79)=V:=⟨_,rfl⟩;have v0:=xS.cell 0 _ rfl;have v1:=xS.cell 1 _ rfl;rw [hV] at v0 v1 bV ⊢;clear hV HA xS;go_wp2_with fail;refine (KB.out _).mono ?_;rintro e w2 ⟨rfl,rfl⟩;go_wp2;go_ret2;exact ⟨.inr ⟨HNO.out,rfl⟩,bV⟩
   obtain ⟨U,rfl⟩:=Int.eq_ofNat_of_zero_le (a:=val) (by omega);have hU:U≤255:=by omega
   have HK':Hid (ZaB (l.take (k+1))):=by
    show ZaB (l.take (k+1))
    rw [HT.out];intro x hx;rcases List.mem_append.1 hx with h' | h'
    ·exact HK.out x h'
    ·rw [List.mem_singleton.1 h']; simp only; omega
   have HA:=fun W=>Of_ok s A hs hA W
   have HB:=fun W=>costValue_yes (U:Int) (by omega) (by omega) W
   have hxl:symN s A ^^^ U<256:=ZeM hsy (by omega);have ex:bits .xor .i64 ((symN s A:Nat):Int) (U:Int)=((symN s A ^^^ U:Nat):Int):=zi_xor _ _ (by omega) (by omega);have hle:=ZeN (s:=s) HK.out
   have HNX:Hid (costN s (l.take (k+1))=costN s (l.take k)+pcTo 32 (symN s A ^^^ U)):=by
    show costN s (l.take (k+1))=_
    rw [HT.out,costN_snoc];rfl
   have hlk:(l.take k).length≤4294967296:=by rw [List.length_take]; omega
   obtain ⟨y,hy⟩:∃ y,symN s A=y:=⟨_,rfl⟩;rw [hy] at ex hxl HNX hsy HA;obtain ⟨x,hxe⟩:∃ x,y ^^^ U=x:=⟨_,rfl⟩;rw [hxe] at ex hxl HNX;have HO:Hid (onesZ (x:Int)=pcTo 32 x):=costOnes_byte x;have hp32:=Zfs 32 x;obtain ⟨t,hte⟩:∃ t,pcTo 32 x=t:=⟨_,rfl⟩;rw [hte] at HO HNX hp32;obtain ⟨C,hCe⟩:∃ C,costN s (l.take k)=C:=⟨_,rfl⟩;rw [hCe] at HNX hle ⊢;have ew:IntKind.i64.wrap ((C:Int)+(t:Int))=((C+t:Nat):Int):=by rw [IntKind.wrap_i64]; omega
   have HN:∀ W:World,Calls Tryz.prog 119 #[.int .i64 x] W fun e w'=>e=.returned (.int .i64 (t:Int))∧∃ n,w'=W.drewN n:=fun W=>by
    have:=ones_any (x:Int) W;rwa [HO.out] at this
   have KB:Hid _:=HB;have KN:Hid _:=HN;clear hcell hx hy h1 h2 HB HN hxe hte hCe;go_wp2_with fail;refine (HA _).mono ?_;rintro e w1 ⟨rfl,rfl⟩;obtain ⟨V,hV⟩:∃ V,wr.alloc (.cells #[.int .i64 (A:Int),.int .i64 (U:Int)] 79)=V:=⟨_,rfl⟩;have v0:=xS.cell 0 _ rfl;have v1:=xS.cell 1 _ rfl;rw [hV] at v0 v1 bV ⊢;clear hV HA xS;go_wp2_with fail;refine (KB.out _).mono ?_;rintro e w2 ⟨rfl,rfl⟩;go_wp2_with fail;refine (KN.out _).mono ?_;rintro e w3 ⟨rfl,nd,rfl⟩;go_wp2;exact ⟨⟨k+1,by omega,by go_num,by rw [HNX.out]; simp,HK',ZN bV _⟩,by simp [intOf]; omega⟩
  ·obtain rfl:k=l.length:=by omega
   have HT:Hid (l.take l.length=l):=List.take_length;rw [HT.out] at HK ⊢;obtain ⟨C,hCe⟩:∃ C,costN s l=C:=⟨_,rfl⟩;have HCE:Hid (costN s l=C):=hCe;rw [hCe];clear hCe;go_wp2;go_ret2;exact ⟨.inl ⟨HK.out,by rw [HCE.out]; rfl⟩,hbw⟩
theorem CostOf_ok (s:Nat) (hs:s<4294967296) (a:Option Addr) (cap:Nat) (l:List (Int×Int)) (hl:l.length≤16) (hc:ZaB l) (w:World) (ha:Syms w.heap.size w (.slice a l.length cap) l) :
  Calls Tryz.prog 117 #[.int .u32 s,.slice a l.length cap] w fun e w'=>e=.returned (.tuple #[.int .i64 ((costN s l:Nat):Int),.int .i64 0])∧Below w.heap.size w w':=by
 refine (CostOf_any s hs a cap l hl w ha).mono ?_;rintro e w' ⟨h | h,b⟩
 ·exact ⟨h.2,b⟩
 ·exact absurd hc h.1
end Go.Proofs.YtkigbanldiialaaGreatDoor
