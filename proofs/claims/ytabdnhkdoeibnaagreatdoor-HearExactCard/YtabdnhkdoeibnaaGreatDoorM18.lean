/-
  What a state costs, as a number. No program is spoken of.
-/
import Derived.Test.YtabdnhkdoeibnaaGreatDoorM06
import Derived.Test.YtabdnhkdoeibnaaGreatDoorM12
import Derived.Test.YtabdnhkdoeibnaaGreatDoorM16
set_option maxRecDepth 100000
set_option maxHeartbeats 2000000
namespace Go.Proofs.YtabdnhkdoeibnaaGreatDoor
def ZaN (l:List (Int×Int)):Prop:=∀ x∈l,0≤x.1∧x.1≤255∧0≤x.2∧x.2≤255
def Zcu (s:Nat) (x:Int×Int):Nat:=pcTo 32 (symN s x.1.toNat ^^^ x.2.toNat)
def costN (s:Nat):List (Int×Int)→Nat
 | []=>0
 | x :: l=>Zcu s x+costN s l
theorem Zd4 (s:Nat):∀ l m,costN s (l++m)=costN s l+costN s m
 | [],m=>by simp [costN]
 | x :: l,m=>by rw [List.cons_append,costN,costN,Zd4,Nat.add_assoc]
theorem ZfH (s:Nat) (l:List (Int×Int)) (x:Int×Int):costN s (l++[x])=costN s l+Zcu s x:=by rw [Zd4]; simp [costN]
theorem Zen {a b:Nat} (ha:a<256) (hb:b<256):a ^^^ b<256:=Nat.xor_lt_two_pow (n:=8) ha hb
theorem Zib {x:Nat} (h:x<256):pcTo 32 x=pcTo 8 x:=by
 rw [show (32:Nat)=8+24 by rfl,Zeg];have e:x >>> 8=0:=by rw [Nat.shiftRight_eq_div_pow]; exact Nat.div_eq_of_lt (by simpa using h)
 rw [e];have:pcTo 24 0=0:=by decide
 omega
theorem ZfI {s:Nat} {x:Int×Int} (h:0≤x.2∧x.2≤255):Zcu s x≤8:=by
 unfold Zcu;rw [Zib (Zen (ZdK _ _) (by omega))];exact ZdB _ _
theorem Zeo {s:Nat}:∀ {l:List (Int×Int)},ZaN l→costN s l≤8 * l.length
 | [],_=>by simp [costN]
 | x :: l,h=>by
  have h1:=Zeo (s:=s) (l:=l) fun y hy=>h y (List.mem_cons_of_mem _ hy)
  have h2:=ZfI (s:=s) (x:=x) (h x List.mem_cons_self).2.2
  rw [costN,List.length_cons]
  omega
theorem ZaN.take {l:List (Int×Int)} (h:ZaN l) (k:Nat):ZaN (l.take k):=fun x hx=>h x (List.mem_of_mem_take hx)
theorem ZaN.drop {l:List (Int×Int)} (h:ZaN l) (k:Nat):ZaN (l.drop k):=fun x hx=>h x (List.mem_of_mem_drop hx)
end Go.Proofs.YtabdnhkdoeibnaaGreatDoor
namespace Go.Proofs.YtabdnhkdoeibnaaGreatDoor
open Go.RowKit
theorem take_snoc_cost {l:List (Int×Int)} {k:Nat} {x:Int×Int} (hz:l[k]? = some x):l.take (k+1)=l.take k++[x]:=by rw [List.take_add_one,hz]; rfl
theorem onesZ_byte (x:Nat):onesZ (x:Int)=pcTo 32 x:=by
 unfold onesZ;rw [if_neg (by omega),Int.toNat_natCast]
theorem Ze0 (s:Nat) (hs:s<4294967296) (a:Option Addr) (cap:Nat) (l:List (Int×Int)) (hl:l.length≤4294967296) (hc:ZaN l) (w:World) (n₀:Nat) (ha:Syms n₀ w (.slice a l.length cap) l) :
  Calls Tryz.prog 120 #[.int .u32 s,.slice a l.length cap] w fun e w'=>e=.returned (.int .i64 ((costN s l:Nat):Int))∧∃ n,w'=w.drewN n:=by
 have HC:Hid (ZaN l):=hc;clear hc;go_enter Tryz.func120,Tryz.ntmps120;go_wp2;go_loopw [5,6] (fun v i wr=>∃ k nd:Nat,k≤l.length∧i=.int .i64 k∧v=.int .i64 ((costN s (l.take k):Nat):Int)∧wr=w.drewN nd) (fun _ i _=>l.length-(intOf i).toNat)
 case atStart=>exact ⟨0,0,Nat.zero_le _,rfl,rfl,rfl⟩
 case round =>
  obtain ⟨k,nd,hk,rfl,rfl,rfl⟩:=hrel;by_cases hlt:k<l.length
  ·obtain ⟨⟨at_,val⟩,hx⟩:∃ x,l[k]? = some x:=⟨l[k],by simp⟩;obtain ⟨b,off,rfl,hb,hcell⟩:=Za0 ha rfl (by omega);obtain ⟨c1,c2⟩:=hcell k _ hx;have hok:=HC.out _ (List.mem_of_getElem? hx);simp only at hok c1 c2;obtain ⟨A,rfl⟩:=Int.eq_ofNat_of_zero_le (a:=at_) hok.1;obtain ⟨V,rfl⟩:=Int.eq_ofNat_of_zero_le (a:=val) hok.2.2.1;have f1:∀ q,(w.drewN q).cell? ⟨b,off+k * 2,none⟩=some (.int .i64 (A:Int)):=fun q=>c1
   have f2:∀ q,(w.drewN q).cell? ⟨b,off+k * 2+1,none⟩=some (.int .i64 (V:Int)):=fun q=>c2
   have hA:A≤4294967295:=by omega
   have hsy:=ZdK s A;have hxl:symN s A ^^^ V<256:=Zen hsy (by omega);have ex:bits .xor .i64 ((symN s A:Nat):Int) (V:Int)=((symN s A ^^^ V:Nat):Int):=Zhx _ _ (by omega) (by omega);have hle:=Zeo (s:=s) (HC.out.take k);have hle2:=ZfI (s:=s) (x:=((A:Int),(V:Int))) ⟨by simp,by simp; omega⟩
   have HNX:Hid (costN s (l.take (k+1))=costN s (l.take k)+pcTo 32 (symN s A ^^^ V)):=by
    show costN s (l.take (k+1))=_
    rw [take_snoc_cost hx,ZfH];rfl
   have hlk:(l.take k).length≤4294967296:=by rw [List.length_take]; omega
   obtain ⟨y,hy⟩:∃ y,symN s A=y:=⟨_,rfl⟩;have HY:Hid (symN s A=y):=hy;rw [hy] at ex hxl HNX hsy;obtain ⟨x,hxe⟩:∃ x,y ^^^ V=x:=⟨_,rfl⟩;rw [hxe] at ex hxl HNX;have HO:Hid (onesZ (x:Int)=pcTo 32 x):=onesZ_byte x;have hp32:=ZdB 32 x;obtain ⟨t,hte⟩:∃ t,pcTo 32 x=t:=⟨_,rfl⟩;rw [hte] at HO HNX hp32;obtain ⟨C,hCe⟩:∃ C,costN s (l.take k)=C:=⟨_,rfl⟩;rw [hCe] at HNX hle ⊢;have ew:IntKind.i64.wrap ((C:Int)+(t:Int))=((C+t:Nat):Int):=by rw [IntKind.wrap_i64]; omega
   have kc1:∀ W:World,Calls Tryz.prog 142 #[.int .u32 s,.int .i64 A] W fun e w'=>e=.returned (.int .i64 (y:Int))∧w'=W:=fun W=>by
    refine (refSymbol_any s A hs hA W).mono ?_;rw [HY.out];rintro e w' ⟨h1,h2⟩;exact ⟨h1,h2.symm⟩
   have kc2:∀ W:World,Calls Tryz.prog 141 #[.int .i64 x] W fun e w'=>e=.returned (.int .i64 (t:Int))∧w'=W:=fun W=>by
    have:=refOnes_any (x:Int) W (by omega);rwa [HO.out] at this
   have KC1:Hid _:=kc1;have KC2:Hid _:=kc2;clear hcell hok hx hy hxe hte hCe c1 c2 kc1 kc2 hle2;go_wp2;go_quiet (first | (go_at_call 142; exact (KC1.out _).mono fun e w' h=>⟨h.1,_,h.2⟩) | (go_at_call 141; exact (KC2.out _).mono fun e w' h=>⟨h.1,_,h.2⟩));go_wp2;refine ⟨⟨k+1,nd+nq,by omega,by go_num,by rw [HNX.out]; simp,by simp⟩,by simp [intOf]; omega⟩
  ·obtain rfl:k=l.length:=by omega
   have HT:Hid (l.take l.length=l):=List.take_length;rw [HT.out];obtain ⟨C,hCe⟩:∃ C,costN s l=C:=⟨_,rfl⟩;have HCE:Hid (costN s l=C):=hCe;rw [hCe];clear hCe;go_wp2;go_ret;exact ⟨by rw [HCE.out]; rfl,nd,rfl⟩
theorem costValue_yes (u:Int) (h0:0≤u) (h1:u≤255) (w:World):Calls Tryz.prog 156 #[.int .i64 u] w fun e w'=>e=.returned (.bool true)∧w=w':=by
 have d0:decide (0≤u)=true:=decide_eq_true h0;have d1:decide (u≤255)=true:=decide_eq_true h1;clear h0 h1;go_enter Tryz.func156,Tryz.ntmps156;go_wp2;go_ret;exact ⟨rfl,rfl⟩
theorem costValue_no (u:Int) (h:u<0∨255<u) (w:World):Calls Tryz.prog 156 #[.int .i64 u] w fun e w'=>e=.returned (.bool false)∧w=w':=by
 by_cases h0:u<0
 ·have d0:decide (0≤u)=false:=decide_eq_false (by omega);clear h h0;go_enter Tryz.func156,Tryz.ntmps156;go_wp2;go_ret;exact ⟨rfl,rfl⟩
 ·have d0:decide (0≤u)=true:=decide_eq_true (by omega);have d1:decide (u≤255)=false:=decide_eq_false (by omega);clear h h0;go_enter Tryz.func156,Tryz.ntmps156;go_wp2;go_ret;exact ⟨rfl,rfl⟩
theorem costOnes_byte (x:Nat):onesZ (x:Int)=pcTo 32 x:=by
 unfold onesZ;rw [if_neg (by omega),Int.toNat_natCast]
theorem CostOf_any (s:Nat) (hs:s<4294967296) (a:Option Addr) (cap:Nat) (l:List (Int×Int)) (hl:l.length≤16) (w:World) (ha:Syms w.heap.size w (.slice a l.length cap) l) :
  Calls Tryz.prog 155 #[.int .u32 s,.slice a l.length cap] w fun e w'=>(ZaN l∧e=.returned (.tuple #[.int .i64 ((costN s l:Nat):Int),.int .i64 0])∨¬ ZaN l∧e=.returned (.tuple #[.int .i64 0,.int .i64 1]))∧Below w.heap.size w w':=by
 have d0:decide ((16:Int)<(l.length:Int))=false:=decide_eq_false (by omega);have d1:decide (16<l.length)=false:=decide_eq_false (by omega);have d2:l.length≤4294967296:=by omega
 clear hl;go_enter Tryz.func155,Tryz.ntmps155;go_wp2;go_loopw [6,16] (fun v i wr=>∃ k:Nat,k≤l.length∧i=.int .i64 k∧v=.int .i64 ((costN s (l.take k):Nat):Int)∧Hid (ZaN (l.take k))∧Below w.heap.size w wr) (fun _ i _=>l.length-(intOf i).toNat)
 case atStart=>exact ⟨0,Nat.zero_le _,rfl,rfl,fun x hx=>by simp at hx,Below.refl _ _⟩
 case round =>
  obtain ⟨k,hk,rfl,rfl,HK,hbw⟩:=hrel;by_cases hlt:k<l.length
  ·obtain ⟨⟨at_,val⟩,hx⟩:∃ x,l[k]? = some x:=⟨l[k],by simp⟩;obtain ⟨b,off,rfl,hb,hcell⟩:=Za0 (ha.next hbw) rfl (by omega);obtain ⟨c1,c2⟩:=hcell k _ hx;simp only at c1 c2;have HM:Hid ((at_,val)∈l):=List.mem_of_getElem? hx
   have HT:Hid (l.take (k+1)=l.take k++[(at_,val)]):=by
    show l.take (k+1)=l.take k++[(at_,val)]
    rw [List.take_add_one,hx]; rfl
   have bV:Below w.heap.size w (wr.alloc (.cells #[.int .i64 at_,.int .i64 val] 87)):=hbw.alloc hbw.size _;have xS:=Box.new wr 87 #[.int .i64 at_,.int .i64 val];by_cases h1:at_<0∨255<at_
   ·have HNO:Hid (¬ ZaN l):=fun h=>by have:=h _ HM.out; simp only at this; omega
    have HA:=fun W=>Of_arg s at_ h1 W
    clear hcell hx;go_wp2_with fail;refine (HA _).mono ?_;rintro e w1 ⟨rfl,rfl⟩;go_wp2;go_ret2;exact ⟨.inr ⟨HNO.out,rfl⟩,bV⟩
   obtain ⟨A,rfl⟩:=Int.eq_ofNat_of_zero_le (a:=at_) (by omega);have hA:A≤255:=by omega
   have hsy:=ZdK s A;by_cases h2:val<0∨255<val
   ·have HNO:Hid (¬ ZaN l):=fun h=>by have:=h _ HM.out; simp only at this; omega
    have HA:=fun W=>Of_ok s A hs hA W
    obtain ⟨y,hy⟩:∃ y,symN s A=y:=⟨_,rfl⟩;rw [hy] at HA hsy;have HB:=fun W=>costValue_no val h2 W
    have KB:Hid _:=HB;clear hcell hx hy h1 h2 HB;go_wp2_with fail;refine (HA _).mono ?_;rintro e w1 ⟨rfl,rfl⟩;obtain ⟨V,hV⟩:∃ V,wr.alloc (.cells #[.int .i64 (A:Int),.int .i64 val] 87)=V:=⟨_,rfl⟩;have v0:=xS.cell 0 _ rfl;have v1:=xS.cell 1 _ rfl;rw [hV] at v0 v1 bV ⊢;clear hV HA xS;go_wp2_with fail;refine (KB.out _).mono ?_;rintro e w2 ⟨rfl,rfl⟩;go_wp2;go_ret2;exact ⟨.inr ⟨HNO.out,rfl⟩,bV⟩
   obtain ⟨U,rfl⟩:=Int.eq_ofNat_of_zero_le (a:=val) (by omega);have hU:U≤255:=by omega
   have HK':Hid (ZaN (l.take (k+1))):=by
    show ZaN (l.take (k+1))
    rw [HT.out];intro x hx;rcases List.mem_append.1 hx with h' | h'
    ·exact HK.out x h'
    ·rw [List.mem_singleton.1 h']; simp only; omega
   have HA:=fun W=>Of_ok s A hs hA W
   have HB:=fun W=>costValue_yes (U:Int) (by omega) (by omega) W
   have hxl:symN s A ^^^ U<256:=Zen hsy (by omega);have ex:bits .xor .i64 ((symN s A:Nat):Int) (U:Int)=((symN s A ^^^ U:Nat):Int):=Zhx _ _ (by omega) (by omega);have hle:=Zeo (s:=s) HK.out
   have HNX:Hid (costN s (l.take (k+1))=costN s (l.take k)+pcTo 32 (symN s A ^^^ U)):=by
    show costN s (l.take (k+1))=_
    rw [HT.out,ZfH];rfl
   have hlk:(l.take k).length≤4294967296:=by rw [List.length_take]; omega
   obtain ⟨y,hy⟩:∃ y,symN s A=y:=⟨_,rfl⟩;rw [hy] at ex hxl HNX hsy HA;obtain ⟨x,hxe⟩:∃ x,y ^^^ U=x:=⟨_,rfl⟩;rw [hxe] at ex hxl HNX;have HO:Hid (onesZ (x:Int)=pcTo 32 x):=costOnes_byte x;have hp32:=ZdB 32 x;obtain ⟨t,hte⟩:∃ t,pcTo 32 x=t:=⟨_,rfl⟩;rw [hte] at HO HNX hp32;obtain ⟨C,hCe⟩:∃ C,costN s (l.take k)=C:=⟨_,rfl⟩;rw [hCe] at HNX hle ⊢;have ew:IntKind.i64.wrap ((C:Int)+(t:Int))=((C+t:Nat):Int):=by rw [IntKind.wrap_i64]; omega
   have HN:∀ W:World,Calls Tryz.prog 157 #[.int .i64 x] W fun e w'=>e=.returned (.int .i64 (t:Int))∧∃ n,w'=W.drewN n:=fun W=>by
    have:=ones_any (x:Int) W;rwa [HO.out] at this
   have KB:Hid _:=HB;have KN:Hid _:=HN;clear hcell hx hy h1 h2 HB HN hxe hte hCe;go_wp2_with fail;refine (HA _).mono ?_;rintro e w1 ⟨rfl,rfl⟩;obtain ⟨V,hV⟩:∃ V,wr.alloc (.cells #[.int .i64 (A:Int),.int .i64 (U:Int)] 87)=V:=⟨_,rfl⟩;have v0:=xS.cell 0 _ rfl;have v1:=xS.cell 1 _ rfl;rw [hV] at v0 v1 bV ⊢;clear hV HA xS;go_wp2_with fail;refine (KB.out _).mono ?_;rintro e w2 ⟨rfl,rfl⟩;go_wp2_with fail;refine (KN.out _).mono ?_;rintro e w3 ⟨rfl,nd,rfl⟩;go_wp2;exact ⟨⟨k+1,by omega,by go_num,by rw [HNX.out]; simp,HK',Zi bV _⟩,by simp [intOf]; omega⟩
  ·obtain rfl:k=l.length:=by omega
   have HT:Hid (l.take l.length=l):=List.take_length;rw [HT.out] at HK ⊢;obtain ⟨C,hCe⟩:∃ C,costN s l=C:=⟨_,rfl⟩;have HCE:Hid (costN s l=C):=hCe;rw [hCe];clear hCe;go_wp2;go_ret2;exact ⟨.inl ⟨HK.out,by rw [HCE.out]; rfl⟩,hbw⟩
theorem CostOf_ok (s:Nat) (hs:s<4294967296) (a:Option Addr) (cap:Nat) (l:List (Int×Int)) (hl:l.length≤16) (hc:ZaN l) (w:World) (ha:Syms w.heap.size w (.slice a l.length cap) l) :
  Calls Tryz.prog 155 #[.int .u32 s,.slice a l.length cap] w fun e w'=>e=.returned (.tuple #[.int .i64 ((costN s l:Nat):Int),.int .i64 0])∧Below w.heap.size w w':=by
 refine (CostOf_any s hs a cap l hl w ha).mono ?_;rintro e w' ⟨h | h,b⟩
 ·exact ⟨h.2,b⟩
 ·exact absurd hc h.1
end Go.Proofs.YtabdnhkdoeibnaaGreatDoor
