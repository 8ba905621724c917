/-
  Piles that are filled place by place. No program is spoken of.
-/
import Derived.Test.YtabdnhkdoeibnaaGreatDoorM18
import Derived.Test.YtabdnhkdoeibnaaGreatDoorM28
import Derived.Test.YtabdnhkdoeibnaaGreatDoorM34
namespace Go.Proofs.YtabdnhkdoeibnaaGreatDoor
theorem Ze4:∀ {l:List (Int×Int)} {k:Int},(∀ x∈l,x.1<k)→aheadOf l k=l.length
 | [],_,_=>rfl
 | x :: l,k,h=>by
  rw [aheadOf,if_pos (h x List.mem_cons_self),Ze4 fun y hy=>h y (List.mem_cons_of_mem _ hy),List.length_cons]
theorem pc8_zero:∀ t,t<256→(pcTo 8 t=0↔t=0):=by decide +kernel
end Go.Proofs.YtabdnhkdoeibnaaGreatDoor
namespace Go.Proofs.YtabdnhkdoeibnaaGreatDoor
open Go.RowKit
theorem Zij {Z:Nat} {zs:List Int} (hl:zs.length=Z+10) (h:rdN zs≤Z):(rdX zs).length=rdN zs:=by
 unfold rdX; rw [List.length_take,List.length_drop]; omega
theorem ZcU (z:Int) (a:Option Addr) (cap:Nat) (zs:List Int) (hc:zs.length≤cap) (bz:∀ z∈zs,0≤z∧z≤255) (e:Int) (h:badB z zs e) (w:World) (ha:Zb .u8 w.heap.size w (.slice a zs.length cap) zs) :
  Calls Tryz.prog 35 #[.int .i64 z,.slice a zs.length cap] w fun r w'=>r=.returned (.tuple #[.agg #[.int .i64 0,.int .i64 0,.slice none 0 0],.int .i64 e])∧Below w.heap.size w w':=by
 rcases h with ⟨h1,rfl⟩ | ⟨h1,h2,rfl⟩ | ⟨h1,h2,h3,rfl⟩ | ⟨h1,h2,h3,h4,rfl⟩
 ·exact refRead_arg z h1 _ w
 ·exact refRead_len z h1 a _ cap h2 w
 ·have hz:=(Zav z).1 h1;obtain ⟨Z,rfl⟩:=Int.eq_ofNat_of_zero_le (show 0≤z by omega);exact refRead_sum Z (by omega) (by omega) a cap zs (by omega) hc bz h3 w ha
 ·have hz:=(Zav z).1 h1;obtain ⟨Z,rfl⟩:=Int.eq_ofNat_of_zero_le (show 0≤z by omega);have hl:zs.length=Z+10:=by omega
  rw [show (Z:Int).toNat=Z from rfl] at h4;by_cases hn:rdN zs≤Z
  ·have hx:=Zij hl hn;by_cases hE:errB Z (rdS zs) (rdM zs) (rdN zs)=0
   ·have hR:ZbM Z (rdS zs) (rdM zs) (rdX zs):=(ZbY _ _ _ _).1 (by rw [hx]; exact hE);exact refRead_pad Z (by omega) (by omega) a cap zs hl hc bz h3 hn hR (fun hq=>h4 ⟨hn,hR,hq⟩) w ha
   ·exact refRead_bad Z (by omega) (by omega) a cap zs hl hc bz h3 hn hE w ha
  ·exact refRead_big Z (by omega) (by omega) a cap zs hl hc bz h3 (by omega) w ha
theorem Za2 (Z:Nat) (hZ1:1≤Z) (hZ2:Z≤16) (a:Option Addr) (cap:Nat) (zs:List Int) (hl:zs.length=Z+10) (hc:zs.length≤cap) (bz:∀ z∈zs,0≤z∧z≤255) (hs:Zv zs=true) (h:Zby Z zs) (w:World) (ha:Zb .u8 w.heap.size w (.slice a zs.length cap) zs) :
  Calls Tryz.prog 35 #[.int .i64 Z,.slice a zs.length cap] w fun e W'=>∃ ra rc,e=.returned (.tuple #[.agg #[.int .i64 (rdS zs),.int .i64 (rdM zs),.slice ra (rdX zs).length rc],.int .i64 0])∧Zb .u8 W'.heap.size W' (.slice ra (rdX zs).length rc) (rdX zs)∧Below w.heap.size w W' :=
 refRead_ok Z hZ1 hZ2 a cap zs hl hc bz hs h.1 h.2.1 h.2.2 w ha
theorem ZcV (z:Int) (zs:List Int):(∃ e,0<e∧badB z zs e)∨∃ Z:Nat,z=(Z:Int)∧1≤Z∧Z≤16∧zs.length=Z+10∧Zv zs=true∧Zby Z zs:=by
 cases h1:Zca z with
 | false=>exact .inl ⟨1,by decide,.inl ⟨h1,rfl⟩⟩
 | true =>
  have hz:=(Zav z).1 h1;obtain ⟨Z,rfl⟩:=Int.eq_ofNat_of_zero_le (show 0≤z by omega);by_cases h2:(zs.length:Int)=(Z:Int)+10
  ·cases h3:Zv zs with
   | false=>exact .inl ⟨4,by decide,.inr (.inr (.inl ⟨h1,h2,h3,rfl⟩))⟩
   | true =>
    by_cases h4:Zby Z zs
    ·exact .inr ⟨Z,rfl,by omega,by omega,by omega,rfl,h4⟩
    ·exact .inl ⟨3,by decide,.inr (.inr (.inr ⟨h1,h2,h3,h4,rfl⟩))⟩
  ·exact .inl ⟨2,by decide,.inr (.inl ⟨h1,h2,rfl⟩)⟩
theorem Box.grown {W W':World} {B:Nat} {t:TypeId} {cs:Array Value} {ob:Option Nat} (h:Box W B t cs) (hg:W.grownBy W' ob) (hne:ob≠some B):Box W' B t cs:=(hg.block B h.lt hne.symm).trans h
theorem box_holds1 {W:World} {B:Nat} {t:TypeId} {x:Int} (h:Box W B t #[.int .u8 x]):Zb .u8 W.heap.size W (.slice (some ⟨B,0,none⟩) 1 1) [x] :=
 .inr ⟨B,0,1,rfl,h.lt,fun j hj=>by
  have:j=0:=by simpa using hj
  subst this
  exact h.cell 0 _ rfl⟩
theorem Put_in (n p:Int) (k u:Int) (k0:0≤k) (hk:k≤9223372036854775807) (u0:0≤u) (u1:u≤255) (a:Option Addr) (cap:Nat) (l:List (Int×Int)) (hp:Zf n p l) (w:World) (ha:Syms w.heap.size w (.slice a l.length cap) l) (hc:Zii a l.length cap) :
  Calls Tryz.prog 55 #[.agg #[.int .i64 n,.int .i64 p,.slice a l.length cap],.int .i64 k,.int .i64 u] w fun e W'=>∃ r,e=.returned (.tuple #[.agg #[.int .i64 n,.int .i64 p,r],.bool (ZK n p l k),.int .i64 0])∧W'.ownsRow w.heap.size 87 2 r (putN n p l k u).length (Za (putN n p l k u))∧Below w.heap.size w W':=by
 have hql:=Zan l k;obtain ⟨q,hq⟩:∃ q,aheadOf l k=q:=⟨_,rfl⟩;rw [hq] at hql
 cases ht:ZV l k with
 | true =>
  have h1:ZK n p l k=false:=by unfold ZK; exact decide_eq_false (by simp [ht])
  have h2:putN n p l k u=l:=by unfold putN; rw [if_pos (.inr ht)]
  rw [h1,h2];exact Put_stands n p k u k0 hk u0 u1 a cap l q hq ht hp w ha
 | false =>
  by_cases hMk:n * p≤k
  ·have h1:ZK n p l k=false:=by unfold ZK; exact decide_eq_false (by simp [hMk])
   have h2:putN n p l k u=l:=by unfold putN; rw [if_pos (.inl hMk)]
   rw [h1,h2];exact Put_beyond n p k u k0 hk u0 u1 a cap l q hq ht hMk hp w ha
  ·have h1:ZK n p l k=true:=by unfold ZK; exact decide_eq_true (by rw [ht]; simp; omega)
   have h2:putN n p l k u=putL l k u:=by unfold putN; rw [if_neg (by rw [ht]; simp; omega)]
   rw [h1,h2,Zdg]
   cases a with
   | none=>exact Put_fresh2 n p k u k0 hk u0 u1 cap l q hq ht (by omega) hp w ha
   | some ad =>
    obtain ⟨b,off,spot⟩:=ad;obtain rfl:spot=none:=hc.2 _ rfl;have hlc:=hc.1;by_cases h3:q<l.length
    ·exact Put_fresh1 n p k u k0 hk u0 u1 b off cap l q hq ht (by omega) h3 (by omega) hp w ha
    ·by_cases h4:q<cap
     ·exact Put_fresh3 n p k u k0 hk u0 u1 b off cap l q hq ht (by omega) (by omega) h4 hp w ha
     ·exact Put_fresh4 n p k u k0 hk u0 u1 b off cap l q hq ht (by omega) (by omega) (by omega) hp w ha
end Go.Proofs.YtabdnhkdoeibnaaGreatDoor
