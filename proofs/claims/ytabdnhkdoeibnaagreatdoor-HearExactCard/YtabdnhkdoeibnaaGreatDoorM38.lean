/-
  What pile.Of answers, as long as sched's table reads as it was laid.
-/
import Derived.Test.YtabdnhkdoeibnaaGreatDoorM34
import Derived.Test.YtabdnhkdoeibnaaGreatDoorM37
set_option maxRecDepth 100000
set_option maxHeartbeats 4000000
namespace Go.Proofs.YtabdnhkdoeibnaaGreatDoor
open Go.RowKit
theorem PileOf_num (N P:Nat) (s:Nat) (hs:s<N) (a:Option Addr) (cap:Nat) (l:List (Int×Int)) (hp:Zf (N:Int) (P:Int) l) (w:World) (ha:Syms w.heap.size w (.slice a l.length cap) l) (hF:ZA w) :
  Calls Tryz.prog 126 #[.agg #[.int .i64 N,.int .i64 P,.slice a l.length cap],.int .i64 s] w fun e W'=>∃ r,e=.returned (.tuple #[r,.int .i64 0])∧W'.ownsRow w.heap.size 87 2 r (ofP N l s P).length (Za (ofP N l s P))∧Below w.heap.size w W':=by
 obtain ⟨i0,hi,hz0,hz1,hz2⟩:=info_parts ZeB;have hl:l.length≤1024:=by have:=Zag hp; have:=hp.1.prod; omega
 have HP:Hid (Zf (N:Int) (P:Int) l):=hp;obtain ⟨g1,g2,g3,g4⟩:=hp.1;have hN1:1≤N:=by omega
 have hN2:N<65:=by omega
 have hP1:1≤P:=by omega
 have hP2:P≤16:=by omega
 have b0:=(Below.refl w.heap.size w).alloc (Nat.le_refl _) (.cells #[.int .i64 N,.int .i64 P,.slice a l.length cap] 26);have x0:=Box.new w 26 #[.int .i64 N,.int .i64 P,.slice a l.length cap];have ha0:=ha.next b0;have hF0:=hF.next b0;have HC:=Zas N P a cap l (by omega) hp _ ha0;have d1:decide ((s:Int)<0)=false:=decide_eq_false (by omega);have d2:decide ((N:Int)≤(s:Int))=false:=decide_eq_false (by omega);clear hp ha g1 g2 g3 g4 hF;go_enter Tryz.func126,Tryz.ntmps126;go_wp2_with fail;refine HC.mono ?_;rintro e w1 ⟨rfl,b1⟩;have x1:=x0.next b1;have ha1:=ha0.next b1;have hF1:=hF0.next b1;have bb1:=b0.trans (b1.mono b0.size);have hx1:=x1.lt;have c0:=x1.cell 0 _ rfl;have c1:=x1.cell 1 _ rfl;clear HC x0 ha0 hF0 b0 b1;go_wp2_with (at_make; refine wpList_make_own _ rfl _ _ 24 rfl w1.heap.size 87 i0 (.agg #[.int .i64 0,.int .i64 0]) 2 Tryz.underlying24 hi hz0 hz1 .i64 .i64 _ P rfl rfl (by omega) (by rw [hz2]; omega) (by unfold maxLen; omega) (Nat.le_refl _) ?_; intro w2 hown2 hgrow2; have b2:Below w1.heap.size w1 w2:=(Below.refl _ w1).grown hgrow2 (Nat.le_refl _) (fun q e=>by cases e); have m1:=(x1.next b2).cell 1 _ rfl);clear c0 c1 m1;go_loopw [7,31] (fun v i wr=>∃ k:Nat,k≤P∧i=.int .i64 k∧wr.ownsRow w1.heap.size 87 2 v (ofP N l s k).length (Za (ofP N l s k))∧Below w1.heap.size w1 wr) (fun _ i _=>P-(intOf i).toNat)
 case atStart=>exact ⟨0,Nat.zero_le _,rfl,hown2,b2⟩
 case round =>
  obtain ⟨k,hk,rfl,ho,hbw⟩:=hrel;have x2:=x1.next hbw;by_cases hlt:k<P
  ·have c0:=x2.cell 0 _ rfl;have c2:=x2.cell 2 _ rfl;have ha2:=ha1.next hbw;have hF2:=hF1.next hbw;have HPL:=Place_ok N s k hN1 hN2 hs (by omega) wr hF2;obtain ⟨key,hkey⟩:∃ key,k * N+posN N s=key:=⟨_,rfl⟩;have HK:Hid (k * N+posN N s=key):=hkey;rw [hkey] at HPL;have hfew:=Zg8 N l s k;have HO:Hid _:=ho;clear hkey ho;go_wp2_with fail;refine HPL.mono ?_;rintro e w3 ⟨rfl,b3⟩;have x3:=x2.next b3;have ha3:=ha2.next b3;have o3:=Zd HO.out b3 (Nat.le_refl _);have bb3:=hbw.trans (b3.mono hbw.size);have c23:=x3.cell 2 _ rfl;clear HPL c0 c2 x2 ha2 HO b3;go_wp2_with fail;refine (Zc6 (key:Int) a cap l (by omega) HP.out.2.2 w3 ha3).mono ?_
   cases hh:ZV l (key:Int) with
   | true =>
    have hv:=Zez hh
    have HY:Hid (ofP N l s (k+1)=ofP N l s k++[((k:Int),Zg7 l (key:Int))]):=by
     have h1:=hh;rw [← HK.out] at h1 ⊢;exact ofP_yes h1
    obtain ⟨q,hq⟩:∃ q,aheadOf l (key:Int)=q:=⟨_,rfl⟩;obtain ⟨val,hval⟩:∃ val,Zg7 l (key:Int)=val:=⟨_,rfl⟩;rw [hq,hval] at hv;rw [hval] at HY;rw [hq];clear hq hval hh;rintro e w4 ⟨rfl,b4⟩;have x4:=x3.next b4;have ha4:=ha3.next b4;have o4:=Zd o3 b4 (Nat.le_refl _);have bb4:=bb3.trans (b4.mono bb3.size);clear c23 x3 ha3 o3 bb3 b4;have hql:q<l.length:=(List.getElem?_eq_some_iff.1 hv).1;obtain ⟨b,off,rfl,hb,hcs⟩:=Za0 ha4 rfl (by omega);have cv:=(hcs q _ hv).2;have c24:=x4.cell 2 _ rfl;obtain ⟨L,hL⟩:∃ L,ofP N l s k=L:=⟨_,rfl⟩;rw [hL] at o4 hfew HY;have b5:=(Below.refl w4.heap.size w4).alloc (Nat.le_refl _) (.cells #[.int .i64 k,.int .i64 val] 87);have xb:=Box.new w4 87 #[.int .i64 k,.int .i64 val]
    have hN:Syms (w4.alloc (.cells #[.int .i64 k,.int .i64 val] 87)).heap.size (w4.alloc (.cells #[.int .i64 k,.int .i64 val] 87)) (.slice (some ⟨w4.heap.size,0,none⟩) 1 1) [((k:Int),val)]:=by
     refine .inr ⟨w4.heap.size,0,1,rfl,xb.lt,fun j x hj=>?_⟩
     cases j with
     | zero=>simp at hj; subst hj; exact ⟨xb.cell 0 _ rfl,xb.cell 1 _ rfl⟩
     | succ j=>simp at hj
    obtain ⟨v6,w6,hr6,ho6,hg6⟩:=Zl u7 (.slice (some ⟨w4.heap.size,0,none⟩) 1 1) L.length w1.heap.size _ L [((k:Int),val)] 24 (w4.alloc (.cells #[.int .i64 k,.int .i64 val] 87)) (o4.alloc _) hN (Nat.le_trans bb4.size b5.size) (by omega) (by simp);have b6:Below w1.heap.size w1 w6:=(bb4.trans (b5.mono bb4.size)).trans ((Below.refl _ _).grown hg6 (Nat.le_trans bb4.size b5.size) (fun q e=>(o4.lt q e).1));have HR6:Hid _:=hr6;clear hcs hN hr6 hg6 o4 xb b5 hL hv;go_wp2_with (at_builtin; refine Zc rfl _ _ 24 rfl _ _ rfl rfl _ _ HR6.out ?_);refine ⟨⟨k+1,by omega,by go_num,?_,b6⟩,by simp [intOf]; omega⟩;rw [HY.out,List.length_append];exact ho6
   | false =>
    have HY:Hid (ofP N l s (k+1)=ofP N l s k):=by
     have h1:=hh;rw [← HK.out] at h1;exact ofP_no h1
    obtain ⟨q,hq⟩:∃ q,aheadOf l (key:Int)=q:=⟨_,rfl⟩;rw [hq];clear hq hh;rintro e w4 ⟨rfl,b4⟩;have o4:=Zd o3 b4 (Nat.le_refl _);have bb4:=bb3.trans (b4.mono bb3.size);clear c23 x3 ha3 o3 bb3 b4;go_wp2;refine ⟨⟨k+1,by omega,by go_num,?_,bb4⟩,by simp [intOf]; omega⟩;rw [HY.out];exact o4
  ·obtain rfl:k=P:=by omega
   have ho':=Ze ho (show w.heap.size≤w1.heap.size by omega);have bb2:=bb1.trans (hbw.mono bb1.size);clear ho hlt hk ha1;go_wp2;go_ret2;exact ⟨_,rfl,ho',bb2⟩
theorem PileOf_in (N:Nat) (p:Int) (s:Nat) (hs:s<N) (a:Option Addr) (cap:Nat) (l:List (Int×Int)) (hp:Zf (N:Int) p l) (w:World) (ha:Syms w.heap.size w (.slice a l.length cap) l) (hF:ZA w) :
  Calls Tryz.prog 126 #[.agg #[.int .i64 N,.int .i64 p,.slice a l.length cap],.int .i64 s] w fun e W'=>∃ r,e=.returned (.tuple #[r,.int .i64 0])∧W'.ownsRow w.heap.size 87 2 r (ofL N l s).length (Za (ofL N l s))∧Below w.heap.size w W':=by
 obtain ⟨P,rfl⟩:=Int.eq_ofNat_of_zero_le (a:=p) (by have:=hp.1.2.2.1; omega);rw [← Ziq hp hs];exact PileOf_num N P s hs a cap l hp w ha hF
end Go.Proofs.YtabdnhkdoeibnaaGreatDoor
