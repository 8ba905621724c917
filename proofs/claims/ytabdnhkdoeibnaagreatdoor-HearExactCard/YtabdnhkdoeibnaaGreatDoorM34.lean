/-
  What pile.Check answers.
-/
import Derived.Test.YtabdnhkdoeibnaaGreatDoorM29
import Derived.Deep.RegionWith
set_option maxRecDepth 100000
set_option maxHeartbeats 4000000
namespace Go.Proofs.YtabdnhkdoeibnaaGreatDoor
open Go.RowKit
theorem Zbd (n p M:Int) (hM:n * p=M) (h1:1≤M) (h2:M≤1024) (a:Option Addr) (len cap:Nat) (w:World) :
  Calls Tryz.prog 72 #[.agg #[.int .i64 n,.int .i64 p,.slice a len cap]] w fun e w'=>e=.returned (.int .i64 M)∧Below w.heap.size w w':=by
 have b0:=(Below.refl w.heap.size w).alloc (Nat.le_refl _) (.cells #[.int .i64 n,.int .i64 p,.slice a len cap] 26);go_enter Tryz.func72,Tryz.ntmps72;go_wp2;go_ret;exact ⟨rfl,b0⟩
theorem ZaG (u:Int) (h0:0≤u) (h1:u≤255) (w:World):Calls Tryz.prog 73 #[.int .i64 u] w fun e w'=>e=.returned (.bool true)∧w=w':=by
 have d0:decide (0≤u)=true:=decide_eq_true h0;have d1:decide (u≤255)=true:=decide_eq_true h1;clear h0 h1;go_enter Tryz.func73,Tryz.ntmps73;go_wp2;go_ret;exact ⟨rfl,rfl⟩
theorem isValue_no (u:Int) (h:u<0∨255<u) (w:World):Calls Tryz.prog 73 #[.int .i64 u] w fun e w'=>e=.returned (.bool false)∧w=w':=by
 by_cases h0:u<0
 ·have d0:decide (0≤u)=false:=decide_eq_false (by omega);clear h h0;go_enter Tryz.func73,Tryz.ntmps73;go_wp2;go_ret;exact ⟨rfl,rfl⟩
 ·have d0:decide (0≤u)=true:=decide_eq_true (by omega);have d1:decide (u≤255)=false:=decide_eq_false (by omega);clear h h0;go_enter Tryz.func73,Tryz.ntmps73;go_wp2;go_ret;exact ⟨rfl,rfl⟩
theorem Check_head (n p:Int) (h:¬ Zbq n p) (a:Option Addr) (len cap:Nat) (w:World) :
  Calls Tryz.prog 44 #[.agg #[.int .i64 n,.int .i64 p,.slice a len cap]] w fun e w'=>e=.returned (.int .i64 1)∧Below w.heap.size w w':=by
 have b0:=(Below.refl w.heap.size w).alloc (Nat.le_refl _) (.cells #[.int .i64 n,.int .i64 p,.slice a len cap] 26);by_cases h1:n<1
 ·have d1:decide (n<1)=true:=decide_eq_true h1;clear h h1;go_enter Tryz.func44,Tryz.ntmps44;go_wp2;go_ret;exact ⟨rfl,b0⟩
 have d1:decide (n<1)=false:=decide_eq_false h1;by_cases h2:64<n
 ·have d2:decide (64<n)=true:=decide_eq_true h2;clear h h1 h2;go_enter Tryz.func44,Tryz.ntmps44;go_wp2;go_ret;exact ⟨rfl,b0⟩
 have d2:decide (64<n)=false:=decide_eq_false h2;by_cases h3:p<1
 ·have d3:decide (p<1)=true:=decide_eq_true h3;clear h h1 h2 h3;go_enter Tryz.func44,Tryz.ntmps44;go_wp2;go_ret;exact ⟨rfl,b0⟩
 have d3:decide (p<1)=false:=decide_eq_false h3
 have d4:decide (16<p)=true:=decide_eq_true (by
  rcases Int.lt_or_le 16 p with h4 | h4
  ·exact h4
  ·exact absurd ⟨by omega,by omega,by omega,h4⟩ h)
 clear h h1 h2 h3;go_enter Tryz.func44,Tryz.ntmps44;go_wp2;go_ret;exact ⟨rfl,b0⟩
theorem ZfP (n p:Int) (hh:Zbq n p) (a:Option Addr) (cap:Nat) (l:List (Int×Int)) (hl:l.length≤4294967296) (w:World) (ha:Syms w.heap.size w (.slice a l.length cap) l) :
  Calls Tryz.prog 44 #[.agg #[.int .i64 n,.int .i64 p,.slice a l.length cap]] w fun e w'=>(e=.returned (.int .i64 0)∧ZX n p l∨e=.returned (.int .i64 1)∧¬ ZX n p l)∧Below w.heap.size w w':=by
 have HH:Hid (Zbq n p):=hh;obtain ⟨g1,g2,g3,g4⟩:=hh;have hpr:=HH.out.prod;obtain ⟨M,hM⟩:∃ M,n * p=M:=⟨_,rfl⟩;have HM:Hid (n * p=M):=hM;rw [hM] at hpr;obtain ⟨hM1,hM2⟩:=hpr;have e1:decide (n<1)=false:=decide_eq_false (by omega);have e2:decide (64<n)=false:=decide_eq_false (by omega);have e3:decide (p<1)=false:=decide_eq_false (by omega);have e4:decide (16<p)=false:=decide_eq_false (by omega);have b0:=(Below.refl w.heap.size w).alloc (Nat.le_refl _) (.cells #[.int .i64 n,.int .i64 p,.slice a l.length cap] 26);have x0:=Box.new w 26 #[.int .i64 n,.int .i64 p,.slice a l.length cap];have ha0:=ha.next b0;obtain ⟨w0,hw0⟩:∃ w0,w.alloc (.cells #[.int .i64 n,.int .i64 p,.slice a l.length cap] 26)=w0:=⟨_,rfl⟩;rw [hw0] at b0 x0 ha0;have hs0:w0.heap.size=w.heap.size+1:=by rw [← hw0]; simp
 obtain ⟨k0,k1,k2⟩:=x0.c3;clear ha g1 g2 g3 g4 hM;go_enter Tryz.func44,Tryz.ntmps44;go_wp2;clear k0 k1 k2 hw0 e1 e2 e3 e4;go_loopw [3,27] (fun m i wr=>∃ k:Nat,k≤l.length∧i=.int .i64 k∧m=.int .i64 (Zbg (l.take k))∧Hid (ZX n p (l.take k))∧Below w0.heap.size w0 wr) (fun _ i _=>l.length-(intOf i).toNat)
 case atStart=>exact ⟨0,Nat.zero_le _,rfl,rfl,Zft _ _,Below.refl _ _⟩
 case round =>
  obtain ⟨k,hk,rfl,rfl,HS,hbw⟩:=hrel;have x1:=x0.next hbw;by_cases hlt:k<l.length
  ·obtain ⟨⟨at_,val⟩,hx⟩:∃ x,l[k]? = some x:=⟨l[k],by simp⟩;obtain ⟨b,off,rfl,hb,hcell⟩:=Za0 (ha0.next hbw) rfl (by omega);obtain ⟨c1,c2⟩:=hcell k _ hx
   have HT:Hid (l.take (k+1)=l.take k++[(at_,val)]):=by
    show l.take (k+1)=l.take k++[(at_,val)]
    rw [List.take_add_one,hx]; rfl
   have hm:=Zdh HH.out HS.out;rw [HM.out] at hm;obtain ⟨hm1,hm2⟩:=hm
   have HMO:Hid (Zbg (l.take k)≤at_→at_<M→0≤val→val≤255→ZX n p (l.take (k+1))):=fun h1 h2 h3 h4=>by
    rw [HT.out];exact symsOk_more HH.out HS.out h1 (by rw [HM.out]; exact h2) h3 h4
   have HLE:Hid (ZX n p l→Zbg (l.take k)≤at_∧at_<M∧0≤val∧val≤255):=fun h=>by
    have h1:=symsOk_take h (k+1);rw [HT.out] at h1;have h2:=h1.1 (at_,val) (by simp);exact ⟨symsOk_least h1,by rw [← HM.out]; exact h2.2.1,h2.2.2.1,h2.2.2.2⟩
   have HLN:Hid (Zbg (l.take (k+1))=at_+1):=by
    show Zbg (l.take (k+1))=at_+1
    rw [HT.out,leastN_snoc]
   obtain ⟨m,hmm⟩:∃ m,Zbg (l.take k)=m:=⟨_,rfl⟩;rw [hmm] at hm1 hm2 HMO HLE ⊢;have k2:=x1.cell 2 _ rfl;clear hcell hx hmm;go_wp2;have bV:Below w0.heap.size w0 (wr.alloc (.cells #[.int .i64 at_,.int .i64 val] 87)):=hbw.alloc hbw.size _;have xS:=Box.new wr 87 #[.int .i64 at_,.int .i64 val];have xP:=x1.alloc (.cells #[.int .i64 at_,.int .i64 val] 87);obtain ⟨V,hV⟩:∃ V,wr.alloc (.cells #[.int .i64 at_,.int .i64 val] 87)=V:=⟨_,rfl⟩;rw [hV] at bV xS xP ⊢;clear hV c1 c2 k2 x1 hb;have s0:∀ q,(V.drewN q).cell? ⟨wr.heap.size,0,none⟩=some (.int .i64 at_):=fun q=>xS.cell 0 _ rfl
   have bbV:=b0.trans (bV.mono b0.size);by_cases h1:at_<m
   ·have d1:decide (at_<m)=true:=decide_eq_true h1;have HNO:Hid (¬ ZX n p l):=fun h=>by have:=(HLE.out h).1; omega
    clear h1;go_quiet (fail);go_wp2;go_ret;exact ⟨.inr ⟨rfl,HNO.out⟩,Zi bbV _⟩
   have d1:decide (at_<m)=false:=decide_eq_false h1;have v0:=xS.cell 0 _ rfl;have v1:=xS.cell 1 _ rfl;obtain ⟨v2,v3,v4⟩:=xP.c3;clear s0;by_cases h2:M≤at_
   ·have d2:decide (M≤at_)=true:=decide_eq_true h2;have HNO:Hid (¬ ZX n p l):=fun h=>by have:=(HLE.out h).2.1; omega
    clear h1 h2
    first | go_region_with (go_at_call 72; refine (Zbd n p M HM.out hM1 hM2 _ _ _ _).mono ?_; rintro e w9 ⟨rfl,b9⟩; have b9V:Below V.heap.size V w9:=(Below.refl V.heap.size V).drew.trans b9; have xS9:=xS.next b9V; have xP9:=xP.next b9V; have r0:=xS9.cell 0 _ rfl; have r1:=xS9.cell 1 _ rfl; have r2:=xP9.cell 0 _ rfl; have r3:=xP9.cell 1 _ rfl; have r4:=xP9.cell 2 _ rfl) | fail
    all_goals (
     go_wp2
     go_ret
     exact ⟨.inr ⟨rfl,HNO.out⟩,bbV.trans (b9V.mono bbV.size)⟩)
   have d2:decide (M≤at_)=false:=decide_eq_false h2;by_cases h3:val<0∨255<val
   ·have HNO:Hid (¬ ZX n p l):=fun h=>by have:=(HLE.out h).2.2; omega
    clear h1 h2
    first | go_region_with (first | (go_at_call 72; refine (Zbd n p M HM.out hM1 hM2 _ _ _ _).mono ?_; rintro e w9 ⟨rfl,b9⟩; have b9V:Below V.heap.size V w9:=(Below.refl V.heap.size V).drew.trans b9; have xS9:=xS.next b9V; have xP9:=xP.next b9V; have r0:=xS9.cell 0 _ rfl; have r1:=xS9.cell 1 _ rfl; have r2:=xP9.cell 0 _ rfl; have r3:=xP9.cell 1 _ rfl; have r4:=xP9.cell 2 _ rfl) | (go_at_call 73; refine (isValue_no val h3 _).mono ?_; rintro e w10 ⟨rfl,rfl⟩)) | fail
    all_goals (
     go_wp2
     go_ret
     exact ⟨.inr ⟨rfl,HNO.out⟩,bbV.trans (b9V.mono bbV.size)⟩)
   have h4:0≤val:=by omega
   have h5:val≤255:=by omega
   have HS':Hid (ZX n p (l.take (k+1))):=HMO.out (by omega) (by omega) h4 h5;have h6:0≤at_:=by omega
   have h7:at_≤1024:=by omega
   clear h1 h2 h3
   first | go_region_with (first | (go_at_call 72; refine (Zbd n p M HM.out hM1 hM2 _ _ _ _).mono ?_; rintro e w9 ⟨rfl,b9⟩; have b9V:Below V.heap.size V w9:=(Below.refl V.heap.size V).drew.trans b9; have xS9:=xS.next b9V; have xP9:=xP.next b9V; have r0:=xS9.cell 0 _ rfl; have r1:=xS9.cell 1 _ rfl; have r2:=xP9.cell 0 _ rfl; have r3:=xP9.cell 1 _ rfl; have r4:=xP9.cell 2 _ rfl) | (go_at_call 73; refine (ZaG val h4 h5 _).mono ?_; rintro e w10 ⟨rfl,rfl⟩)) | fail
   all_goals (
    go_wp2
    exact ⟨⟨k+1,by omega,by go_num,by rw [HLN.out],HS',bV.trans (b9V.mono bV.size)⟩,by simp [intOf]; omega⟩)
  ·obtain rfl:k=l.length:=by omega
   have HS2:Hid (ZX n p l):=by
    have:=HS.out;rw [List.take_length] at this;exact this
   have k2:=x1.cell 2 _ rfl;clear HS hlt;go_wp2;go_ret;exact ⟨.inl ⟨rfl,HS2.out⟩,b0.trans (hbw.mono b0.size)⟩
theorem Zas (n p:Int) (a:Option Addr) (cap:Nat) (l:List (Int×Int)) (hl:l.length≤4294967296) (hp:Zf n p l) (w:World) (ha:Syms w.heap.size w (.slice a l.length cap) l) :
  Calls Tryz.prog 44 #[.agg #[.int .i64 n,.int .i64 p,.slice a l.length cap]] w fun e w'=>e=.returned (.int .i64 0)∧Below w.heap.size w w':=by
 refine (ZfP n p hp.1 a cap l hl w ha).mono ?_;rintro e w' ⟨⟨rfl,_⟩ | ⟨_,h⟩,hb⟩
 ·exact ⟨rfl,hb⟩
 ·exact absurd ⟨hp.2.1,hp.2.2⟩ h
theorem Check_no (n p:Int) (a:Option Addr) (cap:Nat) (l:List (Int×Int)) (hl:l.length≤4294967296) (hp:¬ Zf n p l) (w:World) (ha:Syms w.heap.size w (.slice a l.length cap) l) :
  Calls Tryz.prog 44 #[.agg #[.int .i64 n,.int .i64 p,.slice a l.length cap]] w fun e w'=>e=.returned (.int .i64 1)∧Below w.heap.size w w':=by
 by_cases hh:Zbq n p
 ·refine (ZfP n p hh a cap l hl w ha).mono ?_;rintro e w' ⟨⟨_,h⟩ | ⟨rfl,_⟩,hb⟩
  ·exact absurd ⟨hh,h.1,h.2⟩ hp
  ·exact ⟨rfl,hb⟩
 ·exact Check_head n p hh a l.length cap w
theorem New_ok (n p:Int) (h:Zbq n p) (w:World):Calls Tryz.prog 23 #[.int .i64 n,.int .i64 p] w fun e w'=>e=.returned (.tuple #[.agg #[.int .i64 n,.int .i64 p,.slice none 0 0],.int .i64 0])∧Below w.heap.size w w':=by
 have b0:=((Below.refl w.heap.size w).alloc (Nat.le_refl _) (.cells #[.int .i64 0,.int .i64 0,.slice none 0 0] 26)).alloc (by simp) (.cells #[.int .i64 n,.int .i64 p,.slice none 0 0] 26);have x0:=(Box.new w 26 #[.int .i64 0,.int .i64 0,.slice none 0 0]).alloc (.cells #[.int .i64 n,.int .i64 p,.slice none 0 0] 26)
 have x1:Box ((w.alloc (.cells #[.int .i64 0,.int .i64 0,.slice none 0 0] 26)).alloc (.cells #[.int .i64 n,.int .i64 p,.slice none 0 0] 26)) (w.heap.size+1) 26 #[.int .i64 n,.int .i64 p,.slice none 0 0]:=by
  have:=Box.new (w.alloc (.cells #[.int .i64 0,.int .i64 0,.slice none 0 0] 26)) 26 #[.int .i64 n,.int .i64 p,.slice none 0 0];simpa using this
 have HC:=Zas n p none 0 [] (by decide) (ZcI h) ((w.alloc (.cells #[.int .i64 0,.int .i64 0,.slice none 0 0] 26)).alloc (.cells #[.int .i64 n,.int .i64 p,.slice none 0 0] 26)) (Zdf _ _);clear h;go_enter Tryz.func23,Tryz.ntmps23;go_wp2_with fail;refine HC.mono ?_;rintro e w1 ⟨rfl,b1⟩;have bb:=b0.trans (b1.mono (by simp; omega));have y0:=x0.next b1;have y1:=x1.next b1;obtain ⟨c0,c1,c2⟩:=y1.c3;obtain ⟨z0,z1,z2⟩:=y0.c3;obtain ⟨f0,f1,f2⟩:=y0.f3;clear HC b0 b1 x0 x1;go_wp2;refine bodyPost_ret (v:=.tuple #[.agg #[.int .i64 n,.int .i64 p,.slice none 0 0],.int .i64 0]) (by simp [results,Tryz.results23,go_sem,z0,z1,z2]) rfl ⟨rfl,?_⟩;exact Zx bb (Nat.le_refl _) _ _ _
def Zii (a:Option Addr) (len cap:Nat):Prop:=len≤cap∧∀ ad,a=some ad→ad.spot=none
theorem ZgT {w:World} {base e n cap:Nat} {a:Option Addr} {xs:List Value} (h:w.ownsRow base e 2 (.slice a n cap) n xs):Zii a n cap:=by
 refine ⟨Zga h,fun ad e=>?_⟩;subst e;rcases h.2 with ⟨e,_⟩ | ⟨g,c,cur,e,_⟩
 ·simp only [Value.slice.injEq] at e; exact absurd e.1 (by simp)
 ·simp only [Value.slice.injEq,Option.some.injEq] at e; rw [e.1]
theorem concat3_num (g n1 n2 n3:Nat) (a1 a2 a3:Option Addr) (c1 c2 c3:Nat) (l1 l2 l3:List (Int×Int)) (e1:l1.length=n1) (e2:l2.length=n2) (e3:l3.length=n3) (p1:n1≤1048576) (p2:n2≤1048576) (p3:n3≤1048576) (h0:0<n1+n2+n3) (w:World)
  (k1:w.cell? ⟨g,0,none⟩=some (.slice a1 n1 c1)) (k2:w.cell? ⟨g,1,none⟩=some (.slice a2 n2 c2)) (k3:w.cell? ⟨g,2,none⟩=some (.slice a3 n3 c3))
  (h1:Syms w.heap.size w (.slice a1 n1 c1) l1) (h2:Syms w.heap.size w (.slice a2 n2 c2) l2) (h3:Syms w.heap.size w (.slice a3 n3 c3) l3) :
  Calls Tryz.prog 81 #[.slice (some ⟨g,0,none⟩) 3 3] w fun e W'=>∃ r,e=.returned r∧W'.ownsRow w.heap.size 87 2 r (n1+n2+n3) (Za (l1++l2++l3))∧Below w.heap.size w W':=by
 subst e1 e2 e3;exact concat3_ok g a1 a2 a3 c1 c2 c3 l1 l2 l3 p1 p2 p3 h0 w k1 k2 k3 h1 h2 h3
theorem ZcT (k u:Int) (l:List (Int×Int)) (q n3:Nat) (hq:aheadOf l k=q) (hl:l.length≤1024) (e3:l.length-q=n3) (a1 a3:Option Addr) (c1 c3:Nat) (V:World) (hT:Syms V.heap.size V (.slice a1 q c1) (l.take q)) (hD:Syms V.heap.size V (.slice a3 n3 c3) (l.drop q)) :
  Calls Tryz.prog 81 #[.slice (some ⟨V.heap.size+1,0,none⟩) 3 3] ((V.alloc (.cells #[.int .i64 k,.int .i64 u] 87)).alloc (.cells #[.slice a1 q c1,.slice (some ⟨V.heap.size,0,none⟩) 1 1,.slice a3 n3 c3] 24)).drew fun e W'=>∃ a9 c9,e=.returned (.slice a9 (l.length+1) c9)∧W'.ownsRow (V.heap.size+2) 87 2 (.slice a9 (l.length+1) c9) (l.length+1) (Za (putL l k u))∧Below V.heap.size V W':=by
 have hql:q≤l.length:=by rw [← hq]; exact Zan l k
 have b2:Below V.heap.size V ((V.alloc (.cells #[.int .i64 k,.int .i64 u] 87)).alloc (.cells #[.slice a1 q c1,.slice (some ⟨V.heap.size,0,none⟩) 1 1,.slice a3 n3 c3] 24)).drew:=(((Below.refl _ V).alloc (Nat.le_refl _) _).alloc (by simp) _).drew;have xb:=(Box.new V 87 #[.int .i64 k,.int .i64 u]).alloc (.cells #[.slice a1 q c1,.slice (some ⟨V.heap.size,0,none⟩) 1 1,.slice a3 n3 c3] 24)
 have xg:Box ((V.alloc (.cells #[.int .i64 k,.int .i64 u] 87)).alloc (.cells #[.slice a1 q c1,.slice (some ⟨V.heap.size,0,none⟩) 1 1,.slice a3 n3 c3] 24)).drew (V.heap.size+1) 24 #[.slice a1 q c1,.slice (some ⟨V.heap.size,0,none⟩) 1 1,.slice a3 n3 c3]:=by
  have:=Box.new (V.alloc (.cells #[.int .i64 k,.int .i64 u] 87)) 24 #[.slice a1 q c1,.slice (some ⟨V.heap.size,0,none⟩) 1 1,.slice a3 n3 c3];rw [show (V.alloc (.cells #[.int .i64 k,.int .i64 u] 87)).heap.size=V.heap.size+1 by simp] at this;exact this
 have hN:Syms ((V.alloc (.cells #[.int .i64 k,.int .i64 u] 87)).alloc (.cells #[.slice a1 q c1,.slice (some ⟨V.heap.size,0,none⟩) 1 1,.slice a3 n3 c3] 24)).drew.heap.size ((V.alloc (.cells #[.int .i64 k,.int .i64 u] 87)).alloc (.cells #[.slice a1 q c1,.slice (some ⟨V.heap.size,0,none⟩) 1 1,.slice a3 n3 c3] 24)).drew (.slice (some ⟨V.heap.size,0,none⟩) 1 1) [(k,u)]:=by
  refine .inr ⟨V.heap.size,0,1,rfl,xb.lt,fun j x hj=>?_⟩
  cases j with
  | zero=>simp at hj; subst hj; exact ⟨xb.cell 0 _ rfl,xb.cell 1 _ rfl⟩
  | succ j=>simp at hj
 refine (concat3_num (V.heap.size+1) q 1 n3 a1 (some ⟨V.heap.size,0,none⟩) a3 c1 1 c3 (l.take q) [(k,u)] (l.drop q) (by rw [List.length_take]; omega) rfl (by rw [List.length_drop]; exact e3) (by omega) (by omega) (by omega) (by omega) _ (xg.cell 0 _ rfl) (xg.cell 1 _ rfl) (xg.cell 2 _ rfl) (hT.next b2) hN (hD.next b2)).mono ?_;rintro e W' ⟨r,rfl,o,b⟩;have hn:q+1+n3=l.length+1:=by omega
 have hc:l.take q++[(k,u)]++l.drop q=putL l k u:=by unfold putL; rw [hq]; simp
 rw [hn,hc] at o;have hs:=(Zj o).shape;rw [syms_row_len o] at hs;obtain ⟨a9,c9,rfl⟩:=hs;exact ⟨a9,c9,rfl,Ze o (by simp [World.drew]),b2.trans (b.mono (by have:=b2.size; omega))⟩
theorem Put_stands (n p:Int) (k u:Int) (k0:0≤k) (hk:k≤9223372036854775807) (u0:0≤u) (u1:u≤255) (a:Option Addr) (cap:Nat) (l:List (Int×Int)) (q:Nat) (hq:aheadOf l k=q) (ht:ZV l k=true) (hp:Zf n p l) (w:World) (ha:Syms w.heap.size w (.slice a l.length cap) l) :
  Calls Tryz.prog 55 #[.agg #[.int .i64 n,.int .i64 p,.slice a l.length cap],.int .i64 k,.int .i64 u] w fun e W'=>∃ r,e=.returned (.tuple #[.agg #[.int .i64 n,.int .i64 p,r],.bool false,.int .i64 0])∧W'.ownsRow w.heap.size 87 2 r l.length (Za l)∧Below w.heap.size w W':=by
 have hl:l.length≤1024:=by have:=Zag hp; have:=hp.1.prod; omega
 have HP:Hid (Zf n p l):=hp;have hpr:=hp.1.prod;obtain ⟨M,hM⟩:∃ M,n * p=M:=⟨_,rfl⟩;have HM:Hid (n * p=M):=hM;rw [hM] at hpr;obtain ⟨hM1,hM2⟩:=hpr;have b0:=((Below.refl w.heap.size w).alloc (Nat.le_refl _) (.cells #[.int .i64 n,.int .i64 p,.slice a l.length cap] 26)).alloc (by simp) (.cells #[.int .i64 0,.int .i64 0,.slice none 0 0] 26);have xP:Box ((w.alloc (.cells #[.int .i64 n,.int .i64 p,.slice a l.length cap] 26)).alloc (.cells #[.int .i64 0,.int .i64 0,.slice none 0 0] 26)) w.heap.size 26 #[.int .i64 n,.int .i64 p,.slice a l.length cap]:=(Box.new w 26 #[.int .i64 n,.int .i64 p,.slice a l.length cap]).alloc (.cells #[.int .i64 0,.int .i64 0,.slice none 0 0] 26)
 have xR:Box ((w.alloc (.cells #[.int .i64 n,.int .i64 p,.slice a l.length cap] 26)).alloc (.cells #[.int .i64 0,.int .i64 0,.slice none 0 0] 26)) (w.heap.size+1) 26 #[.int .i64 0,.int .i64 0,.slice none 0 0]:=by
  have:=Box.new (w.alloc (.cells #[.int .i64 n,.int .i64 p,.slice a l.length cap] 26)) 26 #[.int .i64 0,.int .i64 0,.slice none 0 0];simpa using this
 have ha0:=ha.next b0;have HC:=Zas n p a cap l (by omega) hp _ ha0;have dk:decide (k<0)=false:=decide_eq_false (by omega);have HA:Hid (aheadOf l k=q):=hq;have HT:Hid (ZV l k=true):=ht;clear hp ha hM hq ht;go_enter Tryz.func55,Tryz.ntmps55;go_wp2_with fail;refine HC.mono ?_;rintro e w1 ⟨rfl,b1⟩;replace xP:=xP.next b1;replace xR:=xR.next b1;have ha1:=ha0.next b1;have bb1:=b0.trans (b1.mono (by simp; omega));clear b0 b1 HC ha0;obtain ⟨c0,c1,c2⟩:=xP.c3;go_wp2_with fail;refine (ZaG u u0 u1 _).mono ?_;rintro e w2 ⟨rfl,rfl⟩;go_wp2_with fail;refine (Zc6 k a cap l (by omega) HP.out.2.2 w1 ha1).mono ?_;rw [HA.out,HT.out];rintro e w3 ⟨rfl,b3⟩;replace xP:=xP.next b3;replace xR:=xR.next b3;replace ha1:=ha1.next b3;have bb3:=bb1.trans (b3.mono bb1.size);clear b3 bb1 c0 c1 c2;obtain ⟨c0,c1,c2⟩:=xP.c3;go_wp2_with fail;refine (Zgq a cap l (by omega) w3 ha1).mono ?_;rintro e w5 ⟨r,rfl,o5,b5⟩;obtain ⟨ar,cr,rfl⟩:=(Zj o5).shape;have hx1:w.heap.size<w3.heap.size:=xP.lt;have hx2:w.heap.size+1<w3.heap.size:=xR.lt;replace xP:=xP.next b5;replace xR:=xR.next b5;have bb5:=bb3.trans (b5.mono bb3.size);clear b5 bb3 c0 c1 c2 ha1;obtain ⟨c0,c1,c2⟩:=xP.c3;have cf:=xP.free 2;obtain ⟨z0,z1,z2⟩:=xR.c3;obtain ⟨f0,f1,f2⟩:=xR.f3;go_wp2;refine bodyPost_ret (v:=.tuple #[.agg #[.int .i64 n,.int .i64 p,.slice ar l.length cr],.bool false,.int .i64 0]) (by simp [results,Tryz.results55,go_sem,z0,z1,z2]) rfl ⟨_,rfl,?_,?_⟩
 ·exact Ze (ZbC (ownsRow_setCell_below o5 (a:=⟨w.heap.size,2,none⟩) hx1 _) hx2 _ _ _) (by omega)
 ·exact Zx (bb5.setCell (p:=⟨w.heap.size,2,none⟩) (Nat.le_refl _) _) (D:=w.heap.size+1) (by omega) _ _ _
theorem Put_beyond (n p:Int) (k u:Int) (k0:0≤k) (hk:k≤9223372036854775807) (u0:0≤u) (u1:u≤255) (a:Option Addr) (cap:Nat) (l:List (Int×Int)) (q:Nat) (hq:aheadOf l k=q) (ht:ZV l k=false) (hMk:n * p≤k) (hp:Zf n p l) (w:World) (ha:Syms w.heap.size w (.slice a l.length cap) l) :
  Calls Tryz.prog 55 #[.agg #[.int .i64 n,.int .i64 p,.slice a l.length cap],.int .i64 k,.int .i64 u] w fun e W'=>∃ r,e=.returned (.tuple #[.agg #[.int .i64 n,.int .i64 p,r],.bool false,.int .i64 0])∧W'.ownsRow w.heap.size 87 2 r l.length (Za l)∧Below w.heap.size w W':=by
 have hl:l.length≤1024:=by have:=Zag hp; have:=hp.1.prod; omega
 have HP:Hid (Zf n p l):=hp;have hpr:=hp.1.prod;obtain ⟨M,hM⟩:∃ M,n * p=M:=⟨_,rfl⟩;have HM:Hid (n * p=M):=hM;rw [hM] at hpr hMk;obtain ⟨hM1,hM2⟩:=hpr;have b0:=((Below.refl w.heap.size w).alloc (Nat.le_refl _) (.cells #[.int .i64 n,.int .i64 p,.slice a l.length cap] 26)).alloc (by simp) (.cells #[.int .i64 0,.int .i64 0,.slice none 0 0] 26);have xP:Box ((w.alloc (.cells #[.int .i64 n,.int .i64 p,.slice a l.length cap] 26)).alloc (.cells #[.int .i64 0,.int .i64 0,.slice none 0 0] 26)) w.heap.size 26 #[.int .i64 n,.int .i64 p,.slice a l.length cap]:=(Box.new w 26 #[.int .i64 n,.int .i64 p,.slice a l.length cap]).alloc (.cells #[.int .i64 0,.int .i64 0,.slice none 0 0] 26)
 have xR:Box ((w.alloc (.cells #[.int .i64 n,.int .i64 p,.slice a l.length cap] 26)).alloc (.cells #[.int .i64 0,.int .i64 0,.slice none 0 0] 26)) (w.heap.size+1) 26 #[.int .i64 0,.int .i64 0,.slice none 0 0]:=by
  have:=Box.new (w.alloc (.cells #[.int .i64 n,.int .i64 p,.slice a l.length cap] 26)) 26 #[.int .i64 0,.int .i64 0,.slice none 0 0];simpa using this
 have ha0:=ha.next b0;have HC:=Zas n p a cap l (by omega) hp _ ha0;have dk:decide (k<0)=false:=decide_eq_false (by omega);have HA:Hid (aheadOf l k=q):=hq;have HT:Hid (ZV l k=false):=ht;clear hp ha hM hq ht;go_enter Tryz.func55,Tryz.ntmps55;go_wp2_with fail;refine HC.mono ?_;rintro e w1 ⟨rfl,b1⟩;replace xP:=xP.next b1;replace xR:=xR.next b1;have ha1:=ha0.next b1;have bb1:=b0.trans (b1.mono (by simp; omega));clear b0 b1 HC ha0;obtain ⟨c0,c1,c2⟩:=xP.c3;go_wp2_with fail;refine (ZaG u u0 u1 _).mono ?_;rintro e w2 ⟨rfl,rfl⟩;go_wp2_with fail;refine (Zc6 k a cap l (by omega) HP.out.2.2 w1 ha1).mono ?_;rw [HA.out,HT.out];rintro e w3 ⟨rfl,b3⟩;replace xP:=xP.next b3;replace xR:=xR.next b3;replace ha1:=ha1.next b3;have bb3:=bb1.trans (b3.mono bb1.size);clear b3 bb1 c0 c1 c2;obtain ⟨c0,c1,c2⟩:=xP.c3;have dM:decide (M≤k)=true:=decide_eq_true (by omega);clear hMk;go_wp2_with fail;refine (Zbd n p M HM.out hM1 hM2 a l.length cap w3).mono ?_;rintro e w4 ⟨rfl,b4⟩;replace xP:=xP.next b4;replace xR:=xR.next b4;replace ha1:=ha1.next b4;have bb4:=bb3.trans (b4.mono bb3.size);clear b4 bb3 c0 c1 c2;obtain ⟨c0,c1,c2⟩:=xP.c3;go_wp2_with fail;refine (Zgq a cap l (by omega) w4 ha1).mono ?_;rintro e w5 ⟨r,rfl,o5,b5⟩;obtain ⟨ar,cr,rfl⟩:=(Zj o5).shape;have hx1:w.heap.size<w4.heap.size:=xP.lt;have hx2:w.heap.size+1<w4.heap.size:=xR.lt;replace xP:=xP.next b5;replace xR:=xR.next b5;have bb5:=bb4.trans (b5.mono bb4.size);clear b5 bb4 c0 c1 c2 ha1;obtain ⟨c0,c1,c2⟩:=xP.c3;have cf:=xP.free 2;obtain ⟨z0,z1,z2⟩:=xR.c3;obtain ⟨f0,f1,f2⟩:=xR.f3;go_wp2;refine bodyPost_ret (v:=.tuple #[.agg #[.int .i64 n,.int .i64 p,.slice ar l.length cr],.bool false,.int .i64 0]) (by simp [results,Tryz.results55,go_sem,z0,z1,z2]) rfl ⟨_,rfl,?_,?_⟩
 ·exact Ze (ZbC (ownsRow_setCell_below o5 (a:=⟨w.heap.size,2,none⟩) hx1 _) hx2 _ _ _) (by omega)
 ·exact Zx (bb5.setCell (p:=⟨w.heap.size,2,none⟩) (Nat.le_refl _) _) (D:=w.heap.size+1) (by omega) _ _ _
theorem Put_fresh1 (n p:Int) (k u:Int) (k0:0≤k) (hk:k≤9223372036854775807) (u0:0≤u) (u1:u≤255) (b off cap:Nat) (l:List (Int×Int)) (q:Nat) (hq:aheadOf l k=q) (ht:ZV l k=false) (hMk:k<n * p) (hqn:q<l.length) (hqc:q<cap) (hp:Zf n p l) (w:World) (ha:Syms w.heap.size w (.slice (some ⟨b,off,none⟩) l.length cap) l) :
  Calls Tryz.prog 55 #[.agg #[.int .i64 n,.int .i64 p,.slice (some ⟨b,off,none⟩) l.length cap],.int .i64 k,.int .i64 u] w fun e W'=>∃ r,e=.returned (.tuple #[.agg #[.int .i64 n,.int .i64 p,r],.bool true,.int .i64 0])∧W'.ownsRow w.heap.size 87 2 r (l.length+1) (Za (putL l k u))∧Below w.heap.size w W':=by
 have hl:l.length≤1024:=by have:=Zag hp; have:=hp.1.prod; omega
 have HP:Hid (Zf n p l):=hp;have hpr:=hp.1.prod;obtain ⟨M,hM⟩:∃ M,n * p=M:=⟨_,rfl⟩;have HM:Hid (n * p=M):=hM;rw [hM] at hpr hMk;obtain ⟨hM1,hM2⟩:=hpr;have b0:=((Below.refl w.heap.size w).alloc (Nat.le_refl _) (.cells #[.int .i64 n,.int .i64 p,.slice (some ⟨b,off,none⟩) l.length cap] 26)).alloc (by simp) (.cells #[.int .i64 0,.int .i64 0,.slice none 0 0] 26);have xP:Box ((w.alloc (.cells #[.int .i64 n,.int .i64 p,.slice (some ⟨b,off,none⟩) l.length cap] 26)).alloc (.cells #[.int .i64 0,.int .i64 0,.slice none 0 0] 26)) w.heap.size 26 #[.int .i64 n,.int .i64 p,.slice (some ⟨b,off,none⟩) l.length cap]:=(Box.new w 26 #[.int .i64 n,.int .i64 p,.slice (some ⟨b,off,none⟩) l.length cap]).alloc (.cells #[.int .i64 0,.int .i64 0,.slice none 0 0] 26)
 have xR:Box ((w.alloc (.cells #[.int .i64 n,.int .i64 p,.slice (some ⟨b,off,none⟩) l.length cap] 26)).alloc (.cells #[.int .i64 0,.int .i64 0,.slice none 0 0] 26)) (w.heap.size+1) 26 #[.int .i64 0,.int .i64 0,.slice none 0 0]:=by
  have:=Box.new (w.alloc (.cells #[.int .i64 n,.int .i64 p,.slice (some ⟨b,off,none⟩) l.length cap] 26)) 26 #[.int .i64 0,.int .i64 0,.slice none 0 0];simpa using this
 have ha0:=ha.next b0;have HC:=Zas n p (some ⟨b,off,none⟩) cap l (by omega) hp _ ha0;have dk:decide (k<0)=false:=decide_eq_false (by omega);have HA:Hid (aheadOf l k=q):=hq;have HT:Hid (ZV l k=false):=ht;clear hp ha hM hq ht;go_enter Tryz.func55,Tryz.ntmps55;go_wp2_with fail;refine HC.mono ?_;rintro e w1 ⟨rfl,b1⟩;replace xP:=xP.next b1;replace xR:=xR.next b1;have ha1:=ha0.next b1;have bb1:=b0.trans (b1.mono (by simp; omega));clear b0 b1 HC ha0;obtain ⟨c0,c1,c2⟩:=xP.c3;go_wp2_with fail;refine (ZaG u u0 u1 _).mono ?_;rintro e w2 ⟨rfl,rfl⟩;go_wp2_with fail;refine (Zc6 k (some ⟨b,off,none⟩) cap l (by omega) HP.out.2.2 w1 ha1).mono ?_;rw [HA.out,HT.out];rintro e w3 ⟨rfl,b3⟩;replace xP:=xP.next b3;replace xR:=xR.next b3;replace ha1:=ha1.next b3;have bb3:=bb1.trans (b3.mono bb1.size);clear b3 bb1 c0 c1 c2;obtain ⟨c0,c1,c2⟩:=xP.c3;have dM:decide (M≤k)=false:=decide_eq_false (by omega);clear hMk;go_wp2_with fail;refine (Zbd n p M HM.out hM1 hM2 (some ⟨b,off,none⟩) l.length cap w3).mono ?_;rintro e w4 ⟨rfl,b4⟩;replace xP:=xP.next b4;replace xR:=xR.next b4;replace ha1:=ha1.next b4;have bb4:=bb3.trans (b4.mono bb3.size);clear b4 bb3 c0 c1 c2;obtain ⟨c0,c1,c2⟩:=xP.c3;have hql:q≤l.length:=by have h:=Zan l k; rw [HA.out] at h; exact h
 have hcne:¬ cap=q:=by omega
 have hT:Syms w4.heap.size w4 (.slice (some ⟨b,off,none⟩) q cap) (l.take q):=Zbr ha1 rfl q hql cap (fun e=>by cases e);have hD:Syms w4.heap.size w4 (.slice (some ⟨b,off+q * 2,none⟩) (l.length-q) (cap-q)) (l.drop q):=ZgE ha1 rfl q hqn _;have HCP:=ZcT k u l q (l.length-q) HA.out hl (by omega) (some ⟨b,off,none⟩) (some ⟨b,off+q * 2,none⟩) cap (cap-q) w4 hT hD;have hx1:w.heap.size<w4.heap.size:=xP.lt;have hx2:w.heap.size+1<w4.heap.size:=xR.lt;clear hT hD ha1;go_wp2;have c2D:w4.drew.cell? ⟨w.heap.size,2,none⟩=some (.slice (some ⟨b,off,none⟩) l.length cap):=xP.cell 2 _ rfl;have c2A:(w4.alloc (.cells #[.int .i64 k,.int .i64 u] 87)).drew.cell? ⟨w.heap.size,2,none⟩=some (.slice (some ⟨b,off,none⟩) l.length cap):=(xP.alloc _).cell 2 _ rfl
 first | go_region_with (go_at_call 81; refine HCP.mono ?_; rintro e w9 ⟨a9,c9,rfl,o9,b9⟩; have xP9:=xP.next b9; have xR9:=xR.next b9; have m0:=xP9.cell 0 _ rfl; have m1:=xP9.cell 1 _ rfl; have m2:=xP9.cell 2 _ rfl; have mf:=xP9.free 2) | fail
 all_goals (
  have bb9:=bb4.trans (b9.mono bb4.size)
  obtain ⟨z0,z1,z2⟩:=xR9.c3
  obtain ⟨f0,f1,f2⟩:=xR9.f3
  go_wp2
  refine bodyPost_ret (v:=.tuple #[.agg #[.int .i64 n,.int .i64 p,.slice a9 (l.length+1) c9],.bool true,.int .i64 0]) (by simp [results,Tryz.results55,go_sem,z0,z1,z2]) rfl ⟨_,rfl,?_,?_⟩
  ·exact Ze (ZbC (ownsRow_setCell_below o9 (a:=⟨w.heap.size,2,none⟩) (by simp; omega) _) (by omega) _ _ _) (by omega)
  ·exact Zx (bb9.setCell (p:=⟨w.heap.size,2,none⟩) (Nat.le_refl _) _) (D:=w.heap.size+1) (by omega) _ _ _)
theorem Put_fresh2 (n p:Int) (k u:Int) (k0:0≤k) (hk:k≤9223372036854775807) (u0:0≤u) (u1:u≤255) (cap:Nat) (l:List (Int×Int)) (q:Nat) (hq:aheadOf l k=q) (ht:ZV l k=false) (hMk:k<n * p) (hp:Zf n p l) (w:World) (ha:Syms w.heap.size w (.slice none l.length cap) l) :
  Calls Tryz.prog 55 #[.agg #[.int .i64 n,.int .i64 p,.slice none l.length cap],.int .i64 k,.int .i64 u] w fun e W'=>∃ r,e=.returned (.tuple #[.agg #[.int .i64 n,.int .i64 p,r],.bool true,.int .i64 0])∧W'.ownsRow w.heap.size 87 2 r (l.length+1) (Za (putL l k u))∧Below w.heap.size w W':=by
 obtain ⟨rfl,rfl⟩:l=[]∧cap=0:=by
  rcases ha with ⟨⟨a',c',e,h'⟩,h⟩ | ⟨b',off',c',e,_⟩
  ·simp only [Value.slice.injEq] at e;obtain ⟨rfl,_,rfl⟩:=e;exact ⟨h,h' rfl⟩
  ·simp only [Value.slice.injEq] at e; exact absurd e.1 (by simp)
 obtain rfl:q=0:=by rw [← hq]; rfl
 have hl:0≤1024:=by have:=Zag hp; have:=hp.1.prod; omega
 have HP:Hid (Zf n p ([]:List (Int×Int))):=hp;have hpr:=hp.1.prod;obtain ⟨M,hM⟩:∃ M,n * p=M:=⟨_,rfl⟩;have HM:Hid (n * p=M):=hM;rw [hM] at hpr hMk;obtain ⟨hM1,hM2⟩:=hpr;have b0:=((Below.refl w.heap.size w).alloc (Nat.le_refl _) (.cells #[.int .i64 n,.int .i64 p,.slice none 0 0] 26)).alloc (by simp) (.cells #[.int .i64 0,.int .i64 0,.slice none 0 0] 26);have xP:Box ((w.alloc (.cells #[.int .i64 n,.int .i64 p,.slice none 0 0] 26)).alloc (.cells #[.int .i64 0,.int .i64 0,.slice none 0 0] 26)) w.heap.size 26 #[.int .i64 n,.int .i64 p,.slice none 0 0]:=(Box.new w 26 #[.int .i64 n,.int .i64 p,.slice none 0 0]).alloc (.cells #[.int .i64 0,.int .i64 0,.slice none 0 0] 26)
 have xR:Box ((w.alloc (.cells #[.int .i64 n,.int .i64 p,.slice none 0 0] 26)).alloc (.cells #[.int .i64 0,.int .i64 0,.slice none 0 0] 26)) (w.heap.size+1) 26 #[.int .i64 0,.int .i64 0,.slice none 0 0]:=by
  have:=Box.new (w.alloc (.cells #[.int .i64 n,.int .i64 p,.slice none 0 0] 26)) 26 #[.int .i64 0,.int .i64 0,.slice none 0 0];simpa using this
 have ha0:=ha.next b0;have HC:=Zas n p none 0 ([]:List (Int×Int)) (by decide) hp _ ha0;have dk:decide (k<0)=false:=decide_eq_false (by omega);have HA:Hid (aheadOf ([]:List (Int×Int)) k=0):=hq;have HT:Hid (ZV ([]:List (Int×Int)) k=false):=ht;clear hp ha hM hq ht;go_enter Tryz.func55,Tryz.ntmps55;go_wp2_with fail;refine HC.mono ?_;rintro e w1 ⟨rfl,b1⟩;replace xP:=xP.next b1;replace xR:=xR.next b1;have ha1:=ha0.next b1;have bb1:=b0.trans (b1.mono (by simp; omega));clear b0 b1 HC ha0;obtain ⟨c0,c1,c2⟩:=xP.c3;go_wp2_with fail;refine (ZaG u u0 u1 _).mono ?_;rintro e w2 ⟨rfl,rfl⟩;go_wp2_with fail;refine (Zc6 k none 0 ([]:List (Int×Int)) (by decide) HP.out.2.2 w1 ha1).mono ?_;rw [HA.out,HT.out];rintro e w3 ⟨rfl,b3⟩;replace xP:=xP.next b3;replace xR:=xR.next b3;replace ha1:=ha1.next b3;have bb3:=bb1.trans (b3.mono bb1.size);clear b3 bb1 c0 c1 c2;obtain ⟨c0,c1,c2⟩:=xP.c3;have dM:decide (M≤k)=false:=decide_eq_false (by omega);clear hMk;go_wp2_with fail;refine (Zbd n p M HM.out hM1 hM2 none 0 0 w3).mono ?_;rintro e w4 ⟨rfl,b4⟩;replace xP:=xP.next b4;replace xR:=xR.next b4;replace ha1:=ha1.next b4;have bb4:=bb3.trans (b4.mono bb3.size);clear b4 bb3 c0 c1 c2;obtain ⟨c0,c1,c2⟩:=xP.c3;have hql:0≤0:=by have h:=Zan ([]:List (Int×Int)) k; rw [HA.out] at h; exact h
 have hT:Syms w4.heap.size w4 (.slice none 0 0) (([]:List (Int×Int)).take 0):=Zdf _ _;have hD:Syms w4.heap.size w4 (.slice none 0 0) (([]:List (Int×Int)).drop 0):=Zdf _ _;have HCP:=ZcT k u ([]:List (Int×Int)) 0 0 HA.out hl (by decide) none none 0 0 w4 hT hD;have hx1:w.heap.size<w4.heap.size:=xP.lt;have hx2:w.heap.size+1<w4.heap.size:=xR.lt;clear hT hD ha1;go_wp2;have c2D:w4.drew.cell? ⟨w.heap.size,2,none⟩=some (.slice none 0 0):=xP.cell 2 _ rfl;have c2A:(w4.alloc (.cells #[.int .i64 k,.int .i64 u] 87)).drew.cell? ⟨w.heap.size,2,none⟩=some (.slice none 0 0):=(xP.alloc _).cell 2 _ rfl
 first | go_region_with (go_at_call 81; refine HCP.mono ?_; rintro e w9 ⟨a9,c9,rfl,o9,b9⟩; have xP9:=xP.next b9; have xR9:=xR.next b9; have m0:=xP9.cell 0 _ rfl; have m1:=xP9.cell 1 _ rfl; have m2:=xP9.cell 2 _ rfl; have mf:=xP9.free 2) | fail
 all_goals (
  have bb9:=bb4.trans (b9.mono bb4.size)
  obtain ⟨z0,z1,z2⟩:=xR9.c3
  obtain ⟨f0,f1,f2⟩:=xR9.f3
  go_wp2
  refine bodyPost_ret (v:=.tuple #[.agg #[.int .i64 n,.int .i64 p,.slice a9 (0+1) c9],.bool true,.int .i64 0]) (by simp [results,Tryz.results55,go_sem,z0,z1,z2]) rfl ⟨_,rfl,?_,?_⟩
  ·exact Ze (ZbC (ownsRow_setCell_below o9 (a:=⟨w.heap.size,2,none⟩) (by simp; omega) _) (by omega) _ _ _) (by omega)
  ·exact Zx (bb9.setCell (p:=⟨w.heap.size,2,none⟩) (Nat.le_refl _) _) (D:=w.heap.size+1) (by omega) _ _ _)
theorem Put_fresh3 (n p:Int) (k u:Int) (k0:0≤k) (hk:k≤9223372036854775807) (u0:0≤u) (u1:u≤255) (b off cap:Nat) (l:List (Int×Int)) (q:Nat) (hq:aheadOf l k=q) (ht:ZV l k=false) (hMk:k<n * p) (hqn:l.length=q) (hqc:q<cap) (hp:Zf n p l) (w:World) (ha:Syms w.heap.size w (.slice (some ⟨b,off,none⟩) l.length cap) l) :
  Calls Tryz.prog 55 #[.agg #[.int .i64 n,.int .i64 p,.slice (some ⟨b,off,none⟩) l.length cap],.int .i64 k,.int .i64 u] w fun e W'=>∃ r,e=.returned (.tuple #[.agg #[.int .i64 n,.int .i64 p,r],.bool true,.int .i64 0])∧W'.ownsRow w.heap.size 87 2 r (l.length+1) (Za (putL l k u))∧Below w.heap.size w W':=by
 subst hqn;have hl:l.length≤1024:=by have:=Zag hp; have:=hp.1.prod; omega
 have HP:Hid (Zf n p l):=hp;have hpr:=hp.1.prod;obtain ⟨M,hM⟩:∃ M,n * p=M:=⟨_,rfl⟩;have HM:Hid (n * p=M):=hM;rw [hM] at hpr hMk;obtain ⟨hM1,hM2⟩:=hpr;have b0:=((Below.refl w.heap.size w).alloc (Nat.le_refl _) (.cells #[.int .i64 n,.int .i64 p,.slice (some ⟨b,off,none⟩) l.length cap] 26)).alloc (by simp) (.cells #[.int .i64 0,.int .i64 0,.slice none 0 0] 26);have xP:Box ((w.alloc (.cells #[.int .i64 n,.int .i64 p,.slice (some ⟨b,off,none⟩) l.length cap] 26)).alloc (.cells #[.int .i64 0,.int .i64 0,.slice none 0 0] 26)) w.heap.size 26 #[.int .i64 n,.int .i64 p,.slice (some ⟨b,off,none⟩) l.length cap]:=(Box.new w 26 #[.int .i64 n,.int .i64 p,.slice (some ⟨b,off,none⟩) l.length cap]).alloc (.cells #[.int .i64 0,.int .i64 0,.slice none 0 0] 26)
 have xR:Box ((w.alloc (.cells #[.int .i64 n,.int .i64 p,.slice (some ⟨b,off,none⟩) l.length cap] 26)).alloc (.cells #[.int .i64 0,.int .i64 0,.slice none 0 0] 26)) (w.heap.size+1) 26 #[.int .i64 0,.int .i64 0,.slice none 0 0]:=by
  have:=Box.new (w.alloc (.cells #[.int .i64 n,.int .i64 p,.slice (some ⟨b,off,none⟩) l.length cap] 26)) 26 #[.int .i64 0,.int .i64 0,.slice none 0 0];simpa using this
 have ha0:=ha.next b0;have HC:=Zas n p (some ⟨b,off,none⟩) cap l (by omega) hp _ ha0;have dk:decide (k<0)=false:=decide_eq_false (by omega);have HA:Hid (aheadOf l k=l.length):=hq;have HT:Hid (ZV l k=false):=ht;clear hp ha hM hq ht;go_enter Tryz.func55,Tryz.ntmps55;go_wp2_with fail;refine HC.mono ?_;rintro e w1 ⟨rfl,b1⟩;replace xP:=xP.next b1;replace xR:=xR.next b1;have ha1:=ha0.next b1;have bb1:=b0.trans (b1.mono (by simp; omega));clear b0 b1 HC ha0;obtain ⟨c0,c1,c2⟩:=xP.c3;go_wp2_with fail;refine (ZaG u u0 u1 _).mono ?_;rintro e w2 ⟨rfl,rfl⟩;go_wp2_with fail;refine (Zc6 k (some ⟨b,off,none⟩) cap l (by omega) HP.out.2.2 w1 ha1).mono ?_;rw [HA.out,HT.out];rintro e w3 ⟨rfl,b3⟩;replace xP:=xP.next b3;replace xR:=xR.next b3;replace ha1:=ha1.next b3;have bb3:=bb1.trans (b3.mono bb1.size);clear b3 bb1 c0 c1 c2;obtain ⟨c0,c1,c2⟩:=xP.c3;have dM:decide (M≤k)=false:=decide_eq_false (by omega);clear hMk;go_wp2_with fail;refine (Zbd n p M HM.out hM1 hM2 (some ⟨b,off,none⟩) l.length cap w3).mono ?_;rintro e w4 ⟨rfl,b4⟩;replace xP:=xP.next b4;replace xR:=xR.next b4;replace ha1:=ha1.next b4;have bb4:=bb3.trans (b4.mono bb3.size);clear b4 bb3 c0 c1 c2;obtain ⟨c0,c1,c2⟩:=xP.c3;have hql:l.length≤l.length:=by have h:=Zan l k; rw [HA.out] at h; exact h
 have HDN:Hid (l.drop l.length=[]):=List.drop_of_length_le (by omega);have hcne:¬ cap=l.length:=by omega
 have hT:Syms w4.heap.size w4 (.slice (some ⟨b,off,none⟩) l.length cap) (l.take l.length):=Zbr ha1 rfl l.length hql cap (fun e=>by cases e);have hD:Syms w4.heap.size w4 (.slice (some ⟨b,off+l.length * 2,none⟩) 0 (cap-l.length)) (l.drop l.length):=by rw [HDN.out]; exact ZcJ _ _
 have HCP:=ZcT k u l l.length 0 HA.out hl (by omega) (some ⟨b,off,none⟩) (some ⟨b,off+l.length * 2,none⟩) cap (cap-l.length) w4 hT hD;have hx1:w.heap.size<w4.heap.size:=xP.lt;have hx2:w.heap.size+1<w4.heap.size:=xR.lt;clear hT hD ha1;go_wp2;have c2D:w4.drew.cell? ⟨w.heap.size,2,none⟩=some (.slice (some ⟨b,off,none⟩) l.length cap):=xP.cell 2 _ rfl;have c2A:(w4.alloc (.cells #[.int .i64 k,.int .i64 u] 87)).drew.cell? ⟨w.heap.size,2,none⟩=some (.slice (some ⟨b,off,none⟩) l.length cap):=(xP.alloc _).cell 2 _ rfl
 first | go_region_with (go_at_call 81; refine HCP.mono ?_; rintro e w9 ⟨a9,c9,rfl,o9,b9⟩; have xP9:=xP.next b9; have xR9:=xR.next b9; have m0:=xP9.cell 0 _ rfl; have m1:=xP9.cell 1 _ rfl; have m2:=xP9.cell 2 _ rfl; have mf:=xP9.free 2) | fail
 all_goals (
  have bb9:=bb4.trans (b9.mono bb4.size)
  obtain ⟨z0,z1,z2⟩:=xR9.c3
  obtain ⟨f0,f1,f2⟩:=xR9.f3
  go_wp2
  refine bodyPost_ret (v:=.tuple #[.agg #[.int .i64 n,.int .i64 p,.slice a9 (l.length+1) c9],.bool true,.int .i64 0]) (by simp [results,Tryz.results55,go_sem,z0,z1,z2]) rfl ⟨_,rfl,?_,?_⟩
  ·exact Ze (ZbC (ownsRow_setCell_below o9 (a:=⟨w.heap.size,2,none⟩) (by simp; omega) _) (by omega) _ _ _) (by omega)
  ·exact Zx (bb9.setCell (p:=⟨w.heap.size,2,none⟩) (Nat.le_refl _) _) (D:=w.heap.size+1) (by omega) _ _ _)
theorem Put_fresh4 (n p:Int) (k u:Int) (k0:0≤k) (hk:k≤9223372036854775807) (u0:0≤u) (u1:u≤255) (b off cap:Nat) (l:List (Int×Int)) (q:Nat) (hq:aheadOf l k=q) (ht:ZV l k=false) (hMk:k<n * p) (hqn:l.length=q) (hqc:cap=q) (hp:Zf n p l) (w:World) (ha:Syms w.heap.size w (.slice (some ⟨b,off,none⟩) l.length cap) l) :
  Calls Tryz.prog 55 #[.agg #[.int .i64 n,.int .i64 p,.slice (some ⟨b,off,none⟩) l.length cap],.int .i64 k,.int .i64 u] w fun e W'=>∃ r,e=.returned (.tuple #[.agg #[.int .i64 n,.int .i64 p,r],.bool true,.int .i64 0])∧W'.ownsRow w.heap.size 87 2 r (l.length+1) (Za (putL l k u))∧Below w.heap.size w W':=by
 subst hqn;subst hqc;have hl:l.length≤1024:=by have:=Zag hp; have:=hp.1.prod; omega
 have HP:Hid (Zf n p l):=hp;have hpr:=hp.1.prod;obtain ⟨M,hM⟩:∃ M,n * p=M:=⟨_,rfl⟩;have HM:Hid (n * p=M):=hM;rw [hM] at hpr hMk;obtain ⟨hM1,hM2⟩:=hpr;have b0:=((Below.refl w.heap.size w).alloc (Nat.le_refl _) (.cells #[.int .i64 n,.int .i64 p,.slice (some ⟨b,off,none⟩) l.length l.length] 26)).alloc (by simp) (.cells #[.int .i64 0,.int .i64 0,.slice none 0 0] 26);have xP:Box ((w.alloc (.cells #[.int .i64 n,.int .i64 p,.slice (some ⟨b,off,none⟩) l.length l.length] 26)).alloc (.cells #[.int .i64 0,.int .i64 0,.slice none 0 0] 26)) w.heap.size 26 #[.int .i64 n,.int .i64 p,.slice (some ⟨b,off,none⟩) l.length l.length]:=(Box.new w 26 #[.int .i64 n,.int .i64 p,.slice (some ⟨b,off,none⟩) l.length l.length]).alloc (.cells #[.int .i64 0,.int .i64 0,.slice none 0 0] 26)
 have xR:Box ((w.alloc (.cells #[.int .i64 n,.int .i64 p,.slice (some ⟨b,off,none⟩) l.length l.length] 26)).alloc (.cells #[.int .i64 0,.int .i64 0,.slice none 0 0] 26)) (w.heap.size+1) 26 #[.int .i64 0,.int .i64 0,.slice none 0 0]:=by
  have:=Box.new (w.alloc (.cells #[.int .i64 n,.int .i64 p,.slice (some ⟨b,off,none⟩) l.length l.length] 26)) 26 #[.int .i64 0,.int .i64 0,.slice none 0 0];simpa using this
 have ha0:=ha.next b0;have HC:=Zas n p (some ⟨b,off,none⟩) l.length l (by omega) hp _ ha0;have dk:decide (k<0)=false:=decide_eq_false (by omega);have HA:Hid (aheadOf l k=l.length):=hq;have HT:Hid (ZV l k=false):=ht;clear hp ha hM hq ht;go_enter Tryz.func55,Tryz.ntmps55;go_wp2_with fail;refine HC.mono ?_;rintro e w1 ⟨rfl,b1⟩;replace xP:=xP.next b1;replace xR:=xR.next b1;have ha1:=ha0.next b1;have bb1:=b0.trans (b1.mono (by simp; omega));clear b0 b1 HC ha0;obtain ⟨c0,c1,c2⟩:=xP.c3;go_wp2_with fail;refine (ZaG u u0 u1 _).mono ?_;rintro e w2 ⟨rfl,rfl⟩;go_wp2_with fail;refine (Zc6 k (some ⟨b,off,none⟩) l.length l (by omega) HP.out.2.2 w1 ha1).mono ?_;rw [HA.out,HT.out];rintro e w3 ⟨rfl,b3⟩;replace xP:=xP.next b3;replace xR:=xR.next b3;replace ha1:=ha1.next b3;have bb3:=bb1.trans (b3.mono bb1.size);clear b3 bb1 c0 c1 c2;obtain ⟨c0,c1,c2⟩:=xP.c3;have dM:decide (M≤k)=false:=decide_eq_false (by omega);clear hMk;go_wp2_with fail;refine (Zbd n p M HM.out hM1 hM2 (some ⟨b,off,none⟩) l.length l.length w3).mono ?_;rintro e w4 ⟨rfl,b4⟩;replace xP:=xP.next b4;replace xR:=xR.next b4;replace ha1:=ha1.next b4;have bb4:=bb3.trans (b4.mono bb3.size);clear b4 bb3 c0 c1 c2;obtain ⟨c0,c1,c2⟩:=xP.c3;have hql:l.length≤l.length:=by have h:=Zan l k; rw [HA.out] at h; exact h
 have HDN:Hid (l.drop l.length=[]):=List.drop_of_length_le (by omega);have hT:Syms w4.heap.size w4 (.slice (some ⟨b,off,none⟩) l.length l.length) (l.take l.length):=Zbr ha1 rfl l.length hql l.length (fun e=>by cases e);have hD:Syms w4.heap.size w4 (.slice (some ⟨b,off,none⟩) 0 0) (l.drop l.length):=by rw [HDN.out]; exact ZcJ _ _
 have HCP:=ZcT k u l l.length 0 HA.out hl (by omega) (some ⟨b,off,none⟩) (some ⟨b,off,none⟩) l.length 0 w4 hT hD;have hx1:w.heap.size<w4.heap.size:=xP.lt;have hx2:w.heap.size+1<w4.heap.size:=xR.lt;clear hT hD ha1;go_wp2;have c2D:w4.drew.cell? ⟨w.heap.size,2,none⟩=some (.slice (some ⟨b,off,none⟩) l.length l.length):=xP.cell 2 _ rfl;have c2A:(w4.alloc (.cells #[.int .i64 k,.int .i64 u] 87)).drew.cell? ⟨w.heap.size,2,none⟩=some (.slice (some ⟨b,off,none⟩) l.length l.length):=(xP.alloc _).cell 2 _ rfl
 first | go_region_with (go_at_call 81; refine HCP.mono ?_; rintro e w9 ⟨a9,c9,rfl,o9,b9⟩; have xP9:=xP.next b9; have xR9:=xR.next b9; have m0:=xP9.cell 0 _ rfl; have m1:=xP9.cell 1 _ rfl; have m2:=xP9.cell 2 _ rfl; have mf:=xP9.free 2) | fail
 all_goals (
  have bb9:=bb4.trans (b9.mono bb4.size)
  obtain ⟨z0,z1,z2⟩:=xR9.c3
  obtain ⟨f0,f1,f2⟩:=xR9.f3
  go_wp2
  refine bodyPost_ret (v:=.tuple #[.agg #[.int .i64 n,.int .i64 p,.slice a9 (l.length+1) c9],.bool true,.int .i64 0]) (by simp [results,Tryz.results55,go_sem,z0,z1,z2]) rfl ⟨_,rfl,?_,?_⟩
  ·exact Ze (ZbC (ownsRow_setCell_below o9 (a:=⟨w.heap.size,2,none⟩) (by simp; omega) _) (by omega) _ _ _) (by omega)
  ·exact Zx (bb9.setCell (p:=⟨w.heap.size,2,none⟩) (Nat.le_refl _) _) (D:=w.heap.size+1) (by omega) _ _ _)
end Go.Proofs.YtabdnhkdoeibnaaGreatDoor
