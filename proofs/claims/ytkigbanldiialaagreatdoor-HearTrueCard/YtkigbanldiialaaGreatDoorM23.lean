/-
  What the page's Bytes (a right block's bytes) answers.
-/
import Derived.Test.YtkigbanldiialaaGreatDoorM08
import Derived.Test.YtkigbanldiialaaGreatDoorM20
import Derived.Deep.Cut
import Derived.Deep.CutRange
import Derived.Deep.DeepCutAuto
set_option maxRecDepth 100000
set_option maxHeartbeats 4000000
namespace Go.Proofs.YtkigbanldiialaaGreatDoor
open Go.RowKit
def badB (z:Int) (zs:List Int) (e:Int):Prop :=
 (ZbZ z=false∧e=1)∨(ZbZ z=true∧(zs.length:Int)≠z+10∧e=2)∨(ZbZ z=true∧(zs.length:Int)=z+10∧ZQ zs=false∧e=4)∨(ZbZ z=true∧(zs.length:Int)=z+10∧ZQ zs=true∧¬ Zcm z.toNat zs∧e=3)
theorem Zbt (z:Int):ZbZ z=true↔1≤z∧z≤16:=by simp [ZbZ]
theorem rdX_len {Z:Nat} {zs:List Int} (hl:zs.length=Z+10) (h:rdN zs≤Z):(rdX zs).length=rdN zs:=by
 unfold rdX; rw [List.length_take,List.length_drop]; omega
theorem read_cases (z:Int) (zs:List Int):(∃ e,0<e∧badB z zs e)∨∃ Z:Nat,z=(Z:Int)∧1≤Z∧Z≤16∧zs.length=Z+10∧ZQ zs=true∧Zcm Z zs:=by
 cases h1:ZbZ z with
 | false=>exact .inl ⟨1,by decide,.inl ⟨h1,rfl⟩⟩
 | true =>
  have hz:=(Zbt z).1 h1;obtain ⟨Z,rfl⟩:=Int.eq_ofNat_of_zero_le (show 0≤z by omega);by_cases h2:(zs.length:Int)=(Z:Int)+10
  ·cases h3:ZQ zs with
   | false=>exact .inl ⟨4,by decide,.inr (.inr (.inl ⟨h1,h2,h3,rfl⟩))⟩
   | true =>
    by_cases h4:Zcm Z zs
    ·exact .inr ⟨Z,rfl,by omega,by omega,by omega,rfl,h4⟩
    ·exact .inl ⟨3,by decide,.inr (.inr (.inr ⟨h1,h2,h3,h4,rfl⟩))⟩
  ·exact .inl ⟨2,by decide,.inr (.inl ⟨h1,h2,rfl⟩)⟩
theorem Box.grown {W W':World} {B:Nat} {t:TypeId} {cs:Array Value} {ob:Option Nat} (h:Box W B t cs) (hg:W.grownBy W' ob) (hne:ob≠some B):Box W' B t cs:=(hg.block B h.lt hne.symm).trans h
theorem box_holds1 {W:World} {B:Nat} {t:TypeId} {x:Int} (h:Box W B t #[.int .u8 x]):Za .u8 W.heap.size W (.slice (some ⟨B,0,none⟩) 1 1) [x] :=
 .inr ⟨B,0,1,rfl,h.lt,fun j hj=>by
  have:j=0:=by simpa using hj
  subst this
  exact h.cell 0 _ rfl⟩
theorem concat2_ok (g:Nat) (a1 a2:Option Addr) (c1 c2:Nat) (n1 n2:Nat) (l1 l2:List Int) (e1:l1.length=n1) (e2:l2.length=n2) (p1:n1≤1048576) (p2:n2≤1048576) (h0:0<n1) (w:World)
  (k1:w.cell? ⟨g,0,none⟩=some (.slice a1 n1 c1)) (k2:w.cell? ⟨g,1,none⟩=some (.slice a2 n2 c2))
  (h1:Za .u8 w.heap.size w (.slice a1 n1 c1) l1) (h2:Za .u8 w.heap.size w (.slice a2 n2 c2) l2) :
  Calls Tryz.prog 24 #[.slice (some ⟨g,0,none⟩) 2 2] w fun e W'=>∃ r,e=.returned r∧W'.ownsRow w.heap.size 5 1 r (n1+n2) ((l1++l2).map (Value.int .u8))∧Below w.heap.size w W':=by
 have hg:g<w.heap.size:=Zaf k1;have H1:Hid (Za .u8 w.heap.size w (.slice a1 n1 c1) l1):=h1;have H2:Hid (Za .u8 w.heap.size w (.slice a2 n2 c2) l2):=h2;have E1:Hid (l1.length=n1):=e1;have E2:Hid (l2.length=n2):=e2;clear e1 e2 h1 h2;go_enter Tryz.func24,Tryz.ntmps24;go_wp2;go_loop [3,11] (fun s i=>(s=.int .i64 0∧i=.int .i64 0)∨(s=.int .i64 n1∧i=.int .i64 1)∨(s=.int .i64 ((n1+n2:Nat):Int)∧i=.int .i64 2)) (fun _ i=>2-(intOf i).toNat)
 case atStart=>exact .inl ⟨rfl,rfl⟩
 case round =>
  rcases hrel with ⟨rfl,rfl⟩ | ⟨rfl,rfl⟩ | ⟨rfl,rfl⟩
  ·go_wp2;go_round
   case rel=>exact .inr (.inl ⟨by go_num,by go_num⟩)
   case measure=>simp [intOf]
  ·go_wp2;go_round
   case rel=>exact .inr (.inr ⟨by go_num,by go_num⟩)
   case measure=>simp [intOf]
  ·obtain ⟨m,hm⟩:∃ m,n1+n2=m:=⟨_,rfl⟩;have HG:=Zff m (by omega) (by omega) w;rw [hm];have HM:Hid (n1+n2=m):=hm;have hmp:0<m:=by omega
   clear hm;go_wp2_with fail;refine HG.mono ?_;rintro e w1 ⟨r,rfl,o1,b1⟩;have hs1:=b1.size;have q1:=(b1.cell (p:=⟨g,0,none⟩) hg).trans k1;have q2:=(b1.cell (p:=⟨g,1,none⟩) hg).trans k2;clear HG k1 k2;go_wp2;go_loopw [6,27] (fun v i wr=>((i=.int .i64 0∧wr.ownsRow w.heap.size 5 1 v 0 (([]:List Int).map (Value.int .u8)))∨(i=.int .i64 1∧wr.ownsRow w.heap.size 5 1 v n1 (l1.map (Value.int .u8)))∨(i=.int .i64 2∧wr.ownsRow w.heap.size 5 1 v (n1+n2) ((l1++l2).map (Value.int .u8))))∧Below w.heap.size w wr) (fun _ i _=>2-(intOf i).toNat)
   case atStart=>exact ⟨.inl ⟨rfl,o1⟩,b1⟩
   case round =>
    obtain ⟨hc,hbw⟩:=hrel;have r1:=(hbw.cell (p:=⟨g,0,none⟩) hg).trans ((b1.cell (p:=⟨g,0,none⟩) hg).symm.trans q1);have r2:=(hbw.cell (p:=⟨g,1,none⟩) hg).trans ((b1.cell (p:=⟨g,1,none⟩) hg).symm.trans q2);clear q1 q2 o1;rcases hc with ⟨rfl,ho⟩ | ⟨rfl,ho⟩ | ⟨rfl,ho⟩
    ·obtain ⟨v3,w3,hr3,ho3,hg3⟩:=ZB _ (.slice a1 n1 c1) 0 w.heap.size _ [] l1 24 wr ho (H1.out.below hbw) hbw.size (by omega) (by rw [E1.out]; omega);rw [E1.out,List.nil_append,Nat.zero_add] at ho3;have b3:=hbw.trans ((Below.refl w.heap.size _).grown hg3 hbw.size (fun q e=>(ho.lt q e).1));have HR3:Hid _:=hr3;clear hr3 ho hg3;go_wp2_with (at_builtin; refine wpList_append_run rfl _ _ 24 rfl _ _ rfl rfl _ _ HR3.out ?_);exact ⟨⟨.inr (.inl ⟨by go_num,ho3⟩),b3⟩,by simp [intOf]⟩
    ·obtain ⟨v3,w3,hr3,ho3,hg3⟩:=ZB _ (.slice a2 n2 c2) n1 w.heap.size _ l1 l2 24 wr ho (H2.out.below hbw) hbw.size (by omega) (by rw [E2.out]; omega);rw [E2.out] at ho3;have b3:=hbw.trans ((Below.refl w.heap.size _).grown hg3 hbw.size (fun q e=>(ho.lt q e).1));have HR3:Hid _:=hr3;clear hr3 ho hg3;go_wp2_with (at_builtin; refine wpList_append_run rfl _ _ 24 rfl _ _ rfl rfl _ _ HR3.out ?_);exact ⟨⟨.inr (.inr ⟨by go_num,ho3⟩),b3⟩,by simp [intOf]⟩
    ·go_wp2;go_ret;exact ⟨_,rfl,HM.out▸ho,hbw⟩
theorem isSeq_yes (z:Int) (h:0≤z∧z<1073741824) (w:World):Calls Tryz.prog 51 #[.int .i64 z] w fun e w'=>e=.returned (.bool true)∧w=w':=by
 obtain ⟨h1,h2⟩:=h;go_enter Tryz.func51,Tryz.ntmps51;go_wp2;go_ret;exact ⟨rfl,rfl⟩
theorem dCount_yes (z:Int) (h:1≤z∧z≤64) (w:World):Calls Tryz.prog 52 #[.int .i64 z] w fun e w'=>e=.returned (.bool true)∧w=w':=by
 obtain ⟨h1,h2⟩:=h;go_enter Tryz.func52,Tryz.ntmps52;go_wp2;go_ret;exact ⟨rfl,rfl⟩
theorem ZdG (a:Option Addr) (n cap:Nat) (zs:List Int) (hn:zs.length=n) (x:Int) (s:Nat) (w:World) (n₀:Nat) (h1:1≤s) (h2:s≤4) (h3:0≤x) (h4:x / 2 ^ (8 * s)=0) (h5:n≤4096-s) (hn₀:n₀≤w.heap.size) (hH:Za .u8 n₀ w (.slice a n cap) zs) :
  Calls Tryz.prog 22 #[.slice a n cap,.int .i64 x,.int .i64 s] w fun e W'=>∃ ra rc,e=.returned (.tuple #[.slice ra (n+s) rc,.int .i64 0])∧W'.ownsRow w.heap.size 5 1 (.slice ra (n+s) rc) (n+s) ((zs++Zj s x).map (Value.int .u8))∧Below w.heap.size w W':=by
 subst hn;refine (ZgE a cap zs x s w n₀ h1 h2 h3 h4 h5 hn₀ hH).mono ?_;rintro e W' ⟨r,rfl,o,b⟩;obtain ⟨ra,rc,rfl⟩:=ZaF o;exact ⟨ra,rc,rfl,o,b⟩
theorem ZdH {r:Int} (h:0≤r∧r≤255):Zj 1 r=[r]:=by
 simp [Zj,List.range,List.range.loop];omega
theorem headD_puts {s r f:Int} {n:Nat} (hr:0≤r∧r≤255) (hn:n≤255):(((([68]++Zj 4 s)++Zj 1 r)++Zj 2 f)++Zj 1 (n:Int))=Zbr s r f n:=by
 rw [ZdH hr,ZdH (r:=(n:Int)) (by omega)];simp [Zbr]
theorem head_ok (s r f:Int) (a:Option Addr) (n cap:Nat) (hs:0≤s∧s<1073741824) (hr:0≤r∧r≤255) (hf:0≤f∧f≤65535) (hn:n≤64) (w:World) :
  Calls Tryz.prog 53 #[.agg #[.int .i64 s,.int .i64 r,.int .i64 f,.slice a n cap]] w fun e W'=>∃ ra rc,e=.returned (.tuple #[.slice ra 9 rc,.int .i64 0])∧Za .u8 W'.heap.size W' (.slice ra 9 rc) (Zbr s r f n)∧Below w.heap.size w W':=by
 have HF:Hid _:=headD_puts (s:=s) (f:=f) hr (show n≤255 by omega);have d1:s / 2 ^ (8 * 4)=0:=by rw [show (2:Int) ^ (8 * 4)=4294967296 from rfl]; omega
 have d2:r / 2 ^ (8 * 1)=0:=by rw [show (2:Int) ^ (8 * 1)=256 from rfl]; omega
 have d3:f / 2 ^ (8 * 2)=0:=by rw [show (2:Int) ^ (8 * 2)=65536 from rfl]; omega
 have d4:(n:Int) / 2 ^ (8 * 1)=0:=by rw [show (2:Int) ^ (8 * 1)=256 from rfl]; omega
 have D1:Hid (0≤s∧s / 2 ^ (8 * 4)=0):=⟨hs.1,d1⟩;have D2:Hid (0≤r∧r / 2 ^ (8 * 1)=0):=⟨hr.1,d2⟩;have D3:Hid (0≤f∧f / 2 ^ (8 * 2)=0):=⟨hf.1,d3⟩;have D4:Hid (0≤(n:Int)∧(n:Int) / 2 ^ (8 * 1)=0):=⟨by omega,d4⟩;clear d1 d2 d3 d4 hs hr hf;obtain ⟨l0,hl0⟩:∃ l,([68]:List Int)=l:=⟨_,rfl⟩;have K0:Hid (l0.length=1):=by rw [← hl0]; rfl
 obtain ⟨l1,hl1⟩:∃ l,l0++Zj 4 s=l:=⟨_,rfl⟩;have K1:Hid (l1.length=5):=by show l1.length=5; rw [← hl1,List.length_append,ZU,K0.out]
 obtain ⟨l2,hl2⟩:∃ l,l1++Zj 1 r=l:=⟨_,rfl⟩;have K2:Hid (l2.length=6):=by show l2.length=6; rw [← hl2,List.length_append,ZU,K1.out]
 obtain ⟨l3,hl3⟩:∃ l,l2++Zj 2 f=l:=⟨_,rfl⟩;have K3:Hid (l3.length=8):=by show l3.length=8; rw [← hl3,List.length_append,ZU,K2.out]
 obtain ⟨l4,hl4⟩:∃ l,l3++Zj 1 (n:Int)=l:=⟨_,rfl⟩;have K4:Hid (l4.length=9):=by show l4.length=9; rw [← hl4,List.length_append,ZU,K3.out]
 rw [hl0,hl1,hl2,hl3,hl4] at HF;have E0:Hid ([68]=l0):=hl0;have E1:Hid (l0++Zj 4 s=l1):=hl1;have E2:Hid (l1++Zj 1 r=l2):=hl2;have E3:Hid (l2++Zj 2 f=l3):=hl3;have E4:Hid (l3++Zj 1 (n:Int)=l4):=hl4;clear hl0 hl1 hl2 hl3 hl4;have b1:Below w.heap.size w (w.alloc (.cells #[.int .i64 s,.int .i64 r,.int .i64 f,.slice a n cap] 48)):=(Below.refl w.heap.size w).alloc (Nat.le_refl _) _;go_enter Tryz.func53,Tryz.ntmps53;go_wp2;obtain ⟨W3,hW3⟩:∃ W,((w.alloc (.cells #[.int .i64 s,.int .i64 r,.int .i64 f,.slice a n cap] 48)).alloc (.cells #[.int .u8 68] 5)).alloc (.cells #[.int .i64 s,.int .i64 4,.int .i64 r,.int .i64 1,.int .i64 f,.int .i64 2,.int .i64 (n:Int),.int .i64 1] 109)=W:=⟨_,rfl⟩;have hz3:W3.heap.size=w.heap.size+3:=by rw [← hW3]; simp
 have bb3:Below w.heap.size w W3:=by
  rw [← hW3];exact (b1.alloc (by simp) _).alloc (by simp; omega) _
 have x3:Box W3 (w.heap.size+1+1) 109 #[.int .i64 s,.int .i64 4,.int .i64 r,.int .i64 1,.int .i64 f,.int .i64 2,.int .i64 (n:Int),.int .i64 1]:=by
  have:=Box.new ((w.alloc (.cells #[.int .i64 s,.int .i64 r,.int .i64 f,.slice a n cap] 48)).alloc (.cells #[.int .u8 68] 5)) 109 #[.int .i64 s,.int .i64 4,.int .i64 r,.int .i64 1,.int .i64 f,.int .i64 2,.int .i64 (n:Int),.int .i64 1];rw [hW3] at this;simpa using this
 have h3:Za .u8 W3.heap.size W3 (.slice (some ⟨w.heap.size+1,0,none⟩) 1 1) l0:=by
  have:=(box_holds1 (Box.new (w.alloc (.cells #[.int .i64 s,.int .i64 r,.int .i64 f,.slice a n cap] 48)) 5 #[.int .u8 68])).next ((Below.refl _ _).alloc (Nat.le_refl _) (.cells #[.int .i64 s,.int .i64 4,.int .i64 r,.int .i64 1,.int .i64 f,.int .i64 2,.int .i64 (n:Int),.int .i64 1] 109));rw [hW3,E0.out] at this;simpa using this
 have H3:Hid (Za .u8 W3.heap.size W3 (.slice (some ⟨w.heap.size+1,0,none⟩) 1 1) l0):=h3;have X3:Hid (Box W3 (w.heap.size+1+1) 109 #[.int .i64 s,.int .i64 4,.int .i64 r,.int .i64 1,.int .i64 f,.int .i64 2,.int .i64 (n:Int),.int .i64 1]):=x3;have BB3:Hid (Below w.heap.size w W3):=bb3;have HZ3:Hid (W3.heap.size=w.heap.size+3):=hz3;rw [hW3];clear hW3 h3 x3 bb3 b1 hz3;go_loopw [4,25] (fun v i wr=>((i=.int .i64 0∧∃ a c,v=.slice a 1 c∧Za .u8 wr.heap.size wr (.slice a 1 c) l0)∨(i=.int .i64 1∧∃ a c,v=.slice a 5 c∧Za .u8 wr.heap.size wr (.slice a 5 c) l1)∨(i=.int .i64 2∧∃ a c,v=.slice a 6 c∧Za .u8 wr.heap.size wr (.slice a 6 c) l2)∨(i=.int .i64 3∧∃ a c,v=.slice a 8 c∧Za .u8 wr.heap.size wr (.slice a 8 c) l3)∨(i=.int .i64 4∧∃ a c,v=.slice a 9 c∧Za .u8 wr.heap.size wr (.slice a 9 c) l4))∧Below W3.heap.size W3 wr) (fun _ i _=>4-(intOf i).toNat)
 case atStart=>exact ⟨.inl ⟨rfl,_,_,rfl,H3.out⟩,Below.refl _ _⟩
 case round =>
  obtain ⟨hc,hbw⟩:=hrel;have X4:=X3.out.next hbw;have x0:=X4.cell 0 _ rfl;have x1:=X4.cell 1 _ rfl;have x2:=X4.cell 2 _ rfl;have x3:=X4.cell 3 _ rfl;have x4:=X4.cell 4 _ rfl;have x5:=X4.cell 5 _ rfl;have x6:=X4.cell 6 _ rfl;have x7:=X4.cell 7 _ rfl;have hB:w.heap.size+1+1<wr.heap.size:=X4.lt;have HBW:Hid (Below W3.heap.size W3 wr):=hbw;have HX4:Hid _:=X4;clear hbw X4;rcases hc with ⟨rfl,a4,c4,rfl,h4⟩ | ⟨rfl,a4,c4,rfl,h4⟩ | ⟨rfl,a4,c4,rfl,h4⟩ | ⟨rfl,a4,c4,rfl,h4⟩ | ⟨rfl,a4,c4,rfl,h4⟩
  ·have q4:Below wr.heap.size wr (wr.alloc (.cells #[.int .i64 s,.int .i64 4] 109)):=(Below.refl _ _).alloc (Nat.le_refl _) _;have HP:=ZdG a4 1 c4 l0 K0.out s 4 (wr.alloc (.cells #[.int .i64 s,.int .i64 4] 109)) _ (by decide) (by decide) D1.out.1 D1.out.2 (by decide) (Nat.le_refl _) (h4.next q4);rw [E1.out] at HP;clear h4;go_wp2_with fail;refine HP.mono ?_;rintro e w5 ⟨ra,rc,rfl,o5,b5⟩;have h5:Za .u8 w5.heap.size w5 (.slice ra 5 rc) l1:=Zf o5;have b6:=HBW.out.trans ((q4.trans (b5.mono (by simp))).mono HBW.out.size);clear HP o5 b5 q4;go_wp2;exact ⟨⟨.inr (.inl ⟨by go_num,ra,rc,rfl,h5⟩),b6⟩,by simp [intOf]⟩
  ·have q4:Below wr.heap.size wr (wr.alloc (.cells #[.int .i64 r,.int .i64 1] 109)):=(Below.refl _ _).alloc (Nat.le_refl _) _;have HP:=ZdG a4 5 c4 l1 K1.out r 1 (wr.alloc (.cells #[.int .i64 r,.int .i64 1] 109)) _ (by decide) (by decide) D2.out.1 D2.out.2 (by decide) (Nat.le_refl _) (h4.next q4);rw [E2.out] at HP;clear h4;go_wp2_with fail;refine HP.mono ?_;rintro e w5 ⟨ra,rc,rfl,o5,b5⟩;have h5:Za .u8 w5.heap.size w5 (.slice ra 6 rc) l2:=Zf o5;have b6:=HBW.out.trans ((q4.trans (b5.mono (by simp))).mono HBW.out.size);clear HP o5 b5 q4;go_wp2;exact ⟨⟨.inr (.inr (.inl ⟨by go_num,ra,rc,rfl,h5⟩)),b6⟩,by simp [intOf]⟩
  ·have q4:Below wr.heap.size wr (wr.alloc (.cells #[.int .i64 f,.int .i64 2] 109)):=(Below.refl _ _).alloc (Nat.le_refl _) _;have HP:=ZdG a4 6 c4 l2 K2.out f 2 (wr.alloc (.cells #[.int .i64 f,.int .i64 2] 109)) _ (by decide) (by decide) D3.out.1 D3.out.2 (by decide) (Nat.le_refl _) (h4.next q4);rw [E3.out] at HP;clear h4;go_wp2_with fail;refine HP.mono ?_;rintro e w5 ⟨ra,rc,rfl,o5,b5⟩;have h5:Za .u8 w5.heap.size w5 (.slice ra 8 rc) l3:=Zf o5;have b6:=HBW.out.trans ((q4.trans (b5.mono (by simp))).mono HBW.out.size);clear HP o5 b5 q4;go_wp2;exact ⟨⟨.inr (.inr (.inr (.inl ⟨by go_num,ra,rc,rfl,h5⟩))),b6⟩,by simp [intOf]⟩
  ·have q4:Below wr.heap.size wr (wr.alloc (.cells #[.int .i64 (n:Int),.int .i64 1] 109)):=(Below.refl _ _).alloc (Nat.le_refl _) _;have HP:=ZdG a4 8 c4 l3 K3.out (n:Int) 1 (wr.alloc (.cells #[.int .i64 (n:Int),.int .i64 1] 109)) _ (by decide) (by decide) D4.out.1 D4.out.2 (by decide) (Nat.le_refl _) (h4.next q4);rw [E4.out] at HP;clear h4;go_wp2_with fail;refine HP.mono ?_;rintro e w5 ⟨ra,rc,rfl,o5,b5⟩;have h5:Za .u8 w5.heap.size w5 (.slice ra 9 rc) l4:=Zf o5;have b6:=HBW.out.trans ((q4.trans (b5.mono (by simp))).mono HBW.out.size);clear HP o5 b5 q4;go_wp2;exact ⟨⟨.inr (.inr (.inr (.inr ⟨by go_num,ra,rc,rfl,h5⟩))),b6⟩,by simp [intOf]⟩
  ·have b6:=BB3.out.trans (HBW.out.mono BB3.out.size);have h6:=h4;rw [HF.out] at h6;go_wp2;go_ret2;exact ⟨a4,c4,rfl,h6,b6⟩
theorem Zab (s r f:Int) (a:Option Addr) (n cap:Nat) (xs:List Int) (hn:xs.length=n) (h:Zak s r f xs) (w:World) (ha:Za .u8 w.heap.size w (.slice a n cap) xs) :
  Calls Tryz.prog 31 #[.agg #[.int .i64 s,.int .i64 r,.int .i64 f,.slice a n cap]] w fun e W'=>∃ q,e=.returned (.tuple #[q,.int .i64 0])∧W'.ownsRow w.heap.size 5 1 q (n+11) ((ZgA s r f xs).map (Value.int .u8))∧Below w.heap.size w W':=by
 obtain ⟨hs,hr,hf,hx1,hx2⟩:=h;have HN:Hid (xs.length=n):=hn
 have HPK:Hid ((Zbr s r f n++Zj 2 (sum16 (Zbr s r f n):Int))++xs=ZgA s r f xs):=by
  show _=_
  unfold ZgA;rw [hn,List.append_assoc]
 rw [hn] at hx1 hx2;have HBD:Hid (∀ z∈Zbr s r f n,0≤z∧z≤255):=headD_bd hr (by omega);have HHL:Hid ((Zbr s r f n).length=9):=headD_len s r f n;have hq:=sum16_lt (Zbr s r f n);have HQ:Hid (0≤(sum16 (Zbr s r f n):Int)∧(sum16 (Zbr s r f n):Int) / 2 ^ (8 * 2)=0):=⟨by omega,by rw [show (2:Int) ^ (8 * 2)=65536 from rfl]; omega⟩;have b1:Below w.heap.size w (w.alloc (.cells #[.int .i64 s,.int .i64 r,.int .i64 f,.slice a n cap] 48)):=(Below.refl w.heap.size w).alloc (Nat.le_refl _) _;have x1:=Box.new w 48 #[.int .i64 s,.int .i64 r,.int .i64 f,.slice a n cap];have HA:Hid (Za .u8 w.heap.size w (.slice a n cap) xs):=ha;have HS:=isSeq_yes s hs (w.alloc (.cells #[.int .i64 s,.int .i64 r,.int .i64 f,.slice a n cap] 48));have HC:=dCount_yes (n:Int) (by omega) (w.alloc (.cells #[.int .i64 s,.int .i64 r,.int .i64 f,.slice a n cap] 48));have HH:=head_ok s r f a n cap hs hr hf hx2 (w.alloc (.cells #[.int .i64 s,.int .i64 r,.int .i64 f,.slice a n cap] 48));have d1:decide (r<0)=false:=decide_eq_false (by omega);have d2:decide (255<r)=false:=decide_eq_false (by omega);have d3:decide (f<0)=false:=decide_eq_false (by omega);have d4:decide (65535<f)=false:=decide_eq_false (by omega);obtain ⟨H,hH⟩:∃ H,Zbr s r f n=H:=⟨_,rfl⟩;obtain ⟨Q,hQ⟩:∃ Q,sum16 H=Q:=⟨_,rfl⟩;rw [hH] at HPK HBD HHL HQ HH;rw [hQ] at HPK HQ;have HSQ:Hid (sum16 H=Q):=hQ;clear hn hs hr hf ha hq hH hQ;go_enter Tryz.func31,Tryz.ntmps31;go_wp2_with (first | (go_at_call 51; refine HS.mono ?_; rintro e w' ⟨rfl,rfl⟩) | (go_at_call 52; refine HC.mono ?_; rintro e w' ⟨rfl,rfl⟩));refine HH.mono ?_;rintro e w2 ⟨ra,rc,rfl,h2,b2⟩;have bb2:=b1.trans (b2.mono (by simp));have x2:=x1.next b2;have HSm:=Sum16_at ra 9 rc H HHL.out (by decide) HBD.out w2 _ h2;rw [HSQ.out] at HSm;have HP:=ZdG ra 9 rc H HHL.out (Q:Int) 2 w2 _ (by decide) (by decide) HQ.out.1 HQ.out.2 (by decide) (Nat.le_refl _) h2;clear HS HC HH b1 b2 x1 h2;go_wp2_with fail;refine HSm.mono ?_;rintro e w3 ⟨rfl,rfl⟩;go_wp2_with fail;refine HP.mono ?_;rintro e w3 ⟨qa,qc,rfl,o3,b3⟩;have bb3:=bb2.trans (b3.mono bb2.size);have x3:=x2.next b3;have k3:=x3.cell 3 _ rfl;have hB3:=x3.lt;have X5:Hid (Box (w3.alloc (.cells #[.slice qa (9+2) qc,.slice a n cap] 24)) w3.heap.size 24 #[.slice qa (9+2) qc,.slice a n cap]):=Box.new w3 _ _;have B5:Hid (Below w3.heap.size w3 (w3.alloc (.cells #[.slice qa (9+2) qc,.slice a n cap] 24))):=(Below.refl _ _).alloc (Nat.le_refl _) _;have hHL2:(H++Zj 2 (Q:Int)).length=9+2:=by rw [List.length_append,ZU,HHL.out]
 have HCc:=concat2_ok w3.heap.size qa a qc cap (9+2) n (H++Zj 2 (Q:Int)) xs hHL2 HN.out (by decide) (by omega) (by decide) (w3.alloc (.cells #[.slice qa (9+2) qc,.slice a n cap] 24)) (X5.out.cell 0 _ rfl) (X5.out.cell 1 _ rfl) ((Zf o3).next B5.out) (((HA.out.below bb3).mono bb3.size).next B5.out);rw [HPK.out] at HCc;have HW:Hid (Below w.heap.size w w3):=bb3;clear HP HSm x2 x3 b3 bb2 bb3 o3 hHL2;go_wp2_with fail;refine HCc.mono ?_;rintro e w6 ⟨r6,rfl,o6,b6⟩;have b7:=HW.out.trans ((B5.out.trans (b6.mono (by simp))).mono HW.out.size)
 have o7:w6.ownsRow w.heap.size 5 1 r6 (n+11) ((ZgA s r f xs).map (Value.int .u8)):=by
  have:=Z1 o6 (show w.heap.size≤(w3.alloc (.cells #[.slice qa (9+2) qc,.slice a n cap] 24)).heap.size by have:=HW.out.size; simp; omega);rw [show 9+2+n=n+11 by omega] at this;exact this
 clear HCc o6 b6;go_wp2;go_ret2;exact ⟨_,rfl,o7,b7⟩
theorem read_arg (z:Int) (hz:ZbZ z=false) (v:Value) (w:World) :
  Calls Tryz.prog 76 #[.int .i64 z,v] w fun e w'=>e=.returned (.tuple #[.agg #[.int .i64 0,.int .i64 0,.slice none 0 0],.int .i64 1])∧Below w.heap.size w w':=by
 have b0:=(Below.refl w.heap.size w).alloc (Nat.le_refl _) (.cells #[.int .i64 0,.int .i64 0,.slice none 0 0] 26);have HS:=ZaJ z (w.alloc (.cells #[.int .i64 0,.int .i64 0,.slice none 0 0] 26));rw [hz] at HS;clear hz;go_enter Tryz.func76,Tryz.ntmps76;go_wp2_with (go_at_call 40; refine HS.mono ?_; rintro e w' ⟨rfl,rfl⟩);exact bodyPost_ret (v:=.tuple #[.agg #[.int .i64 0,.int .i64 0,.slice none 0 0],.int .i64 1]) (by simp [results,Tryz.results76,go_sem]) rfl ⟨rfl,b0⟩
theorem read_len (z:Int) (hz:ZbZ z=true) (a:Option Addr) (n cap:Nat) (hn:(n:Int)≠z+10) (w:World) :
  Calls Tryz.prog 76 #[.int .i64 z,.slice a n cap] w fun e w'=>e=.returned (.tuple #[.agg #[.int .i64 0,.int .i64 0,.slice none 0 0],.int .i64 2])∧Below w.heap.size w w':=by
 have b0:=(Below.refl w.heap.size w).alloc (Nat.le_refl _) (.cells #[.int .i64 0,.int .i64 0,.slice none 0 0] 26);have HS:=ZaJ z (w.alloc (.cells #[.int .i64 0,.int .i64 0,.slice none 0 0] 26));have hz':=(Zbt z).1 hz;rw [hz] at HS;have d3:((n:Int) != 6+z+4)=true:=by rw [bne_iff_ne]; omega
 clear hz hn;go_enter Tryz.func76,Tryz.ntmps76;go_wp2_with (go_at_call 40; refine HS.mono ?_; rintro e w' ⟨rfl,rfl⟩);exact bodyPost_ret (v:=.tuple #[.agg #[.int .i64 0,.int .i64 0,.slice none 0 0],.int .i64 2]) (by simp [results,Tryz.results76,go_sem]) rfl ⟨rfl,b0⟩
theorem read_sum (Z:Nat) (hZ1:1≤Z) (hZ2:Z≤16) (a:Option Addr) (cap:Nat) (zs:List Int) (hl:zs.length=Z+10) (hc:zs.length≤cap) (bz:∀ z∈zs,0≤z∧z≤255) (hs:ZQ zs=false) (w:World) (ha:Za .u8 w.heap.size w (.slice a zs.length cap) zs) :
  Calls Tryz.prog 76 #[.int .i64 Z,.slice a zs.length cap] w fun e W'=>e=.returned (.tuple #[.agg #[.int .i64 0,.int .i64 0,.slice none 0 0],.int .i64 4])∧Below w.heap.size w W':=by
 have b0:=(Below.refl w.heap.size w).alloc (Nat.le_refl _) (.cells #[.int .i64 0,.int .i64 0,.slice none 0 0] 26);have x0:=Box.new w 26 #[.int .i64 0,.int .i64 0,.slice none 0 0];have HS:=ZaJ (Z:Int) (w.alloc (.cells #[.int .i64 0,.int .i64 0,.slice none 0 0] 26));rw [Zbs (z:=(Z:Int)) (by omega)] at HS;have d3:((zs.length:Int) != 6+(Z:Int)+4)=false:=by rw [bne_eq_false_iff_eq]; omega
 have HB:Hid (∀ z∈zs,0≤z∧z≤255):=bz;have HA:Hid (Za .u8 w.heap.size w (.slice a zs.length cap) zs):=ha;have HC1:=ZbG a cap zs (by omega) hc bz _ (ha.next b0);rw [hs] at HC1;have HL:Hid (zs.length=Z+10):=hl;clear hs bz hl ha;go_enter Tryz.func76,Tryz.ntmps76;go_wp2_with fail;refine HS.mono ?_;rintro e wz ⟨rfl,rfl⟩;go_wp2_with fail;refine HC1.mono ?_;rintro e w1 ⟨rfl,b1⟩;have bb1:=b0.trans (b1.mono (by simp));have y0:=x0.next b1;obtain ⟨z0,z1,z2⟩:=y0.c3;obtain ⟨f0,f1,f2⟩:=y0.f3;clear HC1 HS b0 b1 x0;go_wp2;exact bodyPost_ret (v:=.tuple #[.agg #[.int .i64 0,.int .i64 0,.slice none 0 0],.int .i64 4]) (by simp [results,Tryz.results76,go_sem,z0,z1,z2]) rfl ⟨rfl,Zx bb1 (Nat.le_refl _) _ _ _⟩
theorem read_bad (Z:Nat) (hZ1:1≤Z) (hZ2:Z≤16) (a:Option Addr) (cap:Nat) (zs:List Int) (hl:zs.length=Z+10) (hc:zs.length≤cap) (bz:∀ z∈zs,0≤z∧z≤255) (hs:ZQ zs=true) (hE:errB Z (rdS zs) (rdM zs) (rdN zs)≠0) (w:World) (ha:Za .u8 w.heap.size w (.slice a zs.length cap) zs) :
  Calls Tryz.prog 76 #[.int .i64 Z,.slice a zs.length cap] w fun e W'=>e=.returned (.tuple #[.agg #[.int .i64 0,.int .i64 0,.slice none 0 0],.int .i64 3])∧Below w.heap.size w W':=by
 have b0:=(Below.refl w.heap.size w).alloc (Nat.le_refl _) (.cells #[.int .i64 0,.int .i64 0,.slice none 0 0] 26);have x0:=Box.new w 26 #[.int .i64 0,.int .i64 0,.slice none 0 0];have HS:=ZaJ (Z:Int) (w.alloc (.cells #[.int .i64 0,.int .i64 0,.slice none 0 0] 26));rw [Zbs (z:=(Z:Int)) (by omega)] at HS;have d3:((zs.length:Int) != 6+(Z:Int)+4)=false:=by rw [bne_eq_false_iff_eq]; omega
 have HB:Hid (∀ z∈zs,0≤z∧z≤255):=bz;have HA:Hid (Za .u8 w.heap.size w (.slice a zs.length cap) zs):=ha;have HC1:=ZbG a cap zs (by omega) hc bz _ (ha.next b0);rw [hs] at HC1;have HL:Hid (zs.length=Z+10):=hl;clear hs bz hl ha;go_enter Tryz.func76,Tryz.ntmps76;go_wp2_with fail;refine HS.mono ?_;rintro e wz ⟨rfl,rfl⟩;go_wp2_with fail;refine HC1.mono ?_;rintro e w1 ⟨rfl,b1⟩;have bb1:=b0.trans (b1.mono (by simp));have y0:=x0.next b1;have HT:=ZeQ Z hZ2 a cap zs HL.out hc HB.out w1 ((HA.out.below bb1).mono bb1.size);obtain ⟨S,hS⟩:∃ S,rdS zs=S:=⟨_,rfl⟩;obtain ⟨M,hM⟩:∃ M,rdM zs=M:=⟨_,rfl⟩;obtain ⟨n,hn⟩:∃ n,rdN zs=n:=⟨_,rfl⟩;obtain ⟨X,hX⟩:∃ X,tkX zs=X:=⟨_,rfl⟩;rw [hS,hM,hn,hX] at HT;have HXL:Hid (X.length=n):=by show X.length=n; rw [← hX,← hn]; exact ZeP zs
 rw [hS,hM,hn] at hE;clear hS hM hn hX;clear HC1 HS x0;go_wp2_with fail;refine HT.mono ?_;rintro e w2 ⟨g,rfl,hX2,hg0,b2⟩;have HG:Hid (g≠w.heap.size):=by show g≠w.heap.size; have:=y0.lt; omega
 have bb2:=bb1.trans (b2.mono bb1.size);have y2:=y0.next b2;have X3:Hid (Box (w2.alloc (.cells #[.int .i64 S,.int .i64 M,.slice (some ⟨g,0,none⟩) n n] 26)) w2.heap.size 26 #[.int .i64 S,.int .i64 M,.slice (some ⟨g,0,none⟩) n n]):=Box.new w2 _ _;have B3:Hid (Below w2.heap.size w2 (w2.alloc (.cells #[.int .i64 S,.int .i64 M,.slice (some ⟨g,0,none⟩) n n] 26))):=(Below.refl _ _).alloc (Nat.le_refl _) _;have HX2:Hid (Za .u8 w2.heap.size w2 (.slice (some ⟨g,0,none⟩) n n) X):=hX2;clear HT hX2;have HM:=Zgp (Z:Int) S M (some ⟨g,0,none⟩) n n hE (w2.alloc (.cells #[.int .i64 S,.int .i64 M,.slice (some ⟨g,0,none⟩) n n] 26));obtain ⟨E,hEe⟩:∃ E,errB Z S M n=E:=⟨_,rfl⟩;rw [hEe] at hE HM;have dE:(E != 0)=true:=by rw [bne_iff_ne]; exact hE
 clear hEe hE;go_wp2_with fail;refine HM.mono ?_;rintro e w4 ⟨rfl,b4⟩;have b34:=B3.out.trans (b4.mono B3.out.size);have bb4:=bb2.trans (b34.mono bb2.size);have y4:=y2.next b34;obtain ⟨z0,z1,z2⟩:=y4.c3;obtain ⟨f0,f1,f2⟩:=y4.f3;clear HM b4 B3 X3 HX2 y0 y2;go_wp2;exact bodyPost_ret (v:=.tuple #[.agg #[.int .i64 0,.int .i64 0,.slice none 0 0],.int .i64 3]) (by simp [results,Tryz.results76,go_sem,z0,z1,z2]) rfl ⟨rfl,Zx bb4 (Nat.le_refl _) _ _ _⟩
theorem read_pad (Z:Nat) (hZ1:1≤Z) (hZ2:Z≤16) (a:Option Addr) (cap:Nat) (zs:List Int) (hl:zs.length=Z+10) (hc:zs.length≤cap) (bz:∀ z∈zs,0≤z∧z≤255) (hs:ZQ zs=true) (hn9:rdN zs≤Z) (hR:Zb0 Z (rdS zs) (rdM zs) (rdX zs)) (hq:¬ Zu Z (rdS zs) (rdM zs) (rdX zs)=zs) (w:World) (ha:Za .u8 w.heap.size w (.slice a zs.length cap) zs) :
  Calls Tryz.prog 76 #[.int .i64 Z,.slice a zs.length cap] w fun e W'=>e=.returned (.tuple #[.agg #[.int .i64 0,.int .i64 0,.slice none 0 0],.int .i64 3])∧Below w.heap.size w W':=by
 have b0:=(Below.refl w.heap.size w).alloc (Nat.le_refl _) (.cells #[.int .i64 0,.int .i64 0,.slice none 0 0] 26);have x0:=Box.new w 26 #[.int .i64 0,.int .i64 0,.slice none 0 0];have HS:=ZaJ (Z:Int) (w.alloc (.cells #[.int .i64 0,.int .i64 0,.slice none 0 0] 26));rw [Zbs (z:=(Z:Int)) (by omega)] at HS;have d3:((zs.length:Int) != 6+(Z:Int)+4)=false:=by rw [bne_eq_false_iff_eq]; omega
 have HB:Hid (∀ z∈zs,0≤z∧z≤255):=bz;have HA:Hid (Za .u8 w.heap.size w (.slice a zs.length cap) zs):=ha;have HC1:=ZbG a cap zs (by omega) hc bz _ (ha.next b0);rw [hs] at HC1;have HL:Hid (zs.length=Z+10):=hl;clear hs bz hl ha;go_enter Tryz.func76,Tryz.ntmps76;go_wp2_with fail;refine HS.mono ?_;rintro e wz ⟨rfl,rfl⟩;go_wp2_with fail;refine HC1.mono ?_;rintro e w1 ⟨rfl,b1⟩;have bb1:=b0.trans (b1.mono (by simp));have y0:=x0.next b1;have HT:=ZeQ Z hZ2 a cap zs HL.out hc HB.out w1 ((HA.out.below bb1).mono bb1.size);obtain ⟨S,hS⟩:∃ S,rdS zs=S:=⟨_,rfl⟩;obtain ⟨M,hM⟩:∃ M,rdM zs=M:=⟨_,rfl⟩;obtain ⟨n,hn⟩:∃ n,rdN zs=n:=⟨_,rfl⟩;obtain ⟨X,hX⟩:∃ X,tkX zs=X:=⟨_,rfl⟩;rw [hS,hM,hn,hX] at HT;have HXL:Hid (X.length=n):=by show X.length=n; rw [← hX,← hn]; exact ZeP zs
 have hXX:=(ZfV HL.out hn9).symm.trans hX;rw [hS,hM,hXX] at hR hq;have HR:Hid (Zb0 Z S M X):=hR;have HQ:Hid (decide (Zu Z S M X=zs)=false):=decide_eq_false hq;have HBX:Hid (∀ z∈X,0≤z∧z≤255):=fun z hz=>HB.out z (List.mem_of_mem_drop (List.mem_of_mem_take (show z∈(zs.drop 6).take (rdN zs) from by rw [← hXX] at hz; exact hz)))
 clear hS hM hn hX hXX hR hq hn9;clear HC1 HS x0;go_wp2_with fail;refine HT.mono ?_;rintro e w2 ⟨g,rfl,hX2,hg0,b2⟩;have HG:Hid (g≠w.heap.size):=by show g≠w.heap.size; have:=y0.lt; omega
 have bb2:=bb1.trans (b2.mono bb1.size);have y2:=y0.next b2;have X3:Hid (Box (w2.alloc (.cells #[.int .i64 S,.int .i64 M,.slice (some ⟨g,0,none⟩) n n] 26)) w2.heap.size 26 #[.int .i64 S,.int .i64 M,.slice (some ⟨g,0,none⟩) n n]):=Box.new w2 _ _;have B3:Hid (Below w2.heap.size w2 (w2.alloc (.cells #[.int .i64 S,.int .i64 M,.slice (some ⟨g,0,none⟩) n n] 26))):=(Below.refl _ _).alloc (Nat.le_refl _) _;have HX2:Hid (Za .u8 w2.heap.size w2 (.slice (some ⟨g,0,none⟩) n n) X):=hX2;clear HT hX2
 have HM:Calls Tryz.prog 9 #[.int .i64 Z,.agg #[.int .i64 S,.int .i64 M,.slice (some ⟨g,0,none⟩) n n]] (w2.alloc (.cells #[.int .i64 S,.int .i64 M,.slice (some ⟨g,0,none⟩) n n] 26)) fun e W'=>∃ r,e=.returned (.tuple #[r,.int .i64 0])∧W'.ownsRow (w2.alloc (.cells #[.int .i64 S,.int .i64 M,.slice (some ⟨g,0,none⟩) n n] 26)).heap.size 5 1 r (Z+10) ((Zu Z S M X).map (Value.int .u8))∧Below (w2.alloc (.cells #[.int .i64 S,.int .i64 M,.slice (some ⟨g,0,none⟩) n n] 26)).heap.size (w2.alloc (.cells #[.int .i64 S,.int .i64 M,.slice (some ⟨g,0,none⟩) n n] 26)) W':=by
  have:=ZeO Z S M (some ⟨g,0,none⟩) n X HR.out HBX.out (w2.alloc (.cells #[.int .i64 S,.int .i64 M,.slice (some ⟨g,0,none⟩) n n] 26)) (by rw [HXL.out]; exact HX2.out.next B3.out);rw [HXL.out] at this;exact this
 go_wp2_with fail;refine HM.mono ?_;rintro e w4 ⟨r4,rfl,o4,b4⟩;have b34:=B3.out.trans (b4.mono B3.out.size);have bb4:=bb2.trans (b34.mono bb2.size);have y4:=y2.next b34;have v4:=X3.out.next b4;have hBl:(Zu Z S M X).length=Z+10:=by have:=o4.1; simpa using this
 rcases id o4.2 with ⟨_,e0⟩ | ⟨g4,c4,cur4,e4,_,hg4,_,_,_,_⟩
 ·omega
 subst e4
 have HEq:Calls Tryz.prog 93 #[.slice (some ⟨g4,0,none⟩) (Z+10) c4,.slice a zs.length cap] w4 fun e w'=>e=.returned (.bool (decide (Zu Z S M X=zs)))∧∃ q,w'=w4.drewN q:=by
  rcases HA.out with ⟨_,e⟩ | ⟨b,off,cap',e,hb,hcs⟩
  ·have:=HL.out; rw [e] at this; simp at this
  ·cases e
   refine ZbQ g4 0 (Z+10) c4 b off zs.length cap (Zu Z S M X) zs hBl rfl (by omega) (by have:=HL.out; omega) w4 (fun j hj=>?_) (fun j hj=>(bb4.cell (p:=⟨b,off+j,none⟩) hb).trans (hcs j hj));have:=o4.cells (g:=g4) rfl j (.int .u8 ((Zu Z S M X)[j]?.getD 0)) (by simp [hBl,hj]);rw [Addr.add_lit] at this;exact this
 rw [HQ.out] at HEq;obtain ⟨z0,z1,z2⟩:=y4.c3;obtain ⟨f0,f1,f2⟩:=y4.f3;clear HM b4 B3 X3 HX2 y0 y2 o4 hg4 hBl v4;go_wp2_with fail;refine HEq.mono ?_;rintro e w5 ⟨rfl,q,rfl⟩;clear HEq;go_wp2;exact bodyPost_ret (v:=.tuple #[.agg #[.int .i64 0,.int .i64 0,.slice none 0 0],.int .i64 3]) (by simp [results,Tryz.results76,go_sem,z0,z1,z2]) rfl ⟨rfl,Zx (ZN bb4 q) (Nat.le_refl _) _ _ _⟩
theorem Read_ok (Z:Nat) (hZ1:1≤Z) (hZ2:Z≤16) (a:Option Addr) (cap:Nat) (zs:List Int) (hl:zs.length=Z+10) (hc:zs.length≤cap) (bz:∀ z∈zs,0≤z∧z≤255) (hs:ZQ zs=true) (h:Zcm Z zs) (w:World) (ha:Za .u8 w.heap.size w (.slice a zs.length cap) zs) :
  Calls Tryz.prog 76 #[.int .i64 Z,.slice a zs.length cap] w fun e W'=>∃ ra rc,e=.returned (.tuple #[.agg #[.int .i64 (rdS zs),.int .i64 (rdM zs),.slice ra (rdX zs).length rc],.int .i64 0])∧Za .u8 W'.heap.size W' (.slice ra (rdX zs).length rc) (rdX zs)∧Below w.heap.size w W':=by
 obtain ⟨hn9,hR,hq⟩:=h;obtain ⟨XR,hXR⟩:∃ X,rdX zs=X:=⟨_,rfl⟩;obtain ⟨SR,hSR⟩:∃ X,rdS zs=X:=⟨_,rfl⟩;obtain ⟨MR,hMR⟩:∃ X,rdM zs=X:=⟨_,rfl⟩;rw [hXR,hSR,hMR];have b0:=(Below.refl w.heap.size w).alloc (Nat.le_refl _) (.cells #[.int .i64 0,.int .i64 0,.slice none 0 0] 26);have x0:=Box.new w 26 #[.int .i64 0,.int .i64 0,.slice none 0 0];have HS:=ZaJ (Z:Int) (w.alloc (.cells #[.int .i64 0,.int .i64 0,.slice none 0 0] 26));rw [Zbs (z:=(Z:Int)) (by omega)] at HS;have d3:((zs.length:Int) != 6+(Z:Int)+4)=false:=by rw [bne_eq_false_iff_eq]; omega
 have HB:Hid (∀ z∈zs,0≤z∧z≤255):=bz;have HA:Hid (Za .u8 w.heap.size w (.slice a zs.length cap) zs):=ha;have HC1:=ZbG a cap zs (by omega) hc bz _ (ha.next b0);rw [hs] at HC1;have HL:Hid (zs.length=Z+10):=hl;clear hs bz hl ha;go_enter Tryz.func76,Tryz.ntmps76;go_wp2_with fail;refine HS.mono ?_;rintro e wz ⟨rfl,rfl⟩;go_wp2_with fail;refine HC1.mono ?_;rintro e w1 ⟨rfl,b1⟩;have bb1:=b0.trans (b1.mono (by simp));have y0:=x0.next b1;have HT:=ZeQ Z hZ2 a cap zs HL.out hc HB.out w1 ((HA.out.below bb1).mono bb1.size);obtain ⟨S,hS⟩:∃ S,rdS zs=S:=⟨_,rfl⟩;obtain ⟨M,hM⟩:∃ M,rdM zs=M:=⟨_,rfl⟩;obtain ⟨n,hn⟩:∃ n,rdN zs=n:=⟨_,rfl⟩;obtain ⟨X,hX⟩:∃ X,tkX zs=X:=⟨_,rfl⟩;rw [hS,hM,hn,hX] at HT;have HXL:Hid (X.length=n):=by show X.length=n; rw [← hX,← hn]; exact ZeP zs
 have hXX:=(ZfV HL.out hn9).symm.trans hX;have HE1:Hid (XR=X):=hXR.symm.trans hXX;have HE2:Hid (SR=S):=hSR.symm.trans hS;have HE3:Hid (MR=M):=hMR.symm.trans hM;clear hXR hSR hMR;rw [hS,hM,hXX] at hR hq;have HR:Hid (Zb0 Z S M X):=hR;have HQ:Hid (decide (Zu Z S M X=zs)=true):=decide_eq_true hq;have HBX:Hid (∀ z∈X,0≤z∧z≤255):=fun z hz=>HB.out z (List.mem_of_mem_drop (List.mem_of_mem_take (show z∈(zs.drop 6).take (rdN zs) from by rw [← hXX] at hz; exact hz)))
 clear hS hM hn hX hXX hR hq hn9;clear HC1 HS x0;go_wp2_with fail;refine HT.mono ?_;rintro e w2 ⟨g,rfl,hX2,hg0,b2⟩;have HG:Hid (g≠w.heap.size):=by show g≠w.heap.size; have:=y0.lt; omega
 have bb2:=bb1.trans (b2.mono bb1.size);have y2:=y0.next b2;have X3:Hid (Box (w2.alloc (.cells #[.int .i64 S,.int .i64 M,.slice (some ⟨g,0,none⟩) n n] 26)) w2.heap.size 26 #[.int .i64 S,.int .i64 M,.slice (some ⟨g,0,none⟩) n n]):=Box.new w2 _ _;have B3:Hid (Below w2.heap.size w2 (w2.alloc (.cells #[.int .i64 S,.int .i64 M,.slice (some ⟨g,0,none⟩) n n] 26))):=(Below.refl _ _).alloc (Nat.le_refl _) _;have HX2:Hid (Za .u8 w2.heap.size w2 (.slice (some ⟨g,0,none⟩) n n) X):=hX2;clear HT hX2
 have HM:Calls Tryz.prog 9 #[.int .i64 Z,.agg #[.int .i64 S,.int .i64 M,.slice (some ⟨g,0,none⟩) n n]] (w2.alloc (.cells #[.int .i64 S,.int .i64 M,.slice (some ⟨g,0,none⟩) n n] 26)) fun e W'=>∃ r,e=.returned (.tuple #[r,.int .i64 0])∧W'.ownsRow (w2.alloc (.cells #[.int .i64 S,.int .i64 M,.slice (some ⟨g,0,none⟩) n n] 26)).heap.size 5 1 r (Z+10) ((Zu Z S M X).map (Value.int .u8))∧Below (w2.alloc (.cells #[.int .i64 S,.int .i64 M,.slice (some ⟨g,0,none⟩) n n] 26)).heap.size (w2.alloc (.cells #[.int .i64 S,.int .i64 M,.slice (some ⟨g,0,none⟩) n n] 26)) W':=by
  have:=ZeO Z S M (some ⟨g,0,none⟩) n X HR.out HBX.out (w2.alloc (.cells #[.int .i64 S,.int .i64 M,.slice (some ⟨g,0,none⟩) n n] 26)) (by rw [HXL.out]; exact HX2.out.next B3.out);rw [HXL.out] at this;exact this
 go_wp2_with fail;refine HM.mono ?_;rintro e w4 ⟨r4,rfl,o4,b4⟩;have b34:=B3.out.trans (b4.mono B3.out.size);have bb4:=bb2.trans (b34.mono bb2.size);have y4:=y2.next b34;have v4:=X3.out.next b4;have hBl:(Zu Z S M X).length=Z+10:=by have:=o4.1; simpa using this
 rcases id o4.2 with ⟨_,e0⟩ | ⟨g4,c4,cur4,e4,_,hg4,_,_,_,_⟩
 ·omega
 subst e4
 have HEq:Calls Tryz.prog 93 #[.slice (some ⟨g4,0,none⟩) (Z+10) c4,.slice a zs.length cap] w4 fun e w'=>e=.returned (.bool (decide (Zu Z S M X=zs)))∧∃ q,w'=w4.drewN q:=by
  rcases HA.out with ⟨_,e⟩ | ⟨b,off,cap',e,hb,hcs⟩
  ·have:=HL.out; rw [e] at this; simp at this
  ·cases e
   refine ZbQ g4 0 (Z+10) c4 b off zs.length cap (Zu Z S M X) zs hBl rfl (by omega) (by have:=HL.out; omega) w4 (fun j hj=>?_) (fun j hj=>(bb4.cell (p:=⟨b,off+j,none⟩) hb).trans (hcs j hj));have:=o4.cells (g:=g4) rfl j (.int .u8 ((Zu Z S M X)[j]?.getD 0)) (by simp [hBl,hj]);rw [Addr.add_lit] at this;exact this
 rw [HQ.out] at HEq;obtain ⟨z0,z1,z2⟩:=y4.c3;obtain ⟨f0,f1,f2⟩:=y4.f3;obtain ⟨v0,v1,v2⟩:=v4.c3;have HH:Hid (Za .u8 w4.heap.size w4 (.slice (some ⟨g,0,none⟩) n n) X∧g≠w.heap.size):=⟨HX2.out.next b34,HG.out⟩;clear HM b4 B3 X3 HX2 y0 y2 o4 hg4 hBl v4;go_wp2_with fail;refine HEq.mono ?_;rintro e w5 ⟨rfl,q,rfl⟩;clear HEq;go_wp2;refine bodyPost_ret (v:=.tuple #[.agg #[.int .i64 S,.int .i64 M,.slice (some ⟨g,0,none⟩) n n],.int .i64 0]) (by simp [results,Tryz.results76,go_sem,z0,z1,z2]) rfl ⟨some ⟨g,0,none⟩,n,?_,?_,Zx (ZN bb4 q) (Nat.le_refl _) _ _ _⟩
 ·rw [HE1.out,HE2.out,HE3.out,HXL.out]
 ·rw [HE1.out,HXL.out];exact Zel (W:=w4.drewN q) HH.out.1 HH.out.2 _ _ _
theorem Read_no (z:Int) (a:Option Addr) (cap:Nat) (zs:List Int) (hl:zs.length≤4096) (hc:zs.length≤cap) (bz:∀ z∈zs,0≤z∧z≤255) (e:Int) (h:badB z zs e) (w:World) (ha:Za .u8 w.heap.size w (.slice a zs.length cap) zs) :
  Calls Tryz.prog 76 #[.int .i64 z,.slice a zs.length cap] w fun r w'=>r=.returned (.tuple #[.agg #[.int .i64 0,.int .i64 0,.slice none 0 0],.int .i64 e])∧Below w.heap.size w w':=by
 rcases h with ⟨h1,rfl⟩ | ⟨h1,h2,rfl⟩ | ⟨h1,h2,h3,rfl⟩ | ⟨h1,h2,h3,h4,rfl⟩
 ·exact read_arg z h1 _ w
 ·exact read_len z h1 a _ cap h2 w
 ·have hz:=(Zbt z).1 h1;obtain ⟨Z,rfl⟩:=Int.eq_ofNat_of_zero_le (show 0≤z by omega);exact read_sum Z (by omega) (by omega) a cap zs (by omega) hc bz h3 w ha
 ·have hz:=(Zbt z).1 h1;obtain ⟨Z,rfl⟩:=Int.eq_ofNat_of_zero_le (show 0≤z by omega);have hl:zs.length=Z+10:=by omega
  rw [show (Z:Int).toNat=Z from rfl] at h4;by_cases hE:errB Z (rdS zs) (rdM zs) (rdN zs)=0
  ·have hn:rdN zs≤Z:=by
    have:=((ZbI _ _ _).1 (Zci.1 hE).2).1;omega
   have hR:Zb0 Z (rdS zs) (rdM zs) (rdX zs):=(Zck _ _ _ _).1 (by rw [rdX_len hl hn]; exact hE);exact read_pad Z (by omega) (by omega) a cap zs hl hc bz h3 hn hR (fun hq=>h4 ⟨hn,hR,hq⟩) w ha
  ·exact read_bad Z (by omega) (by omega) a cap zs hl hc bz h3 hE w ha
end Go.Proofs.YtkigbanldiialaaGreatDoor
