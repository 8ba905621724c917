/-
  What the page's Read (bytes as a block) answers, whatever it is asked. (Written by tpl_refread.py.)
-/
import Derived.Test.YtabdnhkdoeibnaaGreatDoorM27
import Derived.Deep.RegionWith
set_option maxRecDepth 100000
set_option maxHeartbeats 4000000
namespace Go.Proofs.YtabdnhkdoeibnaaGreatDoor
open Go.RowKit
def badB (z:Int) (zs:List Int) (e:Int):Prop :=
 (Zca z=false∧e=1)∨(Zca z=true∧(zs.length:Int)≠z+10∧e=2)∨(Zca z=true∧(zs.length:Int)=z+10∧Zv zs=false∧e=4)∨(Zca z=true∧(zs.length:Int)=z+10∧Zv zs=true∧¬ Zby z.toNat zs∧e=3)
theorem Zav (z:Int):Zca z=true↔1≤z∧z≤16:=by simp [Zca]
theorem refRead_arg (z:Int) (hz:Zca z=false) (v:Value) (w:World) :
  Calls Tryz.prog 35 #[.int .i64 z,v] w fun e w'=>e=.returned (.tuple #[.agg #[.int .i64 0,.int .i64 0,.slice none 0 0],.int .i64 1])∧Below w.heap.size w w':=by
 have b0:=(Below.refl w.heap.size w).alloc (Nat.le_refl _) (.cells #[.int .i64 0,.int .i64 0,.slice none 0 0] 68);have hz':¬ (1≤z∧z≤16):=fun h=>by rw [(Zav z).2 h] at hz; cases hz
 by_cases h1:z<1
 ·have d1:decide (z<1)=true:=decide_eq_true h1;clear h1 hz hz';go_enter Tryz.func35,Tryz.ntmps35;go_wp2;exact bodyPost_ret (v:=.tuple #[.agg #[.int .i64 0,.int .i64 0,.slice none 0 0],.int .i64 1]) (by simp [results,Tryz.results35,go_sem]) rfl ⟨rfl,b0⟩
 ·have d1:decide (z<1)=false:=decide_eq_false h1;have d2:decide (16<z)=true:=decide_eq_true (by omega);clear h1 hz hz';go_enter Tryz.func35,Tryz.ntmps35;go_wp2;exact bodyPost_ret (v:=.tuple #[.agg #[.int .i64 0,.int .i64 0,.slice none 0 0],.int .i64 1]) (by simp [results,Tryz.results35,go_sem]) rfl ⟨rfl,b0⟩
theorem refRead_len (z:Int) (hz:Zca z=true) (a:Option Addr) (n cap:Nat) (hn:(n:Int)≠z+10) (w:World) :
  Calls Tryz.prog 35 #[.int .i64 z,.slice a n cap] w fun e w'=>e=.returned (.tuple #[.agg #[.int .i64 0,.int .i64 0,.slice none 0 0],.int .i64 2])∧Below w.heap.size w w':=by
 have b0:=(Below.refl w.heap.size w).alloc (Nat.le_refl _) (.cells #[.int .i64 0,.int .i64 0,.slice none 0 0] 68);have hz':=(Zav z).1 hz;have d1:decide (z<1)=false:=decide_eq_false (by omega);have d2:decide (16<z)=false:=decide_eq_false (by omega);have d3:((n:Int) != z+10)=true:=by simp [hn]
 clear hz hn;go_enter Tryz.func35,Tryz.ntmps35;go_wp2;exact bodyPost_ret (v:=.tuple #[.agg #[.int .i64 0,.int .i64 0,.slice none 0 0],.int .i64 2]) (by simp [results,Tryz.results35,go_sem]) rfl ⟨rfl,b0⟩
theorem refRead_sum (Z:Nat) (hZ1:1≤Z) (hZ2:Z≤16) (a:Option Addr) (cap:Nat) (zs:List Int) (hl:zs.length=Z+10) (hc:zs.length≤cap) (bz:∀ z∈zs,0≤z∧z≤255) (hs:Zv zs=false) (w:World) (ha:Zb .u8 w.heap.size w (.slice a zs.length cap) zs) :
  Calls Tryz.prog 35 #[.int .i64 Z,.slice a zs.length cap] w fun e W'=>e=.returned (.tuple #[.agg #[.int .i64 0,.int .i64 0,.slice none 0 0],.int .i64 4])∧Below w.heap.size w W':=by
 have b0:=(Below.refl w.heap.size w).alloc (Nat.le_refl _) (.cells #[.int .i64 0,.int .i64 0,.slice none 0 0] 68);have x0:=Box.new w 68 #[.int .i64 0,.int .i64 0,.slice none 0 0];have d1:decide ((Z:Int)<1)=false:=decide_eq_false (by omega);have d2:decide (16<(Z:Int))=false:=decide_eq_false (by omega);have d3:((zs.length:Int) != (Z:Int)+10)=false:=by rw [bne_eq_false_iff_eq]; omega
 have HB:Hid (∀ z∈zs,0≤z∧z≤255):=bz;have HC1:=ZaX a cap zs (by omega) hc bz _ (ha.next b0);rw [hs] at HC1;clear hs bz hl;go_enter Tryz.func35,Tryz.ntmps35;go_wp2_with fail;refine HC1.mono ?_;rintro e w1 ⟨rfl,b1⟩;have bb1:=b0.trans (b1.mono (by simp));have y0:=x0.next b1;obtain ⟨z0,z1,z2⟩:=y0.c3;obtain ⟨f0,f1,f2⟩:=y0.f3;clear HC1 b0 b1 x0 ha;go_wp2;exact bodyPost_ret (v:=.tuple #[.agg #[.int .i64 0,.int .i64 0,.slice none 0 0],.int .i64 4]) (by simp [results,Tryz.results35,go_sem,z0,z1,z2]) rfl ⟨rfl,Zx bb1 (Nat.le_refl _) _ _ _⟩
theorem refRead_big (Z:Nat) (hZ1:1≤Z) (hZ2:Z≤16) (a:Option Addr) (cap:Nat) (zs:List Int) (hl:zs.length=Z+10) (hc:zs.length≤cap) (bz:∀ z∈zs,0≤z∧z≤255) (hs:Zv zs=true) (hbig:Z<rdN zs) (w:World) (ha:Zb .u8 w.heap.size w (.slice a zs.length cap) zs) :
  Calls Tryz.prog 35 #[.int .i64 Z,.slice a zs.length cap] w fun e W'=>e=.returned (.tuple #[.agg #[.int .i64 0,.int .i64 0,.slice none 0 0],.int .i64 3])∧Below w.heap.size w W':=by
 have b0:=(Below.refl w.heap.size w).alloc (Nat.le_refl _) (.cells #[.int .i64 0,.int .i64 0,.slice none 0 0] 68);have x0:=Box.new w 68 #[.int .i64 0,.int .i64 0,.slice none 0 0];have d1:decide ((Z:Int)<1)=false:=decide_eq_false (by omega);have d2:decide (16<(Z:Int))=false:=decide_eq_false (by omega);have d3:((zs.length:Int) != (Z:Int)+10)=false:=by rw [bne_eq_false_iff_eq]; omega
 have HB:Hid (∀ z∈zs,0≤z∧z≤255):=bz;have HC1:=ZaX a cap zs (by omega) hc bz _ (ha.next b0);rw [hs] at HC1;have hcap6:¬ cap=6:=by omega
 rcases id ha with ⟨_,e⟩ | ⟨b,off,cap',e,hb,hcs⟩
 ·rw [e] at hl; simp at hl
 cases e
 have c4:w.cell? ⟨b,off+4,none⟩=some (.int .u8 (rdM zs)):=hcs 4 (by omega)
 have hN0:0≤(zs[5]?.getD 0:Int)∧(zs[5]?.getD 0:Int)≤255:=by
  have h5:5<zs.length:=by omega
  rw [List.getElem?_eq_getElem h5];exact bz _ (List.getElem_mem h5)
 have c5:w.cell? ⟨b,off+5,none⟩=some (.int .u8 (rdN zs:Int)):=by
  rw [show (rdN zs:Int)=zs[5]?.getD 0 by unfold rdN; omega]; exact hcs 5 (by omega)
 have hM0:0≤rdM zs∧rdM zs≤255:=by
  unfold rdM;have h5:4<zs.length:=by omega
  rw [List.getElem?_eq_getElem h5];exact bz _ (List.getElem_mem h5)
 have hN1:rdN zs≤255:=by unfold rdN; omega
 have ht4:(zs.take 4).length=4:=by rw [List.length_take]; omega
 have HNU:Hid (∀ wx:World,(∀ j,j<4→wx.cell? ⟨b,off+j,none⟩=some (.int .u8 (zs[j]?.getD 0)))→Calls Tryz.prog 61 #[.slice (some ⟨b,off,none⟩) 4 cap] wx fun e w'=>e=.returned (.int .i64 (rdS zs))∧wx=w'):=fun wx hx=>by
  have:=ZcR b off cap (zs.take 4) (by omega) (fun z hz=>bz z (List.mem_of_mem_take hz)) wx (fun j hj=>by rw [hx j (by omega),List.getElem?_take_of_lt (by omega)]);rw [ht4] at this;exact this
 have HX:Hid (rdN zs≤Z→Zb .u8 w.heap.size w (.slice (some ⟨b,off+6,none⟩) (rdX zs).length (cap-6)) (rdX zs)∧(rdX zs).length=rdN zs):=fun hle=>by
  have el:(rdX zs).length=rdN zs:=by unfold rdX; rw [List.length_take,List.length_drop]; omega
  refine ⟨.inr ⟨b,off+6,cap-6,rfl,hb,fun j hj=>?_⟩,el⟩;rw [Nat.add_assoc,hcs (6+j) (by omega)];unfold rdX;rw [List.getElem?_take_of_lt (by omega),List.getElem?_drop]
 have HCS:Hid (∀ j,j<zs.length→w.cell? ⟨b,off+j,none⟩=some (.int .u8 (zs[j]?.getD 0))):=hcs;have HL:Hid (zs.length=Z+10):=hl;have hlz:(zs.length:Int)=(Z:Int)+10:=by omega
 have hl10:10<zs.length:=by omega
 have hi4:(4:Int)<(zs.length:Int):=by omega
 have hi4':4<zs.length:=by omega
 have hi4c:(4:Int)≤(cap:Int):=by omega
 have hi4d:4≤cap:=by omega
 have ewM:IntKind.i64.wrap (rdM zs)=rdM zs:=by rw [IntKind.wrap_i64]; omega
 have HHA:Hid (Zb .u8 w.heap.size w (.slice (some ⟨b,off,none⟩) zs.length cap) zs):=ha;obtain ⟨S,hS⟩:∃ S,rdS zs=S:=⟨_,rfl⟩;obtain ⟨M,hM⟩:∃ M,rdM zs=M:=⟨_,rfl⟩;obtain ⟨n,hn⟩:∃ n,rdN zs=n:=⟨_,rfl⟩;obtain ⟨X,hX⟩:∃ X,rdX zs=X:=⟨_,rfl⟩;rw [hS] at HNU;rw [hM] at c4 hM0 ewM;rw [hn] at c5 hN1;rw [hn,hX] at HX;rw [hn] at hbig;clear bz hl hcs ha hN0 ht4 hs hS hM hn hX;go_enter Tryz.func35,Tryz.ntmps35;go_wp2_with fail;refine HC1.mono ?_;rintro e w1 ⟨rfl,b1⟩;have bb1:=b0.trans (b1.mono (by simp));have y0:=x0.next b1;have e4:=(b1.cell (p:=⟨b,off+4,none⟩) (by simp; omega)).trans ((b0.cell (p:=⟨b,off+4,none⟩) hb).trans c4);have e5:=(b1.cell (p:=⟨b,off+5,none⟩) (by simp; omega)).trans ((b0.cell (p:=⟨b,off+5,none⟩) hb).trans c5);have hbw1:b<w1.heap.size:=by have:=bb1.size; omega
 have HQ1:Hid (∀ j,j<4→w1.drew.cell? ⟨b,off+j,none⟩=some (.int .u8 (zs[j]?.getD 0))):=fun j hj=>(bb1.cell (p:=⟨b,off+j,none⟩) hb).trans (HCS.out j (by omega))
 have HQ2:Hid (∀ j,j<4→(w1.alloc (.cells #[.int .i64 0,.int .i64 0,.slice none 0 0] 68)).drew.cell? ⟨b,off+j,none⟩=some (.int .u8 (zs[j]?.getD 0))):=fun j hj=>(((Below.refl w1.heap.size w1).alloc (Nat.le_refl _) _).drew.cell (p:=⟨b,off+j,none⟩) hbw1).trans (HQ1.out j hj)
 clear c4 c5 HC1;go_wp2;go_cut [6] (fun v wx=>v=.pointer (some ⟨w1.heap.size,0,none⟩)∧wx=(w1.alloc (.cells #[.int .i64 S,.int .i64 M,.slice none 0 0] 68)).drew)
 case first =>
  go_region_with (go_at_call 61; refine (HNU.out _ (by first | exact HQ1.out | exact HQ2.out)).mono ?_; rintro e wn ⟨rfl,rfl⟩)
  all_goals (try go_wp2_with fail)
  all_goals go_meet
  all_goals exact ⟨rfl,rfl⟩
 case rest =>
  obtain ⟨rfl,rfl⟩:=hcut;have bW:Below w1.heap.size w1 (w1.alloc (.cells #[.int .i64 S,.int .i64 M,.slice none 0 0] 68)).drew:=((Below.refl _ _).alloc (Nat.le_refl _) _).drew;have xb:Box (w1.alloc (.cells #[.int .i64 S,.int .i64 M,.slice none 0 0] 68)).drew w1.heap.size 68 #[.int .i64 S,.int .i64 M,.slice none 0 0]:=Box.new w1 _ _;have bb2:=bb1.trans (bW.mono bb1.size);have y2:=y0.next bW;have g5:=(bW.cell (p:=⟨b,off+5,none⟩) hbw1).trans e5;clear HQ1 HQ2 HNU e4 e5;generalize (w1.alloc (.cells #[.int .i64 S,.int .i64 M,.slice none 0 0] 68)).drew=W2 at *;have dn:decide ((Z:Int)<(n:Int))=true:=decide_eq_true (by omega);have dn':decide (Z<n)=true:=decide_eq_true hbig;obtain ⟨z0,z1,z2⟩:=y2.c3;obtain ⟨f0,f1,f2⟩:=y2.f3;clear hbig;go_wp2;exact bodyPost_ret (v:=.tuple #[.agg #[.int .i64 0,.int .i64 0,.slice none 0 0],.int .i64 3]) (by simp [results,Tryz.results35,go_sem,z0,z1,z2]) rfl ⟨rfl,Zx bb2 (Nat.le_refl _) _ _ _⟩
theorem refRead_bad (Z:Nat) (hZ1:1≤Z) (hZ2:Z≤16) (a:Option Addr) (cap:Nat) (zs:List Int) (hl:zs.length=Z+10) (hc:zs.length≤cap) (bz:∀ z∈zs,0≤z∧z≤255) (hs:Zv zs=true) (hle:rdN zs≤Z) (hE:errB Z (rdS zs) (rdM zs) (rdN zs)≠0) (w:World) (ha:Zb .u8 w.heap.size w (.slice a zs.length cap) zs) :
  Calls Tryz.prog 35 #[.int .i64 Z,.slice a zs.length cap] w fun e W'=>e=.returned (.tuple #[.agg #[.int .i64 0,.int .i64 0,.slice none 0 0],.int .i64 3])∧Below w.heap.size w W':=by
 have b0:=(Below.refl w.heap.size w).alloc (Nat.le_refl _) (.cells #[.int .i64 0,.int .i64 0,.slice none 0 0] 68);have x0:=Box.new w 68 #[.int .i64 0,.int .i64 0,.slice none 0 0];have d1:decide ((Z:Int)<1)=false:=decide_eq_false (by omega);have d2:decide (16<(Z:Int))=false:=decide_eq_false (by omega);have d3:((zs.length:Int) != (Z:Int)+10)=false:=by rw [bne_eq_false_iff_eq]; omega
 have HB:Hid (∀ z∈zs,0≤z∧z≤255):=bz;have HC1:=ZaX a cap zs (by omega) hc bz _ (ha.next b0);rw [hs] at HC1;have hcap6:¬ cap=6:=by omega
 rcases id ha with ⟨_,e⟩ | ⟨b,off,cap',e,hb,hcs⟩
 ·rw [e] at hl; simp at hl
 cases e
 have c4:w.cell? ⟨b,off+4,none⟩=some (.int .u8 (rdM zs)):=hcs 4 (by omega)
 have hN0:0≤(zs[5]?.getD 0:Int)∧(zs[5]?.getD 0:Int)≤255:=by
  have h5:5<zs.length:=by omega
  rw [List.getElem?_eq_getElem h5];exact bz _ (List.getElem_mem h5)
 have c5:w.cell? ⟨b,off+5,none⟩=some (.int .u8 (rdN zs:Int)):=by
  rw [show (rdN zs:Int)=zs[5]?.getD 0 by unfold rdN; omega]; exact hcs 5 (by omega)
 have hM0:0≤rdM zs∧rdM zs≤255:=by
  unfold rdM;have h5:4<zs.length:=by omega
  rw [List.getElem?_eq_getElem h5];exact bz _ (List.getElem_mem h5)
 have hN1:rdN zs≤255:=by unfold rdN; omega
 have ht4:(zs.take 4).length=4:=by rw [List.length_take]; omega
 have HNU:Hid (∀ wx:World,(∀ j,j<4→wx.cell? ⟨b,off+j,none⟩=some (.int .u8 (zs[j]?.getD 0)))→Calls Tryz.prog 61 #[.slice (some ⟨b,off,none⟩) 4 cap] wx fun e w'=>e=.returned (.int .i64 (rdS zs))∧wx=w'):=fun wx hx=>by
  have:=ZcR b off cap (zs.take 4) (by omega) (fun z hz=>bz z (List.mem_of_mem_take hz)) wx (fun j hj=>by rw [hx j (by omega),List.getElem?_take_of_lt (by omega)]);rw [ht4] at this;exact this
 have HX:Hid (rdN zs≤Z→Zb .u8 w.heap.size w (.slice (some ⟨b,off+6,none⟩) (rdX zs).length (cap-6)) (rdX zs)∧(rdX zs).length=rdN zs):=fun hle=>by
  have el:(rdX zs).length=rdN zs:=by unfold rdX; rw [List.length_take,List.length_drop]; omega
  refine ⟨.inr ⟨b,off+6,cap-6,rfl,hb,fun j hj=>?_⟩,el⟩;rw [Nat.add_assoc,hcs (6+j) (by omega)];unfold rdX;rw [List.getElem?_take_of_lt (by omega),List.getElem?_drop]
 have HCS:Hid (∀ j,j<zs.length→w.cell? ⟨b,off+j,none⟩=some (.int .u8 (zs[j]?.getD 0))):=hcs;have HL:Hid (zs.length=Z+10):=hl;have hlz:(zs.length:Int)=(Z:Int)+10:=by omega
 have hl10:10<zs.length:=by omega
 have hi4:(4:Int)<(zs.length:Int):=by omega
 have hi4':4<zs.length:=by omega
 have hi4c:(4:Int)≤(cap:Int):=by omega
 have hi4d:4≤cap:=by omega
 have ewM:IntKind.i64.wrap (rdM zs)=rdM zs:=by rw [IntKind.wrap_i64]; omega
 have HHA:Hid (Zb .u8 w.heap.size w (.slice (some ⟨b,off,none⟩) zs.length cap) zs):=ha;obtain ⟨S,hS⟩:∃ S,rdS zs=S:=⟨_,rfl⟩;obtain ⟨M,hM⟩:∃ M,rdM zs=M:=⟨_,rfl⟩;obtain ⟨n,hn⟩:∃ n,rdN zs=n:=⟨_,rfl⟩;obtain ⟨X,hX⟩:∃ X,rdX zs=X:=⟨_,rfl⟩;rw [hS] at HNU;rw [hM] at c4 hM0 ewM;rw [hn] at c5 hN1;rw [hn,hX] at HX;rw [hn] at hle;rw [hS,hM,hn] at hE;clear bz hl hcs ha hN0 ht4 hs hS hM hn hX;go_enter Tryz.func35,Tryz.ntmps35;go_wp2_with fail;refine HC1.mono ?_;rintro e w1 ⟨rfl,b1⟩;have bb1:=b0.trans (b1.mono (by simp));have y0:=x0.next b1;have e4:=(b1.cell (p:=⟨b,off+4,none⟩) (by simp; omega)).trans ((b0.cell (p:=⟨b,off+4,none⟩) hb).trans c4);have e5:=(b1.cell (p:=⟨b,off+5,none⟩) (by simp; omega)).trans ((b0.cell (p:=⟨b,off+5,none⟩) hb).trans c5);have hbw1:b<w1.heap.size:=by have:=bb1.size; omega
 have HQ1:Hid (∀ j,j<4→w1.drew.cell? ⟨b,off+j,none⟩=some (.int .u8 (zs[j]?.getD 0))):=fun j hj=>(bb1.cell (p:=⟨b,off+j,none⟩) hb).trans (HCS.out j (by omega))
 have HQ2:Hid (∀ j,j<4→(w1.alloc (.cells #[.int .i64 0,.int .i64 0,.slice none 0 0] 68)).drew.cell? ⟨b,off+j,none⟩=some (.int .u8 (zs[j]?.getD 0))):=fun j hj=>(((Below.refl w1.heap.size w1).alloc (Nat.le_refl _) _).drew.cell (p:=⟨b,off+j,none⟩) hbw1).trans (HQ1.out j hj)
 clear c4 c5 HC1;go_wp2;go_cut [6] (fun v wx=>v=.pointer (some ⟨w1.heap.size,0,none⟩)∧wx=(w1.alloc (.cells #[.int .i64 S,.int .i64 M,.slice none 0 0] 68)).drew)
 case first =>
  go_region_with (go_at_call 61; refine (HNU.out _ (by first | exact HQ1.out | exact HQ2.out)).mono ?_; rintro e wn ⟨rfl,rfl⟩)
  all_goals (try go_wp2_with fail)
  all_goals go_meet
  all_goals exact ⟨rfl,rfl⟩
 case rest =>
  obtain ⟨rfl,rfl⟩:=hcut;have bW:Below w1.heap.size w1 (w1.alloc (.cells #[.int .i64 S,.int .i64 M,.slice none 0 0] 68)).drew:=((Below.refl _ _).alloc (Nat.le_refl _) _).drew;have xb:Box (w1.alloc (.cells #[.int .i64 S,.int .i64 M,.slice none 0 0] 68)).drew w1.heap.size 68 #[.int .i64 S,.int .i64 M,.slice none 0 0]:=Box.new w1 _ _;have bb2:=bb1.trans (bW.mono bb1.size);have y2:=y0.next bW;have g5:=(bW.cell (p:=⟨b,off+5,none⟩) hbw1).trans e5;clear HQ1 HQ2 HNU e4 e5;generalize (w1.alloc (.cells #[.int .i64 S,.int .i64 M,.slice none 0 0] 68)).drew=W2 at *;have dn:decide ((Z:Int)<(n:Int))=false:=decide_eq_false (by omega);have dn':decide (Z<n)=false:=decide_eq_false (by omega);obtain ⟨hXH,hXl⟩:=HX.out hle;rw [hXl] at hXH;have h6a:6+n≤cap:=by omega
  have HT:=ZcH _ X _ (by omega) W2 (hXH.below bb2);rw [hXl] at HT;have HXL:Hid (X.length=n):=hXl;have k0:=xb.cell 0 _ rfl;have hc6:cap-6+6=cap:=by omega
  clear hXl HX hXH;go_wp2_with fail;refine HT.mono ?_;rintro e w3 ⟨r,rfl,o3,b3⟩;obtain ⟨ra,rc,rfl⟩:=Zbl o3;have xc:=xb.next b3;have k2:=xc.cell 2 _ rfl;have l2:=xc.free 2;have xd:=xc.set 2 (.slice ra n rc);have bb3:Below w.heap.size w (w3.setCell ⟨w1.heap.size,2,none⟩ (.slice ra n rc)):=(bb2.trans (b3.mono bb2.size)).setCell (p:=⟨w1.heap.size,2,none⟩) bb1.size _;have o4:(w3.setCell ⟨w1.heap.size,2,none⟩ (.slice ra n rc)).ownsRow W2.heap.size 5 1 (.slice ra n rc) n (X.map (Value.int .u8)):=ownsRow_setCell_below o3 (a:=⟨w1.heap.size,2,none⟩) xb.lt _;have y4:Box (w3.setCell ⟨w1.heap.size,2,none⟩ (.slice ra n rc)) w.heap.size 68 #[.int .i64 0,.int .i64 0,.slice none 0 0]:=(y2.next b3).other (by have:=b1.size; simp at this ⊢; omega) _;obtain ⟨q0,q1,q2⟩:=xd.c3;have hH4:=Zg o4;have HC2:=Zcv (Z:Int) S M ra n rc (w3.setCell ⟨w1.heap.size,2,none⟩ (.slice ra n rc));obtain ⟨E,hEe⟩:∃ E,errB (Z:Int) S M n=E:=⟨_,rfl⟩;rw [hEe] at HC2 hE;have dE:(E != 0)=true:=by simp [hE]
  clear hE hEe;have hwW:=y2.lt;clear HT o3 k0 xb xc y2;go_wp2_with fail;generalize w3.setCell ⟨w1.heap.size,2,none⟩ (.slice ra n rc)=W4 at *;refine HC2.mono ?_;rintro e w5 ⟨rfl,b5⟩;have y5:=y4.next b5;have bb5:=bb3.trans (b5.mono bb3.size);obtain ⟨z0,z1,z2⟩:=y5.c3;obtain ⟨f0,f1,f2⟩:=y5.f3;clear y4 y5 HC2 b5 hH4 k2 l2 g5 q0 q1 q2 o4;go_wp2;exact bodyPost_ret (v:=.tuple #[.agg #[.int .i64 0,.int .i64 0,.slice none 0 0],.int .i64 3]) (by simp [results,Tryz.results35,go_sem,z0,z1,z2]) rfl ⟨rfl,Zx bb5 (Nat.le_refl _) _ _ _⟩
theorem refRead_pad (Z:Nat) (hZ1:1≤Z) (hZ2:Z≤16) (a:Option Addr) (cap:Nat) (zs:List Int) (hl:zs.length=Z+10) (hc:zs.length≤cap) (bz:∀ z∈zs,0≤z∧z≤255) (hs:Zv zs=true) (hle:rdN zs≤Z) (hR:ZbM Z (rdS zs) (rdM zs) (rdX zs)) (hq:ZC Z (rdS zs) (rdM zs) (rdX zs)≠zs) (w:World) (ha:Zb .u8 w.heap.size w (.slice a zs.length cap) zs) :
  Calls Tryz.prog 35 #[.int .i64 Z,.slice a zs.length cap] w fun e W'=>e=.returned (.tuple #[.agg #[.int .i64 0,.int .i64 0,.slice none 0 0],.int .i64 3])∧Below w.heap.size w W':=by
 have b0:=(Below.refl w.heap.size w).alloc (Nat.le_refl _) (.cells #[.int .i64 0,.int .i64 0,.slice none 0 0] 68);have x0:=Box.new w 68 #[.int .i64 0,.int .i64 0,.slice none 0 0];have d1:decide ((Z:Int)<1)=false:=decide_eq_false (by omega);have d2:decide (16<(Z:Int))=false:=decide_eq_false (by omega);have d3:((zs.length:Int) != (Z:Int)+10)=false:=by rw [bne_eq_false_iff_eq]; omega
 have HB:Hid (∀ z∈zs,0≤z∧z≤255):=bz;have HC1:=ZaX a cap zs (by omega) hc bz _ (ha.next b0);rw [hs] at HC1;have hcap6:¬ cap=6:=by omega
 rcases id ha with ⟨_,e⟩ | ⟨b,off,cap',e,hb,hcs⟩
 ·rw [e] at hl; simp at hl
 cases e
 have c4:w.cell? ⟨b,off+4,none⟩=some (.int .u8 (rdM zs)):=hcs 4 (by omega)
 have hN0:0≤(zs[5]?.getD 0:Int)∧(zs[5]?.getD 0:Int)≤255:=by
  have h5:5<zs.length:=by omega
  rw [List.getElem?_eq_getElem h5];exact bz _ (List.getElem_mem h5)
 have c5:w.cell? ⟨b,off+5,none⟩=some (.int .u8 (rdN zs:Int)):=by
  rw [show (rdN zs:Int)=zs[5]?.getD 0 by unfold rdN; omega]; exact hcs 5 (by omega)
 have hM0:0≤rdM zs∧rdM zs≤255:=by
  unfold rdM;have h5:4<zs.length:=by omega
  rw [List.getElem?_eq_getElem h5];exact bz _ (List.getElem_mem h5)
 have hN1:rdN zs≤255:=by unfold rdN; omega
 have ht4:(zs.take 4).length=4:=by rw [List.length_take]; omega
 have HNU:Hid (∀ wx:World,(∀ j,j<4→wx.cell? ⟨b,off+j,none⟩=some (.int .u8 (zs[j]?.getD 0)))→Calls Tryz.prog 61 #[.slice (some ⟨b,off,none⟩) 4 cap] wx fun e w'=>e=.returned (.int .i64 (rdS zs))∧wx=w'):=fun wx hx=>by
  have:=ZcR b off cap (zs.take 4) (by omega) (fun z hz=>bz z (List.mem_of_mem_take hz)) wx (fun j hj=>by rw [hx j (by omega),List.getElem?_take_of_lt (by omega)]);rw [ht4] at this;exact this
 have HX:Hid (rdN zs≤Z→Zb .u8 w.heap.size w (.slice (some ⟨b,off+6,none⟩) (rdX zs).length (cap-6)) (rdX zs)∧(rdX zs).length=rdN zs):=fun hle=>by
  have el:(rdX zs).length=rdN zs:=by unfold rdX; rw [List.length_take,List.length_drop]; omega
  refine ⟨.inr ⟨b,off+6,cap-6,rfl,hb,fun j hj=>?_⟩,el⟩;rw [Nat.add_assoc,hcs (6+j) (by omega)];unfold rdX;rw [List.getElem?_take_of_lt (by omega),List.getElem?_drop]
 have HCS:Hid (∀ j,j<zs.length→w.cell? ⟨b,off+j,none⟩=some (.int .u8 (zs[j]?.getD 0))):=hcs;have HL:Hid (zs.length=Z+10):=hl;have hlz:(zs.length:Int)=(Z:Int)+10:=by omega
 have hl10:10<zs.length:=by omega
 have hi4:(4:Int)<(zs.length:Int):=by omega
 have hi4':4<zs.length:=by omega
 have hi4c:(4:Int)≤(cap:Int):=by omega
 have hi4d:4≤cap:=by omega
 have ewM:IntKind.i64.wrap (rdM zs)=rdM zs:=by rw [IntKind.wrap_i64]; omega
 have HHA:Hid (Zb .u8 w.heap.size w (.slice (some ⟨b,off,none⟩) zs.length cap) zs):=ha;obtain ⟨S,hS⟩:∃ S,rdS zs=S:=⟨_,rfl⟩;obtain ⟨M,hM⟩:∃ M,rdM zs=M:=⟨_,rfl⟩;obtain ⟨n,hn⟩:∃ n,rdN zs=n:=⟨_,rfl⟩;obtain ⟨X,hX⟩:∃ X,rdX zs=X:=⟨_,rfl⟩;rw [hS] at HNU;rw [hM] at c4 hM0 ewM;rw [hn] at c5 hN1;rw [hn,hX] at HX;rw [hn] at hle;rw [hS,hM,hX] at hR hq;have HR:Hid (ZbM Z S M X):=hR;have HXB:Hid (∀ z∈X,0≤z∧z≤255):=fun z hz=>bz z (List.mem_of_mem_drop (List.mem_of_mem_take (hX▸hz)))
 have HQ:Hid (ZC Z S M X≠zs):=hq;clear hR hq;clear bz hl hcs ha hN0 ht4 hs hS hM hn hX;go_enter Tryz.func35,Tryz.ntmps35;go_wp2_with fail;refine HC1.mono ?_;rintro e w1 ⟨rfl,b1⟩;have bb1:=b0.trans (b1.mono (by simp));have y0:=x0.next b1;have e4:=(b1.cell (p:=⟨b,off+4,none⟩) (by simp; omega)).trans ((b0.cell (p:=⟨b,off+4,none⟩) hb).trans c4);have e5:=(b1.cell (p:=⟨b,off+5,none⟩) (by simp; omega)).trans ((b0.cell (p:=⟨b,off+5,none⟩) hb).trans c5);have hbw1:b<w1.heap.size:=by have:=bb1.size; omega
 have HQ1:Hid (∀ j,j<4→w1.drew.cell? ⟨b,off+j,none⟩=some (.int .u8 (zs[j]?.getD 0))):=fun j hj=>(bb1.cell (p:=⟨b,off+j,none⟩) hb).trans (HCS.out j (by omega))
 have HQ2:Hid (∀ j,j<4→(w1.alloc (.cells #[.int .i64 0,.int .i64 0,.slice none 0 0] 68)).drew.cell? ⟨b,off+j,none⟩=some (.int .u8 (zs[j]?.getD 0))):=fun j hj=>(((Below.refl w1.heap.size w1).alloc (Nat.le_refl _) _).drew.cell (p:=⟨b,off+j,none⟩) hbw1).trans (HQ1.out j hj)
 clear c4 c5 HC1;go_wp2;go_cut [6] (fun v wx=>v=.pointer (some ⟨w1.heap.size,0,none⟩)∧wx=(w1.alloc (.cells #[.int .i64 S,.int .i64 M,.slice none 0 0] 68)).drew)
 case first =>
  go_region_with (go_at_call 61; refine (HNU.out _ (by first | exact HQ1.out | exact HQ2.out)).mono ?_; rintro e wn ⟨rfl,rfl⟩)
  all_goals (try go_wp2_with fail)
  all_goals go_meet
  all_goals exact ⟨rfl,rfl⟩
 case rest =>
  obtain ⟨rfl,rfl⟩:=hcut;have bW:Below w1.heap.size w1 (w1.alloc (.cells #[.int .i64 S,.int .i64 M,.slice none 0 0] 68)).drew:=((Below.refl _ _).alloc (Nat.le_refl _) _).drew;have xb:Box (w1.alloc (.cells #[.int .i64 S,.int .i64 M,.slice none 0 0] 68)).drew w1.heap.size 68 #[.int .i64 S,.int .i64 M,.slice none 0 0]:=Box.new w1 _ _;have bb2:=bb1.trans (bW.mono bb1.size);have y2:=y0.next bW;have g5:=(bW.cell (p:=⟨b,off+5,none⟩) hbw1).trans e5;clear HQ1 HQ2 HNU e4 e5;generalize (w1.alloc (.cells #[.int .i64 S,.int .i64 M,.slice none 0 0] 68)).drew=W2 at *;have dn:decide ((Z:Int)<(n:Int))=false:=decide_eq_false (by omega);have dn':decide (Z<n)=false:=decide_eq_false (by omega);obtain ⟨hXH,hXl⟩:=HX.out hle;rw [hXl] at hXH;have h6a:6+n≤cap:=by omega
  have HT:=ZcH _ X _ (by omega) W2 (hXH.below bb2);rw [hXl] at HT;have HXL:Hid (X.length=n):=hXl;have k0:=xb.cell 0 _ rfl;have hc6:cap-6+6=cap:=by omega
  clear hXl HX hXH;go_wp2_with fail;refine HT.mono ?_;rintro e w3 ⟨r,rfl,o3,b3⟩;obtain ⟨ra,rc,rfl⟩:=Zbl o3;have xc:=xb.next b3;have k2:=xc.cell 2 _ rfl;have l2:=xc.free 2;have xd:=xc.set 2 (.slice ra n rc);have bb3:Below w.heap.size w (w3.setCell ⟨w1.heap.size,2,none⟩ (.slice ra n rc)):=(bb2.trans (b3.mono bb2.size)).setCell (p:=⟨w1.heap.size,2,none⟩) bb1.size _;have o4:(w3.setCell ⟨w1.heap.size,2,none⟩ (.slice ra n rc)).ownsRow W2.heap.size 5 1 (.slice ra n rc) n (X.map (Value.int .u8)):=ownsRow_setCell_below o3 (a:=⟨w1.heap.size,2,none⟩) xb.lt _;have y4:Box (w3.setCell ⟨w1.heap.size,2,none⟩ (.slice ra n rc)) w.heap.size 68 #[.int .i64 0,.int .i64 0,.slice none 0 0]:=(y2.next b3).other (by have:=b1.size; simp at this ⊢; omega) _;obtain ⟨q0,q1,q2⟩:=xd.c3;have hH4:=Zg o4;have HC2:=Zcv (Z:Int) S M ra n rc (w3.setCell ⟨w1.heap.size,2,none⟩ (.slice ra n rc));rw [show errB (Z:Int) S M n=0 by rw [← HXL.out]; exact (ZbY Z S M X).2 HR.out] at HC2;have hwW:=y2.lt;clear HT o3 k0 xb xc y2;go_wp2_with fail;generalize w3.setCell ⟨w1.heap.size,2,none⟩ (.slice ra n rc)=W4 at *;refine HC2.mono ?_;rintro e w5 ⟨rfl,b5⟩;have y5:=y4.next b5;have bb5:=bb3.trans (b5.mono bb3.size);have x5:=xd.next b5;obtain ⟨m0,m1,m2⟩:=x5.c3;have hH5:=hH4.next b5;have o5:=Zh o4 b5 (Nat.le_refl _);have HC3:=Zd8 Z S M ra rc X HR.out HXB.out w5 (by rw [HXL.out]; exact hH5);rw [HXL.out] at HC3;clear HC2 k2 l2 g5 y4 b5 hH4 xd q0 q1 q2 o4;go_wp2_with fail;refine HC3.mono ?_;rintro e w6 ⟨r6,rfl,o6,b6⟩;have bb6:=bb5.trans (b6.mono bb5.size);have HC4:=ZbR r6 (.slice (some ⟨b,off,none⟩) zs.length cap) (ZC Z S M X) zs _ _ w6 (by omega) (Zg o6) (HHA.out.below bb6);rw [decide_eq_false HQ.out] at HC4;have y6:=y5.next b6;have x6:=x5.next b6;have o7:=Zh o5 b6 (Nat.le_refl _);clear HC3 m0 m1 m2 o6 y5 x5 hH5 o5;go_wp2_with fail;refine HC4.mono ?_;rintro e w7 ⟨rfl,q,rfl⟩;have y7:=y6.drewN q;have x7:=x6.drewN q;have bb7:=Zi bb6 q;obtain ⟨z0,z1,z2⟩:=y7.c3;obtain ⟨f0,f1,f2⟩:=y7.f3;clear y6 y7 x6 x7 HC4 o7;go_wp2;exact bodyPost_ret (v:=.tuple #[.agg #[.int .i64 0,.int .i64 0,.slice none 0 0],.int .i64 3]) (by simp [results,Tryz.results35,go_sem,z0,z1,z2]) rfl ⟨rfl,Zx bb7 (Nat.le_refl _) _ _ _⟩
theorem refRead_ok (Z:Nat) (hZ1:1≤Z) (hZ2:Z≤16) (a:Option Addr) (cap:Nat) (zs:List Int) (hl:zs.length=Z+10) (hc:zs.length≤cap) (bz:∀ z∈zs,0≤z∧z≤255) (hs:Zv zs=true) (hle:rdN zs≤Z) (hR:ZbM Z (rdS zs) (rdM zs) (rdX zs)) (hq:ZC Z (rdS zs) (rdM zs) (rdX zs)=zs) (w:World) (ha:Zb .u8 w.heap.size w (.slice a zs.length cap) zs) :
  Calls Tryz.prog 35 #[.int .i64 Z,.slice a zs.length cap] w fun e W'=>∃ ra rc,e=.returned (.tuple #[.agg #[.int .i64 (rdS zs),.int .i64 (rdM zs),.slice ra (rdX zs).length rc],.int .i64 0])∧Zb .u8 W'.heap.size W' (.slice ra (rdX zs).length rc) (rdX zs)∧Below w.heap.size w W':=by
 have b0:=(Below.refl w.heap.size w).alloc (Nat.le_refl _) (.cells #[.int .i64 0,.int .i64 0,.slice none 0 0] 68);have x0:=Box.new w 68 #[.int .i64 0,.int .i64 0,.slice none 0 0];have d1:decide ((Z:Int)<1)=false:=decide_eq_false (by omega);have d2:decide (16<(Z:Int))=false:=decide_eq_false (by omega);have d3:((zs.length:Int) != (Z:Int)+10)=false:=by rw [bne_eq_false_iff_eq]; omega
 have HB:Hid (∀ z∈zs,0≤z∧z≤255):=bz;have HC1:=ZaX a cap zs (by omega) hc bz _ (ha.next b0);rw [hs] at HC1;have hcap6:¬ cap=6:=by omega
 rcases id ha with ⟨_,e⟩ | ⟨b,off,cap',e,hb,hcs⟩
 ·rw [e] at hl; simp at hl
 cases e
 have c4:w.cell? ⟨b,off+4,none⟩=some (.int .u8 (rdM zs)):=hcs 4 (by omega)
 have hN0:0≤(zs[5]?.getD 0:Int)∧(zs[5]?.getD 0:Int)≤255:=by
  have h5:5<zs.length:=by omega
  rw [List.getElem?_eq_getElem h5];exact bz _ (List.getElem_mem h5)
 have c5:w.cell? ⟨b,off+5,none⟩=some (.int .u8 (rdN zs:Int)):=by
  rw [show (rdN zs:Int)=zs[5]?.getD 0 by unfold rdN; omega]; exact hcs 5 (by omega)
 have hM0:0≤rdM zs∧rdM zs≤255:=by
  unfold rdM;have h5:4<zs.length:=by omega
  rw [List.getElem?_eq_getElem h5];exact bz _ (List.getElem_mem h5)
 have hN1:rdN zs≤255:=by unfold rdN; omega
 have ht4:(zs.take 4).length=4:=by rw [List.length_take]; omega
 have HNU:Hid (∀ wx:World,(∀ j,j<4→wx.cell? ⟨b,off+j,none⟩=some (.int .u8 (zs[j]?.getD 0)))→Calls Tryz.prog 61 #[.slice (some ⟨b,off,none⟩) 4 cap] wx fun e w'=>e=.returned (.int .i64 (rdS zs))∧wx=w'):=fun wx hx=>by
  have:=ZcR b off cap (zs.take 4) (by omega) (fun z hz=>bz z (List.mem_of_mem_take hz)) wx (fun j hj=>by rw [hx j (by omega),List.getElem?_take_of_lt (by omega)]);rw [ht4] at this;exact this
 have HX:Hid (rdN zs≤Z→Zb .u8 w.heap.size w (.slice (some ⟨b,off+6,none⟩) (rdX zs).length (cap-6)) (rdX zs)∧(rdX zs).length=rdN zs):=fun hle=>by
  have el:(rdX zs).length=rdN zs:=by unfold rdX; rw [List.length_take,List.length_drop]; omega
  refine ⟨.inr ⟨b,off+6,cap-6,rfl,hb,fun j hj=>?_⟩,el⟩;rw [Nat.add_assoc,hcs (6+j) (by omega)];unfold rdX;rw [List.getElem?_take_of_lt (by omega),List.getElem?_drop]
 have HCS:Hid (∀ j,j<zs.length→w.cell? ⟨b,off+j,none⟩=some (.int .u8 (zs[j]?.getD 0))):=hcs;have HL:Hid (zs.length=Z+10):=hl;have hlz:(zs.length:Int)=(Z:Int)+10:=by omega
 have hl10:10<zs.length:=by omega
 have hi4:(4:Int)<(zs.length:Int):=by omega
 have hi4':4<zs.length:=by omega
 have hi4c:(4:Int)≤(cap:Int):=by omega
 have hi4d:4≤cap:=by omega
 have ewM:IntKind.i64.wrap (rdM zs)=rdM zs:=by rw [IntKind.wrap_i64]; omega
 have HHA:Hid (Zb .u8 w.heap.size w (.slice (some ⟨b,off,none⟩) zs.length cap) zs):=ha;obtain ⟨S,hS⟩:∃ S,rdS zs=S:=⟨_,rfl⟩;obtain ⟨M,hM⟩:∃ M,rdM zs=M:=⟨_,rfl⟩;obtain ⟨n,hn⟩:∃ n,rdN zs=n:=⟨_,rfl⟩;obtain ⟨X,hX⟩:∃ X,rdX zs=X:=⟨_,rfl⟩;rw [hS] at HNU;rw [hM] at c4 hM0 ewM;rw [hn] at c5 hN1;rw [hn,hX] at HX;rw [hS,hM,hX];rw [hn] at hle;rw [(HX.out hle).2];rw [hS,hM,hX] at hR hq;have HR:Hid (ZbM Z S M X):=hR;have HXB:Hid (∀ z∈X,0≤z∧z≤255):=fun z hz=>bz z (List.mem_of_mem_drop (List.mem_of_mem_take (hX▸hz)))
 have HQ:Hid (ZC Z S M X=zs):=hq;clear hR hq;clear bz hl hcs ha hN0 ht4 hs hS hM hn hX;go_enter Tryz.func35,Tryz.ntmps35;go_wp2_with fail;refine HC1.mono ?_;rintro e w1 ⟨rfl,b1⟩;have bb1:=b0.trans (b1.mono (by simp));have y0:=x0.next b1;have e4:=(b1.cell (p:=⟨b,off+4,none⟩) (by simp; omega)).trans ((b0.cell (p:=⟨b,off+4,none⟩) hb).trans c4);have e5:=(b1.cell (p:=⟨b,off+5,none⟩) (by simp; omega)).trans ((b0.cell (p:=⟨b,off+5,none⟩) hb).trans c5);have hbw1:b<w1.heap.size:=by have:=bb1.size; omega
 have HQ1:Hid (∀ j,j<4→w1.drew.cell? ⟨b,off+j,none⟩=some (.int .u8 (zs[j]?.getD 0))):=fun j hj=>(bb1.cell (p:=⟨b,off+j,none⟩) hb).trans (HCS.out j (by omega))
 have HQ2:Hid (∀ j,j<4→(w1.alloc (.cells #[.int .i64 0,.int .i64 0,.slice none 0 0] 68)).drew.cell? ⟨b,off+j,none⟩=some (.int .u8 (zs[j]?.getD 0))):=fun j hj=>(((Below.refl w1.heap.size w1).alloc (Nat.le_refl _) _).drew.cell (p:=⟨b,off+j,none⟩) hbw1).trans (HQ1.out j hj)
 clear c4 c5 HC1;go_wp2;go_cut [6] (fun v wx=>v=.pointer (some ⟨w1.heap.size,0,none⟩)∧wx=(w1.alloc (.cells #[.int .i64 S,.int .i64 M,.slice none 0 0] 68)).drew)
 case first =>
  go_region_with (go_at_call 61; refine (HNU.out _ (by first | exact HQ1.out | exact HQ2.out)).mono ?_; rintro e wn ⟨rfl,rfl⟩)
  all_goals (try go_wp2_with fail)
  all_goals go_meet
  all_goals exact ⟨rfl,rfl⟩
 case rest =>
  obtain ⟨rfl,rfl⟩:=hcut;have bW:Below w1.heap.size w1 (w1.alloc (.cells #[.int .i64 S,.int .i64 M,.slice none 0 0] 68)).drew:=((Below.refl _ _).alloc (Nat.le_refl _) _).drew;have xb:Box (w1.alloc (.cells #[.int .i64 S,.int .i64 M,.slice none 0 0] 68)).drew w1.heap.size 68 #[.int .i64 S,.int .i64 M,.slice none 0 0]:=Box.new w1 _ _;have bb2:=bb1.trans (bW.mono bb1.size);have y2:=y0.next bW;have g5:=(bW.cell (p:=⟨b,off+5,none⟩) hbw1).trans e5;clear HQ1 HQ2 HNU e4 e5;generalize (w1.alloc (.cells #[.int .i64 S,.int .i64 M,.slice none 0 0] 68)).drew=W2 at *;have dn:decide ((Z:Int)<(n:Int))=false:=decide_eq_false (by omega);have dn':decide (Z<n)=false:=decide_eq_false (by omega);obtain ⟨hXH,hXl⟩:=HX.out hle;rw [hXl] at hXH;have h6a:6+n≤cap:=by omega
  have HT:=ZcH _ X _ (by omega) W2 (hXH.below bb2);rw [hXl] at HT;have HXL:Hid (X.length=n):=hXl;have k0:=xb.cell 0 _ rfl;have hc6:cap-6+6=cap:=by omega
  clear hXl HX hXH;go_wp2_with fail;refine HT.mono ?_;rintro e w3 ⟨r,rfl,o3,b3⟩;obtain ⟨ra,rc,rfl⟩:=Zbl o3;have xc:=xb.next b3;have k2:=xc.cell 2 _ rfl;have l2:=xc.free 2;have xd:=xc.set 2 (.slice ra n rc);have bb3:Below w.heap.size w (w3.setCell ⟨w1.heap.size,2,none⟩ (.slice ra n rc)):=(bb2.trans (b3.mono bb2.size)).setCell (p:=⟨w1.heap.size,2,none⟩) bb1.size _;have o4:(w3.setCell ⟨w1.heap.size,2,none⟩ (.slice ra n rc)).ownsRow W2.heap.size 5 1 (.slice ra n rc) n (X.map (Value.int .u8)):=ownsRow_setCell_below o3 (a:=⟨w1.heap.size,2,none⟩) xb.lt _;have y4:Box (w3.setCell ⟨w1.heap.size,2,none⟩ (.slice ra n rc)) w.heap.size 68 #[.int .i64 0,.int .i64 0,.slice none 0 0]:=(y2.next b3).other (by have:=b1.size; simp at this ⊢; omega) _;obtain ⟨q0,q1,q2⟩:=xd.c3;have hH4:=Zg o4;have HC2:=Zcv (Z:Int) S M ra n rc (w3.setCell ⟨w1.heap.size,2,none⟩ (.slice ra n rc));rw [show errB (Z:Int) S M n=0 by rw [← HXL.out]; exact (ZbY Z S M X).2 HR.out] at HC2;have hwW:=y2.lt;clear HT o3 k0 xb xc y2;go_wp2_with fail;generalize w3.setCell ⟨w1.heap.size,2,none⟩ (.slice ra n rc)=W4 at *;refine HC2.mono ?_;rintro e w5 ⟨rfl,b5⟩;have y5:=y4.next b5;have bb5:=bb3.trans (b5.mono bb3.size);have x5:=xd.next b5;obtain ⟨m0,m1,m2⟩:=x5.c3;have hH5:=hH4.next b5;have o5:=Zh o4 b5 (Nat.le_refl _);have HC3:=Zd8 Z S M ra rc X HR.out HXB.out w5 (by rw [HXL.out]; exact hH5);rw [HXL.out] at HC3;clear HC2 k2 l2 g5 y4 b5 hH4 xd q0 q1 q2 o4;go_wp2_with fail;refine HC3.mono ?_;rintro e w6 ⟨r6,rfl,o6,b6⟩;have bb6:=bb5.trans (b6.mono bb5.size);have HC4:=ZbR r6 (.slice (some ⟨b,off,none⟩) zs.length cap) (ZC Z S M X) zs _ _ w6 (by omega) (Zg o6) (HHA.out.below bb6);rw [decide_eq_true HQ.out] at HC4;have y6:=y5.next b6;have x6:=x5.next b6;have o7:=Zh o5 b6 (Nat.le_refl _);clear HC3 m0 m1 m2 o6 y5 x5 hH5 o5;go_wp2_with fail;refine HC4.mono ?_;rintro e w7 ⟨rfl,q,rfl⟩;have y7:=y6.drewN q;have x7:=x6.drewN q;have bb7:=Zi bb6 q;obtain ⟨z0,z1,z2⟩:=y7.c3;obtain ⟨f0,f1,f2⟩:=y7.f3;obtain ⟨m0,m1,m2⟩:=x7.c3;have y8:=y7.set3 (.int .i64 S) (.int .i64 M) (.slice ra n rc);obtain ⟨u0,u1,u2⟩:=y8.c3
  have HF:Hid (Zb .u8 w6.heap.size ((((w6.drewN q).setCell ⟨w.heap.size,0,none⟩ (.int .i64 S)).setCell ⟨w.heap.size,1,none⟩ (.int .i64 M)).setCell ⟨w.heap.size,2,none⟩ (.slice ra n rc)) (.slice ra n rc) X):=by
   have o8:(w6.drewN q).ownsRow W2.heap.size 5 1 (.slice ra n rc) n (X.map (Value.int .u8)):=o7;have:=Zg (ownsRow_setCell_below (ownsRow_setCell_below (ownsRow_setCell_below o8 (a:=⟨w.heap.size,0,none⟩) hwW (.int .i64 S)) (a:=⟨w.heap.size,1,none⟩) hwW (.int .i64 M)) (a:=⟨w.heap.size,2,none⟩) hwW (.slice ra n rc));have h9:Zb .u8 w6.heap.size ((((w6.drewN q).setCell ⟨w.heap.size,0,none⟩ (.int .i64 S)).setCell ⟨w.heap.size,1,none⟩ (.int .i64 M)).setCell ⟨w.heap.size,2,none⟩ (.slice ra n rc)) (.slice ra n rc) X:=by simpa using this
   exact h9
  clear y6 y7 y8 x6 x7 HC4 o7;go_wp2;refine bodyPost_ret (v:=.tuple #[.agg #[.int .i64 S,.int .i64 M,.slice ra n rc],.int .i64 0]) (by simp [results,Tryz.results35,go_sem,u0,u1,u2]) rfl ⟨_,_,rfl,by simpa using HF.out,Zx bb7 (Nat.le_refl _) _ _ _⟩
end Go.Proofs.YtabdnhkdoeibnaaGreatDoor
