/-
  What the page's Bytes (a right block's bytes) answers.
-/
import Derived.Test.YtabdnhkdoeibnaaGreatDoorM09
import Derived.Test.YtabdnhkdoeibnaaGreatDoorM23
import Derived.Test.YtabdnhkdoeibnaaGreatDoorM26
import Derived.Deep.Cut
import Derived.Deep.CutRange
import Derived.Deep.DeepCutAuto
set_option maxRecDepth 100000
set_option maxHeartbeats 4000000
namespace Go.Proofs.YtabdnhkdoeibnaaGreatDoor
open Go.RowKit
theorem Zbl {W:World} {base k:Nat} {e:TypeId} {v:Value} {xs:List Value} (h:W.ownsRow base e 1 v k xs):∃ a c,v=.slice a k c:=by
 rcases h.2 with ⟨e,e0⟩ | ⟨g,c,cur,e,_⟩
 ·exact ⟨_,_,by rw [e,e0]⟩
 ·exact ⟨_,_,e⟩
theorem news_at2 {W:World} {B:Nat} {x y:Value} (h:W.cell? ⟨B,0,none⟩=some x) (h':W.cell? ⟨B,1,none⟩=some y):∀ (j:Nat) (u:Value),[x,y][j]? = some u→W.cell? ((⟨B,0,none⟩:Addr).add j)=some u:=by
 intro j u hj
 match j,hj with
 | 0,hj=>cases hj; exact h
 | 1,hj=>cases hj; exact h'
def lenV:Value→Nat
 | .slice _ n _=>n
 | _=>0
theorem Zd8 (Z:Nat) (s m:Int) (a:Option Addr) (cap:Nat) (xs:List Int) (h:ZbM Z s m xs) (bx:∀ z∈xs,0≤z∧z≤255) (w:World) (ha:Zb .u8 w.heap.size w (.slice a xs.length cap) xs) :
  Calls Tryz.prog 63 #[.int .i64 Z,.agg #[.int .i64 s,.int .i64 m,.slice a xs.length cap]] w fun e W'=>∃ r,e=.returned r∧W'.ownsRow w.heap.size 5 1 r (Z+10) ((ZC Z s m xs).map (Value.int .u8))∧Below w.heap.size w W':=by
 obtain ⟨i0,hi,hz0,hz1,hz2⟩:=info_parts Zcg;have HR:Hid (ZbM Z s m xs):=h;have HBX:Hid (∀ z∈xs,0≤z∧z≤255):=bx;have hZ:=h.1.2;have hxZ:=h.2.2.2.1;have ewm:IntKind.u8.wrap m=m:=by rw [IntKind.wrap_u8]; have:=h.2.2.1; omega
 have ewl:IntKind.u8.wrap (xs.length:Int)=(xs.length:Int):=by rw [IntKind.wrap_u8]; omega
 have b1:Below w.heap.size w (w.alloc (.cells #[.int .i64 s,.int .i64 m,.slice a xs.length cap] 68)):=(Below.refl w.heap.size w).alloc (Nat.le_refl _) _;have x1:=Box.new w 68 #[.int .i64 s,.int .i64 m,.slice a xs.length cap];have HBE:Hid (∀ wx:World,Calls Tryz.prog 86 #[.int .i64 s,.int .i64 4] wx fun e W'=>∃ r,e=.returned r∧W'.ownsRow wx.heap.size 5 1 r 4 ((Zp 4 s).map (Value.int .u8))∧Below wx.heap.size wx W'):=fun wx=>refBe_any s 4 (by decide) wx
 clear h bx;go_enter Tryz.func63,Tryz.ntmps63;go_wp2;obtain ⟨W1,hW1⟩:∃ W,w.alloc (.cells #[.int .i64 s,.int .i64 m,.slice a xs.length cap] 68)=W:=⟨_,rfl⟩;rw [hW1] at b1 x1 ⊢;clear hW1;obtain ⟨k0,k1,k2⟩:=x1.c3;have hlt1:=x1.lt;have HNA:Hid (Below W1.heap.size W1 (W1.alloc (.cells #[.int .u8 m,.int .u8 (xs.length:Int)] 5))):=(Below.refl _ _).alloc (Nat.le_refl _) _;have HN0:Hid ((W1.alloc (.cells #[.int .u8 m,.int .u8 (xs.length:Int)] 5)).cell? ⟨W1.heap.size,0,none⟩=some (.int .u8 m)):=(Box.new W1 5 #[.int .u8 m,.int .u8 (xs.length:Int)]).cell 0 _ rfl;have HN1:Hid ((W1.alloc (.cells #[.int .u8 m,.int .u8 (xs.length:Int)] 5)).cell? ⟨W1.heap.size,1,none⟩=some (.int .u8 (xs.length:Int))):=(Box.new W1 5 #[.int .u8 m,.int .u8 (xs.length:Int)]).cell 1 _ rfl;go_cut [5] (fun v wx=>∃ g c,v=.slice (some ⟨g,0,none⟩) 6 c∧wx.ownsRow W1.heap.size 5 1 (.slice (some ⟨g,0,none⟩) 6 c) 6 ((Zfl s m xs.length).map (Value.int .u8))∧Below W1.heap.size W1 wx)
 case first =>
  go_region_held_law (fun w'=>w'.cell? ⟨w.heap.size,0,none⟩=some (.int .i64 s)∧w'.cell? ⟨w.heap.size,1,none⟩=some (.int .i64 m)∧w'.cell? ⟨w.heap.size,2,none⟩=some (.slice a xs.length cap)) (go_keep) (first | (go_at_call 86; refine (HBE.out _).mono ?_; rintro e w2 ⟨q,rfl,oq,b2⟩; obtain ⟨qa,qc,rfl⟩:=Zbl oq; have oq':w2.ownsRow W1.heap.size 5 1 (.slice qa 4 qc) 4 ((Zp 4 s).map (Value.int .u8)):=(by first | exact oq | exact Zm oq (by simp)); have BX2:Below W1.heap.size W1 w2:=(by first | exact (Zi (Below.refl _ _) _).trans b2 | exact (Below.refl _ _).drew.trans b2 | exact HNA.out.drew.trans (b2.mono (by simp)) | exact (Zi HNA.out _).trans (b2.mono (by simp))); have m0:=(BX2.cell (p:=⟨w.heap.size,0,none⟩) hlt1).trans k0; have m1:=(BX2.cell (p:=⟨w.heap.size,1,none⟩) hlt1).trans k1; have m2:=(BX2.cell (p:=⟨w.heap.size,2,none⟩) hlt1).trans k2) | (refine step_append_lies _ rfl _ _ 27 rfl W1.heap.size 5 i0 (.int .u8 0) 1 1 Tryz.underlying27 hi hz0 hz1 hz2 rfl (by decide) (.slice qa 4 qc) 4 ((Zp 4 s).map (Value.int .u8)) (by simp [Act.eval]) (by exact (oq'.alloc (.cells #[.int .u8 m,.int .u8 (xs.length:Int)] 5))) ⟨w2.heap.size,0,none⟩ 2 2 [.int .u8 m,.int .u8 (xs.length:Int)] (by simp [Act.eval]) rfl (by exact World.news_of_block (World.alloc_heap_new _ _)) (by simp [Value.oneCell']) (by decide) (by unfold maxLen; omega) (by omega) (by have:=BX2.size; simp; omega) _ rfl ?_; intro g9 cap9 w9 hown9 hgrow9 hat9 hlt9; have BX9:Below W1.heap.size W1 w9:=(BX2.alloc BX2.size (.cells #[.int .u8 m,.int .u8 (xs.length:Int)] 5)).grown hgrow9 (by have:=BX2.size; simp; omega) (fun z e=>(oq'.lt z e).1); have n0:=(BX9.cell (p:=⟨w.heap.size,0,none⟩) hlt1).trans k0; have n1:=(BX9.cell (p:=⟨w.heap.size,1,none⟩) hlt1).trans k1; have n2:=(BX9.cell (p:=⟨w.heap.size,2,none⟩) hlt1).trans k2) | (refine step_append_lies _ rfl _ _ 27 rfl W1.heap.size 5 i0 (.int .u8 0) 1 1 Tryz.underlying27 hi hz0 hz1 hz2 rfl (by decide) (.slice qa 4 qc) 4 ((Zp 4 s).map (Value.int .u8)) (by simp [Act.eval]) (by exact oq') ⟨W1.heap.size,0,none⟩ 2 2 [.int .u8 m,.int .u8 (xs.length:Int)] (by simp [Act.eval]) rfl (by exact news_at2 ((b2.cell (p:=⟨W1.heap.size,0,none⟩) (by simp)).trans HN0.out) ((b2.cell (p:=⟨W1.heap.size,1,none⟩) (by simp)).trans HN1.out)) (by simp [Value.oneCell']) (by decide) (by unfold maxLen; omega) (by omega) (by have:=BX2.size; simp; omega) _ rfl ?_; intro g9 cap9 w9 hown9 hgrow9 hat9 hlt9; have BX9:Below W1.heap.size W1 w9:=BX2.grown hgrow9 (by have:=BX2.size; simp; omega) (fun z e=>(oq'.lt z e).1); have n0:=(BX9.cell (p:=⟨w.heap.size,0,none⟩) hlt1).trans k0; have n1:=(BX9.cell (p:=⟨w.heap.size,1,none⟩) hlt1).trans k1; have n2:=(BX9.cell (p:=⟨w.heap.size,2,none⟩) hlt1).trans k2))
  all_goals (
   simp only [List.getElem_toArray,List.getElem_cons_succ,List.getElem_cons_zero]
   go_wp2_with fail
   go_meet
   exact ⟨g9,cap9,rfl,by rw [Zfl,List.map_append]; exact hown9,BX9⟩)
 case rest =>
  obtain ⟨g,c,rfl,o3,b3⟩:=hcut;have hb1:=b1.size;have hb3:=b3.size;have bb3:=b1.trans (b3.mono hb1);have x3:=x1.next b3;have c2:=x3.cell 2 _ rfl;obtain ⟨v4,w4,hr4,o4,hg4⟩:=ZU _ _ 6 W1.heap.size w.heap.size (Zfl s m xs.length) xs 27 wc o3 (ha.below bb3) hb3 (by omega) (by omega);have b4:Below w.heap.size w w4:=bb3.trans ((Zc2 o3 hg4 hb3).mono hb1);have hb14:W1.heap.size≤w4.heap.size:=Nat.le_trans hb3 hg4.size;clear HBE HNA HN0 HN1 k0 k1 k2 x1 x3 o3 hg4 ha b3;go_wp2_with (at_builtin; refine wpList_append_run rfl _ _ 27 rfl _ _ rfl rfl v4 w4 hr4 ?_);clear hr4 c2
  have o4':w4.ownsRow W1.heap.size 5 1 v4 (6+xs.length+0) ((Zfl s m xs.length++xs++List.replicate 0 0).map (Value.int .u8)):=by
   simpa using o4
  clear o4;go_loopw [5] (fun v wr=>∃ k:Nat,k≤Z-xs.length∧wr.ownsRow W1.heap.size 5 1 v (6+xs.length+k) ((Zfl s m xs.length++xs++List.replicate k 0).map (Value.int .u8))∧Below w.heap.size w wr∧W1.heap.size≤wr.heap.size) (fun v _=>Z+6-lenV v)
  case atStart=>exact ⟨0,Nat.zero_le _,o4',b4,hb14⟩
  case round =>
   obtain ⟨k,hk,ho,hbw,hsz⟩:=hrel;obtain ⟨va,vc,rfl⟩:=Zbl ho;by_cases hlt:k<Z-xs.length
   ·have dl:decide (((6+xs.length+k:Nat):Int)<(Z:Int)+6)=true:=decide_eq_true (by omega);go_wp2_with (at_builtin; refine wpList_append_own _ rfl _ _ 27 rfl W1.heap.size 5 i0 (.int .u8 0) 1 1 Tryz.underlying27 hi hz0 hz1 hz2 rfl (by decide) _ (6+xs.length+k) _ rfl (ho.alloc _) ⟨wr.heap.size,0,none⟩ 1 1 [.int .u8 0] rfl rfl (cell_one_new _ _ _) (by simp [Value.oneCell']) (by unfold maxLen; omega) (by omega) (by simp; omega) ?_; intro v3 w3 hown3 hgrow3 _);have b5:Below w.heap.size w w3:=(hbw.alloc hbw.size _).trans ((Below.refl _ _).grown hgrow3 (by have:=hbw.size; simp; omega) (fun k e=>by have:=(ho.lt k e).1; omega));have hs5:W1.heap.size≤w3.heap.size:=by have:=hgrow3.size; simp at this; omega
    obtain ⟨va3,vc3,rfl⟩:=Zbl hown3;refine ⟨⟨k+1,by omega,?_,b5,hs5⟩,by simp [lenV]; omega⟩;rw [List.replicate_succ',← List.append_assoc,List.map_append (l₂:=[0])];exact hown3
   ·obtain rfl:k=Z-xs.length:=by omega
    have dl:decide (((6+xs.length+(Z-xs.length):Nat):Int)<(Z:Int)+6)=false:=decide_eq_false (by omega);have e6:6+xs.length+(Z-xs.length)=(Zdq Z s m xs).length:=by rw [Zdr hxZ]; omega
    have e7:6+xs.length+(Z-xs.length)=Z+6:=by omega
    have HS:=Ze2 va vc (Zdq Z s m xs) (by rw [Zdr hxZ]; omega) (Zgo HR.out HBX.out) wr (by rw [← e6]; exact Zg ho);rw [← e6] at HS
    have HQ:Hid (∀ (r:Value) (W':World),W'.ownsRow wr.heap.size 5 1 r (6+xs.length+(Z-xs.length)+4) ((ZaS (Zdq Z s m xs)).map (Value.int .u8))→W'.ownsRow w.heap.size 5 1 r (Z+10) ((ZC Z s m xs).map (Value.int .u8))):=fun r W' hr=>by
     have:=Zm hr hbw.size;rw [e7] at this;exact this
    clear ho e6 e7 HR HBX;go_wp2_with fail;refine HS.mono ?_;rintro e w5 ⟨r,rfl,o5,b5⟩;go_wp2;go_ret;exact ⟨_,rfl,HQ.out _ _ o5,hbw.trans (b5.mono hbw.size)⟩
end Go.Proofs.YtabdnhkdoeibnaaGreatDoor
