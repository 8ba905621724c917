/-
  What the page's Seal and Sealed answer, for every text in memory.
-/
import Derived.Test.YtabdnhkdoeibnaaGreatDoorM25
import Derived.Maps.AppendAt
set_option maxRecDepth 100000
set_option maxHeartbeats 2000000
namespace Go.Proofs.YtabdnhkdoeibnaaGreatDoor
open Go.RowKit
theorem Ze2 (a:Option Addr) (cap:Nat) (xs:List Int) (hl:xs.length≤1000000) (bx:∀ z∈xs,0≤z∧z≤255) (w:World) (ha:Zb .u8 w.heap.size w (.slice a xs.length cap) xs) :
  Calls Tryz.prog 85 #[.slice a xs.length cap] w fun e W'=>∃ r,e=.returned r∧W'.ownsRow w.heap.size 5 1 r (xs.length+4) ((ZaS xs).map (Value.int .u8))∧Below w.heap.size w W':=by
 obtain ⟨i0,hi,hz0,hz1,hz2⟩:=info_parts Zcg;have hs:=Zhz xs;have HS:Hid (ZaS xs=xs++four (sum32 xs)):=rfl;go_enter Tryz.func85,Tryz.ntmps85;go_wp2_with fail;refine (refSum32_any a cap xs (by omega) bx w ha).mono ?_;rintro e w1 ⟨rfl,q,rfl⟩;obtain ⟨s,hse⟩:∃ s,sum32 xs=s:=⟨_,rfl⟩;rw [hse] at hs HS ⊢;clear hse bx;go_wp2_with fail;refine (ZcH _ xs _ (by omega) (w.drewN q) ha).mono ?_;rintro e w2 ⟨r2,rfl,o2,b2⟩;have b02:Below w.heap.size w w2:=(Zi (Below.refl _ w) q).trans b2;clear ha b2;have e0:IntKind.u8.wrap (s:Int)=((s % 256:Nat):Int):=by rw [IntKind.wrap_u8]; omega
 have e1:IntKind.u8.wrap ((s:Int) / 256)=((s / 256 % 256:Nat):Int):=by rw [IntKind.wrap_u8]; omega
 have e2:IntKind.u8.wrap ((s:Int) / 65536)=((s / 65536 % 256:Nat):Int):=by rw [IntKind.wrap_u8]; omega
 have e3:IntKind.u8.wrap ((s:Int) / 16777216)=((s / 16777216 % 256:Nat):Int):=by rw [IntKind.wrap_u8]; omega
 obtain ⟨t0,h0⟩:∃ t,s % 256=t:=⟨_,rfl⟩;obtain ⟨t1,h1⟩:∃ t,s / 256 % 256=t:=⟨_,rfl⟩;obtain ⟨t2,h2⟩:∃ t,s / 65536 % 256=t:=⟨_,rfl⟩;obtain ⟨t3,h3⟩:∃ t,s / 16777216 % 256=t:=⟨_,rfl⟩;have HF:Hid (four s=[(t0:Int),(t1:Int),(t2:Int),(t3:Int)]):=by rw [← h0,← h1,← h2,← h3]; exact rfl
 rw [h0] at e0;rw [h1] at e1;rw [h2] at e2;rw [h3] at e3;clear h0 h1 h2 h3;go_wp2_with (at_builtin; refine wpList_append_own _ rfl _ _ 27 rfl w.heap.size 5 i0 (.int .u8 0) 1 1 Tryz.underlying27 hi hz0 hz1 hz2 rfl (by decide) _ xs.length _ rfl (o2.alloc _) ⟨w2.heap.size,0,none⟩ 4 4 [.int .u8 t0,.int .u8 t1,.int .u8 t2,.int .u8 t3] rfl rfl (by exact World.news_of_block (World.alloc_heap_new _ _)) (by simp [Value.oneCell']) (by unfold maxLen; omega) (by omega) (by have:=b02.size; simp; omega) ?_; intro v3 w3 hown3 hgrow3 _);have b3:Below w.heap.size w w3:=(b02.alloc b02.size _).trans ((Below.refl _ _).grown hgrow3 (by have:=b02.size; simp; omega) (fun q e=>(o2.lt q e).1))
 have hown4:w3.ownsRow w.heap.size 5 1 v3 (xs.length+4) ((ZaS xs).map (Value.int .u8)):=by
  rw [HS.out,HF.out,List.map_append];exact hown3
 go_ret;exact ⟨_,rfl,hown4,b3⟩
theorem ZaX (a:Option Addr) (cap:Nat) (xs:List Int) (hl:xs.length≤1000000) (hc:xs.length≤cap) (bx:∀ z∈xs,0≤z∧z≤255) (w:World) (ha:Zb .u8 w.heap.size w (.slice a xs.length cap) xs) :
  Calls Tryz.prog 60 #[.slice a xs.length cap] w fun e W'=>e=.returned (.bool (Zv xs))∧Below w.heap.size w W':=by
 by_cases h4:4≤xs.length
 ·obtain ⟨Y,hY⟩:∃ Y,xs.take (xs.length-4)=Y:=⟨_,rfl⟩;have hYl:Y.length=xs.length-4:=by rw [← hY,List.length_take]; omega
  have hi4:(xs.length:Int)-4=(Y.length:Int):=by omega
  have hYc:Y.length≤cap:=by omega
  have hYb:∀ z∈Y,0≤z∧z≤255:=fun z hz=>bx z (List.mem_of_mem_take (hY▸hz))
  have hYH:Zb .u8 w.heap.size w (.slice a Y.length cap) Y:=hY▸ZeS ha (xs.length-4) (by omega)
  have HI:Hid (Zv xs=decide (ZaS Y=xs)):=by
   show (decide (4≤xs.length) && decide (ZaS (xs.take (xs.length-4))=xs))=decide (ZaS Y=xs)
   rw [hY,decide_eq_true h4,Bool.true_and]
  have HL:Hid (Y.length≤1000000):=by show Y.length≤1000000; omega
  clear hY hYl bx;go_enter Tryz.func60,Tryz.ntmps60;go_wp2_with fail;refine (Ze2 a cap Y HL.out hYb w hYH).mono ?_;rintro e w1 ⟨r1,rfl,o1,b1⟩;have hl1:(ZaS Y).length=Y.length+4:=by show (Y++four (sum32 Y)).length=_; simp [four]
  have hH1:Zb .u8 w1.heap.size w1 r1 (ZaS Y):=Zg o1;have ha1:=ha.next b1;clear o1 ha hYH hYb hl1;go_wp2_with fail;refine (ZbR _ _ (ZaS Y) xs _ _ _ (by omega) hH1 ha1).mono ?_;rintro e w2 ⟨rfl,q,rfl⟩;have b2:=Zi b1 q;clear hH1 ha1 b1;go_wp2;go_ret;exact ⟨by rw [HI.out]; rfl,b2⟩
 ·have HI:Hid (Zv xs=false):=by
   show (decide (4≤xs.length) && decide (ZaS (xs.take (xs.length-4))=xs))=false
   rw [decide_eq_false h4,Bool.false_and]
  clear ha bx;go_enter Tryz.func60,Tryz.ntmps60;go_wp2;go_ret;exact ⟨by rw [HI.out]; rfl,Below.refl _ _⟩
theorem Ze3 (kd:IntKind) (w:World) (zs:List Int) (cap:Nat) (t:TypeId) (fr:Nat×Nat):Zb kd (w.alloc (.cells (zs.map (Value.int kd)).toArray t fr)).heap.size (w.alloc (.cells (zs.map (Value.int kd)).toArray t fr)) (.slice (some ⟨w.heap.size,0,none⟩) zs.length cap) zs:=by
 refine .inr ⟨w.heap.size,0,cap,rfl,by simp,fun j hj=>?_⟩;have:=World.news_of_block (World.alloc_heap_new w (.cells (zs.map (Value.int kd)).toArray t fr)) j (.int kd (zs[j]?.getD 0)) (by simp [hj]);rwa [Addr.add_lit] at this
theorem ZhM (a:Option Addr) (cap:Nat) (xs:List Int) (hl:xs.length≤4294967296) (bx:∀ z∈xs,0≤z∧z≤255) (w:World) (n₀:Nat) (ha:Zb .u8 n₀ w (.slice a xs.length cap) xs) :
  Calls Tryz.prog 88 #[.slice a xs.length cap] w fun e w'=>e=.returned (.slice (some ⟨w.heap.size,0,none⟩) 4 4)∧Zb .u8 w'.heap.size w' (.slice (some ⟨w.heap.size,0,none⟩) 4 4) (four (sum32 xs))∧Below w.heap.size w w':=by
 have hs:=Zhz xs;go_enter Tryz.func88,Tryz.ntmps88;go_wp2_with fail;refine (sum32_any a cap xs hl bx w n₀ ha).mono ?_;rintro e w2 ⟨rfl,rfl⟩;obtain ⟨s,hse⟩:∃ s,sum32 xs=s:=⟨_,rfl⟩;have HV:Hid (sum32 xs=s):=hse;rw [hse] at hs ⊢;clear hse ha bx;have e0:IntKind.u8.wrap (s:Int)=((s % 256:Nat):Int):=by rw [IntKind.wrap_u8]; omega
 have e1:IntKind.u8.wrap ((s:Int) / 256)=((s / 256 % 256:Nat):Int):=by rw [IntKind.wrap_u8]; omega
 have e2:IntKind.u8.wrap ((s:Int) / 65536)=((s / 65536 % 256:Nat):Int):=by rw [IntKind.wrap_u8]; omega
 have e3:IntKind.u8.wrap ((s:Int) / 16777216)=((s / 16777216 % 256:Nat):Int):=by rw [IntKind.wrap_u8]; omega
 obtain ⟨t0,h0⟩:∃ t,s % 256=t:=⟨_,rfl⟩;obtain ⟨t1,h1⟩:∃ t,s / 256 % 256=t:=⟨_,rfl⟩;obtain ⟨t2,h2⟩:∃ t,s / 65536 % 256=t:=⟨_,rfl⟩;obtain ⟨t3,h3⟩:∃ t,s / 16777216 % 256=t:=⟨_,rfl⟩;have HF:Hid (four s=[(t0:Int),(t1:Int),(t2:Int),(t3:Int)]):=by rw [← h0,← h1,← h2,← h3]; exact rfl
 rw [h0] at e0;rw [h1] at e1;rw [h2] at e2;rw [h3] at e3;clear h0 h1 h2 h3;go_wp2;go_ret;refine ⟨rfl,?_,(Below.refl _ w).alloc (Nat.le_refl _) _⟩;rw [HV.out,HF.out];exact Ze3 .u8 w [(t0:Int),(t1:Int),(t2:Int),(t3:Int)] 4 _ _
theorem Seal_any (a:Option Addr) (cap:Nat) (xs:List Int) (hl:xs.length≤4092) (bx:∀ z∈xs,0≤z∧z≤255) (w:World) (ha:Zb .u8 w.heap.size w (.slice a xs.length cap) xs) :
  Calls Tryz.prog 65 #[.slice a xs.length cap] w fun e W'=>∃ r,e=.returned (.tuple #[r,.int .i64 0])∧W'.ownsRow w.heap.size 5 1 r (xs.length+4) ((ZaS xs).map (Value.int .u8))∧Below w.heap.size w W':=by
 obtain ⟨i0,hi,hz0,hz1,hz2⟩:=info_parts Zcg;have ed:decide ((4092:Int)<(xs.length:Int))=false:=decide_eq_false (by omega);have HS:Hid (ZaS xs=xs++four (sum32 xs)):=rfl;go_enter Tryz.func65,Tryz.ntmps65;go_wp2_with (first | (at_make; refine wpList_make_own _ rfl _ _ 27 rfl w.heap.size 5 i0 (.int .u8 0) 1 Tryz.underlying27 hi hz0 hz1 .i64 .i64 _ (xs.length+4) rfl rfl (by omega) (by rw [hz2]; omega) (by unfold maxLen; omega) (Nat.le_refl _) ?_; intro w1 hown1 hgrow1; have b1:Below w.heap.size w w1:=(Below.refl _ w).grown hgrow1 (Nat.le_refl _) (fun k e=>by cases e); obtain ⟨v2,w2,hr2,o2,hg2⟩:=ZU _ _ 0 w.heap.size w.heap.size [] xs 27 w1 hown1 (ha.below b1) b1.size (by omega) (by omega)) | (at_builtin; refine wpList_append_run rfl _ _ 27 rfl _ _ rfl rfl v2 w2 hr2 ?_));have b2:Below w.heap.size w w2:=b1.trans (Zc2 hown1 hg2 b1.size);have ha2:=ha.next b2;have b02:=b2.size;clear hr2 hg2 hgrow1 hown1 b1;refine (ZhM a cap xs (by omega) bx w2 w2.heap.size ha2).mono ?_;rintro e w3 ⟨rfl,h3,b3⟩;rw [Nat.zero_add,List.nil_append] at o2;have o3:=Zh o2 b3 (Nat.le_refl _);obtain ⟨v4,w4,hr4,o4,hg4⟩:=ZU _ _ xs.length w.heap.size w3.heap.size xs (four (sum32 xs)) 27 w3 o3 h3 (by have:=b3.size; omega) (by omega) (by simp [four]);have b4:Below w.heap.size w w4:=(b2.trans (b3.mono b02)).trans (Zc2 o3 hg4 (by have:=b3.size; omega));have o5:w4.ownsRow w.heap.size 5 1 v4 (xs.length+4) ((ZaS xs).map (Value.int .u8)):=o4;clear o4 o3 o2 hg4 h3 b3 ha2 ha;go_wp2_with (at_builtin; refine wpList_append_run rfl _ _ 27 rfl _ _ rfl rfl v4 w4 hr4 ?_);go_ret2;exact ⟨_,rfl,o5,b4⟩
end Go.Proofs.YtabdnhkdoeibnaaGreatDoor
