/-
  What the page's Order and N answer.
-/
import Derived.Test.YtabdnhkdoeibnaaGreatDoorM03
import Derived.BigQuiet
import Derived.Deep.QuietTactic
import Derived.OwnWalk
import Derived.WalkLawsBesides
import Derived.WalkSpells
set_option maxRecDepth 100000
set_option maxHeartbeats 4000000
namespace Go.Proofs.YtabdnhkdoeibnaaGreatDoor
open Go.RowKit
theorem infoOrd:(Tryz.prog.info? 3).map (fun i=>(i.zero,i.size,i.bytes))=some (some (.int .i64 0),1,8):=by kernel_rfl
theorem Zgc (n:Nat) (h1:1≤n) (hn:n<65) (w:World):Calls Tryz.prog 59 #[.int .i64 n] w fun e w'=>e=.returned (.bool true)∧w=w':=by
 have d0:decide (1≤(n:Int))=true:=decide_eq_true (by omega);have d1:decide ((n:Int)≤64)=true:=decide_eq_true (by omega);go_enter Tryz.func59,Tryz.ntmps59;go_wp2;go_ret;exact ⟨rfl,rfl⟩
theorem refN_no (n:Int) (h:n<1∨64<n) (w:World):Calls Tryz.prog 59 #[.int .i64 n] w fun e w'=>e=.returned (.bool false)∧w=w':=by
 by_cases h0:n<1
 ·have d0:decide (1≤n)=false:=decide_eq_false (by omega);clear h;go_enter Tryz.func59,Tryz.ntmps59;go_wp2;go_ret;exact ⟨rfl,rfl⟩
 ·have d0:decide (1≤n)=true:=decide_eq_true (by omega);have d1:decide (n≤64)=false:=decide_eq_false (by omega);clear h;go_enter Tryz.func59,Tryz.ntmps59;go_wp2;go_ret;exact ⟨rfl,rfl⟩
theorem refOrder_any (n:Nat) (h1:1≤n) (hn:n<65) (w:World) :
  Calls Tryz.prog 139 #[.int .i64 n] w fun e W'=>∃ r,e=.returned r∧W'.ownsRow w.heap.size 3 1 r n ((Zhn n).map (Value.int .i64))∧Below w.heap.size w W':=by
 obtain ⟨i0,hi,hz0,hz1,hz2⟩:=info_parts infoOrd;go_enter Tryz.func139,Tryz.ntmps139;go_wp2;obtain ⟨w1,hw1⟩:∃ w1,w.alloc (.cells #[.int .i64 0,.int .i64 4,.int .i64 2,.int .i64 6,.int .i64 1,.int .i64 5,.int .i64 3,.int .i64 7] 3)=w1:=⟨_,rfl⟩;have b1:Below w.heap.size w w1:=hw1▸(Below.refl _ w).alloc (Nat.le_refl _) _;have hs1:w1.heap.size=w.heap.size+1:=by rw [← hw1]; simp
 have HF:Hid (∀ c f:Nat,firsts[c]? = some f→w1.cell? ⟨w.heap.size,c,none⟩=some (.int .i64 (f:Int))):=by
  intro c f hc;have h:=held_new .i64 w (ints firsts) 8 3 (0,0);rcases h with ⟨_,e⟩ | ⟨b,off,c',e,_,hcs⟩
  ·cases e
  ·cases e
   have hlt:=(List.getElem?_eq_some_iff.1 hc).1;have h2:=hcs c (by rw [ints_len]; exact hlt);rw [Nat.zero_add] at h2;rw [← hw1];refine Eq.trans h2 ?_;have:(ints firsts)[c]? = some (f:Int):=by unfold ints; rw [List.getElem?_map,hc]; rfl
   rw [this];rfl
 rw [hw1];clear hw1;go_loopw [4,5] (fun v i wr=>∃ c:Nat,c≤8∧i=.int .i64 c∧wr.ownsRow w1.heap.size 3 1 v (ZN n c).length ((ints (ZN n c)).map (Value.int .i64))∧Below w1.heap.size w1 wr) (fun _ i _=>8-(intOf i).toNat)
 case atStart=>exact ⟨0,by omega,rfl,World.ownsRow_nil _ _ _ _,Below.refl _ _⟩
 case round =>
  obtain ⟨c,hc,rfl,ho,hbw⟩:=hrel;by_cases hlt:c<8
  ·obtain ⟨f,hf,hf8⟩:=Zfp c hlt;have c1:wr.cell? ⟨w.heap.size,c,none⟩=some (.int .i64 (f:Int)):=(hbw.cell (p:=⟨w.heap.size,c,none⟩) (by show w.heap.size<w1.heap.size; omega)).trans (HF.out c f hf);have d8:decide ((c:Int)<8)=true:=decide_eq_true (by omega);have HNX:Hid _:=Zc3 (n:=n) hf;have hfew:=Zfn n hn c (by omega);have hef:=Zfo (f:=f) hn;have hel:=ZdD n f;clear hf;go_wp2;go_loopw [4,6] (fun v i wq=>∃ j:Nat,j≤(ZJ n f).length∧i=.int .i64 ((f+8 * j:Nat):Int)∧wq.ownsRow w1.heap.size 3 1 v ((ZN n c++(ZJ n f).take j).length) ((ints (ZN n c++(ZJ n f).take j)).map (Value.int .i64))∧Below w1.heap.size w1 wq) (fun _ i _=>100-(intOf i).toNat)
   case atStart=>exact ⟨0,Nat.zero_le _,rfl,by rw [List.take_zero,List.append_nil]; exact ho,hbw⟩
   case round =>
    clear ho hbw c1;obtain ⟨j,hj,rfl,ho,hbw⟩:=hrel;by_cases hjl:j<(ZJ n f).length
    ·have hjn:f+8 * j<n:=by rw [hel] at hjl; omega
     have HN:Hid _:=Zew hjn;have hlen:(ZN n c++(ZJ n f).take j).length≤72:=by rw [List.length_append,List.length_take]; omega
     have e8:((f+8 * j:Nat):Int)+8=((f+8 * (j+1):Nat):Int):=by omega
     obtain ⟨x,hx⟩:∃ x,f+8 * j=x:=⟨_,rfl⟩;rw [hx] at HN hjn e8 ⊢;have HE8:Hid ((x:Int)+8=((f+8 * (j+1):Nat):Int)):=e8;clear e8;obtain ⟨L,hL⟩:∃ L,ZN n c++(ZJ n f).take j=L:=⟨_,rfl⟩
     have HL:Hid (ZN n c++(ZJ n f).take (j+1)=L++[x]):=by
      show ZN n c++(ZJ n f).take (j+1)=L++[x]
      rw [HN.out,← List.append_assoc,hL]
     rw [hL] at ho hlen;clear HN hL;go_wp2_with (at_builtin; refine wpList_append_own _ rfl _ _ 74 rfl w1.heap.size 3 i0 (.int .i64 0) 1 8 Tryz.underlying74 hi hz0 hz1 hz2 rfl (by decide) _ L.length _ rfl (ho.alloc _) ⟨wr.heap.size,0,none⟩ 1 1 [.int .i64 x] rfl rfl (cell_one_new _ _ _) (by simp [Value.oneCell']) (by unfold maxLen; omega) (by omega) (by have:=hbw.size; simp; omega) ?_; intro v3 w3 hown3 hgrow3 _);have b3:Below w1.heap.size w1 w3:=(hbw.alloc hbw.size _).trans ((Below.refl _ _).grown hgrow3 (by have:=hbw.size; simp; omega) (fun q e=>(ho.lt q e).1));refine ⟨⟨j+1,by omega,by rw [HE8.out],?_,b3⟩,by simp [intOf]; omega⟩;rw [HL.out,ints_snoc,List.map_append,List.length_append];exact hown3
    ·obtain rfl:j=(ZJ n f).length:=by omega
     have hjn:¬ f+8 * (ZJ n f).length<n:=by rw [hel]; omega
     have HT:Hid (ZN n c++(ZJ n f).take (ZJ n f).length=ZN n (c+1)):=by
      show ZN n c++(ZJ n f).take (ZJ n f).length=ZN n (c+1)
      rw [List.take_length,HNX.out]
     rw [HT.out] at ho;have hjn':¬ ((f+8 * (ZJ n f).length:Nat):Int)<(n:Int):=by omega
     obtain ⟨y,hy⟩:∃ y,f+8 * (ZJ n f).length=y:=⟨_,rfl⟩;rw [hy] at hjn' ⊢;clear hjn HT HNX hy hjl;go_wp2;go_roundw
     case rel=>exact ⟨c+1,by omega,by go_num,ho,hbw⟩
     case measure=>simp [intOf]; omega
  ·obtain rfl:c=8:=by omega
   have HA:Hid (ZN n 8=ZS n):=Zfm n;have HLN:Hid ((ZS n).length=n):=ZcF n hn;rw [HA.out,HLN.out] at ho;have ho':=Zm ho (show w.heap.size≤w1.heap.size by omega);have bb:=b1.trans (hbw.mono b1.size);clear ho hlt hc;go_wp2;go_ret;exact ⟨_,rfl,ho',bb⟩
end Go.Proofs.YtabdnhkdoeibnaaGreatDoor
