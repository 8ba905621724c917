/-
  What bit.Turn and the page's Turn answer, for every two texts: each byte xor that of the mask at the same place; where the mask has none it stays; texts that are too long are refused.
-/
import Derived.Test.YtabdnhkdoeibnaaGreatDoorM04
import Derived.Test.YtabdnhkdoeibnaaGreatDoorM05
import Derived.BigRegion
import Derived.ChangeAlike
import Derived.Laws.BitsAllLaws
import Derived.Laws.CopyOwn
import Derived.Lib.MinMax
import Derived.RegionTactic
set_option maxRecDepth 100000
set_option maxHeartbeats 2000000
namespace Go.Proofs.YtabdnhkdoeibnaaGreatDoor
open Go.RowKit
theorem Zgx {a b:Bool} (h:a=b):Ending.returned (.bool a)=.returned (.bool b):=by rw [h]
theorem within_any (a:Option Addr) (cap:Nat) (ls:List Int) (lo hi:Int) (hl:ls.length≤4294967296) (n₀:Nat) (w:World) (hH:Zb .i64 n₀ w (.slice a ls.length cap) ls) (b0:Bool) (hb0:b0=true↔∀ z∈ls,lo≤z∧z≤hi) :
  Calls Tryz.prog 70 #[.slice a ls.length cap,.int .i64 lo,.int .i64 hi] w fun e w'=>e=.returned (.bool b0)∧w=w':=by
 have HB0:Hid (b0=true↔∀ z∈ls,lo≤z∧z≤hi):=hb0;clear hb0;go_enter Tryz.func70,Tryz.ntmps70;go_wp2;go_loop [7] (fun i=>∃ k:Nat,k≤ls.length∧i=.int .i64 k∧∀ z∈ls.take k,lo≤z∧z≤hi) (fun i=>ls.length-(intOf i).toNat)
 case atStart=>exact ⟨0,Nat.zero_le _,rfl,by simp⟩
 case round =>
  obtain ⟨k,hk,rfl,hall⟩:=hrel;by_cases hlt:k<ls.length
  ·obtain ⟨z,hzk⟩:∃ z,ls[k]? = some z:=⟨ls[k],by simp⟩;rcases hH with ⟨_,e⟩ | ⟨b,off,cap',e,_,hcs⟩
   ·rw [e] at hlt; exact absurd hlt (by simp)
   ·cases e
    have c1:w.cell? ⟨b,off+k,none⟩=some (.int .i64 z):=(hcs k hlt).trans (by rw [hzk]; rfl);have HM:Hid (z∈ls):=List.mem_of_getElem? hzk
    have HA:Hid ((lo≤z∧z≤hi)→∀ y∈ls.take (k+1),lo≤y∧y≤hi):=fun hf y hy=>by
     rw [List.take_add_one,hzk] at hy;rcases List.mem_append.1 hy with h | h
     ·exact hall y h
     ·simp at h; subst h; exact hf
    clear hcs hall hzk;by_cases h1:z<lo
    ·go_wp2;go_ret;exact ⟨Zgx (by cases b0 with | false=>rfl | true=>exact absurd (HB0.out.1 rfl z HM.out) (by omega)),rfl⟩
    ·by_cases h2:hi<z
     ·go_wp2;go_ret;exact ⟨Zgx (by cases b0 with | false=>rfl | true=>exact absurd (HB0.out.1 rfl z HM.out) (by omega)),rfl⟩
     ·go_wp2;exact ⟨⟨k+1,by omega,by go_num,HA.out (by omega)⟩,by simp [intOf]; omega⟩
  ·have HA:Hid (∀ z∈ls,lo≤z∧z≤hi):=fun z hz=>hall z (by rw [List.take_of_length_le (by omega)]; exact hz)
   clear hall hH;go_wp2;go_ret;exact ⟨Zgx (HB0.out.2 HA.out).symm,rfl⟩
theorem within_yes (a:Option Addr) (cap:Nat) (ls:List Int) (lo hi:Int) (hl:ls.length≤4294967296) (n₀:Nat) (w:World) (hH:Zb .i64 n₀ w (.slice a ls.length cap) ls) (h:∀ z∈ls,lo≤z∧z≤hi) :
  Calls Tryz.prog 70 #[.slice a ls.length cap,.int .i64 lo,.int .i64 hi] w fun e w'=>e=.returned (.bool true)∧w=w':=by
 exact within_any a cap ls lo hi hl n₀ w hH true ⟨fun _=>h,fun _=>rfl⟩
theorem join2 (ls:List Int) (k:Nat) (x0 x1:Int) (h0:ls[2 * k]? = some x0) (h1:ls[2 * k+1]? = some x1):Zal 4 ((ls.drop (2 * k)).take 2)=x0 * 16+x1:=by
 have e:(ls.drop (2 * k)).take 2=[x0,x1]:=by
  rw [List.take_add_one,List.take_add_one,List.getElem?_drop,List.getElem?_drop,Nat.add_zero,h0,h1]; rfl
 rw [e]; simp [Zal]
theorem Zf5 (a:Option Addr) (cap:Nat) (ls:List Int) (kk:Nat) (hkk:ls.length=2 * kk) (hl:ls.length≤32768) (hz:∀ z∈ls,0≤z∧z<16) (w:World) (hH:Zb .i64 w.heap.size w (.slice a ls.length cap) ls) :
  Calls Tryz.prog 40 #[.slice a ls.length cap] w fun e W'=>∃ r,e=.returned (.tuple #[r,.int .i64 0])∧W'.ownsRow w.heap.size 5 1 r kk ((Zn 4 2 ls kk).map (Value.int .u8))∧Below w.heap.size w W':=by
 obtain ⟨i0,hi,hz0,hz1,hz2⟩:=info_parts Zcg;have d1:decide (32768<(ls.length:Int))=false:=by simp; omega
 have d2:(((ls.length:Int) % 2) != 0)=false:=by rw [bne_eq_false_iff_eq]; omega
 have HB:Hid (∀ z∈ls,0≤z∧z≤15):=fun z h=>by have:=hz z h; omega
 have hk1:2 * kk≤ls.length:=by omega
 have hk2:ls.length≤2 * kk:=by omega
 clear hkk hz;go_enter Tryz.func40,Tryz.ntmps40;go_wp2_with (go_at_call 70; refine (within_yes _ _ ls 0 15 (by omega) _ _ hH HB.out).mono ?_; rintro e w' ⟨rfl,rfl⟩);go_loopw [4,5] (fun v i wr=>∃ k:Nat,k≤kk∧i=.int .i64 (2 * (k:Int))∧wr.ownsRow w.heap.size 5 1 v k ((Zn 4 2 ls k).map (Value.int .u8))∧Below w.heap.size w wr) (fun _ i _=>(2 * kk-(intOf i)).toNat)
 case atStart=>exact ⟨0,Nat.zero_le _,rfl,World.ownsRow_nil _ _ _ _,Below.refl _ _⟩
 case round =>
  obtain ⟨k,hk,rfl,ho,hbw⟩:=hrel;by_cases hlt:k<kk
  ·obtain ⟨x0,hx0,x00,x01⟩:∃ z,ls[2 * k]? = some z∧0≤z∧z≤15:=by
    have hin:2 * k<ls.length:=by omega
    exact ⟨ls[2 * k],by simp,(HB.out _ (List.getElem_mem _)).1,(HB.out _ (List.getElem_mem _)).2⟩
   obtain ⟨x1,hx1,x10,x11⟩:∃ z,ls[2 * k+1]? = some z∧0≤z∧z≤15:=by
    have hin:2 * k+1<ls.length:=by omega
    exact ⟨ls[2 * k+1],by simp,(HB.out _ (List.getElem_mem _)).1,(HB.out _ (List.getElem_mem _)).2⟩
   rcases hH with ⟨_,e⟩ | ⟨b,off,cap',e,hb,hcs⟩
   ·rw [e] at hk1; simp at hk1; omega
   ·cases e
    have c1:wr.cell? ⟨b,off+2 * k,none⟩=some (.int .i64 x0):=(hbw.cell (p:=⟨b,off+2 * k,none⟩) hb).trans ((hcs (2 * k) (by omega)).trans (by rw [hx0]; rfl));have c2:wr.cell? ⟨b,off+(2 * k+1),none⟩=some (.int .i64 x1):=(hbw.cell (p:=⟨b,off+(2 * k+1),none⟩) hb).trans ((hcs (2 * k+1) (by omega)).trans (by rw [hx1]; rfl))
    have HS:Hid (Zn 4 2 ls (k+1)=Zn 4 2 ls k++[x0 * 16+x1]):=by
     show Zn 4 2 ls (k+1)=Zn 4 2 ls k++[x0 * 16+x1]
     rw [Zde,join2 ls k x0 x1 hx0 hx1]
    have hor:=Zho x0 x1 x00 (by omega) x10 (by omega);have hmod:IntKind.u8.wrap (x0 * 16+x1)=x0 * 16+x1:=by rw [IntKind.wrap_u8]; omega
    have HO:Hid (wr.ownsRow w.heap.size 5 1 u4 k ((Zn 4 2 ls k).map (Value.int .u8))):=ho;have hbs:=hbw.size;have hbb:b<wr.heap.size:=by omega
    have hneb:some b≠u4.ownBlock:=fun e=>by have:=(ho.lt b e.symm).1; omega
    have h2k:2 * (k:Int)+1<(ls.length:Int):=by omega
    have h2k':2 * (k:Int)<(ls.length:Int):=by omega
    have h2n:0≤2 * (k:Int)+1:=by omega
    have h2n':0≤2 * (k:Int):=by omega
    have ewr:IntKind.i64.wrap (2 * (k:Int)+1)=2 * (k:Int)+1:=by rw [IntKind.wrap_i64]; omega
    have ewx:IntKind.i64.wrap (x0 * 16)=x0 * 16:=by rw [IntKind.wrap_i64]; omega
    have e2n:(2 * (k:Int)+1).toNat=2 * k+1:=by omega
    have e2n':(2 * (k:Int)).toNat=2 * k:=by omega
    clear hcs hx0 hx1 ho HB;go_wp2;go_region_held_law (fun w'=>w'.cell? ⟨b,off+2 * k,none⟩=some (.int .i64 x0)∧w'.cell? ⟨b,off+(2 * k+1),none⟩=some (.int .i64 x1)) (go_keep) ((refine step_append_lies _ rfl _ _ 27 rfl w.heap.size 5 i0 (.int .u8 0) 1 1 Tryz.underlying27 hi hz0 hz1 hz2 rfl (by decide) u4 k _ (by simp [Act.eval]) (by exact (HO.out.alloc _).drew) ⟨wr.heap.size,0,none⟩ 1 1 [.int .u8 (x0 * 16+x1)] (by simp [Act.eval]) rfl (by exact World.news_of_block (World.alloc_heap_new _ _)) (by simp [Value.oneCell']) (by decide) (by unfold maxLen; omega) (by omega) (by simp; omega) _ rfl ?_; intro g9 cap9 w9 hown9 hgrow9 hat9 hlt9; have hs9:=hgrow9.cell (a:=⟨b,off+2 * k,none⟩) ((((Below.refl _ wr).alloc (Nat.le_refl _) _).drew.cell (p:=⟨b,off+2 * k,none⟩) hbb).trans c1) hneb; have hs8:=hgrow9.cell (a:=⟨b,off+(2 * k+1),none⟩) ((((Below.refl _ wr).alloc (Nat.le_refl _) _).drew.cell (p:=⟨b,off+(2 * k+1),none⟩) hbb).trans c2) hneb));have b9:Below w.heap.size w w9:=((hbw.alloc hbw.size _).drew).trans ((Below.refl _ _).grown hgrow9 (by simp; omega) (fun q e=>(HO.out.lt q e).1));go_wp2;refine ⟨⟨k+1,by omega,by go_num,?_,b9⟩,by simp [intOf]; omega⟩;rw [HS.out];simpa using hown9
  ·obtain rfl:k=kk:=by omega
   clear hH;go_wp2;go_ret2;exact ⟨_,rfl,ho,hbw⟩
end Go.Proofs.YtabdnhkdoeibnaaGreatDoor
