/-
  Plain facts for what is taken apart and put together again: lists and numbers alone.
-/
import Derived.Test.YtabdnhkdoeibnaaGreatDoorM04
import Derived.Test.YtabdnhkdoeibnaaGreatDoorM08
import Derived.Test.YtabdnhkdoeibnaaGreatDoorM17
import Derived.Test.YtabdnhkdoeibnaaGreatDoorM23
import Derived.Test.YtabdnhkdoeibnaaGreatDoorM37
set_option maxRecDepth 100000
set_option maxHeartbeats 4000000
namespace Go.Proofs.YtabdnhkdoeibnaaGreatDoor
open Go.RowKit
theorem flat_all_len' (f:Int→List Int) (c:Nat) (hf:∀ x,(f x).length=c) (zs:List Int):(zs.flatMap f).length=c * zs.length:=by
 have:=Zei f c hf zs zs.length (Nat.le_refl _); rwa [List.take_length] at this
theorem flat_cut (f:Int→List Int) (c:Nat) (hf:∀ x,(f x).length=c) {zs:List Int} {k:Nat} {z:Int} (hk:zs[k]? = some z):((zs.flatMap f).drop (c * k)).take c=f z:=by
 have hlt:k<zs.length:=(List.getElem?_eq_some_iff.1 hk).1
 have e:zs.flatMap f=(zs.take k).flatMap f++(f z++(zs.drop (k+1)).flatMap f):=by
  have e1:zs=zs.take (k+1)++zs.drop (k+1):=(List.take_append_drop _ _).symm
  conv=>lhs; rw [e1,List.flatMap_append,Zdc f hk]
  rw [List.append_assoc]
 have hl:=Zei f c hf zs k (by omega);rw [e,← hl,List.drop_left,← hf z,List.take_left]
theorem wholes_back (f:Int→List Int) (wd c:Nat) (hf:∀ x,(f x).length=c) (zs:List Int) (hj:∀ z∈zs,Zal wd (f z)=z):Zn wd c (zs.flatMap f) zs.length=zs:=by
 apply List.ext_getElem?;intro i;by_cases hi:i<zs.length
 ·have hk:zs[i]? = some zs[i]:=by simp
  have e:(Zn wd c (zs.flatMap f) zs.length)[i]? = some (Zal wd (((zs.flatMap f).drop (c * i)).take c)):=by simp [Zn,hi]
  rw [e,flat_cut f c hf hk,hj _ (List.getElem_mem _),hk]
 ·rw [List.getElem?_eq_none_iff.2 (by rw [ZaH]; omega),List.getElem?_eq_none_iff.2 (by omega)]
theorem join_nibs (z:Int) (h0:0≤z) (h1:z≤255):Zal 4 (Zu z)=z:=by
 simp [Zal,Zu]; omega
theorem nibs_bd (zs:List Int):∀ z∈zs.flatMap Zu,0≤z∧z<16:=by
 intro z hz;obtain ⟨y,_,hy⟩:=List.mem_flatMap.1 hz;simp [Zu] at hy;omega
end Go.Proofs.YtabdnhkdoeibnaaGreatDoor
namespace Go.Proofs.YtabdnhkdoeibnaaGreatDoor
def nibs (zs:List Int):List Int:=zs.flatMap Zu
theorem ZaY (zs:List Int):(nibs zs).length=2 * zs.length:=flat_all_len' Zu 2 (fun _=>rfl) zs
theorem Zfa (zs:List Int):Path (nibs zs):=fun z hz=>by have:=nibs_bd zs z hz; omega
theorem nibs_back {zs:List Int} (bz:∀ z∈zs,0≤z∧z≤255):Zn 4 2 (nibs zs) zs.length=zs :=
 wholes_back Zu 4 2 (fun _=>rfl) zs fun z hz=>join_nibs z (bz z hz).1 (bz z hz).2
theorem nibs_get {zs:List Int} {s:Nat} (h:s<2 * zs.length):∃ n:Nat,(nibs zs)[s]? = some (n:Int)∧n<16:=by
 have hl:s<(nibs zs).length:=by rw [ZaY]; exact h
 have hp:=Zfa zs _ (List.getElem_mem hl);exact ⟨(nibs zs)[s].toNat,by rw [List.getElem?_eq_getElem hl]; congr 1; omega,by omega⟩
def stN (zs:List Int) (s:Nat):Nat:=lastOf beginN ((nibs zs).take (s+1))
theorem Zgt:beginN<4294967296:=by decide
theorem Ziy (zs:List Int) (s:Nat):stN zs s<4294967296:=Zcs _ Zgt
theorem stN_step {zs:List Int} {s n:Nat} (hn:(nibs zs)[s]? = some (n:Int)):stN zs s=stepN (lastOf beginN ((nibs zs).take s)) n:=by
 have:=ZeY (s:=beginN) hn;rwa [Int.toNat_natCast] at this
theorem stN_get {zs:List Int} {s:Nat} (h:s<2 * zs.length):(Zw beginN (nibs zs))[s]? = some ((stN zs s:Nat):Int):=by
 obtain ⟨n,hn,_⟩:=nibs_get h;have:=statesOf_get (s:=beginN) hn;rw [Int.toNat_natCast,← stN_step hn] at this;exact this
theorem ZfS (zs:List Int):(Zw beginN (nibs zs)).length=2 * zs.length:=by rw [Zcr,ZaY]
def codeN (zs:List Int) (k:Nat):Nat:=symN (stN zs (segN (2 * zs.length) k)) (k / (2 * zs.length))
theorem ZhO (zs:List Int) (k:Nat):codeN zs k<256:=ZdK _ _
theorem codeN_place {zs:List Int} {s i:Nat} (hn:2 * zs.length<65) (hs:s<2 * zs.length):codeN zs (i * (2 * zs.length)+posN (2 * zs.length) s)=symN (stN zs s) i:=by
 unfold codeN;rw [ZdE hn hs,Zex (Zev hn hs)]
def Zaz (zs:List Int) (f c:Nat):List Int:=(List.range c).map fun j=>((codeN zs (f+j):Nat):Int)
theorem Zai (zs:List Int) (f c:Nat):(Zaz zs f c).length=c:=by simp [Zaz]
theorem codeL_get {zs:List Int} {f c j:Nat} (h:j<c):(Zaz zs f c)[j]? = some ((codeN zs (f+j):Nat):Int):=by
 unfold Zaz;rw [List.getElem?_map,List.getElem?_range h];rfl
theorem ZfT (zs:List Int) (f c:Nat):Zaz zs f (c+1)=Zaz zs f c++[((codeN zs (f+c):Nat):Int)]:=by simp [Zaz,List.range_succ]
theorem Zgu (zs:List Int) (f c:Nat):∀ z∈Zaz zs f c,0≤z∧z≤255:=fun z hz=>by
 obtain ⟨j,_,rfl⟩:=List.mem_map.1 hz
 have:=ZhO zs (f+j)
 omega
end Go.Proofs.YtabdnhkdoeibnaaGreatDoor
namespace Go.Proofs.YtabdnhkdoeibnaaGreatDoor
open Go.RowKit
theorem infoCodeByte:(Tryz.prog.info? 5).map (fun i=>(i.zero,i.size,i.bytes))=some (some (.int .u8 0),1,1):=by kernel_rfl
theorem Segs_any (k:Int) (w:World):Calls Tryz.prog 45 #[.int .i64 k] w fun e w'=>e=.returned (.int .i64 (if 0≤k∧k≤32 then 2 * k else 0))∧w=w':=by
 by_cases h0:k<0
 ·rw [if_neg (by omega)];have d0:decide (k<0)=true:=decide_eq_true h0;go_enter Tryz.func45,Tryz.ntmps45;go_wp2;go_ret;exact ⟨rfl,rfl⟩
 ·have d0:decide (k<0)=false:=decide_eq_false h0;by_cases h1:32<k
  ·rw [if_neg (by omega)];have d1:decide (32<k)=true:=decide_eq_true h1;go_enter Tryz.func45,Tryz.ntmps45;go_wp2;go_ret;exact ⟨rfl,rfl⟩
  ·rw [if_pos (by omega)];have d1:decide (32<k)=false:=decide_eq_false h1;have h2:0≤k:=by omega
   have h3:k≤32:=by omega
   go_enter Tryz.func45,Tryz.ntmps45;go_wp2;go_ret;exact ⟨rfl,rfl⟩
theorem Segs_num (n:Nat) (hn:n≤32) (w:World):Calls Tryz.prog 45 #[.int .i64 (n:Int)] w fun e w'=>e=.returned (.int .i64 ((2 * n:Nat):Int))∧w=w':=by
 have:=Segs_any (n:Int) w;rw [if_pos (by omega)] at this;exact this
theorem isPart_yes (L f c:Nat) (h:f+c≤L) (hL:L≤1024) (w:World):Calls Tryz.prog 66 #[.int .i64 (L:Int),.int .i64 (f:Int),.int .i64 (c:Int)] w fun e w'=>e=.returned (.bool true)∧w=w':=by
 have d0:decide (0≤(f:Int))=true:=decide_eq_true (by omega);have d1:decide (0≤(c:Int))=true:=decide_eq_true (by omega);have d2:decide ((c:Int)≤(L:Int)-(f:Int))=true:=decide_eq_true (by omega);have hf:f≤1024:=by omega
 clear h;go_enter Tryz.func66,Tryz.ntmps66;go_wp2;go_ret;exact ⟨rfl,rfl⟩
theorem statesOf_ok (a:Option Addr) (cap:Nat) (zs:List Int) (hn:zs.length≤32) (bz:∀ z∈zs,0≤z∧z≤255) (w:World) (ha:Zb .u8 w.heap.size w (.slice a zs.length cap) zs) :
  Calls Tryz.prog 67 #[.slice a zs.length cap] w fun e W'=>∃ r,e=.returned (.tuple #[r,.int .i64 0])∧Kept .u32 W' r (Zw beginN (nibs zs))∧Below w.heap.size w W':=by
 have HB:Hid (∀ z∈zs,0≤z∧z≤255):=bz;clear bz;go_enter Tryz.func67,Tryz.ntmps67;go_wp2_with fail;refine (nibs_any _ zs (by omega) HB.out w ha).mono ?_;rintro e w1 ⟨r1,rfl,o1,b1⟩;have h1:Zb .i64 w1.heap.size w1 r1 (nibs zs):=Zg o1;obtain ⟨a1,c1,rfl⟩:=h1.shape;have HNL:Hid ((nibs zs).length=2 * zs.length):=ZaY zs;clear o1 ha;go_wp2_with fail;refine (States_ok a1 c1 (nibs zs) (by rw [HNL.out]; omega) (Zfa zs) w1 h1).mono ?_;rintro e w2 ⟨r2,rfl,k2,b2⟩;go_wp2;go_ret2;exact ⟨r2,rfl,k2,b1.trans (b2.mono b1.size)⟩
theorem symbolAt_ok (a:Option Addr) (n cap:Nat) (zs:List Int) (hne:2 * zs.length=n) (h1:1≤n) (hn:n<65) (k:Nat) (hk:k<n * 16) (w:World) (hF:ZA w) (ha:Zb .u32 w.heap.size w (.slice a n cap) (Zw beginN (nibs zs))) :
  Calls Tryz.prog 68 #[.slice a n cap,.int .i64 (k:Int)] w fun e W'=>e=.returned (.tuple #[.int .i64 ((codeN zs k:Nat):Int),.int .i64 0])∧Below w.heap.size w W':=by
 have hs:=Zgd h1 hn k;have hsn:=hs.2;have HSL:Hid ((Zw beginN (nibs zs)).length=n):=(ZfS zs).trans hne
 have hst:∃ b off,a=some ⟨b,off,none⟩∧b<w.heap.size∧w.cell? ⟨b,off+segN n k,none⟩=some (.int .u32 ((stN zs (segN n k):Nat):Int)):=by
  rcases ha with ⟨_,e⟩ | ⟨b,off,c',e,hbl,hcell⟩
  ·have:=HSL.out; rw [e] at this; simp at this; omega
  ·cases e
   exact ⟨b,off,rfl,hbl,(hcell _ (by rw [HSL.out]; exact hsn)).trans (by rw [stN_get (by omega)]; rfl)⟩
 obtain ⟨b,off,rfl,hb,hc⟩:=hst
 have HCN:Hid (symN (stN zs (segN n k)) (k / n)=codeN zs k):=by
  show _=codeN zs k
  unfold codeN;rw [hne]
 have hstl:=Ziy zs (segN n k);have hd16:k / n<16:=Nat.div_lt_of_lt_mul hk;have HA:=At_ok n k _ h1 hn hk hs.1 w hF;clear ha hs HSL;obtain ⟨x,hxe⟩:∃ x,segN n k=x:=⟨_,rfl⟩;rw [hxe] at hc HCN hstl HA hsn;obtain ⟨s,hse⟩:∃ s,stN zs x=s:=⟨_,rfl⟩;rw [hse] at hc HCN hstl;obtain ⟨d,hde⟩:∃ d,k / n=d:=⟨_,rfl⟩;rw [hde] at HCN hd16 HA;clear hxe hse hde;go_enter Tryz.func68,Tryz.ntmps68;go_wp2_with fail;refine HA.mono ?_;rintro e w1 ⟨rfl,b1⟩;have c1:=(b1.cell (p:=⟨b,off+x,none⟩) hb).trans hc;clear hc HA;go_wp2_with fail;refine (Of_ok s d hstl (by omega) w1).mono ?_;rw [HCN.out];rintro e w2 ⟨rfl,rfl⟩;go_wp2;go_ret2;exact ⟨rfl,b1⟩
theorem ZfU (a:Option Addr) (n cap:Nat) (zs:List Int) (hz:zs.length=n) (h1:1≤n) (hn:n≤32) (bz:∀ z∈zs,0≤z∧z≤255) (f c:Nat) (h:f+c≤32 * n) (w:World) (hF:ZA w) (ha:Zb .u8 w.heap.size w (.slice a n cap) zs) :
  Calls Tryz.prog 37 #[.slice a n cap,.int .i64 f,.int .i64 c] w fun e W'=>∃ r,e=.returned (.tuple #[r,.int .i64 0])∧W'.ownsRow w.heap.size 5 1 r c ((Zaz zs f c).map (Value.int .u8))∧Below w.heap.size w W':=by
 subst hz;obtain ⟨i0,hi,hz0,hz1,hz2⟩:=info_parts infoCodeByte;have HS:=Segs_num zs.length hn w;have HP:=isPart_yes (2 * zs.length * 16) f c (by omega) (by omega) w;have HST:=statesOf_ok a cap zs hn bz w ha;have HSL:Hid ((Zw beginN (nibs zs)).length=2 * zs.length):=ZfS zs;obtain ⟨N,hN⟩:∃ N,2 * zs.length=N:=⟨_,rfl⟩;have HN:Hid (2 * zs.length=N):=hN;rw [hN] at HS HP HSL;have e1:(N:Int) * 16=((N * 16:Nat):Int):=by omega
 have HFC:Hid (f+c≤N * 16):=by
  show f+c≤N * 16
  omega
 obtain ⟨M,hM⟩:∃ M,N * 16=M:=⟨_,rfl⟩;rw [hM] at HP e1;have N1:1≤N:=by omega
 have hq:((N:Int) == 0)=false:=by rw [beq_eq_false_iff_ne]; omega
 have N65:N<65:=by omega
 have hc1:f+c≤1024:=by omega
 clear hM hN h bz ha;go_enter Tryz.func37,Tryz.ntmps37;go_wp2_with fail;refine HS.mono ?_;rintro e w1 ⟨rfl,rfl⟩;go_wp2_with fail;refine HP.mono ?_;rintro e w1 ⟨rfl,rfl⟩;go_wp2_with fail;refine HST.mono ?_;rintro e w1 ⟨r1,rfl,⟨hr1,ar,cr,rfl,_⟩,b1⟩;rw [HSL.out] at hr1 ⊢;have hF1:=hF.next b1;clear HS HP HST hF;go_wp2_with (at_make; refine wpList_make_own _ rfl _ _ 27 rfl w1.heap.size 5 i0 (.int .u8 0) 1 Tryz.underlying27 hi hz0 hz1 .i64 .i64 _ c rfl rfl (by omega) (by rw [hz2]; omega) (by unfold maxLen; omega) (Nat.le_refl _) ?_; intro w2 hown2 hgrow2);have b2:Below w1.heap.size w1 w2:=(Below.refl _ w1).grown hgrow2 (Nat.le_refl _) (fun k e=>by cases e);clear hgrow2;go_wp2;go_loopw [11,37] (fun v i wr=>∃ k:Nat,k≤c∧i=.int .i64 k∧wr.ownsRow w1.heap.size 5 1 v k ((Zaz zs f k).map (Value.int .u8))∧Below w1.heap.size w1 wr) (fun _ i _=>c-(intOf i).toNat)
 case atStart=>exact ⟨0,Nat.zero_le _,rfl,hown2,b2⟩
 case round =>
  clear hown2 b2;obtain ⟨k,hk,rfl,ho,hbw⟩:=hrel;by_cases hlt:k<c
  ·have HX:=symbolAt_ok ar N cr zs HN.out N1 N65 (f+k) (by have:=HFC.out; omega) wr (hF1.next hbw) (hr1.next hbw);have HNX:Hid (Zaz zs f (k+1)=Zaz zs f k++[((codeN zs (f+k):Nat):Int)]):=ZfT zs f k;have hxl:=ZhO zs (f+k);obtain ⟨x,hxe⟩:∃ x,codeN zs (f+k)=x:=⟨_,rfl⟩;rw [hxe] at HX HNX hxl;have e2:(f:Int)+(k:Int)=((f+k:Nat):Int):=by omega
   obtain ⟨K,hKe⟩:∃ K,f+k=K:=⟨_,rfl⟩;rw [hKe] at HX e2;have ew:IntKind.u8.wrap (x:Int)=(x:Int):=by rw [IntKind.wrap_u8]; omega
   clear hxe hKe;go_wp2_with fail;refine HX.mono ?_;rintro e w3 ⟨rfl,b3⟩;have ho3:w3.ownsRow w1.heap.size 5 1 u11 k ((Zaz zs f k).map (Value.int .u8)):=Zh ho b3 (Nat.le_refl _);have b13:=hbw.trans (b3.mono hbw.size);clear ho HX;go_wp2_with (at_builtin; refine wpList_append_own _ rfl _ _ 27 rfl w1.heap.size 5 i0 (.int .u8 0) 1 1 Tryz.underlying27 hi hz0 hz1 hz2 rfl (by decide) _ k _ rfl (ho3.alloc _) ⟨w3.heap.size,0,none⟩ 1 1 [.int .u8 x] rfl rfl (cell_one_new _ _ _) (by simp [Value.oneCell']) (by unfold maxLen; omega) (by omega) (by have:=b13.size; simp; omega) ?_; intro v4 w4 hown4 hgrow4 _);have b4:Below w1.heap.size w1 w4:=(b13.alloc b13.size _).trans ((Below.refl _ _).grown hgrow4 (by have:=b13.size; simp; omega) (fun q e=>(ho3.lt q e).1));refine ⟨⟨k+1,by omega,by go_num,?_,b4⟩,by simp [intOf]; omega⟩;rw [HNX.out,List.map_append];exact hown4
  ·obtain rfl:k=c:=by omega
   clear hr1;go_wp2;go_ret2;exact ⟨_,rfl,Zm ho b1.size,b1.trans (hbw.mono b1.size)⟩
end Go.Proofs.YtabdnhkdoeibnaaGreatDoor
