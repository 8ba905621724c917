/-
  A segment's symbols, told pass by pass. No program is spoken of.
-/
import Derived.Test.YtkigbanldiialaaGreatDoorM11
import Derived.Deep.RegionWith
set_option maxRecDepth 100000
set_option maxHeartbeats 4000000
namespace Go.Proofs.YtkigbanldiialaaGreatDoor
def Zfu (l:List (Int×Int)) (k:Int):Int:=match l[aheadOf l k]? with | some x=>x.2 | none=>0
theorem ZdC {l:List (Int×Int)} {k:Int} (h:ZO l k=true):l[aheadOf l k]? = some (k,Zfu l k):=by
 unfold ZO at h;unfold Zfu
 split at h
 ·rename_i x hx;have e:x.1=k:=by simpa using h
  rw [hx];subst e;rfl
 ·cases h
theorem rises_one {l:List (Int×Int)} (hr:Zat l) {k u v:Int} (h1:(k,u)∈l) (h2:(k,v)∈l):u=v:=by
 obtain ⟨i,hi⟩:=List.getElem?_of_mem h1;obtain ⟨j,hj⟩:=List.getElem?_of_mem h2;obtain ⟨hil,ei⟩:=List.getElem?_eq_some_iff.1 hi;obtain ⟨hjl,ej⟩:=List.getElem?_eq_some_iff.1 hj;rcases Nat.lt_trichotomy i j with h | h | h
 ·have:=List.pairwise_iff_getElem.1 hr i j hil hjl h;rw [ei,ej] at this;simp at this
 ·subst h;rw [hi] at hj;simp at hj;exact hj
 ·have:=List.pairwise_iff_getElem.1 hr j i hjl hil h;rw [ei,ej] at this;simp at this
def ofP (N:Nat) (l:List (Int×Int)) (s:Nat):Nat→List (Int×Int)
 | 0=>[]
 | k+1=>ofP N l s k++(if ZO l ((k * N+posN N s:Nat):Int)=true then [((k:Int),Zfu l ((k * N+posN N s:Nat):Int))] else [])
theorem ofP_yes {N:Nat} {l:List (Int×Int)} {s k:Nat} (h:ZO l ((k * N+posN N s:Nat):Int)=true):ofP N l s (k+1)=ofP N l s k++[((k:Int),Zfu l ((k * N+posN N s:Nat):Int))]:=by rw [ofP,if_pos h]
theorem ofP_no {N:Nat} {l:List (Int×Int)} {s k:Nat} (h:ZO l ((k * N+posN N s:Nat):Int)=false):ofP N l s (k+1)=ofP N l s k:=by rw [ofP,if_neg (by rw [h]; simp),List.append_nil]
theorem Zfv (N:Nat) (l:List (Int×Int)) (s:Nat):∀ k,(ofP N l s k).length≤k
 | 0=>Nat.le_refl _
 | k+1=>by
  have:=Zfv N l s k
  rw [ofP,List.length_append]
  split
  ·simp; omega
  ·simp; omega
theorem Zfw {N:Nat} {l:List (Int×Int)} {s:Nat} {x:Int×Int}:∀ {K:Nat},x∈ofP N l s K↔∃ k,k<K∧ZO l ((k * N+posN N s:Nat):Int)=true∧x=((k:Int),Zfu l ((k * N+posN N s:Nat):Int))
 | 0=>by simp [ofP]
 | K+1=>by
  rw [ofP,List.mem_append,Zfw]
  constructor
  ·rintro (⟨k,hk,h⟩ | h)
   ·exact ⟨k,by omega,h⟩
   ·split at h
    ·rename_i hh
     exact ⟨K,by omega,hh,by simpa using h⟩
    ·simp at h
  ·rintro ⟨k,hk,hh,hx⟩
   rcases Nat.lt_or_ge k K with h | h
   ·exact .inl ⟨k,h,hh,hx⟩
   ·obtain rfl:k=K:=by omega
    exact .inr (by rw [if_pos hh,hx]; simp)
theorem Ze9 (N:Nat) (l:List (Int×Int)) (s:Nat):∀ K,Zat (ofP N l s K)
 | 0=>List.Pairwise.nil
 | K+1=>by
  unfold Zat
  rw [ofP,List.pairwise_append]
  refine ⟨Ze9 N l s K,?_,fun x hx y hy=>?_⟩
  ·split
   ·exact List.pairwise_singleton _ _
   ·exact List.Pairwise.nil
  ·obtain ⟨k,hk,_,rfl⟩:=Zfw.1 hx
   split at hy
   ·simp at hy; subst hy; simp; omega
   ·simp at hy
theorem ZdD {N k s:Nat} (h1:1≤N) (hn:N<65) (hs:s<N) (h:segN N k=s):k / N * N+posN N s=k:=by
 have h2:=(ZfH h1 hn k).1;rw [h] at h2;have h3:=posN_of hn hs h2;rw [h3];have:=Nat.div_add_mod k N;rw [Nat.mul_comm] at this;exact this
theorem Zfx {n:Nat} {l:List (Int×Int)} {s:Nat} {x:Int×Int}:x∈ofL n l s↔∃ y∈l,segN n y.1.toNat=s∧x=(((y.1.toNat / n:Nat):Int),y.2):=by
 unfold ofL;rw [List.mem_map]
 constructor
 ·rintro ⟨y,hy,rfl⟩;rw [List.mem_filter] at hy;exact ⟨y,hy.1,by simpa using hy.2,rfl⟩
 ·rintro ⟨y,hy,h1,rfl⟩;exact ⟨y,by rw [List.mem_filter]; exact ⟨hy,by simpa using h1⟩,rfl⟩
theorem ofL_rises {n s:Nat} {p:Int} {l:List (Int×Int)} (hp:Zc (n:Int) p l) (hs:s<n):Zat (ofL n l s):=by
 have hn1:1≤n:=by omega
 have hn2:n<65:=by have:=hp.1.2.1; omega
 unfold Zat ofL;rw [List.pairwise_map,List.pairwise_filter];refine List.Pairwise.imp_of_mem ?_ hp.2.2;intro x y hx hy hxy h1 h2;have h1:segN n x.1.toNat=s:=by simpa using h1
 have h2:segN n y.1.toNat=s:=by simpa using h2
 have e1:=ZdD hn1 hn2 hs h1;have e2:=ZdD hn1 hn2 hs h2;have x0:=(hp.2.1 x hx).1;have y0:=(hp.2.1 y hy).1;have hlt:x.1.toNat<y.1.toNat:=by omega
 show (((x.1.toNat / n:Nat):Int))<((y.1.toNat / n:Nat):Int)
 rcases Nat.lt_or_ge (x.1.toNat / n) (y.1.toNat / n) with h | h
 ·omega
 ·have:=Nat.mul_le_mul_right n h;omega
theorem ZgF {N P s:Nat} {l:List (Int×Int)} (hp:Zc (N:Int) (P:Int) l) (hs:s<N):ofP N l s P=ofL N l s:=by
 have hn1:1≤N:=by omega
 have hn2:N<65:=by have:=hp.1.2.1; omega
 refine Zdu (Ze9 N l s P) (ofL_rises hp hs) fun x=>?_
 rw [Zfw,Zfx]
 constructor
 ·rintro ⟨k,hk,hh,rfl⟩;have hm:=List.mem_of_getElem? (ZdC hh);refine ⟨_,hm,?_,?_⟩
  ·show segN N (((k * N+posN N s:Nat):Int)).toNat=s
   rw [Int.toNat_natCast];exact ZcF hn2 hs
  ·dsimp only
   rw [Int.toNat_natCast,Zdt (Zdr hn2 hs)]
 ·rintro ⟨y,hy,h1,rfl⟩;have hok:=hp.2.1 y hy;have e:=ZdD hn1 hn2 hs h1;have y0:=hok.1;have y1:=hok.2.1;have ey:(((y.1.toNat / N * N+posN N s:Nat)):Int)=y.1:=by rw [e]; omega
  have hh:ZO l ((y.1.toNat / N * N+posN N s:Nat):Int)=true:=by
   rw [ey];exact (Za1 hp.2.2).2 ⟨y.2,hy⟩
  refine ⟨y.1.toNat / N,?_,hh,?_⟩
  ·refine Nat.div_lt_of_lt_mul ?_
   have h2:(y.1.toNat:Int)<((N * P:Nat):Int):=by
    have:((N * P:Nat):Int)=(N:Int) * (P:Int):=by simp
    rw [this];omega
   omega
  ·rw [ey];have hv:=List.mem_of_getElem? (ZdC (l:=l) (k:=y.1) (by rw [← ey]; exact hh));rw [rises_one hp.2.2 hy hv]
end Go.Proofs.YtkigbanldiialaaGreatDoor
namespace Go.Proofs.YtkigbanldiialaaGreatDoor
open Go.RowKit
theorem Zau (n p M:Int) (hM:n * p=M) (h1:1≤M) (h2:M≤1024) (a:Option Addr) (len cap:Nat) (w:World) :
  Calls Tryz.prog 38 #[.agg #[.int .i64 n,.int .i64 p,.slice a len cap]] w fun e w'=>e=.returned (.int .i64 M)∧Below w.heap.size w w':=by
 have b0:=(Below.refl w.heap.size w).alloc (Nat.le_refl _) (.cells #[.int .i64 n,.int .i64 p,.slice a len cap] 37);go_enter Tryz.func38,Tryz.ntmps38;go_wp2;go_ret;exact ⟨rfl,b0⟩
theorem Zaa (u:Int) (h0:0≤u) (h1:u≤255) (w:World):Calls Tryz.prog 39 #[.int .i64 u] w fun e w'=>e=.returned (.bool true)∧w=w':=by
 have d0:decide (0≤u)=true:=decide_eq_true h0;have d1:decide (u≤255)=true:=decide_eq_true h1;clear h0 h1;go_enter Tryz.func39,Tryz.ntmps39;go_wp2;go_ret;exact ⟨rfl,rfl⟩
theorem isValue_no (u:Int) (h:u<0∨255<u) (w:World):Calls Tryz.prog 39 #[.int .i64 u] w fun e w'=>e=.returned (.bool false)∧w=w':=by
 by_cases h0:u<0
 ·have d0:decide (0≤u)=false:=decide_eq_false (by omega);clear h h0;go_enter Tryz.func39,Tryz.ntmps39;go_wp2;go_ret;exact ⟨rfl,rfl⟩
 ·have d0:decide (0≤u)=true:=decide_eq_true (by omega);have d1:decide (u≤255)=false:=decide_eq_false (by omega);clear h h0;go_enter Tryz.func39,Tryz.ntmps39;go_wp2;go_ret;exact ⟨rfl,rfl⟩
theorem Check_syms (n p:Int) (hh:ZbO n p) (a:Option Addr) (cap:Nat) (l:List (Int×Int)) (hl:l.length≤4294967296) (w:World) (ha:Syms w.heap.size w (.slice a l.length cap) l) :
  Calls Tryz.prog 20 #[.agg #[.int .i64 n,.int .i64 p,.slice a l.length cap]] w fun e w'=>(e=.returned (.int .i64 0)∧Zag n p l∨e=.returned (.int .i64 1)∧¬ Zag n p l)∧Below w.heap.size w w':=by
 have HH:Hid (ZbO n p):=hh;obtain ⟨g1,g2,g3,g4⟩:=hh;have hpr:=HH.out.prod;obtain ⟨M,hM⟩:∃ M,n * p=M:=⟨_,rfl⟩;have HM:Hid (n * p=M):=hM;rw [hM] at hpr;obtain ⟨hM1,hM2⟩:=hpr;have e1:decide (n<1)=false:=decide_eq_false (by omega);have e2:decide (64<n)=false:=decide_eq_false (by omega);have e3:decide (p<1)=false:=decide_eq_false (by omega);have e4:decide (16<p)=false:=decide_eq_false (by omega);have b0:=(Below.refl w.heap.size w).alloc (Nat.le_refl _) (.cells #[.int .i64 n,.int .i64 p,.slice a l.length cap] 37);have x0:=Box.new w 37 #[.int .i64 n,.int .i64 p,.slice a l.length cap];have ha0:=ha.next b0;obtain ⟨w0,hw0⟩:∃ w0,w.alloc (.cells #[.int .i64 n,.int .i64 p,.slice a l.length cap] 37)=w0:=⟨_,rfl⟩;rw [hw0] at b0 x0 ha0;have hs0:w0.heap.size=w.heap.size+1:=by rw [← hw0]; simp
 obtain ⟨k0,k1,k2⟩:=x0.c3;clear ha g1 g2 g3 g4 hM;go_enter Tryz.func20,Tryz.ntmps20;go_wp2;clear k0 k1 k2 hw0 e1 e2 e3 e4;go_loopw [3,27] (fun m i wr=>∃ k:Nat,k≤l.length∧i=.int .i64 k∧m=.int .i64 (ZaA (l.take k))∧Hid (Zag n p (l.take k))∧Below w0.heap.size w0 wr) (fun _ i _=>l.length-(intOf i).toNat)
 case atStart=>exact ⟨0,Nat.zero_le _,rfl,rfl,symsOk_nil _ _,Below.refl _ _⟩
 case round =>
  obtain ⟨k,hk,rfl,rfl,HS,hbw⟩:=hrel;have x1:=x0.next hbw;by_cases hlt:k<l.length
  ·obtain ⟨⟨at_,val⟩,hx⟩:∃ x,l[k]? = some x:=⟨l[k],by simp⟩;obtain ⟨b,off,rfl,hb,hcell⟩:=ZbT (ha0.next hbw) rfl (by omega);obtain ⟨c1,c2⟩:=hcell k _ hx
   have HT:Hid (l.take (k+1)=l.take k++[(at_,val)]):=by
    show l.take (k+1)=l.take k++[(at_,val)]
    rw [List.take_add_one,hx]; rfl
   have hm:=Zb8 HH.out HS.out;rw [HM.out] at hm;obtain ⟨hm1,hm2⟩:=hm
   have HMO:Hid (ZaA (l.take k)≤at_→at_<M→0≤val→val≤255→Zag n p (l.take (k+1))):=fun h1 h2 h3 h4=>by
    rw [HT.out];exact symsOk_more HH.out HS.out h1 (by rw [HM.out]; exact h2) h3 h4
   have HLE:Hid (Zag n p l→ZaA (l.take k)≤at_∧at_<M∧0≤val∧val≤255):=fun h=>by
    have h1:=symsOk_take h (k+1);rw [HT.out] at h1;have h2:=h1.1 (at_,val) (by simp);exact ⟨symsOk_least h1,by rw [← HM.out]; exact h2.2.1,h2.2.2.1,h2.2.2.2⟩
   have HLN:Hid (ZaA (l.take (k+1))=at_+1):=by
    show ZaA (l.take (k+1))=at_+1
    rw [HT.out,leastN_snoc]
   obtain ⟨m,hmm⟩:∃ m,ZaA (l.take k)=m:=⟨_,rfl⟩;rw [hmm] at hm1 hm2 HMO HLE ⊢;have k2:=x1.cell 2 _ rfl;clear hcell hx hmm;go_wp2;have bV:Below w0.heap.size w0 (wr.alloc (.cells #[.int .i64 at_,.int .i64 val] 79)):=hbw.alloc hbw.size _;have xS:=Box.new wr 79 #[.int .i64 at_,.int .i64 val];have xP:=x1.alloc (.cells #[.int .i64 at_,.int .i64 val] 79);obtain ⟨V,hV⟩:∃ V,wr.alloc (.cells #[.int .i64 at_,.int .i64 val] 79)=V:=⟨_,rfl⟩;rw [hV] at bV xS xP ⊢;clear hV c1 c2 k2 x1 hb;have s0:∀ q,(V.drewN q).cell? ⟨wr.heap.size,0,none⟩=some (.int .i64 at_):=fun q=>xS.cell 0 _ rfl
   have bbV:=b0.trans (bV.mono b0.size);by_cases h1:at_<m
   ·have d1:decide (at_<m)=true:=decide_eq_true h1;have HNO:Hid (¬ Zag n p l):=fun h=>by have:=(HLE.out h).1; omega
    clear h1;go_quiet (fail);go_wp2;go_ret;exact ⟨.inr ⟨rfl,HNO.out⟩,ZN bbV _⟩
   have d1:decide (at_<m)=false:=decide_eq_false h1;have v0:=xS.cell 0 _ rfl;have v1:=xS.cell 1 _ rfl;obtain ⟨v2,v3,v4⟩:=xP.c3;clear s0;by_cases h2:M≤at_
   ·have d2:decide (M≤at_)=true:=decide_eq_true h2;have HNO:Hid (¬ Zag n p l):=fun h=>by have:=(HLE.out h).2.1; omega
    clear h1 h2
    first | go_region_with (go_at_call 38; refine (Zau n p M HM.out hM1 hM2 _ _ _ _).mono ?_; rintro e w9 ⟨rfl,b9⟩; have b9V:Below V.heap.size V w9:=(Below.refl V.heap.size V).drew.trans b9; have xS9:=xS.next b9V; have xP9:=xP.next b9V; have r0:=xS9.cell 0 _ rfl; have r1:=xS9.cell 1 _ rfl; have r2:=xP9.cell 0 _ rfl; have r3:=xP9.cell 1 _ rfl; have r4:=xP9.cell 2 _ rfl) | fail
    all_goals (
     go_wp2
     go_ret
     exact ⟨.inr ⟨rfl,HNO.out⟩,bbV.trans (b9V.mono bbV.size)⟩)
   have d2:decide (M≤at_)=false:=decide_eq_false h2;by_cases h3:val<0∨255<val
   ·have HNO:Hid (¬ Zag n p l):=fun h=>by have:=(HLE.out h).2.2; omega
    clear h1 h2
    first | go_region_with (first | (go_at_call 38; refine (Zau n p M HM.out hM1 hM2 _ _ _ _).mono ?_; rintro e w9 ⟨rfl,b9⟩; have b9V:Below V.heap.size V w9:=(Below.refl V.heap.size V).drew.trans b9; have xS9:=xS.next b9V; have xP9:=xP.next b9V; have r0:=xS9.cell 0 _ rfl; have r1:=xS9.cell 1 _ rfl; have r2:=xP9.cell 0 _ rfl; have r3:=xP9.cell 1 _ rfl; have r4:=xP9.cell 2 _ rfl) | (go_at_call 39; refine (isValue_no val h3 _).mono ?_; rintro e w10 ⟨rfl,rfl⟩)) | fail
    all_goals (
     go_wp2
     go_ret
     exact ⟨.inr ⟨rfl,HNO.out⟩,bbV.trans (b9V.mono bbV.size)⟩)
   have h4:0≤val:=by omega
   have h5:val≤255:=by omega
   have HS':Hid (Zag n p (l.take (k+1))):=HMO.out (by omega) (by omega) h4 h5;have h6:0≤at_:=by omega
   have h7:at_≤1024:=by omega
   clear h1 h2 h3
   first | go_region_with (first | (go_at_call 38; refine (Zau n p M HM.out hM1 hM2 _ _ _ _).mono ?_; rintro e w9 ⟨rfl,b9⟩; have b9V:Below V.heap.size V w9:=(Below.refl V.heap.size V).drew.trans b9; have xS9:=xS.next b9V; have xP9:=xP.next b9V; have r0:=xS9.cell 0 _ rfl; have r1:=xS9.cell 1 _ rfl; have r2:=xP9.cell 0 _ rfl; have r3:=xP9.cell 1 _ rfl; have r4:=xP9.cell 2 _ rfl) | (go_at_call 39; refine (Zaa val h4 h5 _).mono ?_; rintro e w10 ⟨rfl,rfl⟩)) | fail
   all_goals (
    go_wp2
    exact ⟨⟨k+1,by omega,by go_num,by rw [HLN.out],HS',bV.trans (b9V.mono bV.size)⟩,by simp [intOf]; omega⟩)
  ·obtain rfl:k=l.length:=by omega
   have HS2:Hid (Zag n p l):=by
    have:=HS.out;rw [List.take_length] at this;exact this
   have k2:=x1.cell 2 _ rfl;clear HS hlt;go_wp2;go_ret;exact ⟨.inl ⟨rfl,HS2.out⟩,b0.trans (hbw.mono b0.size)⟩
theorem Zai (n p:Int) (a:Option Addr) (cap:Nat) (l:List (Int×Int)) (hl:l.length≤4294967296) (hp:Zc n p l) (w:World) (ha:Syms w.heap.size w (.slice a l.length cap) l) :
  Calls Tryz.prog 20 #[.agg #[.int .i64 n,.int .i64 p,.slice a l.length cap]] w fun e w'=>e=.returned (.int .i64 0)∧Below w.heap.size w w':=by
 refine (Check_syms n p hp.1 a cap l hl w ha).mono ?_;rintro e w' ⟨⟨rfl,_⟩ | ⟨_,h⟩,hb⟩
 ·exact ⟨rfl,hb⟩
 ·exact absurd ⟨hp.2.1,hp.2.2⟩ h
theorem New_ok (n p:Int) (h:ZbO n p) (w:World):Calls Tryz.prog 26 #[.int .i64 n,.int .i64 p] w fun e w'=>e=.returned (.tuple #[.agg #[.int .i64 n,.int .i64 p,.slice none 0 0],.int .i64 0])∧Below w.heap.size w w':=by
 have b0:=((Below.refl w.heap.size w).alloc (Nat.le_refl _) (.cells #[.int .i64 0,.int .i64 0,.slice none 0 0] 37)).alloc (by simp) (.cells #[.int .i64 n,.int .i64 p,.slice none 0 0] 37);have x0:=(Box.new w 37 #[.int .i64 0,.int .i64 0,.slice none 0 0]).alloc (.cells #[.int .i64 n,.int .i64 p,.slice none 0 0] 37)
 have x1:Box ((w.alloc (.cells #[.int .i64 0,.int .i64 0,.slice none 0 0] 37)).alloc (.cells #[.int .i64 n,.int .i64 p,.slice none 0 0] 37)) (w.heap.size+1) 37 #[.int .i64 n,.int .i64 p,.slice none 0 0]:=by
  have:=Box.new (w.alloc (.cells #[.int .i64 0,.int .i64 0,.slice none 0 0] 37)) 37 #[.int .i64 n,.int .i64 p,.slice none 0 0];simpa using this
 have HC:=Zai n p none 0 [] (by decide) (ZbA h) ((w.alloc (.cells #[.int .i64 0,.int .i64 0,.slice none 0 0] 37)).alloc (.cells #[.int .i64 n,.int .i64 p,.slice none 0 0] 37)) (ZeF _ _);clear h;go_enter Tryz.func26,Tryz.ntmps26;go_wp2_with fail;refine HC.mono ?_;rintro e w1 ⟨rfl,b1⟩;have bb:=b0.trans (b1.mono (by simp; omega));have y0:=x0.next b1;have y1:=x1.next b1;obtain ⟨c0,c1,c2⟩:=y1.c3;obtain ⟨z0,z1,z2⟩:=y0.c3;obtain ⟨f0,f1,f2⟩:=y0.f3;clear HC b0 b1 x0 x1;go_wp2;refine bodyPost_ret (v:=.tuple #[.agg #[.int .i64 n,.int .i64 p,.slice none 0 0],.int .i64 0]) (by simp [results,Tryz.results26,go_sem,z0,z1,z2]) rfl ⟨rfl,?_⟩;exact Zx bb (Nat.le_refl _) _ _ _
def Zgk (a:Option Addr) (len cap:Nat):Prop:=len≤cap∧∀ ad,a=some ad→ad.spot=none
theorem Zfa {w:World} {base e n cap:Nat} {a:Option Addr} {xs:List Value} (h:w.ownsRow base e 2 (.slice a n cap) n xs):Zgk a n cap:=by
 refine ⟨row_cap2 h,fun ad e=>?_⟩;subst e;rcases h.2 with ⟨e,_⟩ | ⟨g,c,cur,e,_⟩
 ·simp only [Value.slice.injEq] at e; exact absurd e.1 (by simp)
 ·simp only [Value.slice.injEq,Option.some.injEq] at e; rw [e.1]
theorem concat3_num (g n1 n2 n3:Nat) (a1 a2 a3:Option Addr) (c1 c2 c3:Nat) (l1 l2 l3:List (Int×Int)) (e1:l1.length=n1) (e2:l2.length=n2) (e3:l3.length=n3) (p1:n1≤1048576) (p2:n2≤1048576) (p3:n3≤1048576) (h0:0<n1+n2+n3) (w:World)
  (k1:w.cell? ⟨g,0,none⟩=some (.slice a1 n1 c1)) (k2:w.cell? ⟨g,1,none⟩=some (.slice a2 n2 c2)) (k3:w.cell? ⟨g,2,none⟩=some (.slice a3 n3 c3))
  (h1:Syms w.heap.size w (.slice a1 n1 c1) l1) (h2:Syms w.heap.size w (.slice a2 n2 c2) l2) (h3:Syms w.heap.size w (.slice a3 n3 c3) l3) :
  Calls Tryz.prog 72 #[.slice (some ⟨g,0,none⟩) 3 3] w fun e W'=>∃ r,e=.returned r∧W'.ownsRow w.heap.size 79 2 r (n1+n2+n3) (Zb (l1++l2++l3))∧Below w.heap.size w W':=by
 subst e1 e2 e3;exact concat3_ok g a1 a2 a3 c1 c2 c3 l1 l2 l3 p1 p2 p3 h0 w k1 k2 k3 h1 h2 h3
theorem ZbH (k u:Int) (l:List (Int×Int)) (q n3:Nat) (hq:aheadOf l k=q) (hl:l.length≤1024) (e3:l.length-q=n3) (a1 a3:Option Addr) (c1 c3:Nat) (V:World) (hT:Syms V.heap.size V (.slice a1 q c1) (l.take q)) (hD:Syms V.heap.size V (.slice a3 n3 c3) (l.drop q)) :
  Calls Tryz.prog 72 #[.slice (some ⟨V.heap.size+1,0,none⟩) 3 3] ((V.alloc (.cells #[.int .i64 k,.int .i64 u] 79)).alloc (.cells #[.slice a1 q c1,.slice (some ⟨V.heap.size,0,none⟩) 1 1,.slice a3 n3 c3] 35)).drew fun e W'=>∃ a9 c9,e=.returned (.slice a9 (l.length+1) c9)∧W'.ownsRow (V.heap.size+2) 79 2 (.slice a9 (l.length+1) c9) (l.length+1) (Zb (putL l k u))∧Below V.heap.size V W':=by
 have hql:q≤l.length:=by rw [← hq]; exact Z6 l k
 have b2:Below V.heap.size V ((V.alloc (.cells #[.int .i64 k,.int .i64 u] 79)).alloc (.cells #[.slice a1 q c1,.slice (some ⟨V.heap.size,0,none⟩) 1 1,.slice a3 n3 c3] 35)).drew:=(((Below.refl _ V).alloc (Nat.le_refl _) _).alloc (by simp) _).drew;have xb:=(Box.new V 79 #[.int .i64 k,.int .i64 u]).alloc (.cells #[.slice a1 q c1,.slice (some ⟨V.heap.size,0,none⟩) 1 1,.slice a3 n3 c3] 35)
 have xg:Box ((V.alloc (.cells #[.int .i64 k,.int .i64 u] 79)).alloc (.cells #[.slice a1 q c1,.slice (some ⟨V.heap.size,0,none⟩) 1 1,.slice a3 n3 c3] 35)).drew (V.heap.size+1) 35 #[.slice a1 q c1,.slice (some ⟨V.heap.size,0,none⟩) 1 1,.slice a3 n3 c3]:=by
  have:=Box.new (V.alloc (.cells #[.int .i64 k,.int .i64 u] 79)) 35 #[.slice a1 q c1,.slice (some ⟨V.heap.size,0,none⟩) 1 1,.slice a3 n3 c3];rw [show (V.alloc (.cells #[.int .i64 k,.int .i64 u] 79)).heap.size=V.heap.size+1 by simp] at this;exact this
 have hN:Syms ((V.alloc (.cells #[.int .i64 k,.int .i64 u] 79)).alloc (.cells #[.slice a1 q c1,.slice (some ⟨V.heap.size,0,none⟩) 1 1,.slice a3 n3 c3] 35)).drew.heap.size ((V.alloc (.cells #[.int .i64 k,.int .i64 u] 79)).alloc (.cells #[.slice a1 q c1,.slice (some ⟨V.heap.size,0,none⟩) 1 1,.slice a3 n3 c3] 35)).drew (.slice (some ⟨V.heap.size,0,none⟩) 1 1) [(k,u)]:=by
  refine .inr ⟨V.heap.size,0,1,rfl,xb.lt,fun j x hj=>?_⟩
  cases j with
  | zero=>simp at hj; subst hj; exact ⟨xb.cell 0 _ rfl,xb.cell 1 _ rfl⟩
  | succ j=>simp at hj
 refine (concat3_num (V.heap.size+1) q 1 n3 a1 (some ⟨V.heap.size,0,none⟩) a3 c1 1 c3 (l.take q) [(k,u)] (l.drop q) (by rw [List.length_take]; omega) rfl (by rw [List.length_drop]; exact e3) (by omega) (by omega) (by omega) (by omega) _ (xg.cell 0 _ rfl) (xg.cell 1 _ rfl) (xg.cell 2 _ rfl) (hT.next b2) hN (hD.next b2)).mono ?_;rintro e W' ⟨r,rfl,o,b⟩;have hn:q+1+n3=l.length+1:=by omega
 have hc:l.take q++[(k,u)]++l.drop q=putL l k u:=by unfold putL; rw [hq]; simp
 rw [hn,hc] at o;have hs:=(ZE o).shape;rw [syms_row_len o] at hs;obtain ⟨a9,c9,rfl⟩:=hs;exact ⟨a9,c9,rfl,Zr o (by simp [World.drew]),b2.trans (b.mono (by have:=b2.size; omega))⟩
theorem Put_stands (n p:Int) (k u:Int) (k0:0≤k) (hk:k≤9223372036854775807) (u0:0≤u) (u1:u≤255) (a:Option Addr) (cap:Nat) (l:List (Int×Int)) (q:Nat) (hq:aheadOf l k=q) (ht:ZO l k=true) (hp:Zc n p l) (w:World) (ha:Syms w.heap.size w (.slice a l.length cap) l) :
  Calls Tryz.prog 57 #[.agg #[.int .i64 n,.int .i64 p,.slice a l.length cap],.int .i64 k,.int .i64 u] w fun e W'=>∃ r,e=.returned (.tuple #[.agg #[.int .i64 n,.int .i64 p,r],.bool false,.int .i64 0])∧W'.ownsRow w.heap.size 79 2 r l.length (Zb l)∧Below w.heap.size w W':=by
 have hl:l.length≤1024:=by have:=Zap hp; have:=hp.1.prod; omega
 have HP:Hid (Zc n p l):=hp;have hpr:=hp.1.prod;obtain ⟨M,hM⟩:∃ M,n * p=M:=⟨_,rfl⟩;have HM:Hid (n * p=M):=hM;rw [hM] at hpr;obtain ⟨hM1,hM2⟩:=hpr;have b0:=((Below.refl w.heap.size w).alloc (Nat.le_refl _) (.cells #[.int .i64 n,.int .i64 p,.slice a l.length cap] 37)).alloc (by simp) (.cells #[.int .i64 0,.int .i64 0,.slice none 0 0] 37);have xP:Box ((w.alloc (.cells #[.int .i64 n,.int .i64 p,.slice a l.length cap] 37)).alloc (.cells #[.int .i64 0,.int .i64 0,.slice none 0 0] 37)) w.heap.size 37 #[.int .i64 n,.int .i64 p,.slice a l.length cap]:=(Box.new w 37 #[.int .i64 n,.int .i64 p,.slice a l.length cap]).alloc (.cells #[.int .i64 0,.int .i64 0,.slice none 0 0] 37)
 have xR:Box ((w.alloc (.cells #[.int .i64 n,.int .i64 p,.slice a l.length cap] 37)).alloc (.cells #[.int .i64 0,.int .i64 0,.slice none 0 0] 37)) (w.heap.size+1) 37 #[.int .i64 0,.int .i64 0,.slice none 0 0]:=by
  have:=Box.new (w.alloc (.cells #[.int .i64 n,.int .i64 p,.slice a l.length cap] 37)) 37 #[.int .i64 0,.int .i64 0,.slice none 0 0];simpa using this
 have ha0:=ha.next b0;have HC:=Zai n p a cap l (by omega) hp _ ha0;have dk:decide (k<0)=false:=decide_eq_false (by omega);have HA:Hid (aheadOf l k=q):=hq;have HT:Hid (ZO l k=true):=ht;clear hp ha hM hq ht;go_enter Tryz.func57,Tryz.ntmps57;go_wp2_with fail;refine HC.mono ?_;rintro e w1 ⟨rfl,b1⟩;replace xP:=xP.next b1;replace xR:=xR.next b1;have ha1:=ha0.next b1;have bb1:=b0.trans (b1.mono (by simp; omega));clear b0 b1 HC ha0;obtain ⟨c0,c1,c2⟩:=xP.c3;go_wp2_with fail;refine (Zaa u u0 u1 _).mono ?_;rintro e w2 ⟨rfl,rfl⟩;go_wp2_with fail;refine (ZbW k a cap l (by omega) HP.out.2.2 w1 ha1).mono ?_;rw [HA.out,HT.out];rintro e w3 ⟨rfl,b3⟩;replace xP:=xP.next b3;replace xR:=xR.next b3;replace ha1:=ha1.next b3;have bb3:=bb1.trans (b3.mono bb1.size);clear b3 bb1 c0 c1 c2;obtain ⟨c0,c1,c2⟩:=xP.c3;go_wp2_with fail;refine (ZeJ a cap l (by omega) w3 ha1).mono ?_;rintro e w5 ⟨r,rfl,o5,b5⟩;obtain ⟨ar,cr,rfl⟩:=(ZE o5).shape;have hx1:w.heap.size<w3.heap.size:=xP.lt;have hx2:w.heap.size+1<w3.heap.size:=xR.lt;replace xP:=xP.next b5;replace xR:=xR.next b5;have bb5:=bb3.trans (b5.mono bb3.size);clear b5 bb3 c0 c1 c2 ha1;obtain ⟨c0,c1,c2⟩:=xP.c3;have cf:=xP.free 2;obtain ⟨z0,z1,z2⟩:=xR.c3;obtain ⟨f0,f1,f2⟩:=xR.f3;go_wp2;refine bodyPost_ret (v:=.tuple #[.agg #[.int .i64 n,.int .i64 p,.slice ar l.length cr],.bool false,.int .i64 0]) (by simp [results,Tryz.results57,go_sem,z0,z1,z2]) rfl ⟨_,rfl,?_,?_⟩
 ·exact Zr (Zbz (ownsRow_setCell_below o5 (a:=⟨w.heap.size,2,none⟩) hx1 _) hx2 _ _ _) (by omega)
 ·exact Zx (bb5.setCell (p:=⟨w.heap.size,2,none⟩) (Nat.le_refl _) _) (D:=w.heap.size+1) (by omega) _ _ _
theorem Put_beyond (n p:Int) (k u:Int) (k0:0≤k) (hk:k≤9223372036854775807) (u0:0≤u) (u1:u≤255) (a:Option Addr) (cap:Nat) (l:List (Int×Int)) (q:Nat) (hq:aheadOf l k=q) (ht:ZO l k=false) (hMk:n * p≤k) (hp:Zc n p l) (w:World) (ha:Syms w.heap.size w (.slice a l.length cap) l) :
  Calls Tryz.prog 57 #[.agg #[.int .i64 n,.int .i64 p,.slice a l.length cap],.int .i64 k,.int .i64 u] w fun e W'=>∃ r,e=.returned (.tuple #[.agg #[.int .i64 n,.int .i64 p,r],.bool false,.int .i64 0])∧W'.ownsRow w.heap.size 79 2 r l.length (Zb l)∧Below w.heap.size w W':=by
 have hl:l.length≤1024:=by have:=Zap hp; have:=hp.1.prod; omega
 have HP:Hid (Zc n p l):=hp;have hpr:=hp.1.prod;obtain ⟨M,hM⟩:∃ M,n * p=M:=⟨_,rfl⟩;have HM:Hid (n * p=M):=hM;rw [hM] at hpr hMk;obtain ⟨hM1,hM2⟩:=hpr;have b0:=((Below.refl w.heap.size w).alloc (Nat.le_refl _) (.cells #[.int .i64 n,.int .i64 p,.slice a l.length cap] 37)).alloc (by simp) (.cells #[.int .i64 0,.int .i64 0,.slice none 0 0] 37);have xP:Box ((w.alloc (.cells #[.int .i64 n,.int .i64 p,.slice a l.length cap] 37)).alloc (.cells #[.int .i64 0,.int .i64 0,.slice none 0 0] 37)) w.heap.size 37 #[.int .i64 n,.int .i64 p,.slice a l.length cap]:=(Box.new w 37 #[.int .i64 n,.int .i64 p,.slice a l.length cap]).alloc (.cells #[.int .i64 0,.int .i64 0,.slice none 0 0] 37)
 have xR:Box ((w.alloc (.cells #[.int .i64 n,.int .i64 p,.slice a l.length cap] 37)).alloc (.cells #[.int .i64 0,.int .i64 0,.slice none 0 0] 37)) (w.heap.size+1) 37 #[.int .i64 0,.int .i64 0,.slice none 0 0]:=by
  have:=Box.new (w.alloc (.cells #[.int .i64 n,.int .i64 p,.slice a l.length cap] 37)) 37 #[.int .i64 0,.int .i64 0,.slice none 0 0];simpa using this
 have ha0:=ha.next b0;have HC:=Zai n p a cap l (by omega) hp _ ha0;have dk:decide (k<0)=false:=decide_eq_false (by omega);have HA:Hid (aheadOf l k=q):=hq;have HT:Hid (ZO l k=false):=ht;clear hp ha hM hq ht;go_enter Tryz.func57,Tryz.ntmps57;go_wp2_with fail;refine HC.mono ?_;rintro e w1 ⟨rfl,b1⟩;replace xP:=xP.next b1;replace xR:=xR.next b1;have ha1:=ha0.next b1;have bb1:=b0.trans (b1.mono (by simp; omega));clear b0 b1 HC ha0;obtain ⟨c0,c1,c2⟩:=xP.c3;go_wp2_with fail;refine (Zaa u u0 u1 _).mono ?_;rintro e w2 ⟨rfl,rfl⟩;go_wp2_with fail;refine (ZbW k a cap l (by omega) HP.out.2.2 w1 ha1).mono ?_;rw [HA.out,HT.out];rintro e w3 ⟨rfl,b3⟩;replace xP:=xP.next b3;replace xR:=xR.next b3;replace ha1:=ha1.next b3;have bb3:=bb1.trans (b3.mono bb1.size);clear b3 bb1 c0 c1 c2;obtain ⟨c0,c1,c2⟩:=xP.c3;have dM:decide (M≤k)=true:=decide_eq_true (by omega);clear hMk;go_wp2_with fail;refine (Zau n p M HM.out hM1 hM2 a l.length cap w3).mono ?_;rintro e w4 ⟨rfl,b4⟩;replace xP:=xP.next b4;replace xR:=xR.next b4;replace ha1:=ha1.next b4;have bb4:=bb3.trans (b4.mono bb3.size);clear b4 bb3 c0 c1 c2;obtain ⟨c0,c1,c2⟩:=xP.c3;go_wp2_with fail;refine (ZeJ a cap l (by omega) w4 ha1).mono ?_;rintro e w5 ⟨r,rfl,o5,b5⟩;obtain ⟨ar,cr,rfl⟩:=(ZE o5).shape;have hx1:w.heap.size<w4.heap.size:=xP.lt;have hx2:w.heap.size+1<w4.heap.size:=xR.lt;replace xP:=xP.next b5;replace xR:=xR.next b5;have bb5:=bb4.trans (b5.mono bb4.size);clear b5 bb4 c0 c1 c2 ha1;obtain ⟨c0,c1,c2⟩:=xP.c3;have cf:=xP.free 2;obtain ⟨z0,z1,z2⟩:=xR.c3;obtain ⟨f0,f1,f2⟩:=xR.f3;go_wp2;refine bodyPost_ret (v:=.tuple #[.agg #[.int .i64 n,.int .i64 p,.slice ar l.length cr],.bool false,.int .i64 0]) (by simp [results,Tryz.results57,go_sem,z0,z1,z2]) rfl ⟨_,rfl,?_,?_⟩
 ·exact Zr (Zbz (ownsRow_setCell_below o5 (a:=⟨w.heap.size,2,none⟩) hx1 _) hx2 _ _ _) (by omega)
 ·exact Zx (bb5.setCell (p:=⟨w.heap.size,2,none⟩) (Nat.le_refl _) _) (D:=w.heap.size+1) (by omega) _ _ _
theorem Put_fresh1 (n p:Int) (k u:Int) (k0:0≤k) (hk:k≤9223372036854775807) (u0:0≤u) (u1:u≤255) (b off cap:Nat) (l:List (Int×Int)) (q:Nat) (hq:aheadOf l k=q) (ht:ZO l k=false) (hMk:k<n * p) (hqn:q<l.length) (hqc:q<cap) (hp:Zc n p l) (w:World) (ha:Syms w.heap.size w (.slice (some ⟨b,off,none⟩) l.length cap) l) :
  Calls Tryz.prog 57 #[.agg #[.int .i64 n,.int .i64 p,.slice (some ⟨b,off,none⟩) l.length cap],.int .i64 k,.int .i64 u] w fun e W'=>∃ r,e=.returned (.tuple #[.agg #[.int .i64 n,.int .i64 p,r],.bool true,.int .i64 0])∧W'.ownsRow w.heap.size 79 2 r (l.length+1) (Zb (putL l k u))∧Below w.heap.size w W':=by
 have hl:l.length≤1024:=by have:=Zap hp; have:=hp.1.prod; omega
 have HP:Hid (Zc n p l):=hp;have hpr:=hp.1.prod;obtain ⟨M,hM⟩:∃ M,n * p=M:=⟨_,rfl⟩;have HM:Hid (n * p=M):=hM;rw [hM] at hpr hMk;obtain ⟨hM1,hM2⟩:=hpr;have b0:=((Below.refl w.heap.size w).alloc (Nat.le_refl _) (.cells #[.int .i64 n,.int .i64 p,.slice (some ⟨b,off,none⟩) l.length cap] 37)).alloc (by simp) (.cells #[.int .i64 0,.int .i64 0,.slice none 0 0] 37);have xP:Box ((w.alloc (.cells #[.int .i64 n,.int .i64 p,.slice (some ⟨b,off,none⟩) l.length cap] 37)).alloc (.cells #[.int .i64 0,.int .i64 0,.slice none 0 0] 37)) w.heap.size 37 #[.int .i64 n,.int .i64 p,.slice (some ⟨b,off,none⟩) l.length cap]:=(Box.new w 37 #[.int .i64 n,.int .i64 p,.slice (some ⟨b,off,none⟩) l.length cap]).alloc (.cells #[.int .i64 0,.int .i64 0,.slice none 0 0] 37)
 have xR:Box ((w.alloc (.cells #[.int .i64 n,.int .i64 p,.slice (some ⟨b,off,none⟩) l.length cap] 37)).alloc (.cells #[.int .i64 0,.int .i64 0,.slice none 0 0] 37)) (w.heap.size+1) 37 #[.int .i64 0,.int .i64 0,.slice none 0 0]:=by
  have:=Box.new (w.alloc (.cells #[.int .i64 n,.int .i64 p,.slice (some ⟨b,off,none⟩) l.length cap] 37)) 37 #[.int .i64 0,.int .i64 0,.slice none 0 0];simpa using this
 have ha0:=ha.next b0;have HC:=Zai n p (some ⟨b,off,none⟩) cap l (by omega) hp _ ha0;have dk:decide (k<0)=false:=decide_eq_false (by omega);have HA:Hid (aheadOf l k=q):=hq;have HT:Hid (ZO l k=false):=ht;clear hp ha hM hq ht;go_enter Tryz.func57,Tryz.ntmps57;go_wp2_with fail;refine HC.mono ?_;rintro e w1 ⟨rfl,b1⟩;replace xP:=xP.next b1;replace xR:=xR.next b1;have ha1:=ha0.next b1;have bb1:=b0.trans (b1.mono (by simp; omega));clear b0 b1 HC ha0;obtain ⟨c0,c1,c2⟩:=xP.c3;go_wp2_with fail;refine (Zaa u u0 u1 _).mono ?_;rintro e w2 ⟨rfl,rfl⟩;go_wp2_with fail;refine (ZbW k (some ⟨b,off,none⟩) cap l (by omega) HP.out.2.2 w1 ha1).mono ?_;rw [HA.out,HT.out];rintro e w3 ⟨rfl,b3⟩;replace xP:=xP.next b3;replace xR:=xR.next b3;replace ha1:=ha1.next b3;have bb3:=bb1.trans (b3.mono bb1.size);clear b3 bb1 c0 c1 c2;obtain ⟨c0,c1,c2⟩:=xP.c3;have dM:decide (M≤k)=false:=decide_eq_false (by omega);clear hMk;go_wp2_with fail;refine (Zau n p M HM.out hM1 hM2 (some ⟨b,off,none⟩) l.length cap w3).mono ?_;rintro e w4 ⟨rfl,b4⟩;replace xP:=xP.next b4;replace xR:=xR.next b4;replace ha1:=ha1.next b4;have bb4:=bb3.trans (b4.mono bb3.size);clear b4 bb3 c0 c1 c2;obtain ⟨c0,c1,c2⟩:=xP.c3;have hql:q≤l.length:=by have h:=Z6 l k; rw [HA.out] at h; exact h
 have hcne:¬ cap=q:=by omega
 have hT:Syms w4.heap.size w4 (.slice (some ⟨b,off,none⟩) q cap) (l.take q):=Zdw ha1 rfl q hql cap (fun e=>by cases e);have hD:Syms w4.heap.size w4 (.slice (some ⟨b,off+q * 2,none⟩) (l.length-q) (cap-q)) (l.drop q):=syms_drop ha1 rfl q hqn _;have HCP:=ZbH k u l q (l.length-q) HA.out hl (by omega) (some ⟨b,off,none⟩) (some ⟨b,off+q * 2,none⟩) cap (cap-q) w4 hT hD;have hx1:w.heap.size<w4.heap.size:=xP.lt;have hx2:w.heap.size+1<w4.heap.size:=xR.lt;clear hT hD ha1;go_wp2;have c2D:w4.drew.cell? ⟨w.heap.size,2,none⟩=some (.slice (some ⟨b,off,none⟩) l.length cap):=xP.cell 2 _ rfl;have c2A:(w4.alloc (.cells #[.int .i64 k,.int .i64 u] 79)).drew.cell? ⟨w.heap.size,2,none⟩=some (.slice (some ⟨b,off,none⟩) l.length cap):=(xP.alloc _).cell 2 _ rfl
 first | go_region_with (go_at_call 72; refine HCP.mono ?_; rintro e w9 ⟨a9,c9,rfl,o9,b9⟩; have xP9:=xP.next b9; have xR9:=xR.next b9; have m0:=xP9.cell 0 _ rfl; have m1:=xP9.cell 1 _ rfl; have m2:=xP9.cell 2 _ rfl; have mf:=xP9.free 2) | fail
 all_goals (
  have bb9:=bb4.trans (b9.mono bb4.size)
  obtain ⟨z0,z1,z2⟩:=xR9.c3
  obtain ⟨f0,f1,f2⟩:=xR9.f3
  go_wp2
  refine bodyPost_ret (v:=.tuple #[.agg #[.int .i64 n,.int .i64 p,.slice a9 (l.length+1) c9],.bool true,.int .i64 0]) (by simp [results,Tryz.results57,go_sem,z0,z1,z2]) rfl ⟨_,rfl,?_,?_⟩
  ·exact Zr (Zbz (ownsRow_setCell_below o9 (a:=⟨w.heap.size,2,none⟩) (by simp; omega) _) (by omega) _ _ _) (by omega)
  ·exact Zx (bb9.setCell (p:=⟨w.heap.size,2,none⟩) (Nat.le_refl _) _) (D:=w.heap.size+1) (by omega) _ _ _)
theorem Put_fresh2 (n p:Int) (k u:Int) (k0:0≤k) (hk:k≤9223372036854775807) (u0:0≤u) (u1:u≤255) (cap:Nat) (l:List (Int×Int)) (q:Nat) (hq:aheadOf l k=q) (ht:ZO l k=false) (hMk:k<n * p) (hp:Zc n p l) (w:World) (ha:Syms w.heap.size w (.slice none l.length cap) l) :
  Calls Tryz.prog 57 #[.agg #[.int .i64 n,.int .i64 p,.slice none l.length cap],.int .i64 k,.int .i64 u] w fun e W'=>∃ r,e=.returned (.tuple #[.agg #[.int .i64 n,.int .i64 p,r],.bool true,.int .i64 0])∧W'.ownsRow w.heap.size 79 2 r (l.length+1) (Zb (putL l k u))∧Below w.heap.size w W':=by
 obtain ⟨rfl,rfl⟩:l=[]∧cap=0:=by
  rcases ha with ⟨⟨a',c',e,h'⟩,h⟩ | ⟨b',off',c',e,_⟩
  ·simp only [Value.slice.injEq] at e;obtain ⟨rfl,_,rfl⟩:=e;exact ⟨h,h' rfl⟩
  ·simp only [Value.slice.injEq] at e; exact absurd e.1 (by simp)
 obtain rfl:q=0:=by rw [← hq]; rfl
 have hl:0≤1024:=by have:=Zap hp; have:=hp.1.prod; omega
 have HP:Hid (Zc n p ([]:List (Int×Int))):=hp;have hpr:=hp.1.prod;obtain ⟨M,hM⟩:∃ M,n * p=M:=⟨_,rfl⟩;have HM:Hid (n * p=M):=hM;rw [hM] at hpr hMk;obtain ⟨hM1,hM2⟩:=hpr;have b0:=((Below.refl w.heap.size w).alloc (Nat.le_refl _) (.cells #[.int .i64 n,.int .i64 p,.slice none 0 0] 37)).alloc (by simp) (.cells #[.int .i64 0,.int .i64 0,.slice none 0 0] 37);have xP:Box ((w.alloc (.cells #[.int .i64 n,.int .i64 p,.slice none 0 0] 37)).alloc (.cells #[.int .i64 0,.int .i64 0,.slice none 0 0] 37)) w.heap.size 37 #[.int .i64 n,.int .i64 p,.slice none 0 0]:=(Box.new w 37 #[.int .i64 n,.int .i64 p,.slice none 0 0]).alloc (.cells #[.int .i64 0,.int .i64 0,.slice none 0 0] 37)
 have xR:Box ((w.alloc (.cells #[.int .i64 n,.int .i64 p,.slice none 0 0] 37)).alloc (.cells #[.int .i64 0,.int .i64 0,.slice none 0 0] 37)) (w.heap.size+1) 37 #[.int .i64 0,.int .i64 0,.slice none 0 0]:=by
  have:=Box.new (w.alloc (.cells #[.int .i64 n,.int .i64 p,.slice none 0 0] 37)) 37 #[.int .i64 0,.int .i64 0,.slice none 0 0];simpa using this
 have ha0:=ha.next b0;have HC:=Zai n p none 0 ([]:List (Int×Int)) (by decide) hp _ ha0;have dk:decide (k<0)=false:=decide_eq_false (by omega);have HA:Hid (aheadOf ([]:List (Int×Int)) k=0):=hq;have HT:Hid (ZO ([]:List (Int×Int)) k=false):=ht;clear hp ha hM hq ht;go_enter Tryz.func57,Tryz.ntmps57;go_wp2_with fail;refine HC.mono ?_;rintro e w1 ⟨rfl,b1⟩;replace xP:=xP.next b1;replace xR:=xR.next b1;have ha1:=ha0.next b1;have bb1:=b0.trans (b1.mono (by simp; omega));clear b0 b1 HC ha0;obtain ⟨c0,c1,c2⟩:=xP.c3;go_wp2_with fail;refine (Zaa u u0 u1 _).mono ?_;rintro e w2 ⟨rfl,rfl⟩;go_wp2_with fail;refine (ZbW k none 0 ([]:List (Int×Int)) (by decide) HP.out.2.2 w1 ha1).mono ?_;rw [HA.out,HT.out];rintro e w3 ⟨rfl,b3⟩;replace xP:=xP.next b3;replace xR:=xR.next b3;replace ha1:=ha1.next b3;have bb3:=bb1.trans (b3.mono bb1.size);clear b3 bb1 c0 c1 c2;obtain ⟨c0,c1,c2⟩:=xP.c3;have dM:decide (M≤k)=false:=decide_eq_false (by omega);clear hMk;go_wp2_with fail;refine (Zau n p M HM.out hM1 hM2 none 0 0 w3).mono ?_;rintro e w4 ⟨rfl,b4⟩;replace xP:=xP.next b4;replace xR:=xR.next b4;replace ha1:=ha1.next b4;have bb4:=bb3.trans (b4.mono bb3.size);clear b4 bb3 c0 c1 c2;obtain ⟨c0,c1,c2⟩:=xP.c3;have hql:0≤0:=by have h:=Z6 ([]:List (Int×Int)) k; rw [HA.out] at h; exact h
 have hT:Syms w4.heap.size w4 (.slice none 0 0) (([]:List (Int×Int)).take 0):=ZeF _ _;have hD:Syms w4.heap.size w4 (.slice none 0 0) (([]:List (Int×Int)).drop 0):=ZeF _ _;have HCP:=ZbH k u ([]:List (Int×Int)) 0 0 HA.out hl (by decide) none none 0 0 w4 hT hD;have hx1:w.heap.size<w4.heap.size:=xP.lt;have hx2:w.heap.size+1<w4.heap.size:=xR.lt;clear hT hD ha1;go_wp2;have c2D:w4.drew.cell? ⟨w.heap.size,2,none⟩=some (.slice none 0 0):=xP.cell 2 _ rfl;have c2A:(w4.alloc (.cells #[.int .i64 k,.int .i64 u] 79)).drew.cell? ⟨w.heap.size,2,none⟩=some (.slice none 0 0):=(xP.alloc _).cell 2 _ rfl
 first | go_region_with (go_at_call 72; refine HCP.mono ?_; rintro e w9 ⟨a9,c9,rfl,o9,b9⟩; have xP9:=xP.next b9; have xR9:=xR.next b9; have m0:=xP9.cell 0 _ rfl; have m1:=xP9.cell 1 _ rfl; have m2:=xP9.cell 2 _ rfl; have mf:=xP9.free 2) | fail
 all_goals (
  have bb9:=bb4.trans (b9.mono bb4.size)
  obtain ⟨z0,z1,z2⟩:=xR9.c3
  obtain ⟨f0,f1,f2⟩:=xR9.f3
  go_wp2
  refine bodyPost_ret (v:=.tuple #[.agg #[.int .i64 n,.int .i64 p,.slice a9 (0+1) c9],.bool true,.int .i64 0]) (by simp [results,Tryz.results57,go_sem,z0,z1,z2]) rfl ⟨_,rfl,?_,?_⟩
  ·exact Zr (Zbz (ownsRow_setCell_below o9 (a:=⟨w.heap.size,2,none⟩) (by simp; omega) _) (by omega) _ _ _) (by omega)
  ·exact Zx (bb9.setCell (p:=⟨w.heap.size,2,none⟩) (Nat.le_refl _) _) (D:=w.heap.size+1) (by omega) _ _ _)
theorem Put_fresh3 (n p:Int) (k u:Int) (k0:0≤k) (hk:k≤9223372036854775807) (u0:0≤u) (u1:u≤255) (b off cap:Nat) (l:List (Int×Int)) (q:Nat) (hq:aheadOf l k=q) (ht:ZO l k=false) (hMk:k<n * p) (hqn:l.length=q) (hqc:q<cap) (hp:Zc n p l) (w:World) (ha:Syms w.heap.size w (.slice (some ⟨b,off,none⟩) l.length cap) l) :
  Calls Tryz.prog 57 #[.agg #[.int .i64 n,.int .i64 p,.slice (some ⟨b,off,none⟩) l.length cap],.int .i64 k,.int .i64 u] w fun e W'=>∃ r,e=.returned (.tuple #[.agg #[.int .i64 n,.int .i64 p,r],.bool true,.int .i64 0])∧W'.ownsRow w.heap.size 79 2 r (l.length+1) (Zb (putL l k u))∧Below w.heap.size w W':=by
 subst hqn;have hl:l.length≤1024:=by have:=Zap hp; have:=hp.1.prod; omega
 have HP:Hid (Zc n p l):=hp;have hpr:=hp.1.prod;obtain ⟨M,hM⟩:∃ M,n * p=M:=⟨_,rfl⟩;have HM:Hid (n * p=M):=hM;rw [hM] at hpr hMk;obtain ⟨hM1,hM2⟩:=hpr;have b0:=((Below.refl w.heap.size w).alloc (Nat.le_refl _) (.cells #[.int .i64 n,.int .i64 p,.slice (some ⟨b,off,none⟩) l.length cap] 37)).alloc (by simp) (.cells #[.int .i64 0,.int .i64 0,.slice none 0 0] 37);have xP:Box ((w.alloc (.cells #[.int .i64 n,.int .i64 p,.slice (some ⟨b,off,none⟩) l.length cap] 37)).alloc (.cells #[.int .i64 0,.int .i64 0,.slice none 0 0] 37)) w.heap.size 37 #[.int .i64 n,.int .i64 p,.slice (some ⟨b,off,none⟩) l.length cap]:=(Box.new w 37 #[.int .i64 n,.int .i64 p,.slice (some ⟨b,off,none⟩) l.length cap]).alloc (.cells #[.int .i64 0,.int .i64 0,.slice none 0 0] 37)
 have xR:Box ((w.alloc (.cells #[.int .i64 n,.int .i64 p,.slice (some ⟨b,off,none⟩) l.length cap] 37)).alloc (.cells #[.int .i64 0,.int .i64 0,.slice none 0 0] 37)) (w.heap.size+1) 37 #[.int .i64 0,.int .i64 0,.slice none 0 0]:=by
  have:=Box.new (w.alloc (.cells #[.int .i64 n,.int .i64 p,.slice (some ⟨b,off,none⟩) l.length cap] 37)) 37 #[.int .i64 0,.int .i64 0,.slice none 0 0];simpa using this
 have ha0:=ha.next b0;have HC:=Zai n p (some ⟨b,off,none⟩) cap l (by omega) hp _ ha0;have dk:decide (k<0)=false:=decide_eq_false (by omega);have HA:Hid (aheadOf l k=l.length):=hq;have HT:Hid (ZO l k=false):=ht;clear hp ha hM hq ht;go_enter Tryz.func57,Tryz.ntmps57;go_wp2_with fail;refine HC.mono ?_;rintro e w1 ⟨rfl,b1⟩;replace xP:=xP.next b1;replace xR:=xR.next b1;have ha1:=ha0.next b1;have bb1:=b0.trans (b1.mono (by simp; omega));clear b0 b1 HC ha0;obtain ⟨c0,c1,c2⟩:=xP.c3;go_wp2_with fail;refine (Zaa u u0 u1 _).mono ?_;rintro e w2 ⟨rfl,rfl⟩;go_wp2_with fail;refine (ZbW k (some ⟨b,off,none⟩) cap l (by omega) HP.out.2.2 w1 ha1).mono ?_;rw [HA.out,HT.out];rintro e w3 ⟨rfl,b3⟩;replace xP:=xP.next b3;replace xR:=xR.next b3;replace ha1:=ha1.next b3;have bb3:=bb1.trans (b3.mono bb1.size);clear b3 bb1 c0 c1 c2;obtain ⟨c0,c1,c2⟩:=xP.c3;have dM:decide (M≤k)=false:=decide_eq_false (by omega);clear hMk;go_wp2_with fail;refine (Zau n p M HM.out hM1 hM2 (some ⟨b,off,none⟩) l.length cap w3).mono ?_;rintro e w4 ⟨rfl,b4⟩;replace xP:=xP.next b4;replace xR:=xR.next b4;replace ha1:=ha1.next b4;have bb4:=bb3.trans (b4.mono bb3.size);clear b4 bb3 c0 c1 c2;obtain ⟨c0,c1,c2⟩:=xP.c3;have hql:l.length≤l.length:=by have h:=Z6 l k; rw [HA.out] at h; exact h
 have HDN:Hid (l.drop l.length=[]):=List.drop_of_length_le (by omega);have hcne:¬ cap=l.length:=by omega
 have hT:Syms w4.heap.size w4 (.slice (some ⟨b,off,none⟩) l.length cap) (l.take l.length):=Zdw ha1 rfl l.length hql cap (fun e=>by cases e);have hD:Syms w4.heap.size w4 (.slice (some ⟨b,off+l.length * 2,none⟩) 0 (cap-l.length)) (l.drop l.length):=by rw [HDN.out]; exact Zed _ _
 have HCP:=ZbH k u l l.length 0 HA.out hl (by omega) (some ⟨b,off,none⟩) (some ⟨b,off+l.length * 2,none⟩) cap (cap-l.length) w4 hT hD;have hx1:w.heap.size<w4.heap.size:=xP.lt;have hx2:w.heap.size+1<w4.heap.size:=xR.lt;clear hT hD ha1;go_wp2;have c2D:w4.drew.cell? ⟨w.heap.size,2,none⟩=some (.slice (some ⟨b,off,none⟩) l.length cap):=xP.cell 2 _ rfl;have c2A:(w4.alloc (.cells #[.int .i64 k,.int .i64 u] 79)).drew.cell? ⟨w.heap.size,2,none⟩=some (.slice (some ⟨b,off,none⟩) l.length cap):=(xP.alloc _).cell 2 _ rfl
 first | go_region_with (go_at_call 72; refine HCP.mono ?_; rintro e w9 ⟨a9,c9,rfl,o9,b9⟩; have xP9:=xP.next b9; have xR9:=xR.next b9; have m0:=xP9.cell 0 _ rfl; have m1:=xP9.cell 1 _ rfl; have m2:=xP9.cell 2 _ rfl; have mf:=xP9.free 2) | fail
 all_goals (
  have bb9:=bb4.trans (b9.mono bb4.size)
  obtain ⟨z0,z1,z2⟩:=xR9.c3
  obtain ⟨f0,f1,f2⟩:=xR9.f3
  go_wp2
  refine bodyPost_ret (v:=.tuple #[.agg #[.int .i64 n,.int .i64 p,.slice a9 (l.length+1) c9],.bool true,.int .i64 0]) (by simp [results,Tryz.results57,go_sem,z0,z1,z2]) rfl ⟨_,rfl,?_,?_⟩
  ·exact Zr (Zbz (ownsRow_setCell_below o9 (a:=⟨w.heap.size,2,none⟩) (by simp; omega) _) (by omega) _ _ _) (by omega)
  ·exact Zx (bb9.setCell (p:=⟨w.heap.size,2,none⟩) (Nat.le_refl _) _) (D:=w.heap.size+1) (by omega) _ _ _)
theorem Put_fresh4 (n p:Int) (k u:Int) (k0:0≤k) (hk:k≤9223372036854775807) (u0:0≤u) (u1:u≤255) (b off cap:Nat) (l:List (Int×Int)) (q:Nat) (hq:aheadOf l k=q) (ht:ZO l k=false) (hMk:k<n * p) (hqn:l.length=q) (hqc:cap=q) (hp:Zc n p l) (w:World) (ha:Syms w.heap.size w (.slice (some ⟨b,off,none⟩) l.length cap) l) :
  Calls Tryz.prog 57 #[.agg #[.int .i64 n,.int .i64 p,.slice (some ⟨b,off,none⟩) l.length cap],.int .i64 k,.int .i64 u] w fun e W'=>∃ r,e=.returned (.tuple #[.agg #[.int .i64 n,.int .i64 p,r],.bool true,.int .i64 0])∧W'.ownsRow w.heap.size 79 2 r (l.length+1) (Zb (putL l k u))∧Below w.heap.size w W':=by
 subst hqn;subst hqc;have hl:l.length≤1024:=by have:=Zap hp; have:=hp.1.prod; omega
 have HP:Hid (Zc n p l):=hp;have hpr:=hp.1.prod;obtain ⟨M,hM⟩:∃ M,n * p=M:=⟨_,rfl⟩;have HM:Hid (n * p=M):=hM;rw [hM] at hpr hMk;obtain ⟨hM1,hM2⟩:=hpr;have b0:=((Below.refl w.heap.size w).alloc (Nat.le_refl _) (.cells #[.int .i64 n,.int .i64 p,.slice (some ⟨b,off,none⟩) l.length l.length] 37)).alloc (by simp) (.cells #[.int .i64 0,.int .i64 0,.slice none 0 0] 37);have xP:Box ((w.alloc (.cells #[.int .i64 n,.int .i64 p,.slice (some ⟨b,off,none⟩) l.length l.length] 37)).alloc (.cells #[.int .i64 0,.int .i64 0,.slice none 0 0] 37)) w.heap.size 37 #[.int .i64 n,.int .i64 p,.slice (some ⟨b,off,none⟩) l.length l.length]:=(Box.new w 37 #[.int .i64 n,.int .i64 p,.slice (some ⟨b,off,none⟩) l.length l.length]).alloc (.cells #[.int .i64 0,.int .i64 0,.slice none 0 0] 37)
 have xR:Box ((w.alloc (.cells #[.int .i64 n,.int .i64 p,.slice (some ⟨b,off,none⟩) l.length l.length] 37)).alloc (.cells #[.int .i64 0,.int .i64 0,.slice none 0 0] 37)) (w.heap.size+1) 37 #[.int .i64 0,.int .i64 0,.slice none 0 0]:=by
  have:=Box.new (w.alloc (.cells #[.int .i64 n,.int .i64 p,.slice (some ⟨b,off,none⟩) l.length l.length] 37)) 37 #[.int .i64 0,.int .i64 0,.slice none 0 0];simpa using this
 have ha0:=ha.next b0;have HC:=Zai n p (some ⟨b,off,none⟩) l.length l (by omega) hp _ ha0;have dk:decide (k<0)=false:=decide_eq_false (by omega);have HA:Hid (aheadOf l k=l.length):=hq;have HT:Hid (ZO l k=false):=ht;clear hp ha hM hq ht;go_enter Tryz.func57,Tryz.ntmps57;go_wp2_with fail;refine HC.mono ?_;rintro e w1 ⟨rfl,b1⟩;replace xP:=xP.next b1;replace xR:=xR.next b1;have ha1:=ha0.next b1;have bb1:=b0.trans (b1.mono (by simp; omega));clear b0 b1 HC ha0;obtain ⟨c0,c1,c2⟩:=xP.c3;go_wp2_with fail;refine (Zaa u u0 u1 _).mono ?_;rintro e w2 ⟨rfl,rfl⟩;go_wp2_with fail;refine (ZbW k (some ⟨b,off,none⟩) l.length l (by omega) HP.out.2.2 w1 ha1).mono ?_;rw [HA.out,HT.out];rintro e w3 ⟨rfl,b3⟩;replace xP:=xP.next b3;replace xR:=xR.next b3;replace ha1:=ha1.next b3;have bb3:=bb1.trans (b3.mono bb1.size);clear b3 bb1 c0 c1 c2;obtain ⟨c0,c1,c2⟩:=xP.c3;have dM:decide (M≤k)=false:=decide_eq_false (by omega);clear hMk;go_wp2_with fail;refine (Zau n p M HM.out hM1 hM2 (some ⟨b,off,none⟩) l.length l.length w3).mono ?_;rintro e w4 ⟨rfl,b4⟩;replace xP:=xP.next b4;replace xR:=xR.next b4;replace ha1:=ha1.next b4;have bb4:=bb3.trans (b4.mono bb3.size);clear b4 bb3 c0 c1 c2;obtain ⟨c0,c1,c2⟩:=xP.c3;have hql:l.length≤l.length:=by have h:=Z6 l k; rw [HA.out] at h; exact h
 have HDN:Hid (l.drop l.length=[]):=List.drop_of_length_le (by omega);have hT:Syms w4.heap.size w4 (.slice (some ⟨b,off,none⟩) l.length l.length) (l.take l.length):=Zdw ha1 rfl l.length hql l.length (fun e=>by cases e);have hD:Syms w4.heap.size w4 (.slice (some ⟨b,off,none⟩) 0 0) (l.drop l.length):=by rw [HDN.out]; exact Zed _ _
 have HCP:=ZbH k u l l.length 0 HA.out hl (by omega) (some ⟨b,off,none⟩) (some ⟨b,off,none⟩) l.length 0 w4 hT hD;have hx1:w.heap.size<w4.heap.size:=xP.lt;have hx2:w.heap.size+1<w4.heap.size:=xR.lt;clear hT hD ha1;go_wp2;have c2D:w4.drew.cell? ⟨w.heap.size,2,none⟩=some (.slice (some ⟨b,off,none⟩) l.length l.length):=xP.cell 2 _ rfl;have c2A:(w4.alloc (.cells #[.int .i64 k,.int .i64 u] 79)).drew.cell? ⟨w.heap.size,2,none⟩=some (.slice (some ⟨b,off,none⟩) l.length l.length):=(xP.alloc _).cell 2 _ rfl
 first | go_region_with (go_at_call 72; refine HCP.mono ?_; rintro e w9 ⟨a9,c9,rfl,o9,b9⟩; have xP9:=xP.next b9; have xR9:=xR.next b9; have m0:=xP9.cell 0 _ rfl; have m1:=xP9.cell 1 _ rfl; have m2:=xP9.cell 2 _ rfl; have mf:=xP9.free 2) | fail
 all_goals (
  have bb9:=bb4.trans (b9.mono bb4.size)
  obtain ⟨z0,z1,z2⟩:=xR9.c3
  obtain ⟨f0,f1,f2⟩:=xR9.f3
  go_wp2
  refine bodyPost_ret (v:=.tuple #[.agg #[.int .i64 n,.int .i64 p,.slice a9 (l.length+1) c9],.bool true,.int .i64 0]) (by simp [results,Tryz.results57,go_sem,z0,z1,z2]) rfl ⟨_,rfl,?_,?_⟩
  ·exact Zr (Zbz (ownsRow_setCell_below o9 (a:=⟨w.heap.size,2,none⟩) (by simp; omega) _) (by omega) _ _ _) (by omega)
  ·exact Zx (bb9.setCell (p:=⟨w.heap.size,2,none⟩) (Nat.le_refl _) _) (D:=w.heap.size+1) (by omega) _ _ _)
end Go.Proofs.YtkigbanldiialaaGreatDoor
