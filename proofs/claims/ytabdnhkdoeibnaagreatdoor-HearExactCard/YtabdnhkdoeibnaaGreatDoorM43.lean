/-
  What bit.Join answers, for every row of numbers: refused, if too long or not even (2), or if one is not from 0 to 15 (1); else the bytes, in new memory.
-/
import Derived.Test.YtabdnhkdoeibnaaGreatDoorM04
import Derived.Test.YtabdnhkdoeibnaaGreatDoorM23
set_option maxRecDepth 100000
set_option maxHeartbeats 4000000
namespace Go.Proofs.YtabdnhkdoeibnaaGreatDoor
open Go.RowKit Go.Shelf
attribute [local go_sem] Oper.semAt_some
theorem infoByte:(Tryz.prog.info? 5).map (fun i=>(i.zero,i.size,i.bytes))=some (some (.int .u8 0),1,1):=by kernel_rfl
theorem wnil1_in (n:Nat) (l Bl Be Bw:Nat) (a:Option Addr) (cap:Nat) (J:List Int→World→Prop) (W:World) (hBl:W.cell? ⟨Bl,0,none⟩=some (.slice a 0 cap)) (h0:J [] W) :
  CallsIn Fence.wide n Tryz.prog 133 #[.func (.yield l) #[] #[],.pointer (some ⟨Bl,0,none⟩),.pointer (some ⟨Be,0,none⟩),.pointer (some ⟨Bw,0,none⟩)] W fun e W'=>(∃ v,e=.returned v)∧J [] W':=by
 refine callsIn_of_wp Tryz.func133 rfl trivial ?_ rfl;simp only [Tryz.ntmps133,List.size_toArray,List.length_cons,List.length_nil,Nat.reduceAdd,Nat.reduceSub,Array.replicate_succ,Array.replicate_zero,List.push_toArray,List.append_toArray,List.nil_append,List.cons_append];gi_wp2;gi_loopw [5] (fun i wr=>i=.int .i64 0∧J [] wr∧wr=W) (fun _ _=>0)
 case atStart=>exact ⟨rfl,h0,rfl⟩
 case round =>
  obtain ⟨rfl,hJs,rfl⟩:=hrel;gi_wp2;go_end0;exact ⟨⟨_,rfl⟩,hJs⟩
theorem wholes4_in (n:Nat) (a:Option Addr) (len cap:Nat) (w:World) :
  CallsIn Fence.wide n Tryz.prog 110 #[.slice a len cap,.int .i64 4] w fun e w'=>e=.returned (.func (.func 133) #[] #[.pointer (some ⟨w.heap.size,0,none⟩),.pointer (some ⟨w.heap.size+2,0,none⟩),.pointer (some ⟨w.heap.size+1,0,none⟩)]) ∧
   w'=((w.alloc (.cells #[.slice a len cap] 74)).alloc (.cells #[.int .i64 4] 3)).alloc (.cells #[.int .i64 2] 3):=by
 refine callsIn_of_wp Tryz.func110 rfl trivial ?_ rfl;simp only [Tryz.ntmps110,List.size_toArray,List.length_cons,List.length_nil,Nat.reduceAdd,Nat.reduceSub,Array.replicate_succ,Array.replicate_zero,List.push_toArray,List.append_toArray,List.nil_append,List.cons_append];gi_wp2;go_ret;exact ⟨rfl,rfl⟩
theorem join_stops (n:Nat) (hn:1≤n) (Bl Be Bw n₀:Nat) (a:Option Addr) (cap:Nat) (ls:List Int) (kk:Nat) (hkk:ls.length=2 * kk) (hcap:ls.length≤cap) (hl:ls.length≤32768) (hz:∀ z∈ls,0≤z∧z<16) (w:World) (hBl:Bl<w.heap.size) (hBe:Be<w.heap.size) (hBw:Bw<w.heap.size) (hn₀:n₀≤w.heap.size)
  (hcl:w.cell? ⟨Bl,0,none⟩=some (.slice a ls.length cap)) (hce:w.cell? ⟨Be,0,none⟩=some (.int .i64 2)) (hcw:w.cell? ⟨Bw,0,none⟩=some (.int .i64 4)) (hI:Zb .i64 n₀ w (.slice a ls.length cap) ls) :
  SeqStopsK Fence.wide n Tryz.prog 133 #[.pointer (some ⟨Bl,0,none⟩),.pointer (some ⟨Be,0,none⟩),.pointer (some ⟨Bw,0,none⟩)] (fun x:Int=>#[Value.int .u8 x]) (KpP3 n₀ Bl Be Bw) (fun ys=>ys=Zn 4 2 ls kk) (fun pre=>pre <+: Zn 4 2 ls kk) kk w:=fun l J Jx W hW _ _ hY h0=>by
 have hl':=(hW.cell (p:=⟨Bl,0,none⟩) hBl).trans hcl
 have he':=(hW.cell (p:=⟨Be,0,none⟩) hBe).trans hce
 have hw':=(hW.cell (p:=⟨Bw,0,none⟩) hBw).trans hcw
 rcases hI.below (hW.mono hn₀) with ⟨_,rfl⟩ | ⟨b,off,cap',e,hb,hcs⟩
 ·have hk0:kk=0:=by simp at hkk; omega
  subst hk0
  exact (wnil1_in n l Bl Be Bw a cap J W hl' h0).mono fun e W' ⟨he,hj⟩=>⟨he,.inl ⟨_,rfl,hj⟩⟩
 ·cases e
  exact wholes41_in n hn l Bl Be Bw n₀ b off ls.length cap ls rfl kk hkk hcap hl hz hb J Jx hY W hl' he' hw' hcs h0
theorem fits4_in (n:Nat) (z:Int) (w:World) :
  CallsIn Fence.wide n Tryz.prog 78 #[.int .i64 z,.int .i64 4] w fun e w'=>e=.returned (.bool (decide (0≤z∧z<16)))∧w=w':=by
 refine callsIn_wide.2 ?_;by_cases h:0≤z∧z<16
 ·rw [decide_eq_true h];exact ZhJ z 4 w h.1 (by decide) (by decide) (by show z / 16=0; omega)
 ·rw [decide_eq_false h];exact fits_no z 4 w (by decide) (by decide) (by show z<0∨¬ z / 16=0; omega)
theorem fits4_yes_in (n:Nat) (z:Int) (w:World) (h:0≤z∧z<16) :
  CallsIn Fence.wide n Tryz.prog 78 #[.int .i64 z,.int .i64 4] w fun e w'=>e=.returned (.bool true)∧w=w':=by
 have e:=fits4_in n z w;rw [decide_eq_true h] at e;exact e
theorem joinOk_in (n:Nat) (hn:3≤n) (a:Option Addr) (cap:Nat) (ls:List Int) (kk:Nat) (hkk:ls.length=2 * kk) (hl:ls.length≤32768) (hcap:ls.length≤cap) (hz:∀ z∈ls,0≤z∧z<16) (w:World) (hH:Zb .i64 w.heap.size w (.slice a ls.length cap) ls) :
  CallsIn Fence.wide n Tryz.prog 84 #[.slice a ls.length cap,.int .i64 4] w fun e W'=>∃ r,e=.returned (.tuple #[r,.int .i64 0])∧W'.ownsRow w.heap.size 5 1 r kk ((Zn 4 2 ls kk).map (Value.int .u8))∧Below w.heap.size w W':=by
 have h1:1≤n:=by omega
 have hn1:1≤n-1:=by omega
 obtain ⟨i0,hi,hz0,hz1,hz2⟩:=info_parts infoByte;have d1:decide (32768<(ls.length:Int))=false:=by simp; omega
 have d2:(((ls.length:Int) % 2) != 0)=false:=by rw [bne_eq_false_iff_eq]; omega
 have ek:(ls.length:Int) / 2=(kk:Int):=by omega
 have hk1:kk≤32768:=by omega
 have HKK:Hid (ls.length=2 * kk):=hkk;have HZ:Hid (∀ z∈ls,0≤z∧z<16):=hz;have f1:Fence.wide.fn 78:=trivial;have f2:Fence.wide.fn 110:=trivial;clear hkk hz;refine callsIn_of_wp_marks Tryz.func84 rfl trivial ?_ rfl;simp only [Tryz.ntmps84,List.size_toArray,List.length_cons,List.length_nil,Nat.reduceAdd,Nat.reduceSub,Array.replicate_succ,Array.replicate_zero,List.push_toArray,List.append_toArray,List.nil_append,List.cons_append];gi_wp2;gi_loop [25] (fun i=>∃ k:Nat,k≤ls.length∧i=.int .i64 k) (fun i=>ls.length-(intOf i).toNat)
 case atStart=>exact ⟨0,Nat.zero_le _,rfl⟩
 case round =>
  obtain ⟨k,hk,rfl⟩:=hrel;by_cases hlt:k<ls.length
  ·obtain ⟨z,hzk⟩:∃ z,ls[k]? = some z:=⟨ls[k],by simp⟩;have hf:=HZ.out z (List.mem_of_getElem? hzk);rcases hH with ⟨_,e⟩ | ⟨b,off,cap',e,_,hcs⟩
   ·rw [e] at hlt; exact absurd hlt (by simp)
   ·cases e
    have c1:w.cell? ⟨b,off+k,none⟩=some (.int .i64 z):=(hcs k hlt).trans (by rw [hzk]; rfl);clear hcs;have HFT:Hid (0≤z∧z<16):=hf;clear hf hzk;gi_wp2_with (gi_at_call 78; refine (fits4_yes_in (n-1) z w HFT.out).mono ?_; rintro e w' ⟨rfl,rfl⟩);exact ⟨⟨k+1,by omega,by go_num⟩,by simp [intOf]; omega⟩
  ·obtain rfl:k=ls.length:=by omega
   gi_wp2_with (first | (gi_at_make; refine wpListIn_make_own _ rfl _ _ 27 rfl w.heap.size 5 i0 (.int .u8 0) 1 Tryz.underlying27 hi hz0 hz1 .i64 .i64 _ kk rfl rfl rfl (by rw [hz2]; omega) (by unfold maxLen; omega) (Nat.le_refl _) ?_; intro w1 hown1 hgrow1) | (gi_at_call 110; refine (wholes4_in (n-1) _ _ _ _).mono ?_; rintro e w' ⟨rfl,rfl⟩));have hg0:w.heap.size<w1.heap.size:=(hown1.lt w.heap.size rfl).2;have bO:=(((Boxed.new w1 27 (.slice (some ⟨w.heap.size,0,none⟩) 0 kk)).alloc (.cells #[.slice a ls.length cap] 74)).alloc (.cells #[.int .i64 4] 3)).alloc (.cells #[.int .i64 2] 3);have bB:=((Boxed.new (w1.alloc (.cells #[.slice (some ⟨w.heap.size,0,none⟩) 0 kk] 27)) 74 (.slice a ls.length cap)).alloc (.cells #[.int .i64 4] 3)).alloc (.cells #[.int .i64 2] 3);have bW:=(Boxed.new ((w1.alloc (.cells #[.slice (some ⟨w.heap.size,0,none⟩) 0 kk] 27)).alloc (.cells #[.slice a ls.length cap] 74)) 3 (.int .i64 4)).alloc (.cells #[.int .i64 2] 3);have bE:=Boxed.new (((w1.alloc (.cells #[.slice (some ⟨w.heap.size,0,none⟩) 0 kk] 27)).alloc (.cells #[.slice a ls.length cap] 74)).alloc (.cells #[.int .i64 4] 3)) 3 (.int .i64 2);have hrow4:=(((hown1.alloc (.cells #[.slice (some ⟨w.heap.size,0,none⟩) 0 kk] 27)).alloc (.cells #[.slice a ls.length cap] 74)).alloc (.cells #[.int .i64 4] 3)).alloc (.cells #[.int .i64 2] 3);have hB01:Below w.heap.size w w1:=(Below.refl _ w).grown hgrow1 (Nat.le_refl _) (fun k e=>by cases e);have hB04:=((((hB01.alloc (by omega) (.cells #[.slice (some ⟨w.heap.size,0,none⟩) 0 kk] 27)).alloc (by simp; omega) (.cells #[.slice a ls.length cap] 74)).alloc (by simp; omega) (.cells #[.int .i64 4] 3)).alloc (by simp; omega) (.cells #[.int .i64 2] 3));simp only [World.size_alloc] at bB bW bE;obtain ⟨w4,hw4⟩:∃ w4,((((w1.alloc (.cells #[.slice (some ⟨w.heap.size,0,none⟩) 0 kk] 27)).alloc (.cells #[.slice a ls.length cap] 74)).alloc (.cells #[.int .i64 4] 3)).alloc (.cells #[.int .i64 2] 3))=w4:=⟨_,rfl⟩;have hsz:w4.heap.size=w1.heap.size+1+1+1+1:=by rw [← hw4]; simp
   rw [hw4] at bO bB bW bE hrow4 hB04 ⊢;clear hw4 hown1 hgrow1 hB01;have hsz4:w1.heap.size+4≤w4.heap.size:=by omega
   clear hsz
   refine wpIn_rangeFunc_ownG rfl h1 (gf:=133) (lb:=#[.pointer (some ⟨w1.heap.size+1,0,none⟩),.pointer (some ⟨w1.heap.size+1+2,0,none⟩),.pointer (some ⟨w1.heap.size+1+1,0,none⟩)]) rfl trivial (enters_of Tryz.func133 (by kernel_rfl) rfl)
    (join_stops (n-1) hn1 (w1.heap.size+1) (w1.heap.size+1+2) (w1.heap.size+1+1) w.heap.size a cap ls kk HKK.out hcap hl HZ.out w4 (by omega) (by omega) (by omega) (by omega) bB.cell bE.cell bW.cell (hH.below hB04))
    (fun h k=>h.trans k) (fun W l o o' hl ho hc hw=>⟨belowK_b (w:=w4) (by omega) W l o o' hl ho hc hw,World.putObj_heap_other (by omega),World.putObj_heap_other (by omega),World.putObj_heap_other (by omega)⟩) (Below.refl _ _) (fun _=>rfl)
    (fun pre W=>(∃ v,Boxed W w1.heap.size 27 v∧W.ownsRow w.heap.size 5 1 v pre.length (pre.map (Value.int .u8))∧v=.slice (some ⟨w.heap.size,0,none⟩) pre.length kk)∧Below w.heap.size w4 W)
    (fun _ _ _=>False)
    (OwnFrom.and (Own.from (holdsRow_own w.heap.size w1.heap.size 27 5 1 (fun pre:List Int=>pre.length) (fun pre:List Int=>pre.map (Value.int .u8)) (fun (pre:List Int) v=>v=.slice (some ⟨w.heap.size,0,none⟩) pre.length kk)) _) (ownFrom_below (by omega) (by omega)))
    (fun _ _ _ _ _ hs _ _=>hs)
    ⟨⟨_,bO,hrow4,rfl⟩,Below.refl _ _⟩
    (fun x=>{ tmps:=#[.slice a ls.length cap,.int .i64 4,undef,undef,u4,u5,.int .i64 2,undef,u8,.pointer (some ⟨w1.heap.size,0,none⟩),.int .u8 x,.int .i64 4,.int .i64 2,.slice a ls.length cap,.int .i64 ls.length,.bool false,.bool false,.slice a ls.length cap,.int .i64 ls.length,.int .i64 2,.int .i64 (ls.length % 2),.bool false,.bool false,.slice a ls.length cap,.int .i64 ls.length,.int .i64 ls.length,.bool false,u27,u28,u29,u30,u31,u32,u33,.slice a ls.length cap,.int .i64 ls.length,.int .i64 2,.int .i64 kk,.slice (some ⟨w.heap.size,0,none⟩) 0 kk,.slice a ls.length cap,.int .i64 4,
     .func (.func 133) #[] #[.pointer (some ⟨w1.heap.size+1,0,none⟩),.pointer (some ⟨w1.heap.size+1+2,0,none⟩),.pointer (some ⟨w1.heap.size+1+1,0,none⟩)],.int .u8 x,undef,undef,undef,undef,undef],defers:=[] }) ?assign ?body ?done ?stop
   case assign =>
    intro l x W K hK;gi_wp2;exact hK
   case body =>
    rintro l pre x W ⟨⟨v,hv,hrow,rfl⟩,hB⟩ hlt;have hc:=hv.cell;have hs:=hB.size;gi_wp2_with (gi_at_builtin; refine wpListIn_append_fits _ rfl _ _ 27 rfl w.heap.size 5 i0 1 Tryz.underlying27 hi hz1 w.heap.size pre.length kk (pre.map (Value.int .u8)) rfl (hrow.alloc _) ⟨W.heap.size,0,none⟩ 1 1 [.int .u8 x] rfl rfl (cell_one_new _ _ _) (by simp [Value.oneCell']) (by omega) ?_; intro w5 hown' hgrow; obtain ⟨hv1,hv2,hr2,hk2,hb2⟩:=hv.appended (by decide) hrow (by omega) (by omega) hown' hgrow; have hc1:=hv1.cell; have hf1:=hv1.frozen);refine ⟨hk2.from _,⟨hb2,Zdd hgrow (by omega) (by omega) (by omega),Zdd hgrow (by omega) (by omega) (by omega),Zdd hgrow (by omega) (by omega) (by omega)⟩,⟨_,hv2,?_,?_⟩,hB.trans hb2⟩
    ·simpa using hr2
    ·simp
   case done =>
    rintro D ys W hD hys ⟨⟨v,hv,hrow,hveq⟩,hB⟩ hK;have hrow':W.ownsRow w.heap.size 5 1 v kk ((Zn 4 2 ls kk).map (Value.int .u8)):=by rw [hys,ZaH] at hrow; exact hrow
    have hc:=hv.cell;clear hys hrow hveq;gi_wp2;refine ⟨by simp,.inl ⟨_,_,rfl,run_takeDeferred hK,?_⟩⟩;refine ⟨_,results_tmp2 rfl _ _ _,_,rfl,?_,(hB04.trans hB).trans (belowK_b (w:=w4) (by omega) W D _ _ hD hK rfl rfl)⟩;exact ownsRow_putObj hrow' _ hK rfl
   case stop =>
    rintro D c pre W _ _ h _;exact h.elim
theorem join_ok (a:Option Addr) (cap:Nat) (ls:List Int) (kk:Nat) (hkk:ls.length=2 * kk) (hl:ls.length≤32768) (hcap:ls.length≤cap) (hz:∀ z∈ls,0≤z∧z<16) (w:World) (hH:Zb .i64 w.heap.size w (.slice a ls.length cap) ls) :
  Calls Tryz.prog 57 #[.slice a ls.length cap] w fun e W'=>∃ r,e=.returned (.tuple #[r,.int .i64 0])∧W'.ownsRow w.heap.size 5 1 r kk ((Zn 4 2 ls kk).map (Value.int .u8))∧Below w.heap.size w W':=by
 have HK:Hid (ls.length=2 * kk):=hkk;clear hkk;go_enter Tryz.func57,Tryz.ntmps57;go_wp2_with (go_at_call 84; refine (callsIn_wide.1 (joinOk_in 3 (Nat.le_refl _) a cap ls kk HK.out hl hcap hz w hH)).mono ?_; rintro e w' ⟨r,rfl,hr,hb⟩);go_ret2;exact ⟨r,rfl,hr,hb⟩
end Go.Proofs.YtabdnhkdoeibnaaGreatDoor
