/-
  What bit.Bits and bit.Nibbles answer, for every text in memory: the bits, the nibbles of its bytes, in new memory; a text of more than 4096 bytes is refused.
-/
import Derived.Test.YtabdnhkdoeibnaaGreatDoorM02
import Derived.Test.YtabdnhkdoeibnaaGreatDoorM03
set_option maxRecDepth 100000
set_option maxHeartbeats 4000000
namespace Go.Proofs.YtabdnhkdoeibnaaGreatDoor
open Go.RowKit Go.Shelf
attribute [local go_sem] Oper.semAt_some
theorem grown_drew' (w:World) (row:Option Nat):w.grownBy w.drew row:=⟨rfl,rfl,rfl,Nat.le_refl _,fun _ _ _=>rfl⟩
theorem Zdd {W w5:World} {tmp:Obj} {g B k:Nat} {v':Value} (hgrow:(W.alloc tmp).grownBy w5 (some g)) (hk:k<W.heap.size) (h1:k≠g) (h2:k≠B):(w5.setCell ⟨B,0,none⟩ v').heap[k]? = W.heap[k]?:=by
 rw [Below.heap_setCell _ _ _ _ h2];exact (hgrow.block k (by simp; omega) (by simpa using h1)).trans (Below.heap_alloc W tmp k hk)
theorem isLong_in (n:Nat) (a:Option Addr) (len cap:Nat) (w:World) (h:len≤4611686018427387904) :
  CallsIn Fence.wide n Tryz.prog 136 #[.slice a len cap] w fun e w'=>e=.returned (.bool (decide (4096<len)))∧w=w':=by
 refine callsIn_of_wp Tryz.func136 rfl trivial ?_ rfl;simp only [Tryz.ntmps136,List.size_toArray,List.length_cons,List.length_nil,Nat.reduceAdd,Nat.reduceSub,Array.replicate_succ,Array.replicate_zero,List.push_toArray,List.append_toArray,List.nil_append,List.cons_append];gi_wp2;go_ret;refine ⟨?_,rfl⟩;simp;omega
theorem isLong_no (n:Nat) (a:Option Addr) (len cap:Nat) (w:World) (h2:len≤4096) :
  CallsIn Fence.wide n Tryz.prog 136 #[.slice a len cap] w fun e w'=>e=.returned (.bool false)∧w=w':=by
 have e:=isLong_in n a len cap w (by omega);rw [decide_eq_false (by omega)] at e;exact e
theorem infoInt:(Tryz.prog.info? 3).map (fun i=>(i.zero,i.size,i.bytes))=some (some (.int .i64 0),1,8):=by kernel_rfl
theorem nil1_in (n:Nat) (l Bb Bw Bm:Nat) (a:Option Addr) (cap:Nat) (J:List Int→World→Prop) (W:World) (hBb:W.cell? ⟨Bb,0,none⟩=some (.slice a 0 cap)) (h0:J [] W) :
  CallsIn Fence.wide n Tryz.prog 150 #[.func (.yield l) #[] #[],.pointer (some ⟨Bb,0,none⟩),.pointer (some ⟨Bw,0,none⟩),.pointer (some ⟨Bm,0,none⟩)] W fun e W'=>(∃ v,e=.returned v)∧J [] W':=by
 refine callsIn_of_wp Tryz.func150 rfl trivial ?_ rfl;simp only [Tryz.ntmps150,List.size_toArray,List.length_cons,List.length_nil,Nat.reduceAdd,Nat.reduceSub,Array.replicate_succ,Array.replicate_zero,List.push_toArray,List.append_toArray,List.nil_append,List.cons_append];gi_wp2;gi_loopw [10] (fun i wr=>i=.int .i64 0∧J [] wr) (fun _ _=>0)
 case atStart=>exact ⟨rfl,h0⟩
 case round =>
  obtain ⟨rfl,hJs⟩:=hrel;gi_wp2;go_end0;exact ⟨⟨_,rfl⟩,hJs⟩
theorem pieces4_in (n:Nat) (a:Option Addr) (len cap:Nat) (w:World) :
  CallsIn Fence.wide n Tryz.prog 137 #[.slice a len cap,.int .i64 4] w fun e w'=>e=.returned (.func (.func 150) #[] #[.pointer (some ⟨w.heap.size,0,none⟩),.pointer (some ⟨w.heap.size+1,0,none⟩),.pointer (some ⟨w.heap.size+2,0,none⟩)]) ∧
   w'=((w.alloc (.cells #[.slice a len cap] 27)).alloc (.cells #[.int .i64 4] 3)).alloc (.cells #[.int .i64 15] 3):=by
 refine callsIn_of_wp Tryz.func137 rfl trivial ?_ rfl;simp only [Tryz.ntmps137,List.size_toArray,List.length_cons,List.length_nil,Nat.reduceAdd,Nat.reduceSub,Array.replicate_succ,Array.replicate_zero,List.push_toArray,List.append_toArray,List.nil_append,List.cons_append];gi_wp2;go_ret;exact ⟨rfl,rfl⟩
theorem nibs_stops (n:Nat) (hn:1≤n) (Bb Bw Bm n₀:Nat) (v:Value) (zs:List Int) (hl:zs.length≤4097) (hz:∀ z∈zs,0≤z∧z≤255) (w:World) (hBb:Bb<w.heap.size) (hBw:Bw<w.heap.size) (hBm:Bm<w.heap.size) (hn₀:n₀≤w.heap.size)
  (hcb:w.cell? ⟨Bb,0,none⟩=some v) (hcw:w.cell? ⟨Bw,0,none⟩=some (.int .i64 4)) (hcm:w.cell? ⟨Bm,0,none⟩=some (.int .i64 15)) (hI:Zb .u8 n₀ w v zs) :
  SeqStopsK Fence.wide n Tryz.prog 150 #[.pointer (some ⟨Bb,0,none⟩),.pointer (some ⟨Bw,0,none⟩),.pointer (some ⟨Bm,0,none⟩)] (fun x:Int=>#[Value.int .i64 x]) (KpP n₀ Bw Bm) (fun ys=>ys=zs.flatMap Zu) (fun pre=>pre <+: zs.flatMap Zu) (2 * zs.length) w:=fun l J Jx W hW hJ _ hY h0=>by
 have hb':=(hW.cell (p:=⟨Bb,0,none⟩) hBb).trans hcb
 have hw':=(hW.cell (p:=⟨Bw,0,none⟩) hBw).trans hcw
 have hm':=(hW.cell (p:=⟨Bm,0,none⟩) hBm).trans hcm
 rcases hI.below (hW.mono hn₀) with ⟨⟨a,cap,rfl,_⟩,rfl⟩ | ⟨b,off,cap,rfl,hb,hcs⟩
 ·exact (nil1_in n l Bb Bw Bm a cap J W hb' h0).mono fun e W' ⟨he,hj⟩=>⟨he,.inl ⟨_,rfl,hj⟩⟩
 ·exact nibs1_in n hn l Bb Bw Bm n₀ b off zs.length cap zs rfl hl hz hb J Jx (fun pre A hA=>hJ pre A A.drew none hA (grown_drew' A none) (fun r e=>by cases e)) hY W hb' hw' hm' hcs h0
theorem takeNibs_in (n:Nat) (hn:3≤n) (v:Value) (zs:List Int) (hl:zs.length≤4096) (hz:∀ z∈zs,0≤z∧z≤255) (w:World) (hH:Zb .u8 w.heap.size w v zs) :
  CallsIn Fence.wide n Tryz.prog 113 #[v,.int .i64 4] w fun e W'=>∃ r,e=.returned (.tuple #[r,.int .i64 0])∧W'.ownsRow w.heap.size 3 1 r (2 * zs.length) ((zs.flatMap Zu).map (Value.int .i64))∧Below w.heap.size w W':=by
 have h1:1≤n:=by omega
 obtain ⟨a,cap,rfl⟩:=hH.shape;obtain ⟨i0,hi,hz0,hz1,hz2⟩:=info_parts infoInt;have hflat:(zs.flatMap Zu).length=2 * zs.length:=by have:=Zei Zu 2 (fun _=>rfl) zs zs.length (Nat.le_refl _); rwa [List.take_length] at this
 have HF:Hid ((zs.flatMap Zu).length=2 * zs.length):=hflat;clear hflat;refine callsIn_of_wp_marks Tryz.func113 rfl trivial ?_ rfl;simp only [Tryz.ntmps113,List.size_toArray,List.length_cons,List.length_nil,Nat.reduceAdd,Nat.reduceSub,Array.replicate_succ,Array.replicate_zero,List.push_toArray,List.append_toArray,List.nil_append,List.cons_append];have f1:Fence.wide.fn 136:=trivial;have f2:Fence.wide.fn 137:=trivial;gi_wp2_with (first | (gi_at_call 136; refine (isLong_no (n-1) _ _ _ _ hl).mono ?_; rintro e w' ⟨rfl,rfl⟩) | (gi_at_make; refine wpListIn_make_own _ rfl _ _ 74 rfl w.heap.size 3 i0 (.int .i64 0) 1 Tryz.underlying74 hi hz0 hz1 .i64 .i64 _ (2 * zs.length) rfl rfl (by omega) (by rw [hz2]; omega) (by unfold maxLen; omega) (Nat.le_refl _) ?_; intro w1 hown1 hgrow1) | (gi_at_call 137; refine (pieces4_in (n-1) _ _ _ _).mono ?_; rintro e w' ⟨rfl,rfl⟩));have hg0:w.heap.size<w1.heap.size:=(hown1.lt w.heap.size rfl).2;have bO:=(((Boxed.new w1 74 (.slice (some ⟨w.heap.size,0,none⟩) 0 (2 * zs.length))).alloc (.cells #[.slice a zs.length cap] 27)).alloc (.cells #[.int .i64 4] 3)).alloc (.cells #[.int .i64 15] 3);have bB:=((Boxed.new (w1.alloc (.cells #[.slice (some ⟨w.heap.size,0,none⟩) 0 (2 * zs.length)] 74)) 27 (.slice a zs.length cap)).alloc (.cells #[.int .i64 4] 3)).alloc (.cells #[.int .i64 15] 3);have bW:=(Boxed.new ((w1.alloc (.cells #[.slice (some ⟨w.heap.size,0,none⟩) 0 (2 * zs.length)] 74)).alloc (.cells #[.slice a zs.length cap] 27)) 3 (.int .i64 4)).alloc (.cells #[.int .i64 15] 3);have bM:=Boxed.new (((w1.alloc (.cells #[.slice (some ⟨w.heap.size,0,none⟩) 0 (2 * zs.length)] 74)).alloc (.cells #[.slice a zs.length cap] 27)).alloc (.cells #[.int .i64 4] 3)) 3 (.int .i64 15);have hrow4:=(((hown1.alloc (.cells #[.slice (some ⟨w.heap.size,0,none⟩) 0 (2 * zs.length)] 74)).alloc (.cells #[.slice a zs.length cap] 27)).alloc (.cells #[.int .i64 4] 3)).alloc (.cells #[.int .i64 15] 3);have hB01:Below w.heap.size w w1:=(Below.refl _ w).grown hgrow1 (Nat.le_refl _) (fun k e=>by cases e);have hB04:=((((hB01.alloc (by omega) (.cells #[.slice (some ⟨w.heap.size,0,none⟩) 0 (2 * zs.length)] 74)).alloc (by simp; omega) (.cells #[.slice a zs.length cap] 27)).alloc (by simp; omega) (.cells #[.int .i64 4] 3)).alloc (by simp; omega) (.cells #[.int .i64 15] 3));simp only [World.size_alloc] at bB bW bM;obtain ⟨w4,hw4⟩:∃ w4,((((w1.alloc (.cells #[.slice (some ⟨w.heap.size,0,none⟩) 0 (2 * zs.length)] 74)).alloc (.cells #[.slice a zs.length cap] 27)).alloc (.cells #[.int .i64 4] 3)).alloc (.cells #[.int .i64 15] 3))=w4:=⟨_,rfl⟩;have hsz:w4.heap.size=w1.heap.size+1+1+1+1:=by rw [← hw4]; simp
 rw [hw4] at bO bB bW bM hrow4 hB04 ⊢;clear hw4 hown1 hgrow1 hB01;have hsz4:w1.heap.size+4≤w4.heap.size:=by omega
 have HS:Hid (w4.heap.size=w1.heap.size+1+1+1+1):=hsz;clear hsz
 refine wpIn_rangeFunc_ownG rfl h1 (gf:=150) (lb:=#[.pointer (some ⟨w1.heap.size+1,0,none⟩),.pointer (some ⟨w1.heap.size+1+1,0,none⟩),.pointer (some ⟨w1.heap.size+1+2,0,none⟩)]) rfl trivial (enters_of Tryz.func150 (by kernel_rfl) rfl)
  (nibs_stops (n-1) (by omega) (w1.heap.size+1) (w1.heap.size+1+1) (w1.heap.size+1+2) w.heap.size _ zs (by omega) hz w4 (by omega) (by omega) (by omega) (by omega) bB.cell bW.cell bM.cell (hH.below hB04))
  (fun h k=>h.trans k) (fun W l o o' hl ho hc hw=>⟨belowK_b (w:=w4) (by omega) W l o o' hl ho hc hw,World.putObj_heap_other (by omega),World.putObj_heap_other (by omega)⟩) (Below.refl _ _) (fun _=>rfl)
  (fun pre W=>(∃ v,Boxed W w1.heap.size 74 v∧W.ownsRow w.heap.size 3 1 v pre.length (pre.map (Value.int .i64))∧v=.slice (some ⟨w.heap.size,0,none⟩) pre.length (2 * zs.length))∧Below w.heap.size w4 W)
  (fun _ _ _=>False)
  (OwnFrom.and (Own.from (holdsRow_own w.heap.size w1.heap.size 74 3 1 (fun pre:List Int=>pre.length) (fun pre:List Int=>pre.map (Value.int .i64)) (fun (pre:List Int) v=>v=.slice (some ⟨w.heap.size,0,none⟩) pre.length (2 * zs.length))) _) (ownFrom_below (by omega) (by omega)))
  (fun _ _ _ _ _ hs _ _=>hs)
  ⟨⟨_,bO,hrow4,rfl⟩,Below.refl _ _⟩
  (fun x=>{ tmps:=#[.slice a zs.length cap,.int .i64 4,undef,undef,.slice none 0 0,.int .i64 0,.pointer (some ⟨w1.heap.size,0,none⟩),.int .i64 x,.slice a zs.length cap,.bool false,.slice a zs.length cap,.int .i64 zs.length,.int .i64 (zs.length * 8),.int .i64 4,.int .i64 (zs.length * 8 / 4),.slice (some ⟨w.heap.size,0,none⟩) 0 (2 * zs.length),.slice a zs.length cap,.int .i64 4,
   .func (.func 150) #[] #[.pointer (some ⟨w1.heap.size+1,0,none⟩),.pointer (some ⟨w1.heap.size+1+1,0,none⟩),.pointer (some ⟨w1.heap.size+1+2,0,none⟩)],.int .i64 x,undef,undef,undef,undef,undef],defers:=[] }) ?assign ?body ?done ?stop
 case assign =>
  intro l x W K hK;gi_wp2;exact hK
 case body =>
  rintro l pre x W ⟨⟨v,hv,hrow,rfl⟩,hB⟩ hlt;have hc:=hv.cell;have hs:=hB.size;gi_wp2_with (gi_at_builtin; refine wpListIn_append_fits _ rfl _ _ 74 rfl w.heap.size 3 i0 1 Tryz.underlying74 hi hz1 w.heap.size pre.length (2 * zs.length) (pre.map (Value.int .i64)) rfl (hrow.alloc _) ⟨W.heap.size,0,none⟩ 1 1 [.int .i64 x] rfl rfl (cell_one_new _ _ _) (by simp [Value.oneCell']) (by omega) ?_; intro w5 hown' hgrow; obtain ⟨hv1,hv2,hr2,hk2,hb2⟩:=hv.appended (by decide) hrow (by omega) (by omega) hown' hgrow; have hc1:=hv1.cell; have hf1:=hv1.frozen);refine ⟨hk2.from _,⟨hb2,Zdd hgrow (by omega) (by omega) (by omega),Zdd hgrow (by omega) (by omega) (by omega)⟩,⟨_,hv2,?_,?_⟩,hB.trans hb2⟩
  ·simpa using hr2
  ·simp
 case done =>
  rintro D ys W hD hys ⟨⟨v,hv,hrow,hveq⟩,hB⟩ hK;have hrow':W.ownsRow w.heap.size 3 1 v (2 * zs.length) ((zs.flatMap Zu).map (Value.int .i64)):=by rw [← HF.out,← hys]; exact hrow
  have hc:=hv.cell;clear hys hrow hveq;gi_wp2;refine ⟨by simp,.inl ⟨_,_,rfl,run_takeDeferred hK,?_⟩⟩;refine ⟨_,results_tmp2 rfl _ _ _,_,rfl,?_,(hB04.trans hB).trans (belowK_b (w:=w4) (by omega) W D _ _ hD hK rfl rfl)⟩;exact ownsRow_putObj hrow' _ hK rfl
 case stop =>
  rintro D c pre W _ _ h _;exact h.elim
theorem nibs_any (v:Value) (zs:List Int) (hl:zs.length≤4096) (hz:∀ z∈zs,0≤z∧z≤255) (w:World) (hH:Zb .u8 w.heap.size w v zs) :
  Calls Tryz.prog 89 #[v] w fun e W'=>∃ r,e=.returned (.tuple #[r,.int .i64 0])∧W'.ownsRow w.heap.size 3 1 r (2 * zs.length) ((zs.flatMap Zu).map (Value.int .i64))∧Below w.heap.size w W':=by
 go_enter Tryz.func89,Tryz.ntmps89;go_wp2_with (go_at_call 113; refine (callsIn_wide.1 (takeNibs_in 3 (Nat.le_refl _) v zs hl hz w hH)).mono ?_; rintro e w' ⟨r,rfl,hr,hb⟩);go_ret2;exact ⟨r,rfl,hr,hb⟩
end Go.Proofs.YtabdnhkdoeibnaaGreatDoor
namespace Go.Proofs.YtabdnhkdoeibnaaGreatDoor
open Go.RowKit Go.Shelf
attribute [local go_sem] Oper.semAt_some
def Zal (wd:Nat) (l:List Int):Int:=l.foldl (fun acc x=>acc * 2 ^ wd+x) 0
def Zn (wd c:Nat) (ls:List Int) (k:Nat):List Int:=(List.range k).map (fun i=>Zal wd ((ls.drop (c * i)).take c))
theorem Zde (wd c:Nat) (ls:List Int) (k:Nat):Zn wd c ls (k+1)=Zn wd c ls k++[Zal wd ((ls.drop (c * k)).take c)]:=by simp [Zn,List.range_succ]
theorem ZaH (wd c:Nat) (ls:List Int) (k:Nat):(Zn wd c ls k).length=k:=by simp [Zn]
theorem Zfq (wd:Nat) (l:List Int) (x:Int):Zal wd (l++[x])=Zal wd l * 2 ^ wd+x:=by simp [Zal]
def KpP3 (n₀ B1 B2 B3:Nat) (W W':World):Prop:=Below n₀ W W'∧W'.heap[B1]? = W.heap[B1]?∧W'.heap[B2]? = W.heap[B2]?∧W'.heap[B3]? = W.heap[B3]?
theorem KpP3.c1 {n₀ B1 B2 B3:Nat} {W W':World} (h:KpP3 n₀ B1 B2 B3 W W'):W'.cell? ⟨B1,0,none⟩=W.cell? ⟨B1,0,none⟩:=by simp [World.cell?,h.2.1]
theorem KpP3.c2 {n₀ B1 B2 B3:Nat} {W W':World} (h:KpP3 n₀ B1 B2 B3 W W'):W'.cell? ⟨B2,0,none⟩=W.cell? ⟨B2,0,none⟩:=by simp [World.cell?,h.2.2.1]
theorem KpP3.c3 {n₀ B1 B2 B3:Nat} {W W':World} (h:KpP3 n₀ B1 B2 B3 W W'):W'.cell? ⟨B3,0,none⟩=W.cell? ⟨B3,0,none⟩:=by simp [World.cell?,h.2.2.2]
theorem KpP3.trans {n₀ B1 B2 B3:Nat} {A B C:World} (h:KpP3 n₀ B1 B2 B3 A B) (k:KpP3 n₀ B1 B2 B3 B C):KpP3 n₀ B1 B2 B3 A C:=⟨h.1.trans k.1,k.2.1.trans h.2.1,k.2.2.1.trans h.2.2.1,k.2.2.2.trans h.2.2.2⟩
theorem wholesOf_prefix (wd c:Nat) (ls:List Int) (k m:Nat) (h:k≤m):Zn wd c ls k <+: Zn wd c ls m:=by
 have e:Zn wd c ls k=(Zn wd c ls m).take k:=by
  unfold Zn;rw [← List.map_take,List.take_range]
  congr 2
  omega
 rw [e]; exact List.take_prefix _ _
theorem joinW_bd (wd:Nat) (md:Int) (hmd:md=2 ^ wd) (ls:List Int) (hz:∀ z∈ls,0≤z∧z<md) (t j:Nat):0≤Zal wd ((ls.drop t).take j)∧Zal wd ((ls.drop t).take j)<md ^ j:=by
 have hp:0<md:=by rw [hmd]; exact Int.pow_pos (by decide)
 induction j with
 | zero=>simp [Zal]
 | succ j ih =>
  rw [List.take_add_one]
  cases hq:(ls.drop t)[j]? with
  | none =>
   simp only [Option.toList_none,List.append_nil];refine ⟨ih.1,Int.lt_of_lt_of_le ih.2 ?_⟩;rw [Int.pow_succ];have h1:0≤md ^ j:=Int.le_of_lt (Int.pow_pos hp);have:=Int.mul_le_mul_of_nonneg_left (show 1≤md by omega) h1;simpa using this
  | some z =>
   have hzb:=hz z (List.mem_of_mem_drop (List.mem_of_getElem? hq));simp only [Option.toList_some];rw [Zfq,← hmd,Int.pow_succ]
   constructor
   ·have:=Int.mul_nonneg ih.1 (Int.le_of_lt hp);omega
   ·have h2:(Zal wd ((ls.drop t).take j)+1) * md≤md ^ j * md:=Int.mul_le_mul_of_nonneg_right (by omega) (Int.le_of_lt hp);rw [Int.add_mul] at h2;omega
theorem Zho (acc x:Int) (h0:0≤acc) (h1:acc≤255) (hx:0≤x) (hx':x<16):bits .or .i64 (acc * 16) x=acc * 16+x:=by
 have e63:(2:Int) ^ 63=9223372036854775808:=by decide
 exact bits_join .i64 63 (by decide) Zet 4 (acc * 16) x (by omega) (by simp) (by rw [e63]; omega) hx (by simpa using hx') (by rw [e63]; omega)
theorem wholes41_in (n:Nat) (hn:1≤n) (l Bl Be Bw n₀ b off len cap:Nat) (ls:List Int) (hlen:ls.length=len) (kk:Nat) (hkk:len=2 * kk) (hcap:len≤cap) (hmax:len≤32768) (hz:∀ z∈ls,0≤z∧z<16) (hb:b<n₀) (J Jx:List Int→World→Prop)
  (hY:∀ pre x W,J pre W→pre.length<kk→YieldAt Fence.wide (n-1) Tryz.prog l #[.int .u8 x] W fun e W' =>
   (e=.returned (.bool true)∧J (pre++[x]) W'∧KpP3 n₀ Bl Be Bw W W')∨(e=.returned (.bool false)∧Jx (pre++[x]) W'))
  (W:World) (hBl:W.cell? ⟨Bl,0,none⟩=some (.slice (some ⟨b,off,none⟩) len cap)) (hBe:W.cell? ⟨Be,0,none⟩=some (.int .i64 2)) (hBw:W.cell? ⟨Bw,0,none⟩=some (.int .i64 4))
  (hc:∀ j,j<len→W.cell? ⟨b,off+j,none⟩=some (.int .i64 (ls[j]?.getD 0))) (h0:J [] W) :
  CallsIn Fence.wide n Tryz.prog 133 #[.func (.yield l) #[] #[],.pointer (some ⟨Bl,0,none⟩),.pointer (some ⟨Be,0,none⟩),.pointer (some ⟨Bw,0,none⟩)] W fun e W'=>(∃ v,e=.returned v) ∧
   ((∃ ys,ys=Zn 4 2 ls kk∧J ys W')∨(∃ pre,pre <+: Zn 4 2 ls kk∧Jx pre W')):=by
 have hk0:2 * kk≤len:=by omega
 have hk1:len≤2 * kk:=by omega
 clear hkk;refine callsIn_of_wp Tryz.func133 rfl trivial ?_ rfl;simp only [Tryz.ntmps133,List.size_toArray,List.length_cons,List.length_nil,Nat.reduceAdd,Nat.reduceSub,Array.replicate_succ,Array.replicate_zero,List.push_toArray,List.append_toArray,List.nil_append,List.cons_append];gi_wp2
 gi_loopw [5] (fun i wr=>∃ k:Nat,k≤kk∧i=.int .i64 (2 * (k:Int))∧J (Zn 4 2 ls k) wr∧KpP3 n₀ Bl Be Bw W wr)
  (fun i _=>(2 * kk-(intOf i)).toNat)
 case atStart=>exact ⟨0,Nat.zero_le _,rfl,h0,Below.refl _ _,rfl,rfl,rfl⟩
 case round =>
  obtain ⟨k,hk,rfl,hJs,hkp⟩:=hrel;have c1:=hkp.c1.trans hBl;have c2:=hkp.c2.trans hBe;have c3:=hkp.c3.trans hBw;by_cases hlt:k<kk
  ·have hcw:∀ j,j<2→∃ z,ls[2 * k+j]? = some z∧0≤z∧z<16∧wr.cell? ⟨b,off+2 * k+j,none⟩=some (.int .i64 z):=fun j hj=>by
    have hin:2 * k+j<ls.length:=by omega
    have hm:=hz _ (List.getElem_mem hin);refine ⟨ls[2 * k+j],by simp,hm.1,hm.2,?_⟩;rw [Nat.add_assoc];refine (hkp.1.cell (p:=⟨b,off+(2 * k+j),none⟩) hb).trans ((hc (2 * k+j) (by omega)).trans ?_);simp [hin]
   have HCW:Hid (∀ j,j<2→∃ z,ls[2 * k+j]? = some z∧0≤z∧z<16∧wr.cell? ⟨b,off+2 * k+j,none⟩=some (.int .i64 z)):=hcw
   have hbd:∀ j,j≤2→0≤Zal 4 ((ls.drop (2 * k)).take j)∧Zal 4 ((ls.drop (2 * k)).take j)<16 ^ j:=fun j hj =>
    joinW_bd 4 16 rfl ls (fun z h=>hz z h) (2 * k) j
   have HBD:Hid (∀ j,j≤2→0≤Zal 4 ((ls.drop (2 * k)).take j)∧Zal 4 ((ls.drop (2 * k)).take j)<16 ^ j):=hbd;clear hcw hc hbd hz;have hlk:2 * k+2≤len:=by omega
   gi_wp2;gi_loop [6,23] (fun v i=>∃ j:Nat,j≤2∧i=.int .i64 j∧v=.int .i64 (Zal 4 ((ls.drop (2 * k)).take j))) (fun _ i=>2-(intOf i).toNat)
   case atStart=>exact ⟨0,by omega,rfl,rfl⟩
   case round =>
    obtain ⟨j,hj,rfl,rfl⟩:=hrel;by_cases hjc:j<2
    ·obtain ⟨z,hzk,hz0,hz1,hcz⟩:=HCW.out j hjc
     have h1:0≤Zal 4 ((ls.drop (2 * k)).take j)∧Zal 4 ((ls.drop (2 * k)).take j)≤255:=by
      have:=HBD.out j hj
      have e:(16:Int) ^ j≤256:=by
       match j,hjc with
       | 0,_=>decide
       | 1,_=>decide
      omega
     have HS:Hid (Zal 4 ((ls.drop (2 * k)).take (j+1))=Zal 4 ((ls.drop (2 * k)).take j) * 16+z):=by
      show Zal 4 ((ls.drop (2 * k)).take (j+1))=Zal 4 ((ls.drop (2 * k)).take j) * 16+z
      rw [List.take_add_one,List.getElem?_drop,hzk];exact Zfq 4 _ z
     obtain ⟨acc,hacc⟩:∃ acc,Zal 4 ((ls.drop (2 * k)).take j)=acc:=⟨_,rfl⟩;rw [hacc] at h1 HS ⊢;obtain ⟨ha0,ha1⟩:=h1;have hor:=Zho acc z ha0 ha1 hz0 hz1;clear hzk hacc;gi_wp2;exact ⟨⟨j+1,by omega,by go_num,by rw [HS.out]⟩,by simp [intOf]; omega⟩
    ·obtain rfl:j=2:=by omega
     have hfin:=HBD.out 2 (Nat.le_refl _);have hsucc:=Zde 4 2 ls k;obtain ⟨acc,hacc⟩:∃ acc,Zal 4 ((ls.drop (2 * k)).take 2)=acc:=⟨_,rfl⟩;rw [hacc] at hfin hsucc ⊢;have ha0:0≤acc:=hfin.1;have ha1:acc≤255:=by have:=hfin.2; omega
     have hmod:acc % 256=acc:=by omega
     have hpl:(Zn 4 2 ls k).length<kk:=by rw [ZaH]; exact hlt
     obtain ⟨fn,tmps,assign,body,hy,hR⟩:=hY _ acc wr hJs hpl;rw [← hsucc] at hR;clear hfin hsucc hacc HCW HBD;gi_wp2;refine hR.mono ?_;rintro e W3 (⟨rfl,hJ3,hk3⟩ | ⟨rfl,hJx3⟩)
     ·have d1:=hk3.c1.trans c1;have d2:=hk3.c2.trans c2;gi_wp2;go_roundw
      case rel=>exact ⟨k+1,by omega,by go_num,hJ3,hkp.trans hk3⟩
      case measure=>simp [intOf]; omega
     ·gi_wp2;refine bodyPost_ret (results_none rfl _ _ _) rfl ?_;exact ⟨⟨_,rfl⟩,.inr ⟨_,wholesOf_prefix 4 2 ls (k+1) kk hlt,hJx3⟩⟩
  ·obtain rfl:k=kk:=by omega
   gi_wp2;go_end0;exact ⟨⟨_,rfl⟩,.inl ⟨_,rfl,hJs⟩⟩
end Go.Proofs.YtabdnhkdoeibnaaGreatDoor
