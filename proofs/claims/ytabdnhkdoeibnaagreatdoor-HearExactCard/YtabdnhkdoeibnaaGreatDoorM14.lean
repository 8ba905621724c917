/-
  What pick.isBelow, slices.IndexFunc and slices.ContainsFunc with it, slices.Clone of numbers and pick.clone answer.
-/
import Derived.Test.YtabdnhkdoeibnaaGreatDoorM13
import Derived.Lib.AppendZerosOnto
import Derived.Lib.SliceRun
set_option maxRecDepth 100000
set_option maxHeartbeats 4000000
namespace Go.Proofs.YtabdnhkdoeibnaaGreatDoor
open Go.RowKit
def Zbh (l:List Nd):Bool:=l.any fun x=>decide (sc x<0)
theorem ZeO {l:List Nd} (h:∀ x∈l,0≤sc x):Zbh l=false:=by
 unfold Zbh;rw [List.any_eq_false];intro x hx;have:=h x hx;simp;exact this
theorem anyBelow_yes {l:List Nd} {k:Nat} {x:Nd} (h:l[k]? = some x) (hx:sc x<0):Zbh l=true:=by
 unfold Zbh;rw [List.any_eq_true];exact ⟨x,List.mem_of_getElem? h,by simpa using hx⟩
theorem ZeP (s m c:Int) (pa:Option Addr) (pn pc:Nat) (w:World) :
  Calls Tryz.prog 129 #[.agg #[.int .u32 s,.int .i64 m,.int .i64 c,.slice pa pn pc]] w fun e w'=>e=.returned (.bool (decide (c<0)))∧Below w.heap.size w w':=by
 have b0:=(Below.refl w.heap.size w).alloc (Nat.le_refl _) (.cells #[.int .u32 s,.int .i64 m,.int .i64 c,.slice pa pn pc] 103);go_enter Tryz.func129,Tryz.ntmps129;go_wp2;go_ret;exact ⟨rfl,b0⟩
theorem indexBelow_any (a:Option Addr) (cap n:Nat) (l:List Nd) (hn:l.length=n) (hl:n≤4611686018427387904) (w:World) (ha:Zae w.heap.size w (.slice a n cap) l) :
  Calls Tryz.prog 144 #[.slice a n cap,.func (.func 129) #[] #[]] w fun e w'=>∃ i:Int,e=.returned (.int .i64 i)∧-1≤i∧decide (0≤i)=Zbh l∧Below w.heap.size w w':=by
 have HN:Hid (l.length=n):=hn;clear hn;go_enter Tryz.func144,Tryz.ntmps144;go_wp2;go_loopw [8] (fun i wr=>∃ k:Nat,k≤n∧i=.int .i64 k∧(∀ x∈l.take k,0≤sc x)∧Below w.heap.size w wr) (fun i _=>n-(intOf i).toNat)
 case atStart=>exact ⟨0,Nat.zero_le _,rfl,fun x hx=>by simp at hx,Below.refl _ _⟩
 case round =>
  obtain ⟨k,hk,rfl,hall,bw⟩:=hrel;have HA:Hid (∀ x∈l.take k,0≤sc x):=hall;clear hall;by_cases hlt:k<n
  ·obtain ⟨b,off,rfl,hb,hc⟩:=ZaA (ha.below bw) HN.out (by omega);obtain ⟨⟨s,m,c,ps⟩,hxk⟩:∃ x,l[k]? = some x:=⟨l[k]'(by rw [HN.out]; exact hlt),by simp⟩;obtain ⟨p,hp,c1,c2,c3,c4⟩:=hc _ _ hxk;obtain ⟨pa,pc,rfl⟩:=hp.shape;have HXK:Hid (l[k]? = some (s,m,c,ps)):=hxk;clear hxk hc hp;by_cases hcn:c<0
   ·have d1:decide (c<0)=true:=decide_eq_true hcn;have HY:Hid (Zbh l=true):=anyBelow_yes HXK.out hcn;clear hcn;go_wp2_with fail;refine (ZeP s m c pa ps.length pc wr).mono ?_;rintro e w2 ⟨rfl,b2⟩;go_wp2;go_ret;exact ⟨k,rfl,by omega,by rw [HY.out]; exact decide_eq_true (by omega),bw.trans (b2.mono bw.size)⟩
   ·have d1:decide (c<0)=false:=decide_eq_false hcn
    have HY:Hid (∀ x∈l.take (k+1),0≤sc x):=by
     show ∀ x∈l.take (k+1),0≤sc x
     intro x hx;rw [List.take_add_one,HXK.out] at hx;rcases List.mem_append.1 hx with h | h
     ·exact HA.out x h
     ·simp at h;subst h
      show 0≤c
      omega
    clear hcn;go_wp2_with fail;refine (ZeP s m c pa ps.length pc wr).mono ?_;rintro e w2 ⟨rfl,b2⟩;go_wp2;go_roundw
    case rel=>exact ⟨k+1,by omega,by go_num,HY.out,bw.trans (b2.mono bw.size)⟩
    case measure=>simp [intOf]; omega
  ·obtain rfl:k=n:=by omega
   have HY:Hid (Zbh l=false):=ZeO (fun x hx=>HA.out x (by rw [List.take_of_length_le (by rw [HN.out]; exact Nat.le_refl _)]; exact hx));go_wp2;go_ret;exact ⟨-1,rfl,by omega,by rw [HY.out]; rfl,bw⟩
theorem containsBelow_any (a:Option Addr) (cap n:Nat) (l:List Nd) (hn:l.length=n) (hl:n≤4611686018427387904) (w:World) (ha:Zae w.heap.size w (.slice a n cap) l) :
  Calls Tryz.prog 128 #[.slice a n cap,.func (.func 129) #[] #[]] w fun e w'=>e=.returned (.bool (Zbh l))∧Below w.heap.size w w':=by
 have HC:=indexBelow_any a cap n l hn hl w ha;clear hn ha;obtain ⟨d,hd⟩:∃ d,Zbh l=d:=⟨_,rfl⟩;rw [hd] at HC ⊢;clear hd;go_enter Tryz.func128,Tryz.ntmps128;go_wp2_with fail;refine HC.mono ?_;rintro e w2 ⟨i,rfl,h1,h2,b2⟩;have HD:Hid (decide (0≤i)=d):=h2;clear h2;go_wp2;go_ret;exact ⟨by rw [← HD.out]; rfl,b2⟩
theorem cloneInts_ok (a:Option Addr) (cap n₀:Nat) (zs:List Int) (hl:zs.length≤4294967296) (w:World) (h0:n₀≤w.heap.size) (ha:Zb .i64 n₀ w (.slice a zs.length cap) zs) :
  Calls Tryz.prog 145 #[.slice a zs.length cap] w fun e W'=>∃ r,e=.returned r∧W'.ownsRow w.heap.size 3 1 r zs.length (zs.map (Value.int .i64))∧Below w.heap.size w W':=by
 have qS:∀ (w:World) (a:Option Addr) (n c n' c':Nat),(binOp .eql 74 (.slice a n c) (.slice none n' c')).run Tryz.prog w=.ok (.bool a.isNone) w:=fun w a n c n' c'=>Lib.run_eql_slice_nil w _ _ a n c n' c' Tryz.underlying74
 cases a with
 | none =>
  have h0:zs=[]:=by
   rcases ha with ⟨_,h⟩ | ⟨b,off,c,e,_⟩
   ·exact h
   ·simp only [Value.slice.injEq] at e; exact absurd e.1 (by simp)
  subst h0;clear ha;go_enter Tryz.func145,Tryz.ntmps145;go_wp2;go_ret;exact ⟨_,rfl,World.ownsRow_nil _ _ _ _,Below.refl _ _⟩
 | some ad =>
  have o0:(w.alloc (.cells #[] 3)).ownsRow w.heap.size 3 1 (.slice (some ⟨w.heap.size,0,none⟩) 0 0) 0 (([]:List Int).map (Value.int .i64)):=World.ownsRow_made w #[] 0 (Nat.le_refl _) (Nat.zero_le _) rfl;have b0:=(Below.refl w.heap.size w).alloc (Nat.le_refl _) (.cells #[] 3);obtain ⟨v3,w3,hr3,ho3,hg3⟩:=ZbL (.slice (some ⟨w.heap.size,0,none⟩) 0 0) (.slice (some ad) zs.length cap) 0 w.heap.size _ [] zs 74 (w.alloc (.cells #[] 3)) o0 (ha.below (b0.mono h0)) (by simp) (by omega) hl;have b3:=b0.trans ((Below.refl w.heap.size _).grown hg3 (by simp) (fun q e=>(o0.lt q e).1));have HR3:Hid _:=hr3;clear hr3 ha o0 hg3;go_enter Tryz.func145,Tryz.ntmps145;go_wp2_with (at_builtin; refine Zc rfl _ _ 74 rfl _ _ rfl rfl _ _ HR3.out ?_);go_ret;refine ⟨_,rfl,?_,b3⟩;simpa using ho3
theorem clone_node (s m c:Int) (a:Option Addr) (cap n₀:Nat) (zs:List Int) (hl:zs.length≤4294967296) (w:World) (h0:n₀≤w.heap.size) (ha:Zb .i64 n₀ w (.slice a zs.length cap) zs) :
  Calls Tryz.prog 131 #[.agg #[.int .u32 s,.int .i64 m,.int .i64 c,.slice a zs.length cap]] w fun e W'=>∃ qa qc,e=.returned (.agg #[.int .u32 s,.int .i64 m,.int .i64 c,.slice qa zs.length qc])∧W'.ownsRow w.heap.size 3 1 (.slice qa zs.length qc) zs.length (zs.map (Value.int .i64))∧Below w.heap.size w W':=by
 have b1:=((Below.refl w.heap.size w).alloc (Nat.le_refl _) (.cells #[.int .u32 s,.int .i64 m,.int .i64 c,.slice a zs.length cap] 103)).alloc (by simp) (.cells #[.int .u32 0,.int .i64 0,.int .i64 0,.slice none 0 0] 103);have ha1:=ha.below (b1.mono h0);clear ha;go_enter Tryz.func131,Tryz.ntmps131;go_wp2_with fail;refine (cloneInts_ok a cap n₀ zs hl _ (by simp; omega) ha1).mono ?_;rintro e w2 ⟨r,rfl,o2,b2⟩;obtain ⟨ar,cr,rfl,_⟩:=(Zb4 o2).2;have x1:Box w2 w.heap.size 103 #[.int .u32 s,.int .i64 m,.int .i64 c,.slice a zs.length cap]:=((Box.new w 103 _).alloc _).next b2
 have x2:Box w2 (w.heap.size+1) 103 #[.int .u32 0,.int .i64 0,.int .i64 0,.slice none 0 0]:=by
  have:=(Box.new (w.alloc (.cells #[.int .u32 s,.int .i64 m,.int .i64 c,.slice a zs.length cap] 103)) 103 #[.int .u32 0,.int .i64 0,.int .i64 0,.slice none 0 0]).next b2;simpa using this
 obtain ⟨k0,k1,k2,k3⟩:=x1.c4;obtain ⟨m0,m1,m2,m3⟩:=x2.c4;have f0:=x1.free 3;obtain ⟨g0,g1,g2,g3⟩:=x2.f4;go_wp2;refine bodyPost_ret (v:=.agg #[.int .u32 s,.int .i64 m,.int .i64 c,.slice ar zs.length cr]) (by simp [results,Tryz.results131,go_sem,m0,m1,m2,m3]) rfl ⟨_,_,rfl,?_,?_⟩
 ·have o3:=Zaa (ownsRow_setCell_below (ownsRow_setCell_below (ownsRow_setCell_below (ownsRow_setCell_below (ownsRow_setCell_below o2 (a:=⟨w.heap.size,3,none⟩) (by simp; omega) (.slice ar zs.length cr)) (a:=⟨w.heap.size+1,0,none⟩) (by simp) (.int .u32 s)) (a:=⟨w.heap.size+1,1,none⟩) (by simp) (.int .i64 m)) (a:=⟨w.heap.size+1,2,none⟩) (by simp) (.int .i64 c)) (a:=⟨w.heap.size+1,3,none⟩) (by simp) (.slice ar zs.length cr)) (show w.heap.size≤_ by simp; omega);exact o3
 ·have b3:=b1.trans (b2.mono (by simp; omega));exact ((((b3.setCell (p:=⟨w.heap.size,3,none⟩) (Nat.le_refl _) _).setCell (p:=⟨w.heap.size+1,0,none⟩) (by simp) _).setCell (p:=⟨w.heap.size+1,1,none⟩) (by simp) _).setCell (p:=⟨w.heap.size+1,2,none⟩) (by simp) _).setCell (p:=⟨w.heap.size+1,3,none⟩) (by simp) _
end Go.Proofs.YtabdnhkdoeibnaaGreatDoor
