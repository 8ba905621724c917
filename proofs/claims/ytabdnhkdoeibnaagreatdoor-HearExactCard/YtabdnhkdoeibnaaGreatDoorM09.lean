/-
  Rows of numbers of the call's own: append of one number; a block that is written place by place. No function of the program is spoken of.
-/
import Derived.Test.YtabdnhkdoeibnaaGreatDoorM08
import Derived.WalkSmall
namespace Go.Proofs.YtabdnhkdoeibnaaGreatDoor
open Go.RowKit
theorem infoIntR:(Tryz.prog.info? 3).map (fun i=>(i.zero,i.size,i.bytes))=some (some (.int .i64 0),1,8):=by kernel_rfl
theorem ZcY (v:Value) (n base:Nat) (xs:List Int) (x:Int) (ty:TypeId) (w:World) (hown:w.ownsRow base 3 1 v n (xs.map (Value.int .i64))) (hb:base≤w.heap.size) (h1:n≤4294967296) :
  ∃ v' w',(Builtin.append_ #[74,74] ty #[v,.slice (some ⟨w.heap.size,0,none⟩) 1 1]).run Tryz.prog (w.alloc (.cells #[.int .i64 x] 3))=.ok v' w'∧w'.ownsRow base 3 1 v' (n+1) ((xs++[x]).map (Value.int .i64))∧(w.alloc (.cells #[.int .i64 x] 3)).grownBy w' v.ownBlock:=by
 obtain ⟨i0,hi,hz0,hz1,hz2⟩:=info_parts infoIntR;obtain ⟨v',w',hr,ho,hg,_⟩:=run_append_own (P:=Tryz.prog) (w.alloc (.cells #[.int .i64 x] 3)) base 74 ty 3 i0 (.int .i64 0) 1 8 Tryz.underlying74 hi hz0 hz1 hz2 rfl (by decide) v n _ (hown.alloc _) ⟨w.heap.size,0,none⟩ 1 1 [.int .i64 x] rfl (World.news_of_block (World.alloc_heap_new _ _)) (by simp [Value.oneCell']) (by unfold maxLen; omega) (by omega) (by simp; omega);exact ⟨v',w',hr,by rw [List.map_append]; exact ho,hg⟩
theorem Zgf {kd:IntKind} {n₀ n cap:Nat} {W:World} {a:Option Addr} {zs:List Int} (h:Zb kd n₀ W (.slice a n cap) zs) (hl:zs.length=n) (h0:0<n) :
  ∃ b off,a=some ⟨b,off,none⟩∧b<n₀∧∀ (j:Nat) (x:Int),zs[j]? = some x→W.cell? ⟨b,off+j,none⟩=some (.int kd x):=by
 subst hl;rcases h with ⟨_,e⟩ | ⟨b,off,c',e,hb,hcs⟩
 ·rw [e] at h0; simp at h0
 ·cases e
  refine ⟨b,off,rfl,hb,fun j x hj=>?_⟩;rw [hcs j (List.getElem?_eq_some_iff.1 hj).1,hj];rfl
def ZaJ (W:World) (g:Nat) (zs:List Int):Prop:=g<W.heap.size∧(∀ q,q<zs.length→W.cell? ⟨g,q,none⟩=some (.int .i64 (zs[q]?.getD 0)))∧∀ q,W.frozen? ⟨g,q,none⟩=false
theorem ZaJ.set {W:World} {g:Nat} {zs:List Int} (h:ZaJ W g zs) (k:Nat) (hk:k<zs.length) (v:Int):ZaJ (W.setCell ⟨g,k,none⟩ (.int .i64 v)) g (zs.set k v):=by
 refine ⟨by simpa [World.setCell] using h.1,fun q hq=>?_,fun q=>by rw [World.frozen?_setCell]; exact h.2.2 q⟩;rw [List.length_set] at hq;by_cases e:q=k
 ·subst e;rw [World.cell?_setCell_same' _ _ _ (by rw [h.2.1 q hq]; rfl)];simp [hq]
 ·rw [World.cell?_setCell_other _ _ _ _ (by intro e'; cases e'; exact e rfl),h.2.1 q hq,List.getElem?_set_ne (by omega)]
theorem ZaJ.cell {W:World} {g:Nat} {zs:List Int} (h:ZaJ W g zs) {q:Nat} {x:Int} (hq:zs[q]? = some x):W.cell? ⟨g,q,none⟩=some (.int .i64 x):=by
 rw [h.2.1 q (List.getElem?_eq_some_iff.1 hq).1,hq]; rfl
theorem ZaJ.below {W W':World} {g n:Nat} {zs:List Int} (h:ZaJ W g zs) (hb:Below n W W') (hg:g<n):ZaJ W' g zs:=by
 refine ⟨Nat.lt_of_lt_of_le h.1 hb.size,fun q hq=>(hb.cell (p:=⟨g,q,none⟩) hg).trans (h.2.1 q hq),fun q=>?_⟩;have e:W'.frozen? ⟨g,q,none⟩=W.frozen? ⟨g,q,none⟩:=by unfold World.frozen?; rw [hb.block g hg]
 rw [e]; exact h.2.2 q
theorem ZaJ.next {W W':World} {g:Nat} {zs:List Int} (h:ZaJ W g zs) (hb:Below W.heap.size W W'):ZaJ W' g zs:=h.below hb h.1
theorem ZaJ.other {W:World} {g:Nat} {zs:List Int} (h:ZaJ W g zs) {p:Addr} (hp:g≠p.block) (v:Value):ZaJ (W.setCell p v) g zs:=by
 refine ⟨by simpa [World.setCell] using h.1,fun q hq=>?_,fun q=>by rw [World.frozen?_setCell]; exact h.2.2 q⟩;rw [World.cell?_setCell_other _ _ _ _ (by intro e; cases e; exact hp rfl)];exact h.2.1 q hq
theorem ZaJ.other3 {W:World} {g:Nat} {zs:List Int} (h:ZaJ W g zs) {D:Nat} (hp:g≠D) (x y z:Value):ZaJ (((W.setCell ⟨D,0,none⟩ x).setCell ⟨D,1,none⟩ y).setCell ⟨D,2,none⟩ z) g zs:=((h.other (p:=⟨D,0,none⟩) hp x).other (p:=⟨D,1,none⟩) hp y).other (p:=⟨D,2,none⟩) hp z
theorem ZaJ.drewN {W:World} {g:Nat} {zs:List Int} (h:ZaJ W g zs) (n:Nat):ZaJ (W.drewN n) g zs:=h
def nats (K:List Nat):List Int:=K.map fun x:Nat=>(x:Int)
theorem nats_len (K:List Nat):(nats K).length=K.length:=by simp [nats]
theorem nats_get {K:List Nat} {j x:Nat} (h:K[j]? = some x):(nats K)[j]? = some (x:Int):=by simp [nats,h]
theorem ZgI (K:List Nat) (x:Nat):nats (K++[x])=nats K++[(x:Int)]:=by simp [nats]
end Go.Proofs.YtabdnhkdoeibnaaGreatDoor
