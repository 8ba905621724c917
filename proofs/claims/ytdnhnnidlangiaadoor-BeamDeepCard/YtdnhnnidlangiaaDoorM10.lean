/-
  What the page's Of answers, of a right pile.
-/
import Derived.Test.YtdnhnnidlangiaaDoorM09
import Derived.Deep.AppendLies
import Derived.Deep.RegionHeldLaw
namespace Go.Proofs.YtdnhnnidlangiaaDoor
open Go.RowKit

theorem take_snoc_sym {l : List (Int × Int)} {k : Nat} {x : Int × Int} (hz : l[k]? = some x) : l.take (k + 1) = l.take k ++ [x] := by rw [List.take_add_one, hz]; rfl

set_option maxRecDepth 100000 in
set_option maxHeartbeats 4000000 in
theorem refOf_in (N : Nat) (p : Int) (s : Nat) (a : Option Addr) (cap : Nat) (l : List (Int × Int)) (hp : PileOk (N : Int) p l) (w : World) (ha : Syms w.heap.size w (.slice a l.length cap) l) :
    Calls Tryd.prog 64 #[.agg #[.int .i64 N, .int .i64 p, .slice a l.length cap], .int .i64 s] w fun e W' => ∃ r, e = .returned r ∧ W'.ownsRow w.heap.size 88 2 r (ofL N l s).length (symCells (ofL N l s)) ∧ Below w.heap.size w W' := by
  obtain ⟨i0, hi, hz0, hz1, hz2⟩ := info_parts infoSym
  have hlen := pile_len hp
  have hprod := hp.1.prod
  have hN1 : 1 ≤ N := by have := hp.1.1; omega
  have hN2 : N < 65 := by have := hp.1.2.1; omega
  have hl : l.length ≤ 1024 := by omega
  have HP : Hid (PileOk (N : Int) p l) := hp
  have HPR : Hid ((N : Int) * p ≤ 1024) := hprod.2
  have b0 := (Below.refl w.heap.size w).alloc (Nat.le_refl _) (.cells #[.int .i64 N, .int .i64 p, .slice a l.length cap] 24)
  have x0 := Box.new w 24 #[.int .i64 N, .int .i64 p, .slice a l.length cap]
  have ha0 := ha.next b0
  obtain ⟨w0, hw0⟩ : ∃ w0, w.alloc (.cells #[.int .i64 N, .int .i64 p, .slice a l.length cap] 24) = w0 := ⟨_, rfl⟩
  rw [hw0] at b0 x0 ha0
  have k0 := x0.cell 0 _ rfl
  clear ha hp hprod hlen
  go_enter Tryd.func64, Tryd.ntmps64
  go_wp2_with fail
  refine (refOrder_any N hN1 hN2 _).mono ?_
  rintro e w1 ⟨r1, rfl, o1, b1⟩
  obtain ⟨g, capg, rfl, _, hg1, hcg⟩ := order_cell hN1 o1
  have HCG : Hid _ := hcg
  have x1 := x0.next b1
  have ha1 := ha0.next b1
  have k2 := x1.cell 2 _ rfl
  have bb1 := b0.trans (b1.mono b0.size)
  clear hw0 k0 o1 hcg x0 ha0 b0 b1
  go_wp2
  clear k2
  go_loopw [6, 7] (fun v i wr => ∃ k : Nat, k ≤ l.length ∧ i = .int .i64 k ∧ wr.ownsRow w1.heap.size 88 2 v (ofL N (l.take k) s).length (symCells (ofL N (l.take k) s)) ∧ Below w1.heap.size w1 wr) (fun _ i _ => l.length - (intOf i).toNat)
  case atStart => exact ⟨0, Nat.zero_le _, rfl, World.ownsRow_nil _ _ _ _, Below.refl _ _⟩
  case round =>
    obtain ⟨k, hk, rfl, ho, hbw⟩ := hrel
    have x2 := x1.next hbw
    by_cases hlt : k < l.length
    · obtain ⟨⟨at_, val⟩, hx⟩ : ∃ x, l[k]? = some x := ⟨l[k], by simp⟩
      have hok := HP.out.2.1 _ (List.mem_of_getElem? hx)
      obtain ⟨A, rfl⟩ := Int.eq_ofNat_of_zero_le (a := at_) hok.1
      have hA : A < 1024 := by have h1 := hok.2.1; have h2 := HPR.out; simp at h1; omega
      have hseg := segN_get hN1 hN2 A
      obtain ⟨b, off, rfl, hb, hcell⟩ := syms_at (ha1.next hbw) rfl (by omega)
      obtain ⟨c1, c2⟩ := hcell k _ hx
      have hbs := hbw.size
      have cg : wr.cell? ⟨g, A % N, none⟩ = some (.int .i64 ((segN N A : Nat) : Int)) := (hbw.cell (p := ⟨g, A % N, none⟩) hg1).trans (HCG.out _ _ hseg.1)
      have k0 := x2.cell 0 _ rfl
      have k2 := x2.cell 2 _ rfl
      have e1 : ((A : Nat) : Int).tmod (N : Int) = ((A % N : Nat) : Int) := by rw [Int.tmod_eq_emod_of_nonneg (by omega)]; simp
      have e2 : ((A : Nat) : Int).tdiv (N : Int) = ((A / N : Nat) : Int) := by rw [Int.tdiv_eq_ediv_of_nonneg (by omega)]; simp
      have hm : A % N < N := Nat.mod_lt _ (by omega)
      have hd : A / N ≤ A := Nat.div_le_self _ _
      have n0 : ¬ (N : Int) = 0 := by omega
      have HSN := ofL_snoc N (l.take k) ((A : Int), val) s
      rw [← take_snoc_sym hx] at HSN
      have HSN : Hid _ := HSN
      have hfew : (ofL N (l.take k) s).length ≤ 1024 := by have h1 := ofL_len_le N (l.take k) s; rw [List.length_take] at h1; omega
      have hgw : g < wr.heap.size := by omega
      have hbx : w.heap.size < wr.heap.size := x2.lt
      have hneb : some b ≠ u6.ownBlock := fun e => by
        have h1 := (ho.lt b e.symm).1
        have h2 : b < w1.heap.size := by
          obtain ⟨b', off', e', hb', _⟩ := syms_at ha1 rfl (show 0 < l.length by omega)
          cases e'
          exact hb'
        omega
      have hneg : some g ≠ u6.ownBlock := fun e => by have := (ho.lt g e.symm).1; omega
      have hnew : some w.heap.size ≠ u6.ownBlock := fun e => by have h1 := (ho.lt _ e.symm).1; have h2 := x1.lt; omega
      obtain ⟨q, hq⟩ : ∃ q, A % N = q := ⟨_, rfl⟩
      obtain ⟨d, hdd⟩ : ∃ d, A / N = d := ⟨_, rfl⟩
      rw [hq] at cg e1 hm
      rw [hdd] at e2 hd
      have ewd : IntKind.i64.wrap (d : Int) = (d : Int) := by rw [IntKind.wrap_i64]; omega
      have HSN2 : Hid (ofL N (l.take (k + 1)) s = ofL N (l.take k) s ++ (if segN N A = s then [((d : Int), val)] else [])) := by
        have := HSN.out
        simp only [Int.toNat_natCast, hdd] at this
        exact this
      obtain ⟨L, hL⟩ : ∃ L, ofL N (l.take k) s = L := ⟨_, rfl⟩
      rw [hL] at ho hfew HSN2
      have HO : Hid (wr.ownsRow w1.heap.size 88 2 u6 L.length (symCells L)) := ho
      clear hcell hok hx hq hdd hL ho HSN
      by_cases hsg : segN N A = s
      · have HS1 : Hid (ofL N (l.take (k + 1)) s = L ++ [((d : Int), val)]) := by
          have := HSN2.out
          rwa [if_pos hsg] at this
        rw [hsg] at cg
        have f1 : ∀ q, (wr.drewN q).cell? ⟨w.heap.size, 2, none⟩ = some (.slice (some ⟨b, off, none⟩) l.length cap) := fun q => k2
        have f2 : ∀ q, (wr.drewN q).cell? ⟨w.heap.size, 0, none⟩ = some (.int .i64 (N : Int)) := fun q => k0
        have f3 : ∀ q, (wr.drewN q).cell? ⟨b, off + k * 2, none⟩ = some (.int .i64 (A : Int)) := fun q => c1
        have f4 : ∀ r, (wr.drewN r).cell? ⟨g, q, none⟩ = some (.int .i64 (s : Int)) := fun q => cg
        have de : ((s : Int) == (s : Int)) = true := by simp
        go_wp2
        go_quiet (fail)
        go_wp2
        have HOV : Hid ((wr.drewN nq).ownsRow w1.heap.size 88 2 u6 L.length (symCells L)) := HO.out
        have bV : Below w1.heap.size w1 (wr.drewN nq) := below_drewN hbw nq
        have v1 := f1 nq
        have v2 := f2 nq
        have v3 := f3 nq
        have v4 : (wr.drewN nq).cell? ⟨b, off + k * 2 + 1, none⟩ = some (.int .i64 val) := c2
        have hbV : b < (wr.drewN nq).heap.size := hb
        have hxV : w.heap.size < (wr.drewN nq).heap.size := hbx
        obtain ⟨V, hV⟩ : ∃ V, wr.drewN nq = V := ⟨_, rfl⟩
        rw [hV] at HOV bV v1 v2 v3 v4 hbV hxV ⊢
        have hbs2 := bV.size
        clear hV f1 f2 f3 f4 cg c1 c2 k0 k2 x2 hb hbx hgw HO hbw hbs
        go_region_held_law (fun w' => w'.cell? ⟨w.heap.size, 2, none⟩ = some (.slice (some ⟨b, off, none⟩) l.length cap) ∧ w'.cell? ⟨w.heap.size, 0, none⟩ = some (.int .i64 (N : Int)) ∧ w'.cell? ⟨b, off + k * 2, none⟩ = some (.int .i64 (A : Int)) ∧ w'.cell? ⟨b, off + k * 2 + 1, none⟩ = some (.int .i64 val)) (go_keep) ((refine step_append_lies _ rfl _ _ 22 rfl w1.heap.size 88 i0 (.agg #[.int .i64 0, .int .i64 0]) 2 16 Tryd.underlying22 hi hz0 hz1 hz2 rfl (by decide) u6 L.length _ (by simp [Act.eval]) (by exact (HOV.out.alloc _).drew) ⟨V.heap.size, 0, none⟩ 1 1 [.int .i64 d, .int .i64 val] (by simp [Act.eval]) rfl (by exact World.news_of_block (World.alloc_heap_new _ _)) (by simp [Value.oneCell']) (by decide) (by unfold maxLen; omega) (by omega) (by simp; omega) _ rfl ?_; intro g9 cap9 w9 hown9 hgrow9 hat9 hlt9; have hs1 := hgrow9.cell (a := ⟨w.heap.size, 2, none⟩) ((((Below.refl _ V).alloc (Nat.le_refl _) _).drew.cell (p := ⟨w.heap.size, 2, none⟩) hxV).trans v1) hnew; have hs2 := hgrow9.cell (a := ⟨w.heap.size, 0, none⟩) ((((Below.refl _ V).alloc (Nat.le_refl _) _).drew.cell (p := ⟨w.heap.size, 0, none⟩) hxV).trans v2) hnew; have hs3 := hgrow9.cell (a := ⟨b, off + k * 2, none⟩) ((((Below.refl _ V).alloc (Nat.le_refl _) _).drew.cell (p := ⟨b, off + k * 2, none⟩) hbV).trans v3) hneb; have hs4 := hgrow9.cell (a := ⟨b, off + k * 2 + 1, none⟩) ((((Below.refl _ V).alloc (Nat.le_refl _) _).drew.cell (p := ⟨b, off + k * 2 + 1, none⟩) hbV).trans v4) hneb))
        all_goals (
          have b9 : Below w1.heap.size w1 w9 := ((bV.alloc bV.size _).drew).trans ((Below.refl _ _).grown hgrow9 (by simp; omega) (fun q e => (HOV.out.lt q e).1))
          go_wp2
          refine ⟨⟨k + 1, by omega, by go_num, ?_, b9⟩, by simp [intOf]; omega⟩
          rw [HS1.out, symCells_snoc, List.length_append]
          exact hown9)
      · have HS1 : Hid (ofL N (l.take (k + 1)) s = L) := by
          have := HSN2.out
          rw [if_neg hsg, List.append_nil] at this
          exact this
        have f1 : ∀ q, (wr.drewN q).cell? ⟨w.heap.size, 2, none⟩ = some (.slice (some ⟨b, off, none⟩) l.length cap) := fun q => k2
        have f2 : ∀ q, (wr.drewN q).cell? ⟨w.heap.size, 0, none⟩ = some (.int .i64 (N : Int)) := fun q => k0
        have f3 : ∀ q, (wr.drewN q).cell? ⟨b, off + k * 2, none⟩ = some (.int .i64 (A : Int)) := fun q => c1
        have f4 : ∀ r, (wr.drewN r).cell? ⟨g, q, none⟩ = some (.int .i64 ((segN N A : Nat) : Int)) := fun q => cg
        have de : (((segN N A : Nat) : Int) == (s : Int)) = false := by rw [beq_eq_false_iff_ne]; omega
        obtain ⟨S, hS⟩ : ∃ S, segN N A = S := ⟨_, rfl⟩
        rw [hS] at f4 de
        clear hS cg HSN2 hseg hsg
        go_wp2
        go_quiet (fail)
        go_wp2
        refine ⟨⟨k + 1, by omega, by go_num, ?_, below_drewN hbw _⟩, by simp [intOf]; omega⟩
        rw [HS1.out]
        exact HO.out
    · obtain rfl : k = l.length := by omega
      rw [List.take_length] at ho
      have ho' := symRow_base ho (show w.heap.size ≤ w1.heap.size by have := bb1.size; omega)
      have bb2 := bb1.trans (hbw.mono bb1.size)
      have k2 := x2.cell 2 _ rfl
      clear ho hlt hk ha1 HCG
      go_wp2
      go_ret
      exact ⟨_, rfl, ho', bb2⟩

end Go.Proofs.YtdnhnnidlangiaaDoor
