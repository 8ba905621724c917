/-
  What the page's Encode answers.
-/
import Derived.Test.YtehnplodfpljkaaDoorCodeNums
import Derived.Test.YtehnplodfpljkaaDoorRefApart
import Derived.Test.YtehnplodfpljkaaDoorRefSpine
import Derived.Test.YtehnplodfpljkaaDoorRefSymbol
import Derived.Test.YtehnplodfpljkaaDoorRefOrder
import Derived.Test.YtehnplodfpljkaaDoorKept
namespace Go.Proofs.YtehnplodfpljkaaDoor
open Go.RowKit

set_option maxRecDepth 100000 in
set_option maxHeartbeats 4000000 in
theorem refEncode_any (a : Option Addr) (cap : Nat) (zs : List Int) (h1 : 1 ≤ zs.length) (hn : zs.length ≤ 32) (bz : ∀ z ∈ zs, 0 ≤ z ∧ z ≤ 255) (f c : Nat) (h : f + c ≤ 32 * zs.length) (w : World) (ha : Holds .u8 w.heap.size w (.slice a zs.length cap) zs) :
    Calls Tryd.prog 14 #[.slice a zs.length cap, .int .i64 f, .int .i64 c] w fun e W' => ∃ r, e = .returned r ∧ W'.ownsRow w.heap.size 5 1 r c ((codeL zs f c).map (Value.int .u8)) ∧ Below w.heap.size w W' := by
  obtain ⟨i0, hi, hz0, hz1, hz2⟩ := info_parts infoU8
  have HB : Hid (∀ z ∈ zs, 0 ≤ z ∧ z ≤ 255) := bz
  clear bz
  go_enter Tryd.func14, Tryd.ntmps14
  go_wp2_with fail
  refine (refNibs_any a cap zs (by omega) HB.out w ha).mono ?_
  rintro e w1 ⟨r1, rfl, o1, b1⟩
  have g1 : Holds .i64 w1.heap.size w1 r1 (nibs zs) := holds_of_row o1
  obtain ⟨a1, c1, rfl⟩ := g1.shape
  have HNL : Hid ((nibs zs).length = 2 * zs.length) := nibs_len zs
  clear o1 ha
  go_wp2_with fail
  refine (refStates_any a1 c1 (nibs zs) (by have := HNL.out; omega) (nibs_path zs) w1 g1).mono ?_
  rintro e w2 ⟨r2, rfl, o2, b2⟩
  have g2 := holds_of_row o2
  obtain ⟨a2, c2, rfl⟩ := g2.shape
  have hsl := states_len zs
  have HG : Hid (∀ s, s < 2 * zs.length → ∃ b off, a2 = some ⟨b, off, none⟩ ∧ b < w2.heap.size ∧ w2.cell? ⟨b, off + s, none⟩ = some (.int .u32 ((stN zs s : Nat) : Int))) := by
    intro s hs
    rcases g2 with ⟨_, e⟩ | ⟨b, off, cap', e, hb, hcs⟩
    · rw [e] at hsl; simp at hsl; omega
    · cases e
      exact ⟨b, off, rfl, hb, (hcs s (by omega)).trans (by rw [stN_get hs]; rfl)⟩
  clear o2 g1 g2
  rw [hsl]
  clear hsl
  obtain ⟨n, hne⟩ : ∃ n, 2 * zs.length = n := ⟨_, rfl⟩
  have HN : Hid (2 * zs.length = n) := hne
  have n1 : 1 ≤ n := by omega
  have n65 : n < 65 := by omega
  have hfc : f + c ≤ n * 16 := by omega
  rw [hne] at HG ⊢
  clear hne h h1 hn
  go_wp2_with fail
  refine (refOrder_any n n1 n65 w2).mono ?_
  rintro e w3 ⟨r3, rfl, o3, b3⟩
  obtain ⟨g, cap3, rfl, _, hg3, hcs3⟩ := order_cell n1 o3
  have HC : Hid _ := hcs3
  clear o3 hcs3
  go_wp2
  go_loopw [9, 10] (fun v i wr => ∃ k : Nat, k ≤ c ∧ i = .int .i64 ((f + k : Nat) : Int) ∧ wr.ownsRow w3.heap.size 5 1 v k ((codeL zs f k).map (Value.int .u8)) ∧ Below w3.heap.size w3 wr) (fun _ i _ => f + c - (intOf i).toNat)
  case atStart => exact ⟨0, Nat.zero_le _, by simp, World.ownsRow_nil _ _ _ _, Below.refl _ _⟩
  case round =>
    obtain ⟨k, hk, rfl, ho, hbw⟩ := hrel
    by_cases hlt : k < c
    · have hs := segN_get n1 n65 (f + k)
      obtain ⟨b, off, rfl, hb, hc2⟩ := HG.out _ hs.2
      have hbs := hbw.size
      have c2 : wr.cell? ⟨b, off + segN n (f + k), none⟩ = some (.int .u32 ((stN zs (segN n (f + k)) : Nat) : Int)) := (hbw.cell (p := ⟨b, off + segN n (f + k), none⟩) (by have := b3.size; show b < w3.heap.size; omega)).trans ((b3.cell (p := ⟨b, off + segN n (f + k), none⟩) hb).trans hc2)
      have c3 : wr.cell? ⟨g, (f + k) % n, none⟩ = some (.int .i64 ((segN n (f + k) : Nat) : Int)) := (hbw.cell (p := ⟨g, (f + k) % n, none⟩) hg3).trans (HC.out _ _ hs.1)
      have hst := stN_lt zs (segN n (f + k))
      have HNX : Hid (codeL zs f (k + 1) = codeL zs f k ++ [((symN (stN zs (segN n (f + k))) ((f + k) / n) : Nat) : Int)]) := by
        show codeL zs f (k + 1) = _
        rw [codeL_next]
        unfold codeN
        rw [HN.out]
      have e0 : ((f + k : Nat) : Int) - (f : Int) = (k : Int) := by omega
      have e1 : ((f + k : Nat) : Int).tmod (n : Int) = (((f + k) % n : Nat) : Int) := by rw [Int.tmod_eq_emod_of_nonneg (by omega)]; simp
      have e2 : ((f + k : Nat) : Int).tdiv (n : Int) = (((f + k) / n : Nat) : Int) := by rw [Int.tdiv_eq_ediv_of_nonneg (by omega)]; simp
      have hm : (f + k) % n < n := Nat.mod_lt _ (by omega)
      have hd : (f + k) / n ≤ f + k := Nat.div_le_self _ _
      have e4 : ((f + k : Nat) : Int) + 1 = ((f + (k + 1) : Nat) : Int) := by omega
      have HE4 : Hid (((f + k : Nat) : Int) + 1 = ((f + (k + 1) : Nat) : Int)) := e4
      have hK : f + k < n * 16 := by omega
      have hsn := hs.2
      clear hs hc2 e4
      obtain ⟨x, hx⟩ : ∃ x, segN n (f + k) = x := ⟨_, rfl⟩
      rw [hx] at c2 c3 hst HNX hsn
      obtain ⟨s, hse⟩ : ∃ s, stN zs x = s := ⟨_, rfl⟩
      rw [hse] at c2 hst HNX
      obtain ⟨d, hde⟩ : ∃ d, (f + k) / n = d := ⟨_, rfl⟩
      rw [hde] at e2 HNX hd
      obtain ⟨q, hqe⟩ : ∃ q, (f + k) % n = q := ⟨_, rfl⟩
      rw [hqe] at c3 e1 hm
      have htl := symN_lt s d
      obtain ⟨t, hte⟩ : ∃ t, symN s d = t := ⟨_, rfl⟩
      rw [hte] at HNX htl
      have HT : Hid (symN s d = t) := hte
      obtain ⟨K, hKe⟩ : ∃ K, f + k = K := ⟨_, rfl⟩
      rw [hKe] at e0 e1 e2 HE4 hK hd ⊢
      have ew : IntKind.u8.wrap (t : Int) = (t : Int) := by rw [IntKind.wrap_u8]; omega
      have n0 : ¬ (n : Int) = 0 := by omega
      have ewd : IntKind.i64.wrap (d : Int) = (d : Int) := by rw [IntKind.wrap_i64]; omega
      have HO : Hid (wr.ownsRow w3.heap.size 5 1 u9 k ((codeL zs f k).map (Value.int .u8))) := ho
      have hbb : b < wr.heap.size := by have := b3.size; omega
      have hgb : g < wr.heap.size := by omega
      have hneb : some b ≠ u9.ownBlock := fun e => by have := (ho.lt b e.symm).1; have := b3.size; omega
      have hneg : some g ≠ u9.ownBlock := fun e => by have := (ho.lt g e.symm).1; omega
      have hd2 : d ≤ 4294967295 := by omega
      clear hx hse hde hqe hte ho
      go_wp2
      go_region_held_law (fun w' => w'.cell? ⟨b, off + x, none⟩ = some (.int .u32 (s : Int)) ∧ w'.cell? ⟨g, q, none⟩ = some (.int .i64 (x : Int))) (go_keep) (first | (go_at_call 30; refine (refSymbol_any s d hst hd2 _).mono ?_; rw [HT.out]; rintro e w' ⟨rfl, rfl⟩) | (refine step_append_lies _ rfl _ _ 22 rfl w3.heap.size 5 i0 (.int .u8 0) 1 1 Tryd.underlying22 hi hz0 hz1 hz2 rfl (by decide) u9 k _ (by simp [Act.eval]) (by exact (HO.out.alloc _).drew) ⟨wr.heap.size, 0, none⟩ 1 1 [.int .u8 t] (by simp [Act.eval]) rfl (by exact World.news_of_block (World.alloc_heap_new _ _)) (by simp [Value.oneCell']) (by decide) (by unfold maxLen; omega) (by omega) (by simp; omega) _ rfl ?_; intro g9 cap9 w9 hown9 hgrow9 hat9 hlt9; have hs9 := hgrow9.cell (a := ⟨b, off + x, none⟩) ((((Below.refl _ wr).alloc (Nat.le_refl _) _).drew.cell (p := ⟨b, off + x, none⟩) hbb).trans c2) hneb; have hs8 := hgrow9.cell (a := ⟨g, q, none⟩) ((((Below.refl _ wr).alloc (Nat.le_refl _) _).drew.cell (p := ⟨g, q, none⟩) hgb).trans c3) hneg))
      all_goals (
        have b9 : Below w3.heap.size w3 w9 := ((hbw.alloc hbw.size _).drew).trans ((Below.refl _ _).grown hgrow9 (by simp; omega) (fun q e => (HO.out.lt q e).1))
        go_wp2
        refine ⟨⟨k + 1, by omega, by rw [HE4.out], ?_, b9⟩, by simp [intOf]; omega⟩
        rw [HNX.out, List.map_append]
        simpa using hown9)
    · obtain rfl : k = c := by omega
      have e0 : ((f + k : Nat) : Int) - (f : Int) = (k : Int) := by omega
      have ho' := row_base (row_base ho b3.size) (show w.heap.size ≤ w2.heap.size by have := b1.size; have := b2.size; omega)
      have bb1 := b1.trans (b2.mono b1.size)
      have bb2 := bb1.trans (b3.mono bb1.size)
      have bb3 := bb2.trans (hbw.mono bb2.size)
      clear ho hlt hk HG HC
      obtain ⟨K, hKe⟩ : ∃ K, f + k = K := ⟨_, rfl⟩
      rw [hKe] at e0 ⊢
      clear hKe
      go_wp2
      go_ret
      exact ⟨_, rfl, ho', bb3⟩

end Go.Proofs.YtehnplodfpljkaaDoor
