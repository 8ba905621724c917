/-
  What the page's Encode answers.
-/
import Derived.Test.YtnecdbmdgpoogaaDoorM02
import Derived.Test.YtnecdbmdgpoogaaDoorM10
import Derived.Test.YtnecdbmdgpoogaaDoorM14
import Derived.Test.YtnecdbmdgpoogaaDoorM15
import Derived.Test.YtnecdbmdgpoogaaDoorM16
import Derived.Test.YtnecdbmdgpoogaaDoorM17
import Derived.Test.YtnecdbmdgpoogaaDoorM20
namespace Go.Proofs.YtnecdbmdgpoogaaDoor
open Go.RowKit

set_option maxRecDepth 100000 in
set_option maxHeartbeats 4000000 in
theorem refEncode_any (a : Option Addr) (cap : Nat) (zs : List Int) (h1 : 1 ≤ zs.length) (hn : zs.length ≤ 32) (bz : ∀ z ∈ zs, 0 ≤ z ∧ z ≤ 255) (f c : Nat) (h : f + c ≤ 32 * zs.length) (w : World) (ha : Holds .u8 w.heap.size w (.slice a zs.length cap) zs) :
    Calls Tryd.prog 28 #[.slice a zs.length cap, .int .i64 f, .int .i64 c] w fun e W' => ∃ r, e = .returned r ∧ W'.ownsRow w.heap.size 5 1 r c ((codeL zs f c).map (Value.int .u8)) ∧ Below w.heap.size w W' := by
  obtain ⟨i0, hi, hz0, hz1, hz2⟩ := info_parts infoU8
  have HB : Hid (∀ z ∈ zs, 0 ≤ z ∧ z ≤ 255) := bz
  clear bz
  go_enter Tryd.func28, Tryd.ntmps28
  go_wp2_with fail
  refine (refNibs_any a cap zs (by omega) HB.out w ha).mono ?_
  rintro e w1 ⟨r1, rfl, o1, b1⟩
  have g1 : Holds .i64 w1.heap.size w1 r1 (nibs zs) := holds_of_row o1
  obtain ⟨a1, c1, rfl⟩ := g1.shape
  have HNL : Hid ((nibs zs).length = 2 * zs.length) := nibs_len zs
  clear o1 ha
  go_wp2_with fail
  refine (refStates_any a1 c1 (nibs zs) (by have := HNL.out; omega) (nibs_path zs) w1 g1).mono ?_
  rintro e w2 ⟨r2, rfl, o2, b2⟩
  have g2 := holds_of_row o2
  obtain ⟨a2, c2, rfl⟩ := g2.shape
  have hsl := states_len zs
  have HG : Hid (∀ s, s < 2 * zs.length → ∃ b off, a2 = some ⟨b, off, none⟩ ∧ b < w2.heap.size ∧ w2.cell? ⟨b, off + s, none⟩ = some (.int .u32 ((stN zs s : Nat) : Int))) := by
    intro s hs
    rcases g2 with ⟨_, e⟩ | ⟨b, off, cap', e, hb, hcs⟩
    · rw [e] at hsl; simp at hsl; omega
    · cases e
      exact ⟨b, off, rfl, hb, (hcs s (by omega)).trans (by rw [stN_get hs]; rfl)⟩
  clear o2 g1 g2
  rw [hsl]
  clear hsl
  obtain ⟨n, hne⟩ : ∃ n, 2 * zs.length = n := ⟨_, rfl⟩
  have HN : Hid (2 * zs.length = n) := hne
  have n1 : 1 ≤ n := by omega
  have n65 : n < 65 := by omega
  have hfc : f + c ≤ n * 16 := by omega
  rw [hne] at HG ⊢
  clear hne h h1 hn
  go_wp2_with fail
  refine (refOrder_any n n1 n65 w2).mono ?_
  rintro e w3 ⟨r3, rfl, o3, b3⟩
  obtain ⟨g, cap3, rfl, _, hg3, hcs3⟩ := order_cell n1 o3
  have HC : Hid _ := hcs3
  clear o3 hcs3
  go_wp2
  go_loopw [9, 10] (fun v i wr => ∃ k : Nat, k ≤ c ∧ i = .int .i64 ((f + k : Nat) : Int) ∧ wr.ownsRow w3.heap.size 5 1 v k ((codeL zs f k).map (Value.int .u8)) ∧ Below w3.heap.size w3 wr) (fun _ i _ => f + c - (intOf i).toNat)
  case atStart => exact ⟨0, Nat.zero_le _, by simp, World.ownsRow_nil _ _ _ _, Below.refl _ _⟩
  case round =>
    obtain ⟨k, hk, rfl, ho, hbw⟩ := hrel
    by_cases hlt : k < c
    · have hs := segN_get n1 n65 (f + k)
      obtain ⟨b, off, rfl, hb, hc2⟩ := HG.out _ hs.2
      have hbs := hbw.size
      have c2 : wr.cell? ⟨b, off + segN n (f + k), none⟩ = some (.int .u32 ((stN zs (segN n (f + k)) : Nat) : Int)) := (hbw.cell (p := ⟨b, off + segN n (f + k), none⟩) (by have := b3.size; show b < w3.heap.size; omega)).trans ((b3.cell (p := ⟨b, off + segN n (f + k), none⟩) hb).trans hc2)
      have c3 : wr.cell? ⟨g, (f + k) % n, none⟩ = some (.int .i64 ((segN n (f + k) : Nat) : Int)) := (hbw.cell (p := ⟨g, (f + k) % n, none⟩) hg3).trans (HC.out _ _ hs.1)
      have hst := stN_lt zs (segN n (f + k))
      have HNX : Hid (codeL zs f (k + 1) = codeL zs f k ++ [((symN (stN zs (segN n (f + k))) ((f + k) / n) : Nat) : Int)]) := by
        show codeL zs f (k + 1) = _
        rw [codeL_next]
        unfold codeN
        rw [HN.out]
      have e0 : ((f + k : Nat) : Int) - (f : Int) = (k : Int) := by omega
      have e1 : ((f + k : Nat) : Int).tmod (n : Int) = (((f + k) % n : Nat) : Int) := by rw [Int.tmod_eq_emod_of_nonneg (by omega)]; simp
      have e2 : ((f + k : Nat) : Int).tdiv (n : Int) = (((f + k) / n : Nat) : Int) := by rw [Int.tdiv_eq_ediv_of_nonneg (by omega)]; simp
      have hm : (f + k) % n < n := Nat.mod_lt _ (by omega)
      have hd : (f + k) / n ≤ f + k := Nat.div_le_self _ _
      have e4 : ((f + k : Nat) : Int) + 1 = ((f + (k + 1) : Nat) : Int) := by omega
      have HE4 : Hid (((f + k : Nat) : Int) + 1 = ((f + (k + 1) : Nat) : Int)) := e4
      have hK : f + k < n * 16 := by omega
      have hsn := hs.2
      clear hs hc2 e4
      obtain ⟨x, hx⟩ : ∃ x, segN n (f + k) = x := ⟨_, rfl⟩
      rw [hx] at c2 c3 hst HNX hsn
      obtain ⟨s, hse⟩ : ∃ s, stN zs x = s := ⟨_, rfl⟩
      rw [hse] at c2 hst HNX
      obtain ⟨d, hde⟩ : ∃ d, (f + k) / n = d := ⟨_, rfl⟩
      rw [hde] at e2 HNX hd
      obtain ⟨q, hqe⟩ : ∃ q, (f + k) % n = q := ⟨_, rfl⟩
      rw [hqe] at c3 e1 hm
      have htl := symN_lt s d
      obtain ⟨t, hte⟩ : ∃ t, symN s d = t := ⟨_, rfl⟩
      rw [hte] at HNX htl
      have HT : Hid (symN s d = t) := hte
      obtain ⟨K, hKe⟩ : ∃ K, f + k = K := ⟨_, rfl⟩
      rw [hKe] at e0 e1 e2 HE4 hK hd ⊢
      have ew : IntKind.u8.wrap (t : Int) = (t : Int) := by rw [IntKind.wrap_u8]; omega
      have n0 : ¬ (n : Int) = 0 := by omega
      have ewd : IntKind.i64.wrap (d : Int) = (d : Int) := by rw [IntKind.wrap_i64]; omega
      have HO : Hid (wr.ownsRow w3.heap.size 5 1 u9 k ((codeL zs f k).map (Value.int .u8))) := ho
      have hbb : b < wr.heap.size := by have := b3.size; omega
      have hgb : g < wr.heap.size := by omega
      have hneb : some b ≠ u9.ownBlock := fun e => by have := (ho.lt b e.symm).1; have := b3.size; omega
      have hneg : some g ≠ u9.ownBlock := fun e => by have := (ho.lt g e.symm).1; omega
      have hd2 : d ≤ 4294967295 := by omega
      clear hx hse hde hqe hte ho
      go_wp2
      go_region_held_law (fun w' => w'.cell? ⟨b, off + x, none⟩ = some (.int .u32 (s : Int)) ∧ w'.cell? ⟨g, q, none⟩ = some (.int .i64 (x : Int))) (go_keep) (first | (go_at_call 48; refine (refSymbol_any s d hst hd2 _).mono ?_; rw [HT.out]; rintro e w' ⟨rfl, rfl⟩) | (refine step_append_lies _ rfl _ _ 24 rfl w3.heap.size 5 i0 (.int .u8 0) 1 1 Tryd.underlying24 hi hz0 hz1 hz2 rfl (by decide) u9 k _ (by simp [Act.eval]) (by exact (HO.out.alloc _).drew) ⟨wr.heap.size, 0, none⟩ 1 1 [.int .u8 t] (by simp [Act.eval]) rfl (by exact World.news_of_block (World.alloc_heap_new _ _)) (by simp [Value.oneCell']) (by decide) (by unfold maxLen; omega) (by omega) (by simp; omega) _ rfl ?_; intro g9 cap9 w9 hown9 hgrow9 hat9 hlt9; have hs9 := hgrow9.cell (a := ⟨b, off + x, none⟩) ((((Below.refl _ wr).alloc (Nat.le_refl _) _).drew.cell (p := ⟨b, off + x, none⟩) hbb).trans c2) hneb; have hs8 := hgrow9.cell (a := ⟨g, q, none⟩) ((((Below.refl _ wr).alloc (Nat.le_refl _) _).drew.cell (p := ⟨g, q, none⟩) hgb).trans c3) hneg))
      all_goals (
        have b9 : Below w3.heap.size w3 w9 := ((hbw.alloc hbw.size _).drew).trans ((Below.refl _ _).grown hgrow9 (by simp; omega) (fun q e => (HO.out.lt q e).1))
        go_wp2
        refine ⟨⟨k + 1, by omega, by rw [HE4.out], ?_, b9⟩, by simp [intOf]; omega⟩
        rw [HNX.out, List.map_append]
        simpa using hown9)
    · obtain rfl : k = c := by omega
      have e0 : ((f + k : Nat) : Int) - (f : Int) = (k : Int) := by omega
      have ho' := row_base (row_base ho b3.size) (show w.heap.size ≤ w2.heap.size by have := b1.size; have := b2.size; omega)
      have bb1 := b1.trans (b2.mono b1.size)
      have bb2 := bb1.trans (b3.mono bb1.size)
      have bb3 := bb2.trans (hbw.mono bb2.size)
      clear ho hlt hk HG HC
      obtain ⟨K, hKe⟩ : ∃ K, f + k = K := ⟨_, rfl⟩
      rw [hKe] at e0 ⊢
      clear hKe
      go_wp2
      go_ret
      exact ⟨_, rfl, ho', bb3⟩

end Go.Proofs.YtnecdbmdgpoogaaDoor

/-
  A round, tick by tick, as numbers. No function of the program is spoken of.
-/
namespace Go.Proofs.YtnecdbmdgpoogaaDoor
open Go.RowKit

/-- Where the tick i of a round begins. -/
def atE (c : Cfg) (i : Nat) : Int := min ((i : Int) * c.cBatch) (mostC c)
theorem atE_zero {c : Cfg} (h : okC c = true) : atE c 0 = 0 := by
  have := mostC_bd h
  unfold atE
  simp
  omega
theorem atE_lt {c : Cfg} (h : okC c = true) {i : Nat} (hi : (i : Int) < ticksC c) : atE c i = (i : Int) * c.cBatch ∧ atE c i < mostC c := by
  have ht := ticksC_bd h
  have hb := ((okC_iff c).1 h).2.2.2.2.2.2.1
  have h1 : (i : Int) * c.cBatch ≤ (ticksC c - 1) * c.cBatch := Int.mul_le_mul_of_nonneg_right (by omega) (by omega)
  unfold atE
  omega
theorem atE_end {c : Cfg} (h : okC c = true) {i : Nat} (hi : (i : Int) = ticksC c) : atE c i = mostC c := by
  have ht := ticksC_bd h
  unfold atE
  rw [hi]
  omega
theorem atE_bd {c : Cfg} (h : okC c = true) (i : Nat) : 0 ≤ atE c i ∧ atE c i ≤ mostC c := by
  have hm := mostC_bd h
  have hb := ((okC_iff c).1 h).2.2.2.2.2.2.1
  have h1 : 0 ≤ (i : Int) * c.cBatch := Int.mul_nonneg (by omega) (by omega)
  unfold atE
  omega
theorem atE_emF {c : Cfg} (h : okC c = true) {i : Nat} (hi : (i : Int) < ticksC c) : emF c (atE c i) = atE c i := by
  have := (atE_lt h hi).2
  unfold emF
  rw [if_neg (by omega)]
theorem atE_emR {c : Cfg} (h : okC c = true) {i : Nat} (hi : (i : Int) < ticksC c) (r : Int) : emR c r (atE c i) = r := by
  have := (atE_lt h hi).2
  unfold emR
  rw [if_neg (by omega)]
theorem atE_next {c : Cfg} (h : okC c = true) {i : Nat} (hi : (i : Int) < ticksC c) : atE c i + emN c (atE c i) = atE c (i + 1) := by
  have h1 := atE_lt h hi
  have hb := ((okC_iff c).1 h).2.2.2.2.2.2.1
  have e : ((i + 1 : Nat) : Int) * c.cBatch = (i : Int) * c.cBatch + c.cBatch := by rw [Int.natCast_add, Int.add_mul]; simp
  have e2 : atE c (i + 1) = min ((i : Int) * c.cBatch + c.cBatch) (mostC c) := by unfold atE; rw [e]
  rw [e2]
  unfold emN
  rw [atE_emF h hi]
  omega
/-- All ticks but the last are full. -/
theorem atE_full {c : Cfg} (h : okC c = true) {i : Nat} (hi : (i : Int) < ticksC c - 1) : emN c (atE c i) = c.cBatch := by
  have h1 := atE_lt h (show (i : Int) < ticksC c by omega)
  have h2 := atE_lt h (i := i + 1) (show ((i + 1 : Nat) : Int) < ticksC c by omega)
  have e : ((i + 1 : Nat) : Int) * c.cBatch = (i : Int) * c.cBatch + c.cBatch := by rw [Int.natCast_add, Int.add_mul]; simp
  unfold emN
  rw [atE_emF h (by omega)]
  omega
/-- The symbols of a tick stand where they should in the round's. -/
theorem atE_part {c : Cfg} (h : okC c = true) {i : Nat} (hi : (i : Int) < ticksC c) (zs : List Int) : ((codeL zs 0 (mostC c).toNat).drop (atE c i).toNat).take (emN c (atE c i)).toNat = emX c (atE c i) zs := by
  have h0 := atE_bd h i
  have h1 := emN_bd h h0.1 h0.2
  have e := atE_emF h hi
  unfold emX
  rw [e] at h1 ⊢
  rw [codeL_part (by omega), Nat.zero_add]
theorem emF_most (c : Cfg) : emF c (mostC c) = 0 := by unfold emF; rw [if_pos rfl]
theorem emR_most (c : Cfg) (r : Int) : emR c r (mostC c) = (r + 1) % 256 := by unfold emR; rw [if_pos rfl]
theorem codeL_join (zs : List Int) (f a b : Nat) : codeL zs f a ++ codeL zs (f + a) b = codeL zs f (a + b) := by
  unfold codeL
  rw [List.range_add, List.map_append, List.map_map]
  congr 1
  apply List.map_congr_left
  intro j _
  simp [Nat.add_assoc]
/-- The symbols up to a tick, and the tick's, are those up to the next one. -/
theorem atE_join {c : Cfg} (h : okC c = true) {i : Nat} (hi : (i : Int) < ticksC c) (zs : List Int) : codeL zs 0 (atE c i).toNat ++ emX c (atE c i) zs = codeL zs 0 (atE c (i + 1)).toNat := by
  have h0 := atE_bd h i
  have h1 := emN_bd h h0.1 h0.2
  unfold emX
  rw [atE_emF h hi]
  have := codeL_join zs 0 (atE c i).toNat (emN c (atE c i)).toNat
  rw [Nat.zero_add] at this
  rw [this, ← atE_next h hi]
  congr 1
  omega

/-- A part of a row that is held. -/
theorem holds_partE {W : World} {b off T cr p m : Nat} {zs : List Int} (hr : Holds .u8 W.heap.size W (.slice (some ⟨b, off, none⟩) T cr) zs) (hl : zs.length = T) (h : p + m ≤ T) (c : Nat) (h0 : 0 < m) :
    Holds .u8 W.heap.size W (.slice (some ⟨b, off + p, none⟩) m c) ((zs.drop p).take m) := by
  rcases hr with ⟨⟨_, _, _, _⟩, hz⟩ | ⟨b', off', c', e, hb, hc⟩
  · rw [hz] at hl
    simp at hl
    omega
  · cases e
    have hlen : ((zs.drop p).take m).length = m := by rw [List.length_take, List.length_drop]; omega
    refine .inr ⟨b, off + p, c, by rw [hlen], hb, fun j hj => ?_⟩
    rw [hlen] at hj
    rw [Nat.add_assoc, hc (p + j) (by omega), List.getElem?_take_of_lt hj, List.getElem?_drop]

/-- A row of more numbers than a variable's block has cells lies in another block: a store there leaves it. -/
theorem holds_box_set {W : World} {B : Nat} {ty : TypeId} {cs : Array Value} {v : Value} {zs : List Int} (x : W.heap[B]? = some (.cells cs ty)) (h : Holds .u8 W.heap.size W v zs) (hz : cs.size < zs.length) (i : Nat) (u : Value) : Holds .u8 (W.setCell ⟨B, i, none⟩ u).heap.size (W.setCell ⟨B, i, none⟩ u) v zs := by
  rcases h with h | ⟨b, off, c, e, hb, hc⟩
  · exact .inl h
  · refine .inr ⟨b, off, c, e, by simpa [World.setCell] using hb, fun j hj => ?_⟩
    have hne : b ≠ B := by
      intro hbb
      subst hbb
      have := hc (zs.length - 1) (by omega)
      simp [World.cell?, x] at this
      have hlt := (Array.getElem?_eq_some_iff.1 this).1
      omega
    rw [World.cell?_setCell_other _ _ _ _ (fun e => hne (congrArg Addr.block e).symm)]
    exact hc j hj

end Go.Proofs.YtnecdbmdgpoogaaDoor
