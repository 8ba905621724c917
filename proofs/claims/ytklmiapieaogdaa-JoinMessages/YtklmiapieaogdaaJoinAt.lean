/-
  What join.Take and the page's Join answer, by name; a block in a list, with what it holds.
-/
import Derived.Test.YtklmiapieaogdaaJoinBase
import Derived.Test.YtklmiapieaogdaaJoinCode
import Derived.Test.YtklmiapieaogdaaBlkMem
import Derived.Test.YtklmiapieaogdaaRefBlock
namespace Go.Proofs.Ytklmiapieaogdaa
open Go.RowKit

theorem takeJ_le {j : Jn} {m : Int} {xs : List Int} {O : Bool} {T G : List Int} {D : Bool} (h : takeJ j m xs = ((O, T), G, D)) : T.length ≤ 4096 ∧ G.length ≤ 4096 := by
  rcases takeJ_cases j m xs with ⟨_, _, h3⟩ | ⟨_, _, _, h3⟩ | ⟨_, _, _, _, h3⟩ | ⟨_, _, _, _, _, h3⟩ | ⟨_, _, _, h4, _, h3⟩
  · rw [h] at h3; cases h3; simp
  · rw [h] at h3; cases h3; simp
  · rw [h] at h3; cases h3; simp
  · rw [h] at h3; cases h3; simp
  · rw [h] at h3
    split at h3 <;> cases h3
    · simp; omega
    · simp; omega
theorem joinTake_at (o : Bool) (a : Option Addr) (n cap : Nat) (s m : Int) (b : Option Addr) (k bc : Nat) (t xs : List Int) (hn : t.length = n) (hk : xs.length = k) {O : Bool} {T G : List Int} {D : Bool} {E : Int} {nT nG : Nat} (hT : takeJ (o, t) m xs = ((O, T), G, D)) (hE : errJ (o, t) m xs = E) (h1 : T.length = nT) (h2 : G.length = nG) (w : World) (ha : Holds .u8 w.heap.size w (.slice a n cap) t) (hb : Holds .u8 w.heap.size w (.slice b k bc) xs) :
    Calls Try.prog 10 #[.agg #[.bool o, .slice a n cap], .agg #[.int .i64 s, .int .i64 m, .slice b k bc]] w fun e W' => ∃ ta tc ua uc, e = .returned (.tuple #[.agg #[.bool O, .slice ta nT tc], .slice ua nG uc, .bool D, .int .i64 E]) ∧ W'.ownsRow w.heap.size 5 1 (.slice ta nT tc) nT (T.map (Value.int .u8)) ∧ W'.ownsRow w.heap.size 5 1 (.slice ua nG uc) nG (G.map (Value.int .u8)) ∧ Apart (.slice ta nT tc) (.slice ua nG uc) ∧ Below w.heap.size w W' := by
  have h := JoinTake_any o a n cap s m b k bc t xs hn hk w ha hb
  rw [hT, hE] at h
  subst h1 h2
  exact h
theorem refJoin_at (o : Bool) (a : Option Addr) (n cap : Nat) (s m : Int) (b : Option Addr) (k bc : Nat) (t xs : List Int) (hn : t.length = n) (hk : xs.length = k) {O : Bool} {T G : List Int} {D : Bool} {E : Int} {nT nG : Nat} (hT : takeJ (o, t) m xs = ((O, T), G, D)) (hE : errJ (o, t) m xs = E) (h1 : T.length = nT) (h2 : G.length = nG) (w : World) (ha : Holds .u8 w.heap.size w (.slice a n cap) t) (hb : Holds .u8 w.heap.size w (.slice b k bc) xs) :
    Calls Try.prog 11 #[.agg #[.bool o, .slice a n cap], .agg #[.int .i64 s, .int .i64 m, .slice b k bc]] w fun e W' => ∃ ta tc ua uc, e = .returned (.tuple #[.agg #[.bool O, .slice ta nT tc], .slice ua nG uc, .bool D, .int .i64 E]) ∧ W'.ownsRow w.heap.size 5 1 (.slice ta nT tc) nT (T.map (Value.int .u8)) ∧ W'.ownsRow w.heap.size 5 1 (.slice ua nG uc) nG (G.map (Value.int .u8)) ∧ Below w.heap.size w W' := by
  have h := refJoin_any o a n cap s m b k bc t xs hn hk w ha hb
  rw [hT, hE] at h
  subst h1 h2
  exact h.mono fun e W' ⟨ta, tc, ua, uc, he, h1, h2, _, h3⟩ => ⟨ta, tc, ua, uc, he, h1, h2, h3⟩

/-- A block that lies in a list, and what its text holds. -/
def AtBlk (W : World) (gb off k : Nat) (s m : Int) (pa : Option Addr) (x pc : Nat) (xs : List Int) : Prop :=
  (gb < W.heap.size ∧ W.cell? ⟨gb, off + k * 3, none⟩ = some (.int .i64 s) ∧ W.cell? ⟨gb, off + k * 3 + 1, none⟩ = some (.int .i64 m) ∧ W.cell? ⟨gb, off + k * 3 + 2, none⟩ = some (.slice pa x pc)) ∧ Holds .u8 W.heap.size W (.slice pa x pc) xs
theorem AtBlk.next {W W' : World} {gb off k : Nat} {s m : Int} {pa : Option Addr} {x pc : Nat} {xs : List Int} (h : AtBlk W gb off k s m pa x pc xs) (hb : Below W.heap.size W W') : AtBlk W' gb off k s m pa x pc xs :=
  ⟨⟨Nat.lt_of_lt_of_le h.1.1 hb.size, (hb.cell (p := ⟨gb, off + k * 3, none⟩) h.1.1).trans h.1.2.1, (hb.cell (p := ⟨gb, off + k * 3 + 1, none⟩) h.1.1).trans h.1.2.2.1, (hb.cell (p := ⟨gb, off + k * 3 + 2, none⟩) h.1.1).trans h.1.2.2.2⟩, h.2.next hb⟩
theorem AtBlk.held {W : World} {gb off k : Nat} {s m : Int} {pa : Option Addr} {x pc : Nat} {xs : List Int} (h : AtBlk W gb off k s m pa x pc xs) : Holds .u8 W.heap.size W (.slice pa x pc) xs := h.2
theorem AtBlk.lt {W : World} {gb off k : Nat} {s m : Int} {pa : Option Addr} {x pc : Nat} {xs : List Int} (h : AtBlk W gb off k s m pa x pc xs) : gb < W.heap.size := h.1.1
/-- The k-th block of a list that lies below n₀. -/
theorem atBlk_of {n₀ n cap : Nat} {W W' : World} {a : Option Addr} {l : List Bl} (h : Blks n₀ W (.slice a n cap) l) {k : Nat} {s m : Int} {xs : List Int} (hk : l[k]? = some (s, m, xs)) (hb : Below n₀ W W') (hn : n₀ ≤ W.heap.size) :
    ∃ gb off pa pc, a = some ⟨gb, off, none⟩ ∧ AtBlk W' gb off k s m pa xs.length pc xs := by
  have h0 : 0 < l.length := by
    have := (List.getElem?_eq_some_iff.1 hk).1
    omega
  obtain ⟨b, off, rfl, hlt, hc⟩ := blks_at h h0
  obtain ⟨p, hp, c0, c1, c2⟩ := hc k _ hk
  obtain ⟨pa, pc, rfl⟩ : ∃ pa pc, p = .slice pa xs.length pc := hp.shape
  have hs := hb.size
  exact ⟨b, off, pa, pc, rfl, ⟨by omega, (hb.cell (p := ⟨b, off + k * 3, none⟩) hlt).trans c0, (hb.cell (p := ⟨b, off + k * 3 + 1, none⟩) hlt).trans c1, (hb.cell (p := ⟨b, off + k * 3 + 2, none⟩) hlt).trans c2⟩, (hp.below hb).mono (by omega)⟩
theorem keepJoin_eq (o : Bool) (v v' : Value) (xs : List Int) (w : World) (hy : xs.length ≤ 4611686018427387904) (ha : Holds .u8 w.heap.size w v xs) (hb : Holds .u8 w.heap.size w v' xs) : Calls Try.prog 12 #[.agg #[.bool o, v], .agg #[.bool o, v']] w fun e w' => e = .returned (.bool true) ∧ Below w.heap.size w w' := by
  have h := keepJoin_any o o v v' xs xs w _ _ (Nat.le_refl _) (Nat.le_refl _) hy ha hb
  rw [decide_eq_true ⟨rfl, rfl⟩] at h
  exact h
theorem keepBlock_eq (s m : Int) (v v' : Value) (xs : List Int) (w : World) (hy : xs.length ≤ 4611686018427387904) (ha : Holds .u8 w.heap.size w v xs) (hb : Holds .u8 w.heap.size w v' xs) : Calls Try.prog 13 #[.agg #[.int .i64 s, .int .i64 m, v], .agg #[.int .i64 s, .int .i64 m, v']] w fun e w' => e = .returned (.bool true) ∧ Below w.heap.size w w' := by
  have h := keepBlock_any s m s m v v' xs xs w _ _ (Nat.le_refl _) (Nat.le_refl _) hy ha hb
  rw [decide_eq_true ⟨rfl, rfl, rfl⟩] at h
  exact h
theorem bytes_eq (v v' : Value) (xs : List Int) (w : World) (hy : xs.length ≤ 4611686018427387904) (ha : Holds .u8 w.heap.size w v xs) (hb : Holds .u8 w.heap.size w v' xs) : Calls Try.prog 14 #[v, v'] w fun e w' => e = .returned (.bool true) ∧ Below w.heap.size w w' := by
  have h := bytes_any v v' xs xs _ _ w hy ha hb
  rw [decide_eq_true rfl] at h
  exact h.mono fun e w' ⟨he, n, hw⟩ => ⟨he, hw ▸ below_drewN (Below.refl _ _) n⟩
theorem box_same {W W' : World} {B : Nat} {t : TypeId} {cs : Array Value} {v : Value} (h : Box W B t cs) (hq : ∀ q, some q ≠ v.ownBlock → W'.heap[q]? = W.heap[q]?) (ne : v.ownBlock ≠ some B) : Box W' B t cs := (hq B (fun e => ne e.symm)).trans h
theorem row_sameB {W W' : World} {base k size : Nat} {e : TypeId} {v u : Value} {xs : List Value} (h : W.ownsRow base e size v k xs) (hq : ∀ q, some q ≠ u.ownBlock → W'.heap[q]? = W.heap[q]?) (ne : ∀ g, v.ownBlock = some g → u.ownBlock ≠ some g) : W'.ownsRow base e size v k xs := rowK_same h fun g hg => hq g fun e => ne g hg e.symm

end Go.Proofs.Ytklmiapieaogdaa
