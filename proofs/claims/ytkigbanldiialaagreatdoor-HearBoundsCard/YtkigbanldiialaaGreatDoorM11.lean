/-
  Nodes, scores, the walk of a beam, as lists, over whatever step and cost. No program is spoken of.
-/
import Derived.Test.YtkigbanldiialaaGreatDoorM01
import Derived.Test.YtkigbanldiialaaGreatDoorM09
import Derived.Test.YtkigbanldiialaaGreatDoorM10
import Derived.Deep.AppendLies
import Derived.WalkSmall
namespace Go.Proofs.YtkigbanldiialaaGreatDoor

section
variable (st : Int → Int → Int) (co : Nat → Int → Int) (N : Nat) (s0 : Int)

/-- A node's child; the root; the node of a path; its metric. -/
def kid (n : Nd) (k : Int) : Nd := (st n.1 k, n.2.1 + co n.2.2.2.length (st n.1 k), 0, n.2.2.2 ++ [k])
def root : Nd := (s0, 0, 0, [])
def nodeOf (P : List Int) : Nd := P.foldl (kid st co) (root s0)
def met (P : List Int) : Int := (nodeOf st co s0 P).2.1
def sta (P : List Int) : Int := (nodeOf st co s0 P).1
theorem nodeOf_snoc (P : List Int) (k : Int) : nodeOf st co s0 (P ++ [k]) = kid st co (nodeOf st co s0 P) k := by unfold nodeOf; rw [List.foldl_append]; rfl
theorem path_foldl : ∀ (P : List Int) (n : Nd), (P.foldl (kid st co) n).2.2.2 = n.2.2.2 ++ P
  | [], n => by simp
  | k :: P, n => by rw [List.foldl_cons, path_foldl P]; simp [kid]
theorem nodeOf_path (P : List Int) : (nodeOf st co s0 P).2.2.2 = P := by unfold nodeOf; rw [path_foldl]; simp [root]
theorem met_nil : met st co s0 [] = 0 := rfl
theorem sta_snoc (P : List Int) (k : Int) : sta st co s0 (P ++ [k]) = st (sta st co s0 P) k := by unfold sta; rw [nodeOf_snoc]; rfl
theorem met_snoc (P : List Int) (k : Int) : met st co s0 (P ++ [k]) = met st co s0 P + co P.length (st (sta st co s0 P) k) := by
  unfold met sta
  rw [nodeOf_snoc]
  unfold kid
  rw [nodeOf_path]

/-- The sixteen nibbles; paths of nibbles. -/
def nib16 : List Int := (List.range 16).map fun k : Nat => (k : Int)
def Nibs (P : List Int) : Prop := ∀ k ∈ P, 0 ≤ k ∧ k < 16
theorem nib16_mem {k : Int} : k ∈ nib16 ↔ 0 ≤ k ∧ k < 16 := by
  unfold nib16
  rw [List.mem_map]
  constructor
  · rintro ⟨a, ha, rfl⟩
    have := List.mem_range.1 ha
    omega
  · intro h
    exact ⟨k.toNat, List.mem_range.2 (by omega), by omega⟩
theorem nib16_nodup : nib16.Nodup := by unfold nib16; decide
theorem Nibs.snoc {P : List Int} (h : Nibs P) {k : Int} (hk : 0 ≤ k ∧ k < 16) : Nibs (P ++ [k]) := by
  intro x hx
  rcases List.mem_append.1 hx with h' | h'
  · exact h x h'
  · simp at h'; subst h'; exact hk
theorem Nibs.take {P : List Int} (h : Nibs P) (n : Nat) : Nibs (P.take n) := fun k hk => h k (List.mem_of_mem_take hk)
theorem Nibs.append {P Q : List Int} (h : Nibs P) (k : Nibs Q) : Nibs (P ++ Q) := fun x hx => by
  rcases List.mem_append.1 hx with h' | h'
  · exact h x h'
  · exact k x h'
theorem Nibs.right {P Q : List Int} (h : Nibs (P ++ Q)) : Nibs Q := fun x hx => h x (List.mem_append.2 (.inr hx))
theorem Nibs.left {P Q : List Int} (h : Nibs (P ++ Q)) : Nibs P := fun x hx => h x (List.mem_append.2 (.inl hx))

/-- What a path costs never falls. -/
theorem met_mono (hco : ∀ i s, 0 ≤ co i s) (P : List Int) : ∀ R : List Int, met st co s0 P ≤ met st co s0 (P ++ R) := by
  intro R
  induction R generalizing P with
  | nil => rw [List.append_nil]; exact Int.le_refl _
  | cons k R ih =>
    have h1 := ih (P ++ [k])
    rw [List.append_assoc] at h1
    have h2 := met_snoc st co s0 P k
    have h3 := hco P.length (st (sta st co s0 P) k)
    simp only [List.cons_append, List.nil_append] at h1
    omega
theorem met_pos (hco : ∀ i s, 0 ≤ co i s) (P : List Int) : 0 ≤ met st co s0 P := by
  have := met_mono st co s0 hco [] P
  rw [met_nil, List.nil_append] at this
  exact this

/-- The least of a list: -1, if there is none. -/
def minStep (b x : Int) : Int := if b < 0 ∨ x < b then x else b
def minF (l : List Int) : Int := l.foldl minStep (-1)
theorem minF_foldl : ∀ (l : List Int) (P : Int → Prop) (b : Int), (∀ z, P z → 0 ≤ z) → (∀ x ∈ l, 0 ≤ x) → Least P b → Least (fun z => P z ∨ z ∈ l) (l.foldl minStep b)
  | [], P, b, _, _, hb => hb.congr fun z => ⟨.inl, fun h => h.elim id (fun h => by simp at h)⟩
  | x :: l, P, b, hP, hl, hb => by
    have hx : 0 ≤ x := hl x (by simp)
    have h1 : Least (fun z => P z ∨ z = x) (minStep b x) := by
      unfold minStep
      split
      · next h => exact hb.more hP h
      · next h =>
        have hge := hb.ge hP
        exact hb.same (by omega) (by omega)
    have h2 := minF_foldl l (fun z => P z ∨ z = x) (minStep b x) (fun z hz => hz.elim (hP z) (fun h => by omega)) (fun y hy => hl y (by simp [hy])) h1
    rw [List.foldl_cons]
    refine h2.congr fun z => ?_
    constructor
    · rintro ((h | h) | h)
      · exact .inl h
      · exact .inr (by simp [h])
      · exact .inr (by simp [h])
    · rintro (h | h)
      · exact .inl (.inl h)
      · rcases List.mem_cons.1 h with h | h
        · exact .inl (.inr h)
        · exact .inr h
theorem minF_least {l : List Int} (hl : ∀ x ∈ l, 0 ≤ x) : Least (fun z => z ∈ l) (minF l) := by
  have := minF_foldl l (fun _ => False) (-1) (fun z h => h.elim) hl (.inl ⟨rfl, fun z h => h⟩)
  exact this.congr fun z => ⟨fun h => h.elim (fun h => h.elim) id, .inr⟩
theorem minF_mem {l : List Int} (hl : ∀ x ∈ l, 0 ≤ x) (h0 : l ≠ []) : minF l ∈ l ∧ ∀ x ∈ l, minF l ≤ x := by
  rcases minF_least hl with ⟨_, h⟩ | h
  · cases l with
    | nil => exact absurd rfl h0
    | cons x l => exact absurd (by simp) (h x)
  · exact h

/-- The least metric so many depths further on, of a state at a depth. -/
def lst : Nat → Int → Nat → Int → Int
  | 0, _, _, m => m
  | a + 1, s, i, m => if i = N then m else minF (nib16.map fun k => lst a (st s k) (i + 1) (m + co i (st s k)))
def scA (a : Nat) (P : List Int) : Int := lst st co N a (sta st co s0 P) P.length (met st co s0 P)
theorem scA_zero (P : List Int) : scA st co N s0 0 P = met st co s0 P := rfl
theorem scA_end (a : Nat) (P : List Int) (h : P.length = N) : scA st co N s0 a P = met st co s0 P := by
  unfold scA
  cases a with
  | zero => rfl
  | succ a => simp only [lst]; rw [if_pos h]
theorem scA_succ (a : Nat) (P : List Int) (h : P.length ≠ N) : scA st co N s0 (a + 1) P = minF (nib16.map fun k => scA st co N s0 a (P ++ [k])) := by
  unfold scA
  simp only [lst]
  rw [if_neg h]
  congr 1
  refine List.map_congr_left fun k _ => ?_
  rw [sta_snoc, met_snoc, List.length_append]
  rfl
theorem nib16_ne : nib16 ≠ [] := by unfold nib16; decide
theorem scA_bounds (hco : ∀ i s, 0 ≤ co i s) : ∀ (a : Nat) (P : List Int), P.length ≤ N →
    (∀ R, Nibs R → R.length = min a (N - P.length) → scA st co N s0 a P ≤ met st co s0 (P ++ R)) ∧ ∃ R, Nibs R ∧ R.length = min a (N - P.length) ∧ scA st co N s0 a P = met st co s0 (P ++ R)
  | 0, P, hP => by
    refine ⟨fun R _ hR => ?_, [], fun k hk => by simp at hk, by simp, by rw [List.append_nil]; rfl⟩
    have : R = [] := List.length_eq_zero_iff.1 (by rw [hR]; simp)
    rw [this, List.append_nil, scA_zero]
    exact Int.le_refl _
  | a + 1, P, hP => by
    by_cases he : P.length = N
    · refine ⟨fun R _ hR => ?_, [], fun k hk => by simp at hk, by simp [he], by rw [List.append_nil, scA_end st co N s0 _ P he]⟩
      have : R = [] := List.length_eq_zero_iff.1 (by rw [hR, he]; simp)
      rw [this, List.append_nil, scA_end st co N s0 _ P he]
      exact Int.le_refl _
    · have hlt : P.length < N := by omega
      have ih := fun k => scA_bounds hco a (P ++ [k]) (by simp; omega)
      rw [scA_succ st co N s0 a P he]
      have hnn : ∀ x ∈ nib16.map (fun k => scA st co N s0 a (P ++ [k])), 0 ≤ x := by
        intro x hx
        obtain ⟨k, _, rfl⟩ := List.mem_map.1 hx
        obtain ⟨R, _, _, e⟩ := (ih k).2
        rw [e]
        exact met_pos st co s0 hco _
      obtain ⟨hm1, hm2⟩ := minF_mem hnn (by simp [nib16_ne])
      constructor
      · intro R hR hRl
        cases R with
        | nil => simp at hRl; omega
        | cons k R =>
          have hk := hR k (by simp)
          have h1 := hm2 _ (List.mem_map.2 ⟨k, nib16_mem.2 hk, rfl⟩)
          have h2 := (ih k).1 R (fun x hx => hR x (by simp [hx])) (by simp at hRl ⊢; omega)
          rw [List.append_assoc] at h2
          exact Int.le_trans h1 h2
      · obtain ⟨k, hk, e⟩ := List.mem_map.1 hm1
        obtain ⟨R, hR1, hR2, hR3⟩ := (ih k).2
        refine ⟨k :: R, ?_, by simp at hR2 ⊢; omega, ?_⟩
        · intro x hx
          rcases List.mem_cons.1 hx with rfl | hx
          · exact nib16_mem.1 hk
          · exact hR1 x hx
        · rw [← e, hR3, List.append_assoc]
          rfl
theorem scA_ge (hco : ∀ i s, 0 ≤ co i s) (a : Nat) (P : List Int) (hP : P.length ≤ N) : met st co s0 P ≤ scA st co N s0 a P := by
  obtain ⟨R, _, _, e⟩ := (scA_bounds st co N s0 hco a P hP).2
  rw [e]
  exact met_mono st co s0 hco P R
/-- No more than any whole path that goes on. -/
theorem scA_le (hco : ∀ i s, 0 ≤ co i s) (a : Nat) (P R : List Int) (hR : Nibs R) (hl : P.length + R.length = N) : scA st co N s0 a P ≤ met st co s0 (P ++ R) := by
  have h1 := (scA_bounds st co N s0 hco a P (by omega)).1 (R.take (min a (N - P.length))) (hR.take _) (by rw [List.length_take]; omega)
  have h2 := met_mono st co s0 hco (P ++ R.take (min a (N - P.length))) (R.drop (min a (N - P.length)))
  rw [List.append_assoc, List.take_append_drop] at h2
  exact Int.le_trans h1 h2

/-- A child with its Score; all children of a list; the walk. -/
def kidS (a : Nat) (i : Nat) (n : Nd) (k : Int) : Nd := ((kid st co n k).1, (kid st co n k).2.1, lst st co N a (kid st co n k).1 (i + 1) (kid st co n k).2.1, (kid st co n k).2.2.2)
def kidsOf (a : Nat) (i : Nat) (l : List Nd) : List Nd := l.flatMap fun n => nib16.map (kidS st co N a i n)
def walkTo (b a : Nat) : Nat → List Nd × Int
  | 0 => ([root s0], -1)
  | i + 1 => (keptN b (kidsOf st co N a i (walkTo b a i).1), lmin (walkTo b a i).2 (cutK sc b (kidsOf st co N a i (walkTo b a i).1)))

/-- n is the node of the path P, whatever its Score. -/
def IsNd (P : List Int) (n : Nd) : Prop := n.1 = sta st co s0 P ∧ n.2.1 = met st co s0 P ∧ n.2.2.2 = P
theorem isNd_root : IsNd st co s0 [] (root s0) := ⟨rfl, rfl, rfl⟩
theorem kidS_is {a i : Nat} {P : List Int} {n : Nd} (h : IsNd st co s0 P n) (hi : P.length = i) (k : Int) : IsNd st co s0 (P ++ [k]) (kidS st co N a i n k) ∧ sc (kidS st co N a i n k) = scA st co N s0 a (P ++ [k]) := by
  obtain ⟨h1, h2, h3⟩ := h
  have e1 : (kid st co n k).1 = sta st co s0 (P ++ [k]) := by rw [sta_snoc, ← h1]; rfl
  have e2 : (kid st co n k).2.1 = met st co s0 (P ++ [k]) := by
    rw [met_snoc, ← h1, ← h2]
    unfold kid
    rw [h3]
  refine ⟨⟨e1, e2, ?_⟩, ?_⟩
  · show n.2.2.2 ++ [k] = P ++ [k]
    rw [h3]
  · show lst st co N a (kid st co n k).1 (i + 1) (kid st co n k).2.1 = _
    rw [e1, e2]
    unfold scA
    rw [List.length_append, hi]
    rfl
theorem kidsOf_mem {a i : Nat} {l : List Nd} {c : Nd} (h : c ∈ kidsOf st co N a i l) : ∃ n ∈ l, ∃ k, (0 ≤ k ∧ k < 16) ∧ c = kidS st co N a i n k := by
  unfold kidsOf at h
  obtain ⟨n, hn, hc⟩ := List.mem_flatMap.1 h
  obtain ⟨k, hk, rfl⟩ := List.mem_map.1 hc
  exact ⟨n, hn, k, nib16_mem.1 hk, rfl⟩
theorem mem_kidsOf {a i : Nat} {l : List Nd} {n : Nd} (hn : n ∈ l) {k : Int} (hk : 0 ≤ k ∧ k < 16) : kidS st co N a i n k ∈ kidsOf st co N a i l := by
  unfold kidsOf
  exact List.mem_flatMap.2 ⟨n, hn, List.mem_map.2 ⟨k, nib16_mem.2 hk, rfl⟩⟩
theorem kidsOf_len (a i : Nat) : ∀ l : List Nd, (kidsOf st co N a i l).length = l.length * 16
  | [] => rfl
  | n :: l => by
    have := kidsOf_len a i l
    unfold kidsOf at this ⊢
    rw [List.flatMap_cons, List.length_append, this, List.length_map, List.length_cons]
    have : nib16.length = 16 := by unfold nib16; decide
    omega
def pathOf (n : Nd) : List Int := n.2.2.2
theorem nodup_kids (a i : Nat) : ∀ l : List Nd, (l.map pathOf).Nodup → ((kidsOf st co N a i l).map pathOf).Nodup
  | [], _ => by simp [kidsOf]
  | n :: l, h => by
    rw [List.map_cons, List.nodup_cons] at h
    have ih := nodup_kids a i l h.2
    have e : (kidsOf st co N a i (n :: l)).map pathOf = (nib16.map fun k => pathOf n ++ [k]) ++ (kidsOf st co N a i l).map pathOf := by
      unfold kidsOf
      rw [List.flatMap_cons, List.map_append, List.map_map]
      rfl
    rw [e]
    refine List.nodup_append.2 ⟨?_, ih, ?_⟩
    · refine List.pairwise_map.2 (nib16_nodup.imp fun hne => fun e => hne ?_)
      have := List.append_cancel_left e
      simpa using this
    · intro x hx y hy exy
      subst exy
      obtain ⟨k, _, rfl⟩ := List.mem_map.1 hx
      obtain ⟨c, hc, e2⟩ := List.mem_map.1 hy
      obtain ⟨n', hn', k', _, rfl⟩ := kidsOf_mem st co N hc
      have e3 : pathOf n' ++ [k'] = pathOf n ++ [k] := e2
      have e4 : pathOf n' = pathOf n := by
        have := congrArg List.dropLast e3
        simpa using this
      exact h.1 (by rw [← e4]; exact List.mem_map.2 ⟨n', hn', rfl⟩)
theorem kept_perm (b : Nat) (l : List Nd) : (keptN b l ++ (sortK sc l).drop b).Perm l := by
  unfold keptN
  rw [List.take_append_drop]
  exact sortK_perm sc l
theorem kept_mem_iff {b : Nat} {l : List Nd} {x : Nd} (h : x ∈ keptN b l) : x ∈ l := (kept_perm b l).mem_iff.1 (List.mem_append.2 (.inl h))
theorem nodup_kept {b : Nat} {l : List Nd} (h : (l.map pathOf).Nodup) : ((keptN b l).map pathOf).Nodup := by
  have h1 := ((kept_perm b l).map pathOf).nodup_iff.2 h
  rw [List.map_append] at h1
  exact (List.nodup_append.1 h1).1

/-- What holds of the list all the way. -/
structure Walked (a b i : Nat) (l : List Nd) (cut : Int) : Prop where
  node : ∀ n ∈ l, ∃ P, P.length = i ∧ Nibs P ∧ IsNd st co s0 P n ∧ (0 < i → sc n = scA st co N s0 a P)
  once : (l.map pathOf).Nodup
  rise : SortedK sc l
  some : 0 < l.length
  most : l.length ≤ max 1 b
  cut1 : -1 ≤ cut
theorem lmin_ge {a c : Int} (h : -1 ≤ a) : -1 ≤ lmin a c := by unfold lmin; split <;> omega
theorem walkTo_inv (a b : Nat) (hb : 1 ≤ b) : ∀ i, Walked st co N s0 a b i (walkTo st co N s0 b a i).1 (walkTo st co N s0 b a i).2
  | 0 => by
    refine ⟨fun n hn => ?_, by simp [walkTo], by simp [walkTo, SortedK], by simp [walkTo], by simp [walkTo]; omega, by simp [walkTo]⟩
    simp [walkTo] at hn
    subst hn
    exact ⟨[], rfl, fun k hk => by simp at hk, isNd_root st co s0, fun h => absurd h (by omega)⟩
  | i + 1 => by
    have ih := walkTo_inv a b hb i
    refine ⟨fun n hn => ?_, ?_, ?_, ?_, ?_, ?_⟩
    · have := kept_mem_iff hn
      obtain ⟨n', hn', k, hk, rfl⟩ := kidsOf_mem st co N this
      obtain ⟨P, hP1, hP2, hP3, _⟩ := ih.node n' hn'
      obtain ⟨h1, h2⟩ := kidS_is st co N s0 (a := a) hP3 hP1 k
      exact ⟨P ++ [k], by simp [hP1], hP2.snoc hk, h1, fun _ => h2⟩
    · exact nodup_kept (nodup_kids st co N a i _ ih.once)
    · exact (sortK_sorted sc _).take b
    · show 0 < (keptN b _).length
      rw [kept_len, kidsOf_len]
      have := ih.some
      omega
    · show (keptN b _).length ≤ _
      rw [kept_len]
      omega
    · exact lmin_ge ih.cut1

/-- A whole path is in the list, as far as it goes, or the cut is no more than it costs. -/
theorem walk_claim (hco : ∀ i s, 0 ≤ co i s) (a b : Nat) (hb : 1 ≤ b) (P : List Int) (hP : Nibs P) (hl : P.length = N) : ∀ i, i ≤ N → (∃ n ∈ (walkTo st co N s0 b a i).1, pathOf n = P.take i) ∨ (0 ≤ (walkTo st co N s0 b a i).2 ∧ (walkTo st co N s0 b a i).2 ≤ met st co s0 P)
  | 0, _ => .inl ⟨root s0, by simp [walkTo], by simp [pathOf, root]⟩
  | i + 1, hi => by
    have hW := walkTo_inv st co N s0 a b hb i
    have hlow : ∀ c m : Int, 0 ≤ m → (walkTo st co N s0 b a i).2 ≤ m → 0 ≤ (walkTo st co N s0 b a i).2 → 0 ≤ lmin (walkTo st co N s0 b a i).2 c ∧ lmin (walkTo st co N s0 b a i).2 c ≤ m := fun c m _ h1 h2 => by unfold lmin; split <;> omega
    rcases walk_claim hco a b hb P hP hl i (by omega) with ⟨n, hn, hp⟩ | ⟨h1, h2⟩
    · obtain ⟨k, hk⟩ : ∃ k, P[i]? = some k := ⟨P[i]'(by omega), by simp⟩
      have hk16 := hP k (List.mem_of_getElem? hk)
      have hc := mem_kidsOf st co N (a := a) (i := i) hn hk16
      obtain ⟨Q, hQ1, hQ2, hQ3, _⟩ := hW.node n hn
      have hQP : Q = P.take i := by rw [← hp]; exact hQ3.2.2.symm
      obtain ⟨e1, e2⟩ := kidS_is st co N s0 (a := a) hQ3 hQ1 k
      have etk : P.take (i + 1) = Q ++ [k] := by rw [List.take_add_one, hk, hQP]; rfl
      rcases List.mem_append.1 ((kept_perm b _).mem_iff.2 hc) with h | h
      · exact .inl ⟨_, h, by rw [etk]; exact e1.2.2⟩
      · refine .inr ?_
        have hle : sc (kidS st co N a i n k) ≤ met st co s0 P := by
          rw [e2]
          have := scA_le st co N s0 hco a (Q ++ [k]) (P.drop (i + 1)) (fun x hx => hP x (List.mem_of_mem_drop hx)) (by simp [hQ1, hl]; omega)
          rw [← etk] at this ⊢
          rwa [List.take_append_drop] at this
        have hcut := cutK_least sc b (kidsOf st co N a i (walkTo st co N s0 b a i).1)
        rcases hcut with ⟨_, hno⟩ | ⟨⟨y, hy, ey⟩, hmin⟩
        · exact absurd ⟨_, h, rfl⟩ (hno (sc (kidS st co N a i n k)))
        · have h5 := hmin _ ⟨_, h, rfl⟩
          have h6 : 0 ≤ cutK sc b (kidsOf st co N a i (walkTo st co N s0 b a i).1) := by
            rw [← ey]
            obtain ⟨n', hn', k', hk', rfl⟩ := kidsOf_mem st co N ((kept_perm b _).mem_iff.1 (List.mem_append.2 (.inr hy)))
            obtain ⟨Q', hQ1', hQ2', hQ3', _⟩ := hW.node n' hn'
            obtain ⟨_, e2'⟩ := kidS_is st co N s0 (a := a) hQ3' hQ1' k'
            rw [e2']
            exact Int.le_trans (met_pos st co s0 hco _) (scA_ge st co N s0 hco a _ (by simp [hQ1']; omega))
          show 0 ≤ lmin _ _ ∧ lmin _ _ ≤ _
          have h7 := hW.cut1
          unfold lmin
          split <;> omega
    · exact .inr (hlow _ _ (met_pos st co s0 hco P) h2 h1)

/-- What is told costs less than all others. -/
theorem told_least (hco : ∀ i s, 0 ≤ co i s) (a b : Nat) (hb : 1 ≤ b) (hN : 0 < N) {n : Nd} {t : List Nd} (hl : (walkTo st co N s0 b a N).1 = n :: t) (ht : ∀ u, t.head? = some u → u.2.1 ≠ n.2.1) (hc : ¬ (0 ≤ (walkTo st co N s0 b a N).2 ∧ (walkTo st co N s0 b a N).2 ≤ n.2.1)) :
    IsNd st co s0 (pathOf n) n ∧ (pathOf n).length = N ∧ Nibs (pathOf n) ∧ ∀ P, Nibs P → P.length = N → P ≠ pathOf n → n.2.1 < met st co s0 P := by
  have hW := walkTo_inv st co N s0 a b hb N
  rw [hl] at hW
  obtain ⟨Q, hQ1, hQ2, hQ3, _⟩ := hW.node n (by simp)
  have eQ : pathOf n = Q := hQ3.2.2
  refine ⟨by rw [eQ]; exact hQ3, by rw [eQ]; exact hQ1, by rw [eQ]; exact hQ2, fun P hP hPl hne => ?_⟩
  have hsc : ∀ u ∈ n :: t, sc u = u.2.1 := fun u hu => by
    obtain ⟨R, hR1, _, hR3, hR4⟩ := hW.node u hu
    rw [hR4 hN, scA_end st co N s0 a R hR1, hR3.2.1]
  rcases walk_claim st co N s0 hco a b hb P hP hPl N (Nat.le_refl _) with ⟨u, hu, hp⟩ | ⟨h1, h2⟩
  · rw [hl] at hu
    rw [List.take_of_length_le (by omega)] at hp
    obtain ⟨R, hR1, _, hR3, _⟩ := hW.node u hu
    have eR : R = P := by rw [← hp]; exact hR3.2.2.symm
    have em : u.2.1 = met st co s0 P := by rw [hR3.2.1, eR]
    rcases List.mem_cons.1 hu with e | hu'
    · subst e; exact absurd hp.symm hne
    · cases t with
      | nil => simp at hu'
      | cons v t =>
        have hv := ht v rfl
        have hr := List.pairwise_cons.1 hW.rise
        have h3 : sc n ≤ sc v := hr.1 v (by simp)
        have h4 : sc v ≤ sc u := by
          rcases List.mem_cons.1 hu' with e | hu''
          · subst e; exact Int.le_refl _
          · exact (List.pairwise_cons.1 hr.2).1 u hu''
        rw [hsc n (by simp), hsc v (by simp)] at h3
        rw [hsc v (by simp), hsc u hu] at h4
        rw [← em]
        omega
  · omega

/-- Where one path costs less than all others, and is never left out for another: it is told. -/
theorem clear_told (hco : ∀ i s, 0 ≤ co i s) (a b : Nat) (hb : 1 ≤ b) (hN : 0 < N) (T : List Int) (hT : Nibs T) (hTl : T.length = N) (hU : ∀ P, Nibs P → P.length = N → P ≠ T → met st co s0 T < met st co s0 P)
    (hH : ∀ i, i < N → (∀ Q, Nibs Q → Q.length = i + 1 → Q ≠ T.take (i + 1) → met st co s0 T < scA st co N s0 a Q) ∨ (walkTo st co N s0 b a i).1.length * 16 ≤ b) :
    ∃ n t, (walkTo st co N s0 b a N).1 = n :: t ∧ pathOf n = T ∧ n.2.1 = met st co s0 T ∧ (∀ u, t.head? = some u → u.2.1 ≠ n.2.1) ∧ ¬ (0 ≤ (walkTo st co N s0 b a N).2 ∧ (walkTo st co N s0 b a N).2 ≤ n.2.1) := by
  have hM := met_pos st co s0 hco T
  have key : ∀ i, i ≤ N → (∃ n ∈ (walkTo st co N s0 b a i).1, pathOf n = T.take i) ∧ ((walkTo st co N s0 b a i).2 < 0 ∨ met st co s0 T < (walkTo st co N s0 b a i).2) := by
    intro i
    induction i with
    | zero => intro _; exact ⟨⟨root s0, by simp [walkTo], by simp [pathOf, root]⟩, .inl (by simp [walkTo])⟩
    | succ i ih =>
      intro hi
      obtain ⟨⟨n, hn, hp⟩, hc⟩ := ih (by omega)
      have hW := walkTo_inv st co N s0 a b hb i
      obtain ⟨k, hk⟩ : ∃ k, T[i]? = some k := ⟨T[i]'(by omega), by simp⟩
      have hk16 := hT k (List.mem_of_getElem? hk)
      have hmem := mem_kidsOf st co N (a := a) (i := i) hn hk16
      obtain ⟨Q, hQ1, hQ2, hQ3, _⟩ := hW.node n hn
      have hQP : Q = T.take i := by rw [← hp]; exact hQ3.2.2.symm
      obtain ⟨e1, e2⟩ := kidS_is st co N s0 (a := a) hQ3 hQ1 k
      have etk : T.take (i + 1) = Q ++ [k] := by rw [List.take_add_one, hk, hQP]; rfl
      have hle : sc (kidS st co N a i n k) ≤ met st co s0 T := by
        rw [e2]
        have := scA_le st co N s0 hco a (Q ++ [k]) (T.drop (i + 1)) (fun x hx => hT x (List.mem_of_mem_drop hx)) (by simp [hQ1, hTl]; omega)
        rw [← etk] at this ⊢
        rwa [List.take_append_drop] at this
      have hnd := nodup_kids st co N a i _ hW.once
      have hperm := kept_perm b (kidsOf st co N a i (walkTo st co N s0 b a i).1)
      rcases hH i (by omega) with h | h
      · have hother : ∀ c ∈ kidsOf st co N a i (walkTo st co N s0 b a i).1, pathOf c ≠ T.take (i + 1) → met st co s0 T < sc c := by
          intro c hc' hne
          obtain ⟨n', hn', k', hk', rfl⟩ := kidsOf_mem st co N hc'
          obtain ⟨Q', hQ1', hQ2', hQ3', _⟩ := hW.node n' hn'
          obtain ⟨e1', e2'⟩ := kidS_is st co N s0 (a := a) hQ3' hQ1' k'
          rw [e2']
          refine h _ (hQ2'.snoc hk') (by simp [hQ1']) ?_
          rw [← e1'.2.2]
          exact hne
        have hin : kidS st co N a i n k ∈ keptN b (kidsOf st co N a i (walkTo st co N s0 b a i).1) := by
          rcases List.mem_append.1 (hperm.mem_iff.2 hmem) with h' | h'
          · exact h'
          · exfalso
            have hlen : 0 < (keptN b (kidsOf st co N a i (walkTo st co N s0 b a i).1)).length := by
              rw [kept_len, kidsOf_len]
              have := hW.some
              omega
            obtain ⟨u, hu⟩ : ∃ u, u ∈ keptN b (kidsOf st co N a i (walkTo st co N s0 b a i).1) := ⟨_, List.getElem_mem hlen⟩
            have hs := sortK_sorted sc (kidsOf st co N a i (walkTo st co N s0 b a i).1)
            unfold SortedK at hs
            rw [← List.take_append_drop b (sortK sc (kidsOf st co N a i (walkTo st co N s0 b a i).1))] at hs
            have h1 := (List.pairwise_append.1 hs).2.2 u hu _ h'
            have hup : pathOf u ≠ T.take (i + 1) := by
              intro e
              have h2 := (hperm.map pathOf).nodup_iff.2 hnd
              rw [List.map_append] at h2
              exact (List.nodup_append.1 h2).2.2 _ (List.mem_map.2 ⟨u, hu, rfl⟩) _ (List.mem_map.2 ⟨_, h', rfl⟩) (by rw [e, etk]; exact e1.2.2.symm)
            have := hother u (kept_mem_iff hu) hup
            omega
        refine ⟨⟨_, hin, by rw [etk]; exact e1.2.2⟩, ?_⟩
        have hcut : cutK sc b (kidsOf st co N a i (walkTo st co N s0 b a i).1) < 0 ∨ met st co s0 T < cutK sc b (kidsOf st co N a i (walkTo st co N s0 b a i).1) := by
          rcases cutK_least sc b (kidsOf st co N a i (walkTo st co N s0 b a i).1) with ⟨e, _⟩ | ⟨⟨y, hy, ey⟩, _⟩
          · exact .inl (by rw [e]; decide)
          · right
            rw [← ey]
            refine hother y (hperm.mem_iff.1 (List.mem_append.2 (.inr hy))) fun e => ?_
            have h2 := (hperm.map pathOf).nodup_iff.2 hnd
            rw [List.map_append] at h2
            exact (List.nodup_append.1 h2).2.2 _ (List.mem_map.2 ⟨_, hin, rfl⟩) _ (List.mem_map.2 ⟨y, hy, rfl⟩) (by rw [e, etk]; exact e1.2.2)
        show lmin _ _ < 0 ∨ _ < lmin _ _
        unfold lmin
        split <;> omega
      · have hall : keptN b (kidsOf st co N a i (walkTo st co N s0 b a i).1) = sortK sc (kidsOf st co N a i (walkTo st co N s0 b a i).1) := by
          unfold keptN
          exact List.take_of_length_le (by rw [(sortK_perm sc _).length_eq, kidsOf_len]; exact h)
        have hcut : cutK sc b (kidsOf st co N a i (walkTo st co N s0 b a i).1) = -1 := by
          unfold cutK
          rw [List.getElem?_eq_none (by rw [(sortK_perm sc _).length_eq, kidsOf_len]; exact h)]
        refine ⟨⟨_, ?_, by rw [etk]; exact e1.2.2⟩, ?_⟩
        · show _ ∈ keptN b _
          rw [hall]
          exact (sortK_perm sc _).mem_iff.2 hmem
        · show lmin _ _ < 0 ∨ _ < lmin _ _
          rw [hcut]
          unfold lmin
          split <;> omega
  obtain ⟨⟨n, hn, hp⟩, hc⟩ := key N (Nat.le_refl _)
  rw [List.take_of_length_le (by omega)] at hp
  have hW := walkTo_inv st co N s0 a b hb N
  cases hl : (walkTo st co N s0 b a N).1 with
  | nil => rw [hl] at hn; simp at hn
  | cons v t =>
    rw [hl] at hn hW
    have hsc : ∀ u ∈ v :: t, sc u = u.2.1 ∧ (pathOf u ≠ T → met st co s0 T < u.2.1) ∧ (pathOf u = T → u.2.1 = met st co s0 T) := fun u hu => by
      obtain ⟨R, hR1, hR2, hR3, hR4⟩ := hW.node u hu
      refine ⟨by rw [hR4 hN, scA_end st co N s0 a R hR1, hR3.2.1], fun h => ?_, fun h => ?_⟩
      · rw [hR3.2.1]
        exact hU R hR2 hR1 (fun e => h (by rw [← e]; exact hR3.2.2))
      · rw [hR3.2.1, ← h]
        exact congrArg _ hR3.2.2.symm
    have hr := List.pairwise_cons.1 hW.rise
    have hv : pathOf v = T := by
      rcases List.mem_cons.1 hn with e | hn'
      · rw [← e]; exact hp
      · refine Classical.byContradiction fun hne => ?_
        have h1 := hr.1 n hn'
        rw [(hsc v (by simp)).1, (hsc n hn).1, (hsc n hn).2.2 hp] at h1
        have := (hsc v (by simp)).2.1 hne
        omega
    have hvm := (hsc v (by simp)).2.2 hv
    refine ⟨v, t, rfl, hv, hvm, fun u hu e => ?_, fun h => ?_⟩
    · have hut : u ∈ t := List.mem_of_mem_head? hu
      have hup : pathOf u ≠ T := fun e' => by
        have := hW.once
        rw [List.map_cons, List.nodup_cons] at this
        exact this.1 (by rw [hv, ← e']; exact List.mem_map.2 ⟨u, hut, rfl⟩)
      have := (hsc u (by simp [hut])).2.1 hup
      omega
    · omega

/-- Where each other state costs something, and the path's own nothing: each other path does. -/
theorem four_pos (hco : ∀ i s, 0 ≤ co i s) (T : List Int) (hTl : T.length = N) (hT : Nibs T) (hz : ∀ i, i < N → co i (sta st co s0 (T.take (i + 1))) = 0)
    (hpos : ∀ (i : Nat) (Q : List Int) (k : Int), i < N → Q.length = i → Nibs (Q ++ [k]) → sta st co s0 (Q ++ [k]) ≠ sta st co s0 (T.take (i + 1)) → 0 < co i (sta st co s0 (Q ++ [k])))
    (hinj : ∀ (i : Nat) (k k' : Int), i < N → (0 ≤ k ∧ k < 16) → (0 ≤ k' ∧ k' < 16) → st (sta st co s0 (T.take i)) k = st (sta st co s0 (T.take i)) k' → k = k') :
    (∀ i, i ≤ N → met st co s0 (T.take i) = 0) ∧ ∀ (i : Nat) (Q : List Int), i ≤ N → Nibs Q → Q.length = i → Q ≠ T.take i → 0 < met st co s0 Q := by
  have hzero : ∀ i, i ≤ N → met st co s0 (T.take i) = 0 := by
    intro i
    induction i with
    | zero => intro _; rw [List.take_zero]; rfl
    | succ i ih =>
      intro hi
      obtain ⟨k, hk⟩ : ∃ k, T[i]? = some k := ⟨T[i]'(by omega), by simp⟩
      have e : T.take (i + 1) = T.take i ++ [k] := by rw [List.take_add_one, hk]; rfl
      have h1 := met_snoc st co s0 (T.take i) k
      have h2 := hz i (by omega)
      rw [e, sta_snoc] at h2
      rw [e, h1, ih (by omega), List.length_take, Nat.min_eq_left (by omega), h2]
      rfl
  refine ⟨hzero, fun i => ?_⟩
  induction i with
  | zero =>
    intro Q _ _ hQl hne
    exact absurd (by rw [List.length_eq_zero_iff.1 hQl, List.take_zero]) hne
  | succ i ih =>
    intro Q hi hQ hQl hne
    obtain ⟨Q', k, rfl⟩ : ∃ Q' k, Q = Q' ++ [k] := by
      refine ⟨Q.dropLast, Q.getLast (by intro e; rw [e] at hQl; simp at hQl), ?_⟩
      exact (List.dropLast_concat_getLast _).symm
    have hl' : Q'.length = i := by simpa using hQl
    have hmono := met_mono st co s0 hco Q' [k]
    by_cases hq : Q' = T.take i
    · obtain ⟨k', hk'⟩ : ∃ k', T[i]? = some k' := ⟨T[i]'(by omega), by simp⟩
      have e : T.take (i + 1) = T.take i ++ [k'] := by rw [List.take_add_one, hk']; rfl
      have hkk : k ≠ k' := fun h => hne (by rw [e, hq, h])
      have h1 := hpos i Q' k (by omega) hl' hQ (fun h => hkk (hinj i k k' (by omega) (hQ k (by simp)) (hT k' (List.mem_of_getElem? hk')) (by rw [e, sta_snoc, sta_snoc, hq] at h; exact h)))
      rw [sta_snoc] at h1
      rw [met_snoc, hl']
      have := met_pos st co s0 hco Q'
      omega
    · have := ih Q' (by omega) hQ.left hl' hq
      omega

end

end Go.Proofs.YtkigbanldiialaaGreatDoor

/-
  Rows of numbers of the call's own: append of one number; a block that is written place by place. No function of the program is spoken of.
-/
namespace Go.Proofs.YtkigbanldiialaaGreatDoor
open Go.RowKit

theorem infoIntR : (Tryz.prog.info? 3).map (fun i => (i.zero, i.size, i.bytes)) = some (some (.int .i64 0), 1, 8) := by kernel_rfl

/-- append of one number, its run. -/
theorem run_append_int (v : Value) (n base : Nat) (xs : List Int) (x : Int) (ty : TypeId) (w : World) (hown : w.ownsRow base 3 1 v n (xs.map (Value.int .i64))) (hb : base ≤ w.heap.size) (h1 : n ≤ 4294967296) :
    ∃ v' w', (Builtin.append_ #[52, 52] ty #[v, .slice (some ⟨w.heap.size, 0, none⟩) 1 1]).run Tryz.prog (w.alloc (.cells #[.int .i64 x] 3)) = .ok v' w' ∧ w'.ownsRow base 3 1 v' (n + 1) ((xs ++ [x]).map (Value.int .i64)) ∧ (w.alloc (.cells #[.int .i64 x] 3)).grownBy w' v.ownBlock := by
  obtain ⟨i0, hi, hz0, hz1, hz2⟩ := info_parts infoIntR
  obtain ⟨v', w', hr, ho, hg, _⟩ := run_append_own (P := Tryz.prog) (w.alloc (.cells #[.int .i64 x] 3)) base 52 ty 3 i0 (.int .i64 0) 1 8 Tryz.underlying52 hi hz0 hz1 hz2 rfl (by decide) v n _ (hown.alloc _) ⟨w.heap.size, 0, none⟩ 1 1 [.int .i64 x] rfl (World.news_of_block (World.alloc_heap_new _ _)) (by simp [Value.oneCell']) (by unfold maxLen; omega) (by omega) (by simp; omega)
  exact ⟨v', w', hr, by rw [List.map_append]; exact ho, hg⟩

/-- Where numbers that are held lie. -/
theorem holds_at {kd : IntKind} {n₀ n cap : Nat} {W : World} {a : Option Addr} {zs : List Int} (h : Holds kd n₀ W (.slice a n cap) zs) (hl : zs.length = n) (h0 : 0 < n) :
    ∃ b off, a = some ⟨b, off, none⟩ ∧ b < n₀ ∧ ∀ (j : Nat) (x : Int), zs[j]? = some x → W.cell? ⟨b, off + j, none⟩ = some (.int kd x) := by
  subst hl
  rcases h with ⟨_, e⟩ | ⟨b, off, c', e, hb, hcs⟩
  · rw [e] at h0; simp at h0
  · cases e
    refine ⟨b, off, rfl, hb, fun j x hj => ?_⟩
    rw [hcs j (List.getElem?_eq_some_iff.1 hj).1, hj]
    rfl

/-- Block g holds the numbers zs ahead of all; none of it is frozen. -/
def IntsAt (W : World) (g : Nat) (zs : List Int) : Prop := g < W.heap.size ∧ (∀ q, q < zs.length → W.cell? ⟨g, q, none⟩ = some (.int .i64 (zs[q]?.getD 0))) ∧ ∀ q, W.frozen? ⟨g, q, none⟩ = false

theorem IntsAt.set {W : World} {g : Nat} {zs : List Int} (h : IntsAt W g zs) (k : Nat) (hk : k < zs.length) (v : Int) : IntsAt (W.setCell ⟨g, k, none⟩ (.int .i64 v)) g (zs.set k v) := by
  refine ⟨by simpa [World.setCell] using h.1, fun q hq => ?_, fun q => by rw [World.frozen?_setCell]; exact h.2.2 q⟩
  rw [List.length_set] at hq
  by_cases e : q = k
  · subst e
    rw [World.cell?_setCell_same' _ _ _ (by rw [h.2.1 q hq]; rfl)]
    simp [hq]
  · rw [World.cell?_setCell_other _ _ _ _ (by intro e'; cases e'; exact e rfl), h.2.1 q hq, List.getElem?_set_ne (by omega)]
theorem IntsAt.cell {W : World} {g : Nat} {zs : List Int} (h : IntsAt W g zs) {q : Nat} {x : Int} (hq : zs[q]? = some x) : W.cell? ⟨g, q, none⟩ = some (.int .i64 x) := by
  rw [h.2.1 q (List.getElem?_eq_some_iff.1 hq).1, hq]; rfl
theorem IntsAt.below {W W' : World} {g n : Nat} {zs : List Int} (h : IntsAt W g zs) (hb : Below n W W') (hg : g < n) : IntsAt W' g zs := by
  refine ⟨Nat.lt_of_lt_of_le h.1 hb.size, fun q hq => (hb.cell (p := ⟨g, q, none⟩) hg).trans (h.2.1 q hq), fun q => ?_⟩
  have e : W'.frozen? ⟨g, q, none⟩ = W.frozen? ⟨g, q, none⟩ := by unfold World.frozen?; rw [hb.block g hg]
  rw [e]; exact h.2.2 q
theorem IntsAt.next {W W' : World} {g : Nat} {zs : List Int} (h : IntsAt W g zs) (hb : Below W.heap.size W W') : IntsAt W' g zs := h.below hb h.1
theorem IntsAt.other {W : World} {g : Nat} {zs : List Int} (h : IntsAt W g zs) {p : Addr} (hp : g ≠ p.block) (v : Value) : IntsAt (W.setCell p v) g zs := by
  refine ⟨by simpa [World.setCell] using h.1, fun q hq => ?_, fun q => by rw [World.frozen?_setCell]; exact h.2.2 q⟩
  rw [World.cell?_setCell_other _ _ _ _ (by intro e; cases e; exact hp rfl)]
  exact h.2.1 q hq
theorem IntsAt.other3 {W : World} {g : Nat} {zs : List Int} (h : IntsAt W g zs) {D : Nat} (hp : g ≠ D) (x y z : Value) : IntsAt (((W.setCell ⟨D, 0, none⟩ x).setCell ⟨D, 1, none⟩ y).setCell ⟨D, 2, none⟩ z) g zs := ((h.other (p := ⟨D, 0, none⟩) hp x).other (p := ⟨D, 1, none⟩) hp y).other (p := ⟨D, 2, none⟩) hp z
theorem IntsAt.drewN {W : World} {g : Nat} {zs : List Int} (h : IntsAt W g zs) (n : Nat) : IntsAt (W.drewN n) g zs := h

/-- Numbers of places. -/
def nats (K : List Nat) : List Int := K.map fun x : Nat => (x : Int)
theorem nats_len (K : List Nat) : (nats K).length = K.length := by simp [nats]
theorem nats_get {K : List Nat} {j x : Nat} (h : K[j]? = some x) : (nats K)[j]? = some (x : Int) := by simp [nats, h]
theorem nats_snoc (K : List Nat) (x : Nat) : nats (K ++ [x]) = nats K ++ [(x : Int)] := by simp [nats]
end Go.Proofs.YtkigbanldiialaaGreatDoor
