/-
  CodePlaces: the walk: whatever the blocks and the number, the law answers true, and nothing that lay has turned.
-/
import Derived.Test.YtehnplodfpljkaaDoorCodeWakes
import Derived.Test.YtehnplodfpljkaaDoorKeepBytes
import Derived.Test.YtehnplodfpljkaaDoorPlaces
namespace Go.Proofs.YtehnplodfpljkaaDoor
open Go.RowKit

set_option maxRecDepth 100000 in
set_option maxHeartbeats 2000000 in
theorem codePlaces_few (a : Option Addr) (n cap : Nat) (a' : Option Addr) (n' cap' : Nat) (k : Int) (w : World) (h : n < 1) :
    Calls Tryd.prog 5 #[.slice a n cap, .slice a' n' cap', .int .i64 k] w fun e w' => e = .returned (.bool true) ∧ Below w.heap.size w w' := by
  have d0 : decide ((n : Int) < 1) = true := decide_eq_true (by omega)
  go_enter Tryd.func5, Tryd.ntmps5
  go_wp2
  go_ret
  exact ⟨rfl, Below.refl _ _⟩

set_option maxRecDepth 100000 in
set_option maxHeartbeats 2000000 in
theorem codePlaces_many (a : Option Addr) (n cap : Nat) (a' : Option Addr) (n' cap' : Nat) (k : Int) (w : World) (h : 32 < n) :
    Calls Tryd.prog 5 #[.slice a n cap, .slice a' n' cap', .int .i64 k] w fun e w' => e = .returned (.bool true) ∧ Below w.heap.size w w' := by
  have d0 : decide ((n : Int) < 1) = false := decide_eq_false (by omega)
  have d1 : decide (32 < (n : Int)) = true := decide_eq_true (by omega)
  go_enter Tryd.func5, Tryd.ntmps5
  go_wp2
  go_ret
  exact ⟨rfl, Below.refl _ _⟩

set_option maxRecDepth 100000 in
set_option maxHeartbeats 2000000 in
theorem codePlaces_unlike (a : Option Addr) (n cap : Nat) (a' : Option Addr) (n' cap' : Nat) (k : Int) (w : World) (h1 : 1 ≤ n) (h : n ≤ 32) (hc : n' ≠ n) :
    Calls Tryd.prog 5 #[.slice a n cap, .slice a' n' cap', .int .i64 k] w fun e w' => e = .returned (.bool true) ∧ Below w.heap.size w w' := by
  have d0 : decide ((n : Int) < 1) = false := decide_eq_false (by omega)
  have d1 : decide (32 < (n : Int)) = false := decide_eq_false (by omega)
  have d2 : ((n' : Int) != (n : Int)) = true := by rw [bne_iff_ne]; omega
  go_enter Tryd.func5, Tryd.ntmps5
  go_wp2
  go_ret
  exact ⟨rfl, Below.refl _ _⟩

set_option maxRecDepth 100000 in
set_option maxHeartbeats 4000000 in
theorem codePlaces_in (a : Option Addr) (cap : Nat) (zs : List Int) (bz : ∀ z ∈ zs, 0 ≤ z ∧ z ≤ 255) (h1 : 1 ≤ zs.length) (h : zs.length ≤ 32) (a' : Option Addr) (cap' : Nat) (ys : List Int) (bt : ∀ z ∈ ys, 0 ≤ z ∧ z ≤ 255) (hys : ys.length = zs.length) (k : Int) (w : World) (hF : Firsts w) (ha : Holds .u8 w.heap.size w (.slice a zs.length cap) zs) (hb : Holds .u8 w.heap.size w (.slice a' zs.length cap') ys) :
    Calls Tryd.prog 5 #[.slice a zs.length cap, .slice a' zs.length cap', .int .i64 k] w fun e w' => e = .returned (.bool true) ∧ Below w.heap.size w w' := by
  have d0 : decide ((zs.length : Int) < 1) = false := decide_eq_false (by omega)
  have d1 : decide (32 < (zs.length : Int)) = false := decide_eq_false (by omega)
  have d2 : ((zs.length : Int) != (zs.length : Int)) = false := by simp
  have HB : Hid (∀ z ∈ zs, 0 ≤ z ∧ z ≤ 255) := bz
  have HBY : Hid (∀ z ∈ ys, 0 ≤ z ∧ z ≤ 255) := bt
  have HYL : Hid (ys.length = zs.length) := hys
  have HINJ : Hid _ := code_inj hys h bz bt
  clear bz bt hys
  obtain ⟨n, hne⟩ : ∃ n, 2 * zs.length = n := ⟨_, rfl⟩
  have HN : Hid (2 * zs.length = n) := hne
  have en : 2 * (zs.length : Int) = (n : Int) := by omega
  have n1 : 1 ≤ n := by omega
  have n65 : n < 65 := by omega
  obtain ⟨T, hT⟩ : ∃ T, n * 16 = T := ⟨_, rfl⟩
  have HT : Hid (n * 16 = T) := hT
  have hT0 : 0 < T := by omega
  have hT1 : T ≤ 1024 := by omega
  obtain ⟨m, hm, em⟩ := at_place k (T : Int) (by omega)
  have eu : IntKind.u64.wrap (T : Int) = (T : Int) := by rw [IntKind.wrap_u64]; omega
  have ew : IntKind.i64.wrap (m : Int) = (m : Int) := by rw [IntKind.wrap_i64]; omega
  have t0 : ¬ (T : Int) = 0 := by omega
  have HMT : Hid (m + 1 ≤ 32 * zs.length) := by
    show m + 1 ≤ 32 * zs.length
    omega
  have HMN : Hid (m < n * 16) := by
    show m < n * 16
    omega
  have hd16 : m / n < 16 := Nat.div_lt_of_lt_mul (by omega)
  clear hne hT hm
  go_enter Tryd.func5, Tryd.ntmps5
  go_wp2_with fail
  refine (most_any n (by omega) _).mono ?_
  rw [HT.out]
  rintro e w1 ⟨rfl, rfl⟩
  go_wp2_with fail
  refine (Encode_ok a zs.length cap zs rfl h1 h HB.out m 1 HMT.out w hF ha).mono ?_
  rintro e w1 ⟨r1, rfl, ⟨hr1, ar1, cr1, rfl, _⟩, b1⟩
  rw [show (codeL zs m 1).length = 1 from codeL_len _ _ _]
  have ha1 := ha.next b1
  have hF1 := hF.next b1
  have hb1 := hb.next b1
  have hx0 : ∃ b off, ar1 = some ⟨b, off, none⟩ ∧ b < w1.heap.size ∧ w1.cell? ⟨b, off, none⟩ = some (.int .u8 ((codeN zs m : Nat) : Int)) := by
    rcases hr1 with ⟨_, e⟩ | ⟨b, off, c', e, hbl, hcell⟩
    · cases e
    · cases e
      exact ⟨b, off, rfl, hbl, hcell 0 (by rw [codeL_len]; decide)⟩
  obtain ⟨bx, offx, rfl, hbx, cx⟩ := hx0
  clear ha hb hr1
  have hseg := segN_get n1 n65 m
  have hsn := hseg.2
  have HCN : Hid (codeN zs m = symN (stN zs (segN n m)) (m / n)) := by
    show codeN zs m = _
    unfold codeN
    rw [HN.out]
  have HSG : Hid (∀ s, s < n → (statesOf beginN (nibs zs))[s]? = some ((stN zs s : Nat) : Int)) := by
    intro s hs
    exact stN_get (by rw [HN.out]; exact hs)
  go_wp2_with fail
  refine (At_ok n m _ n1 n65 HMN.out hseg.1 w1 hF1).mono ?_
  rintro e w2 ⟨rfl, b2⟩
  have ha2 := ha1.next b2
  have hF2 := hF1.next b2
  have hb2 := hb1.next b2
  have cx2 := (b2.cell (p := ⟨bx, offx, none⟩) hbx).trans cx
  have hbx2 : bx < w2.heap.size := by have := b2.size; omega
  clear ha1 hb1 cx hseg
  obtain ⟨x, hxe⟩ : ∃ x, segN n m = x := ⟨_, rfl⟩
  rw [hxe] at hsn HCN ⊢
  obtain ⟨d, hde⟩ : ∃ d, m / n = d := ⟨_, rfl⟩
  rw [hde] at hd16 HCN ⊢
  clear hxe hde
  go_wp2_with fail
  refine (nibs_any _ zs (by omega) HB.out w2 ha2).mono ?_
  rintro e w3 ⟨r3, rfl, o3, b3⟩
  have h3 : Holds .i64 w3.heap.size w3 r3 (nibs zs) := holds_of_row o3
  obtain ⟨a3, c3, rfl⟩ := h3.shape
  have HNL : Hid ((nibs zs).length = n) := (nibs_len zs).trans HN.out
  have ha3 := ha2.next b3
  have hF3 := hF2.next b3
  have hb3 := hb2.next b3
  have cx3 := (b3.cell (p := ⟨bx, offx, none⟩) hbx2).trans cx2
  have hbx3 : bx < w3.heap.size := by have := b3.size; omega
  have q1 : ((n : Int) != (n : Int)) = false := by simp
  have q2 : decide ((x : Int) < 0) = false := decide_eq_false (by omega)
  have q3 : decide ((n : Int) ≤ (x : Int)) = false := decide_eq_false (by omega)
  clear ha2 hb2 cx2 o3
  rw [HNL.out]
  go_wp2_with fail
  rw [← HNL.out]
  refine (States_ok a3 c3 (nibs zs) (by rw [HNL.out]; omega) (nibs_path zs) w3 h3).mono ?_
  rw [HNL.out]
  rintro e w4 ⟨r4, rfl, ⟨hr4, ar4, cr4, rfl, _⟩, b4⟩
  have HSL : Hid ((statesOf beginN (nibs zs)).length = n) := (states_len zs).trans HN.out
  have hst : ∃ b off, ar4 = some ⟨b, off, none⟩ ∧ w4.cell? ⟨b, off + x, none⟩ = some (.int .u32 ((stN zs x : Nat) : Int)) := by
    rcases hr4 with ⟨_, e⟩ | ⟨b, off, c', e, hbl, hcell⟩
    · have := HSL.out; rw [e] at this; simp at this; omega
    · cases e
      exact ⟨b, off, rfl, (hcell x (by rw [HSL.out]; exact hsn)).trans (by rw [HSG.out x hsn]; rfl)⟩
  obtain ⟨bs, offs, rfl, cs⟩ := hst
  rw [HSL.out]
  have ha4 := ha3.next b4
  have hF4 := hF3.next b4
  have hb4 := hb3.next b4
  have cx4 := (b4.cell (p := ⟨bx, offx, none⟩) hbx3).trans cx3
  have hstl := stN_lt zs x
  obtain ⟨s, hse⟩ : ∃ s, stN zs x = s := ⟨_, rfl⟩
  rw [hse] at cs hstl HCN
  have HSY : Hid (symN s d = codeN zs m) := HCN.out.symm
  have htl := codeN_lt zs m
  obtain ⟨t, hte⟩ : ∃ t, codeN zs m = t := ⟨_, rfl⟩
  rw [hte] at HSY cx4 htl
  have q4 : ((t : Int) != (t : Int)) = false := by simp
  clear ha3 hb3 cx3 hr4 h3 hse hte HCN
  go_wp2_with fail
  refine (Of_ok s d hstl (by omega) w4).mono ?_
  rw [HSY.out]
  rintro e w5 ⟨rfl, rfl⟩
  have HT4 : Hid (0 + 4 * n ≤ 32 * zs.length) := by
    show 0 + 4 * n ≤ 32 * zs.length
    have := HN.out
    omega
  have e4 : 4 * (n : Int) = ((4 * n : Nat) : Int) := by omega
  obtain ⟨Q, hQ⟩ : ∃ Q, 4 * n = Q := ⟨_, rfl⟩
  rw [hQ] at HT4 e4
  have HQ : Hid (4 * (2 * zs.length) = Q) := by
    show 4 * (2 * zs.length) = Q
    rw [HN.out, hQ]
  have hQ1 : Q ≤ 1024 := by omega
  clear hQ
  rw [HQ.out] at HINJ
  go_wp2_with fail
  refine (Encode_ok a zs.length cap zs rfl h1 h HB.out 0 Q HT4.out _ hF4 ha4).mono ?_
  rintro e w6 ⟨r6, rfl, ⟨hr6, ar6, cr6, rfl, _⟩, b6⟩
  have HL6 : Hid ((codeL zs 0 Q).length = Q) := codeL_len _ _ _
  have HL7 : Hid ((codeL ys 0 Q).length = Q) := codeL_len _ _ _
  rw [HL6.out] at hr6 ⊢
  have ha6 := ha4.next b6
  have hF6 := hF4.next b6
  have hb6 := hb4.next b6
  clear ha4 hb4 cx4 cs
  go_wp2_with fail
  refine (Encode_ok a' zs.length cap' ys HYL.out h1 h HBY.out 0 Q HT4.out w6 hF6 hb6).mono ?_
  rintro e w7 ⟨r7, rfl, ⟨hr7, ar7, cr7, rfl, _⟩, b7⟩
  have ha7 := ha6.next b7
  have hF7 := hF6.next b7
  have hb7 := hb6.next b7
  have hr67 := hr6.next b7
  rw [HL7.out] at hr7 ⊢
  clear ha6 hb6 hr6
  have q5 : ((Q : Int) == (Q : Int)) = true := by simp
  go_wp2_with fail
  refine (bytes_any _ _ (codeL zs 0 Q) (codeL ys 0 Q) _ _ w7 (by rw [HL7.out]; omega) hr67 hr7).mono ?_
  rintro e w8 ⟨rfl, q8, rfl⟩
  have HD : Hid (decide (codeL zs 0 Q = codeL ys 0 Q) = decide (zs = ys)) := decide_eq_decide.2 HINJ.out
  rw [HD.out]
  obtain ⟨D, hD⟩ : ∃ D, decide (zs = ys) = D := ⟨_, rfl⟩
  have HDD : Hid (decide (zs = ys) = D) := hD
  rw [hD]
  have q6 : (D == D) = true := by simp
  clear hD hr67 hr7
  go_wp2_with fail
  refine (bytes_any _ _ zs ys _ _ (w7.drewN q8) (by rw [HYL.out]; omega) ha7 hb7).mono ?_
  rw [HDD.out]
  rintro e w9 ⟨rfl, q9, rfl⟩
  go_wp2_with fail
  refine (codeWakes_any _ (hF7.drewN (q8 + q9))).mono ?_
  rintro e w10 ⟨rfl, b10⟩
  go_wp2
  go_ret
  have bb1 := b1.trans (b2.mono b1.size)
  have bb2 := bb1.trans (b3.mono bb1.size)
  have bb3 := bb2.trans (b4.mono bb2.size)
  have bb4 := bb3.trans (b6.mono bb3.size)
  have bb5 := bb4.trans (b7.mono bb4.size)
  have bb6 := below_drewN bb5 (q8 + q9)
  exact ⟨rfl, bb6.trans (b10.mono bb6.size)⟩

/-- The law, of whatever blocks and number. -/
theorem codePlaces_walk (a0 : Option Addr) (len0 cap0 : Nat) (z0 : List Int) (a1 : Option Addr) (len1 cap1 : Nat) (z1 : List Int) (a2 : Int) (w : World) (w0 : IsRow .u8 w a0 len0 cap0 z0) (w1 : IsRow .u8 w a1 len1 cap1 z1) (hF : Firsts w) :
    Calls Tryd.prog 5 #[.slice a0 len0 cap0, .slice a1 len1 cap1, .int .i64 a2] w fun e w' => e = .returned (.bool true) ∧ Below w.heap.size w w' := by
  obtain ⟨xs, rfl, hx, bx⟩ := holds_of_isRow w0
  obtain ⟨ys, rfl, hy, bt⟩ := holds_of_isRow w1
  by_cases h0 : xs.length < 1
  · exact codePlaces_few a0 _ cap0 a1 _ cap1 a2 w h0
  by_cases h1 : 32 < xs.length
  · exact codePlaces_many a0 _ cap0 a1 _ cap1 a2 w h1
  by_cases h2 : ys.length = xs.length
  · rw [h2] at hy ⊢
    exact codePlaces_in a0 cap0 xs (bytes_bd bx) (by omega) (by omega) a1 cap1 ys (bytes_bd bt) h2 a2 w hF hx hy
  · exact codePlaces_unlike a0 _ cap0 a1 _ cap1 a2 w (by omega) (by omega) h2

end Go.Proofs.YtehnplodfpljkaaDoor
