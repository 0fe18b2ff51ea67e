/- I2: Tb Ub -/
import Derived.Test.YtghffnjnpgiicaaH9
import Derived.Test.YtghffnjnpgiicaaG4
import Derived.Test.YtghffnjnpgiicaaI1
import Derived.Test.YtghffnjnpgiicaaG7
import Derived.Test.YtghffnjnpgiicaaG8
/- All weights together; the chance of one variable's value 1: plain numbers. -/
namespace Go.Proofs.Ytghffnjnpgiicaa
open Go.RowKit

/-- The sum of the first m numbers. -/
def sumTo (f : Nat → Int) : Nat → Int
  | 0 => 0
  | m + 1 => sumTo f m + f m
theorem sumTo_congr {f g : Nat → Int} {m : Nat} (h : ∀ k, k < m → f k = g k) : sumTo f m = sumTo g m := by
  induction m with
  | zero => rfl
  | succ m ih => rw [sumTo, sumTo, ih (fun k hk => h k (by omega)), h m (by omega)]
theorem sumTo_mul (c : Int) (f : Nat → Int) (m : Nat) : sumTo (fun k => f k * c) m = sumTo f m * c := by
  induction m with
  | zero => simp [sumTo]
  | succ m ih => rw [sumTo, sumTo, ih, Int.add_mul]
theorem sumTo_two (f : Nat → Int) (m : Nat) : sumTo f (2 * m) = sumTo (fun k => f (2 * k) + f (2 * k + 1)) m := by
  induction m with
  | zero => rfl
  | succ m ih =>
    rw [show 2 * (m + 1) = 2 * m + 1 + 1 by omega, sumTo, sumTo, sumTo, ih]
    omega

theorem bitv_step {k q b v : Nat} (hb : b < 2) : bitv (k + 1) (2 * q + b) v = if v < k then bitv k q v else if v = k then (b : Int) else 0 := by
  unfold bitv
  by_cases h : v < k
  · rw [if_pos (by omega), if_pos h, if_pos h]
    have e : k + 1 - 1 - v = (k - 1 - v) + 1 := by omega
    rw [e, Nat.pow_succ, Nat.mul_comm (2 ^ (k - 1 - v)) 2, ← Nat.div_div_eq_div_mul]
    have e2 : (2 * q + b) / 2 = q := by omega
    rw [e2]
  · rw [if_neg h]
    by_cases h2 : v = k
    · rw [if_pos (by omega), if_pos h2]
      have e : k + 1 - 1 - v = 0 := by omega
      rw [e]
      simp
      omega
    · rw [if_neg (by omega), if_neg h2]

/-- The weights of the first k variables' assignments. -/
theorem sum_wt {P T : List (List Int)} (hn : IsNet P T) (k : Nat) (hk : k ≤ P.length) : sumTo (fun pos => wt P T (bitv k pos) k) (2 ^ k) = 16 ^ k := by
  induction k with
  | zero => rfl
  | succ k ih =>
    rw [Nat.pow_succ, Nat.mul_comm, sumTo_two]
    rw [Int.pow_succ, ← ih (by omega), ← sumTo_mul]
    refine sumTo_congr fun q _ => ?_
    have s0 : ∀ b, b < 2 → ∀ i, i < k → bitv (k + 1) (2 * q + b) i = bitv k q i := fun b hb i hi => by rw [bitv_step hb, if_pos hi]
    have s1 : ∀ b, b < 2 → bitv (k + 1) (2 * q + b) k = (b : Int) := fun b hb => by rw [bitv_step hb, if_neg (by omega), if_pos rfl]
    have w0 : ∀ b, b < 2 → wt P T (bitv (k + 1) (2 * q + b)) k = wt P T (bitv k q) k := fun b hb => wt_congr hn k (by omega) (s0 b hb)
    have i0 : ∀ b, b < 2 → idx (row P k) (bitv (k + 1) (2 * q + b)) (row P k).length = idx (row P k) (bitv k q) (row P k).length := fun b hb => idx_congr (hn.par k (by omega)) (s0 b hb) _ (Nat.le_refl _)
    show wt P T (bitv (k + 1) (2 * q + 0)) (k + 1) + wt P T (bitv (k + 1) (2 * q + 1)) (k + 1) = _
    simp only [wt, fac]
    rw [s1 0 (by omega), s1 1 (by omega), w0 0 (by omega), w0 1 (by omega), i0 0 (by omega), i0 1 (by omega), if_neg (by simp), if_pos (by simp), ← Int.mul_add]
    congr 1
    omega

theorem fwTo_none (P T : List (List Int)) (m : Nat) : fwTo P T (fun _ => none) m = sumTo (fun k => wt P T (bitv P.length k) P.length) m := by
  induction m with
  | zero => rfl
  | succ m ih => rw [fwTo, sumTo, ih, if_pos (by unfold agr; simp)]
theorem fw_none {P T : List (List Int)} (hn : IsNet P T) : fw P T (fun _ => none) = 16 ^ P.length := by
  unfold fw; rw [fwTo_none]; exact sum_wt hn _ (Nat.le_refl _)

theorem look_nil : look [] = fun _ => none := rfl
theorem look_one (y : Nat) : look [((y : Int), (1 : Int))] = oneF y := by
  funext z
  simp [look, lookTo, oneF, pf, pv]

theorem ch_one {P T : List (List Int)} (hn : IsNet P T) {y : Nat} (hy : y < P.length) : chV P T [((y : Int), (1 : Int))] [] = fracV (fw P T (oneF y)) (16 ^ P.length) ∧ chE P T [((y : Int), (1 : Int))] [] = 0 := by
  have h1 : okFacts [((y : Int), (1 : Int))] P.length = true := decide_eq_true fun i hi => by
    have : i = 0 := by simp at hi; exact hi
    subst this
    exact ⟨by simp [pf]; omega, .inr (by simp [pv]), fun j hj => absurd hj (by omega)⟩
  have h2 : okFacts [] P.length = true := decide_eq_true fun i hi => absurd hi (by simp)
  have h3 : fw P T (look []) = 16 ^ P.length := by rw [look_nil]; exact fw_none hn
  have h4 : ¬ (16 : Int) ^ P.length = 0 := by have := Int.pow_pos (n := 16) (m := P.length) (by omega); omega
  have h5 : cmp (look [((y : Int), (1 : Int))]) (look []) = true := decide_eq_true fun v _ => .inr (.inl (by rw [look_nil]))
  have h6 : union (look [((y : Int), (1 : Int))]) (look []) = oneF y := by rw [look_one, look_nil]; rfl
  constructor
  · unfold chV
    rw [if_pos ⟨h1, h2⟩, h3, if_neg h4, if_pos h5, h6]
  · unfold chE
    rw [if_pos ⟨h1, h2⟩, h3, if_neg h4]

end Go.Proofs.Ytghffnjnpgiicaa

/- BayesForces: the walk. -/
namespace Go.Proofs.Ytghffnjnpgiicaa
open Go.RowKit

/-- The capacity of new numbers. -/
theorem NewInts.room {B n cap : Nat} {ao : Option Addr} {w : World} {xs : List Int} (h : NewInts B w (.slice ao n cap) xs) : xs.length ≤ cap := by
  rcases h.own.2 with ⟨h1, h2⟩ | ⟨g, cap, cur, h1, _, _, h2, _⟩
  · simp at h1; omega
  · simp at h1; omega

/-- New rows, with their capacities. -/
theorem news_caps {B : Nat} {w : World} {v : Value} {xss : List (List Int)} (h : NewRows B w v xss) (hl : xss.length ≤ 1000) :
    ∃ ao b cap A B' O C, v = .slice ao xss.length cap ∧ RowsAt w ao b 0 xss A B' O C ∧ CapsOk xss A C := by
  obtain ⟨ao, b, cap, A, B', O, C, rfl, hr⟩ := h.at (by omega)
  refine ⟨ao, b, cap, A, B', O, C, rfl, hr, fun i hi => ?_⟩
  obtain ⟨vs, h1, h2, _⟩ := h.ex
  obtain ⟨u, e, hu⟩ := h2 i hi
  rcases h1.2 with ⟨q, q0⟩ | ⟨g, cap', cur, q1, q2, q3, q4, q5, q6, q7⟩
  · omega
  · have hc := hr.cell i hi
    obtain ⟨e1, _⟩ := hr.ptr (by omega)
    rw [e1] at q1
    simp at q1
    obtain ⟨rfl, rfl⟩ := q1
    rw [Nat.zero_add, cell_of_row _ _ _ _ _ _ q3] at hc
    have e2 : cur[i]? = vs[i]? := by
      rw [← q7, List.getElem?_take, if_pos (by omega)]; simp
    rw [e2, e] at hc
    have hc := Option.some.inj hc
    subst hc
    refine ⟨hu.room, fun hA => ?_⟩
    rcases hu.own.2 with ⟨z, _⟩ | ⟨g, cap, cur, z, _⟩
    · simp at z; exact z.2.2
    · simp at z; rw [hA] at z; simp at z

theorem pairs_nil (w : World) : PairsAt w none 0 0 [] := ⟨fun h => absurd h (by simp), fun i hi => absurd hi (by simp), fun i hi => absurd hi (by simp), by simp, fun i => by simp [pf, pv]⟩
theorem pairs_one (w : World) {y : Nat} (hy : (y : Int) ≤ 9223372036854775807) : PairsAt (w.alloc (.cells #[.int .i64 (y : Int), .int .i64 1] 52)) (some ⟨w.heap.size, 0, none⟩) w.heap.size 0 [((y : Int), (1 : Int))] := by
  obtain ⟨c0, c1, -, -⟩ := cells_of2 (heap_alloc_new w (.cells #[.int .i64 (y : Int), .int .i64 1] 52))
  refine ⟨fun _ => ⟨rfl, by simp⟩, fun i hi => ?_, fun i hi => ?_, by simp, fun i => ?_⟩
  · have : i = 0 := by simpa using hi
    subst this
    exact c0
  · have : i = 0 := by simpa using hi
    subst this
    exact c1
  · match i with
    | 0 => simp [pf, pv]; omega
    | i + 1 => simp [pf, pv]
theorem effV_form (P T : List (List Int)) (x y val : Int) : ∃ a b : Int, effV P T x y val = .agg #[.int .i64 a, .int .i64 b] := by
  unfold effV zeroF fracV fracC
  split
  · exact ⟨_, _, rfl⟩
  · exact ⟨_, _, rfl⟩

set_option maxHeartbeats 4000000 in
set_option maxRecDepth 100000 in
theorem forces_any (P T : List (List Int)) (pa : Option Addr) (pb po pc : Nat) (A : Nat → Option Addr) (B O C : Nat → Nat) (ta : Option Addr) (tb tz tc : Nat) (A' : Nat → Option Addr) (B' O' C' : Nat → Nat)
    (x val : Int) (w : World)
    (hP : RowsAt w pa pb po P A B O C) (hT : RowsAt w ta tb tz T A' B' O' C') (cP : CapsOk P A C) (cT : CapsOk T A' C') (hxl : -9223372036854775808 ≤ x ∧ x ≤ 9223372036854775807) (hvl : -9223372036854775808 ≤ val ∧ val ≤ 9223372036854775807) :
    Calls Try.prog 8 #[.agg #[.slice pa P.length pc, .slice ta T.length tc], .int .i64 x, .int .i64 val] w fun e w' => e = .returned (.bool true) ∧ Below w.heap.size w w' := by
  have HP := Lib.hid hP
  have HT := Lib.hid hT
  have CP := Lib.hid cP
  have CT := Lib.hid cT
  have HBW : Hid (Below w.heap.size w (w.alloc (.cells #[.slice pa P.length pc, .slice ta T.length tc] 24))) := (Below.refl _ _).alloc (Nat.le_refl _) _
  clear hP hT cP cT
  go_enter Try.func8, Try.ntmps8
  go_wp2_with fail
  refine (network_any P T pa pb po pc A B O C ta tb tz tc A' B' O' C' _ (HP.out.below HBW.out (Nat.le_refl _)) (HT.out.below HBW.out (Nat.le_refl _)) CP.out CT.out).mono ?_
  rintro e w1 ⟨⟨v1, v2, rfl, n1, n2⟩, hb1⟩
  have hl1 : (trim P).length ≤ 1000 := by unfold trim; rw [List.length_map, List.length_take]; omega
  have hl2 : (trim T).length ≤ 1000 := by unfold trim; rw [List.length_map, List.length_take]; omega
  obtain ⟨P', hP'⟩ : ∃ P', trim P = P' := ⟨_, rfl⟩
  obtain ⟨T', hT'⟩ : ∃ T', trim T = T' := ⟨_, rfl⟩
  rw [hP'] at hl1 n1
  rw [hT'] at hl2 n2
  obtain ⟨qa, qb, qc, D, E, F, G, rfl, rP, kP⟩ := news_caps n1 hl1
  obtain ⟨sa, sb, sc, D', E', F', G', rfl, rT, kT⟩ := news_caps n2 hl2
  have hnet : NetAt w1 (.agg #[.slice qa P'.length qc, .slice sa T'.length sc]) P' T' := ⟨qa, qb, 0, qc, D, E, F, G, sa, sb, 0, sc, D', E', F', G', rfl, rP, rT⟩
  have HB1 := Lib.hid ((HBW.out.trans (hb1.mono (by simp))).alloc (by have := hb1.size; simp at this; omega) (.cells #[.slice qa P'.length qc, .slice sa T'.length sc] 24))
  have HRP := Lib.hid (rP.alloc (.cells #[.slice qa P'.length qc, .slice sa T'.length sc] 24))
  have HRT := Lib.hid (rT.alloc (.cells #[.slice qa P'.length qc, .slice sa T'.length sc] 24))
  have KP := Lib.hid kP
  have KT := Lib.hid kT
  have HNET := Lib.hid (hnet.alloc (.cells #[.slice qa P'.length qc, .slice sa T'.length sc] 24))
  clear hb1 n1 n2 rP rT kP kT hnet hP' hT' HP HT CP CT HBW
  go_wp2_with fail
  obtain ⟨nb, hnb⟩ : ∃ nb, w1.heap.size = nb := ⟨_, rfl⟩
  obtain ⟨wa, hwa⟩ : ∃ wa, w1.alloc (.cells #[.slice qa P'.length qc, .slice sa T'.length sc] 24) = wa := ⟨_, rfl⟩
  have hblk : wa.heap[nb]? = some (.cells #[.slice qa P'.length qc, .slice sa T'.length sc] 24 (0, 0)) := by rw [← hwa, ← hnb]; exact heap_alloc_new _ _
  have HBLK := Lib.hid hblk
  rw [hwa] at HRP HRT HNET HB1 ⊢
  rw [hnb]
  clear hwa hblk hnb
  refine (force_any P' T' (.agg #[.slice qa P'.length qc, .slice sa T'.length sc]) x val wa HNET.out).mono ?_
  rintro e w2 ⟨m1, m2, rfl, n1, n2, hb2⟩
  obtain ⟨M, hM⟩ : ∃ M, frcP P' T' x val = M := ⟨_, rfl⟩
  obtain ⟨N, hN⟩ : ∃ N, frcT P' T' x val = N := ⟨_, rfl⟩
  obtain ⟨fe, hfe⟩ : ∃ fe, frcE P' T' x val = fe := ⟨_, rfl⟩
  have HM := Lib.hid hM
  have HN := Lib.hid hN
  have HFE := Lib.hid hfe
  have hm1 : M.length ≤ 1000 := by
    rw [← hM]; unfold frcP; split
    · rw [List.length_set]; exact hl1
    · simp
  have hm2 : N.length ≤ 1000 := by
    rw [← hN]; unfold frcT; split
    · rw [List.length_set]; exact hl2
    · simp
  rw [hM] at n1
  rw [hN] at n2
  rw [hfe]
  obtain ⟨ya, yb, yc, D2, E2, F2, G2, rfl, rM, -⟩ := news_caps n1 hm1
  obtain ⟨za, zb, zc, D3, E3, F3, G3, rfl, rN, -⟩ := news_caps n2 hm2
  have s1 := HB1.out.size
  have s2 := hb2.size
  have HB2 := Lib.hid ((HB1.out.trans (hb2.mono s1)).alloc (by omega) (.cells #[.slice ya M.length yc, .slice za N.length zc] 24))
  have HRM := Lib.hid (rM.alloc (.cells #[.slice ya M.length yc, .slice za N.length zc] 24))
  have HRN := Lib.hid (rN.alloc (.cells #[.slice ya M.length yc, .slice za N.length zc] 24))
  have HRP2 := Lib.hid ((HRP.out.below hb2 (Nat.le_refl _)).alloc (.cells #[.slice ya M.length yc, .slice za N.length zc] 24))
  have HRT2 := Lib.hid ((HRT.out.below hb2 (Nat.le_refl _)).alloc (.cells #[.slice ya M.length yc, .slice za N.length zc] 24))
  have HNET2 := Lib.hid ((HNET.out.below hb2 (Nat.le_refl _)).alloc (.cells #[.slice ya M.length yc, .slice za N.length zc] 24))
  have hlt2 := lt_of_block HBLK.out
  have hblk2 := (Below.heap_alloc w2 (.cells #[.slice ya M.length yc, .slice za N.length zc] 24) nb (by omega)).trans ((hb2.block _ hlt2).trans HBLK.out)
  have HBLK2 := Lib.hid hblk2
  have hmk := heap_alloc_new w2 (.cells #[.slice ya M.length yc, .slice za N.length zc] 24)
  have HMK := Lib.hid hmk
  obtain ⟨c0, c1, -, -⟩ := cells_of2 hblk2
  clear n1 n2 rM rN hb2 HRP HRT HNET HB1 HBLK hblk2 hmk hM hN hfe
  go_wp2_with fail
  obtain ⟨mb, hmb⟩ : ∃ mb, w2.heap.size = mb := ⟨_, rfl⟩
  obtain ⟨wb, hwb⟩ : ∃ wb, w2.alloc (.cells #[.slice ya M.length yc, .slice za N.length zc] 24) = wb := ⟨_, rfl⟩
  rw [hwb] at HRM HRN HRP2 HRT2 HNET2 HB2 HBLK2 HMK c0 c1 ⊢
  rw [hmb] at HMK ⊢
  clear hwb hmb
  refine (effect_any P' T' (.agg #[.slice qa P'.length qc, .slice sa T'.length sc]) x val wb HNET2.out).mono ?_
  obtain ⟨a0, b0, hv0⟩ := effV_form P' T' x val 0
  obtain ⟨a1, b1, hv1⟩ := effV_form P' T' x val 1
  obtain ⟨ge, hge⟩ : ∃ ge, effE P' T' x val = ge := ⟨_, rfl⟩
  have HV0 := Lib.hid hv0
  have HV1 := Lib.hid hv1
  have HGE := Lib.hid hge
  rintro e w3 ⟨he, hb3⟩
  rw [hv0, hv1, hge] at he
  subst he
  clear hv0 hv1 hge
  go_upto_region 5 with fail
  obtain ⟨na, hna⟩ : ∃ na, w3.heap.size = na := ⟨_, rfl⟩
  obtain ⟨we, hwe⟩ : ∃ we, (w3.alloc (.cells #[.int .i64 a0, .int .i64 b0] 29)).alloc (.cells #[.int .i64 a1, .int .i64 b1] 29) = we := ⟨_, rfl⟩
  have HB3c : Hid (Below wb.heap.size wb we) := by rw [← hwe]; exact (hb3.alloc hb3.size _).alloc (by have := hb3.size; simp; omega) _
  have hk0 : we.heap[na]? = some (.cells #[.int .i64 a0, .int .i64 b0] 29 (0, 0)) := by rw [← hwe, ← hna]; exact (Below.heap_alloc _ _ _ (by simp)).trans (heap_alloc_new _ _)
  have hk1 : we.heap[na + 1]? = some (.cells #[.int .i64 a1, .int .i64 b1] 29 (0, 0)) := by
    rw [← hwe, ← hna]
    have := heap_alloc_new (w3.alloc (.cells #[.int .i64 a0, .int .i64 b0] 29)) (.cells #[.int .i64 a1, .int .i64 b1] 29)
    simpa using this
  have K2 := Lib.hid hk0
  have K3 := Lib.hid hk1
  have K0 := Lib.hid ((HB3c.out.block _ (lt_of_block HBLK2.out)).trans HBLK2.out)
  have K1 := Lib.hid ((HB3c.out.block _ (lt_of_block HMK.out)).trans HMK.out)
  have HTK := Lib.hid (show ∀ w', Below we.heap.size we w' → w'.heap[nb]? = some (.cells #[.slice qa P'.length qc, .slice sa T'.length sc] 24 (0, 0)) ∧ w'.heap[mb]? = some (.cells #[.slice ya M.length yc, .slice za N.length zc] 24 (0, 0)) ∧
      w'.heap[na]? = some (.cells #[.int .i64 a0, .int .i64 b0] 29 (0, 0)) ∧ w'.heap[na + 1]? = some (.cells #[.int .i64 a1, .int .i64 b1] 29 (0, 0)) from
    fun w' h => ⟨(h.block _ (lt_of_block K0.out)).trans K0.out, (h.block _ (lt_of_block K1.out)).trans K1.out, (h.block _ (lt_of_block K2.out)).trans K2.out, (h.block _ (lt_of_block K3.out)).trans K3.out⟩)
  have HBc := Lib.hid (HB2.out.trans (HB3c.out.mono HB2.out.size))
  have HRMc := Lib.hid (HRM.out.below HB3c.out (Nat.le_refl _))
  have HRNc := Lib.hid (HRN.out.below HB3c.out (Nat.le_refl _))
  have HRPc := Lib.hid (HRP2.out.below HB3c.out (Nat.le_refl _))
  have HRTc := Lib.hid (HRT2.out.below HB3c.out (Nat.le_refl _))
  have HNc := Lib.hid (HNET2.out.below HB3c.out (Nat.le_refl _))
  rw [hwe, hna]
  clear hwe hna hk0 hk1 hb3 c0 c1 HB2 HRM HRN HRP2 HRT2 HNET2 HBLK2 HMK HB3c K0 K1 K2 K3 s1 s2 hlt2
  go_cut [49] from 38 to 48 (fun bb wx => bb = .bool (!(isNet P' T' && isVar x P'.length)) ∧ Below we.heap.size we wx)
  case first =>
    have hr := refNetwork_any P' T' _ we HNc.out
    obtain ⟨k0, -, -, -⟩ := HTK.out _ (Below.refl _ _)
    obtain ⟨c0, c1, -, -⟩ := cells_of2 k0
    clear k0
    cases hn : isNet P' T'
    · rw [hn] at hr
      have HNN := Lib.hid hn
      clear hn
      go_wp2_with fail
      refine hr.mono ?_
      rintro e w4 ⟨rfl, hb4⟩
      have HB4 := Lib.hid hb4
      clear hr hb4 c0 c1
      go_wp2_with fail
      go_meet
      exact ⟨by rw [HNN.out]; rfl, HB4.out⟩
    · rw [hn] at hr
      have HNN := Lib.hid hn
      clear hn
      by_cases e1 : x < 0
      · have t1 : decide (x < 0) = true := decide_eq_true e1
        have HF := Lib.hid (show isVar x P'.length = false from decide_eq_false (by omega))
        clear e1
        go_wp2_with fail
        refine hr.mono ?_
        rintro e w4 ⟨rfl, hb4⟩
        have HB4 := Lib.hid hb4
        clear hr hb4 c0 c1
        go_wp2_with fail
        go_meet
        exact ⟨by rw [HNN.out, HF.out]; rfl, HB4.out⟩
      · have t1 : decide (x < 0) = false := decide_eq_false e1
        by_cases e2 : (P'.length : Int) ≤ x
        · have t2 : decide ((P'.length : Int) ≤ x) = true := decide_eq_true e2
          have HF := Lib.hid (show isVar x P'.length = false from decide_eq_false (by omega))
          clear e1 e2
          go_wp2_with fail
          refine hr.mono ?_
          rintro e w4 ⟨rfl, hb4⟩
          have HB4 := Lib.hid hb4
          clear hr hb4 c0 c1
          go_wp2_with fail
          go_meet
          exact ⟨by rw [HNN.out, HF.out]; rfl, HB4.out⟩
        · have t2 : decide ((P'.length : Int) ≤ x) = false := decide_eq_false e2
          have HF := Lib.hid (show isVar x P'.length = true from decide_eq_true (by omega))
          clear e1 e2
          go_wp2_with fail
          refine hr.mono ?_
          rintro e w4 ⟨rfl, hb4⟩
          have HB4 := Lib.hid hb4
          clear hr hb4 c0 c1
          go_wp2_with fail
          go_meet
          exact ⟨by rw [HNN.out, HF.out]; rfl, HB4.out⟩
  case rest =>
    obtain ⟨rfl, hbd⟩ := hcut
    have HBD := Lib.hid hbd
    obtain ⟨k0, k1, k2, k3⟩ := HTK.out _ hbd
    clear hbd
    obtain ⟨ok, hok⟩ : ∃ ok, (isNet P' T' && isVar x P'.length) = ok := ⟨_, rfl⟩
    have HOK := Lib.hid hok
    rw [hok]
    clear hok
    cases ok
    · have hf1 : okFrc P' T' x val = false := by unfold okFrc; rw [HOK.out]; rfl
      have hf2 : okEff P' T' x val = false := by unfold okEff; rw [HOK.out]; rfl
      obtain ⟨q1, q2, q3⟩ := frc_no hf1
      obtain ⟨q4, q5, q6⟩ := eff_no hf2
      have hM := HM.out
      have hN := HN.out
      have hFE := HFE.out
      have hV0 := HV0.out
      have hV1 := HV1.out
      have hGE := HGE.out
      rw [q1] at hM; rw [q2] at hN; rw [q3] at hFE; rw [q4] at hV0; rw [q5] at hV1; rw [q6] at hGE
      simp [zeroF] at hV0 hV1
      obtain ⟨rfl, rfl⟩ := hV0
      obtain ⟨rfl, rfl⟩ := hV1
      subst hM hN hFE hGE
      obtain ⟨c0, c1, -, -⟩ := cells_of2 k1
      obtain ⟨d0, d1, -, -⟩ := cells_of2 k2
      obtain ⟨e0, e1, -, -⟩ := cells_of2 k3
      clear hf1 hf2 q1 q2 q3 q4 q5 q6 k0 k1 k2 k3 HM HN HFE HV0 HV1 HGE
      go_wp2_with fail
      refine (awake_any _).mono ?_
      rintro e w5 ⟨rfl, hb5⟩
      have HB5 := Lib.hid (HBD.out.trans (hb5.mono HBD.out.size))
      clear hb5
      go_wp2
      go_ret
      exact ⟨rfl, HBc.out.trans (HB5.out.mono HBc.out.size)⟩
    · have hnv := HOK.out
      rw [Bool.and_eq_true] at hnv
      have HIN := Lib.hid (of_decide_eq_true hnv.1 : IsNet P' T')
      have HIB := Lib.hid hnv
      have hx := (of_decide_eq_true hnv.2 : 0 ≤ x ∧ x < (P'.length : Int))
      obtain ⟨x, rfl⟩ := Int.eq_ofNat_of_zero_le hx.1
      have hxP : x < P'.length := by omega
      have h10 := HIN.out.le
      have h10' : P'.length ≤ 9223372036854775807 := by omega
      clear hnv hx k0 k1 k2 k3
      go_upto_region 7 with fail
      go_cut [86] from 81 to 85 (fun bb wx => bb = .bool (isVal val) ∧ Below we.heap.size we wx)
      case first =>
        by_cases hv0 : val = 0
        · have t1 : (val == 0) = true := by rw [beq_iff_eq]; exact hv0
          have HI := Lib.hid (show isVal val = true from decide_eq_true (.inl hv0))
          clear hv0
          go_wp2
          go_meet
          exact ⟨by rw [HI.out], HBD.out⟩
        · have t1 : (val == 0) = false := by rw [beq_eq_false_iff_ne]; exact hv0
          by_cases hv1 : val = 1
          · have t2 : (val == 1) = true := by rw [beq_iff_eq]; exact hv1
            have HI := Lib.hid (show isVal val = true from decide_eq_true (.inr hv1))
            clear hv0 hv1
            go_wp2
            go_meet
            exact ⟨by rw [HI.out], HBD.out⟩
          · have t2 : (val == 1) = false := by rw [beq_eq_false_iff_ne]; exact hv1
            have HI := Lib.hid (show isVal val = false from decide_eq_false (by omega))
            clear hv0 hv1
            go_wp2
            go_meet
            exact ⟨by rw [HI.out], HBD.out⟩
      case rest =>
       obtain ⟨rfl, hbd⟩ := hcut
       clear HBD
       have HBD := Lib.hid hbd
       clear hbd
       obtain ⟨bv, hbv⟩ : ∃ bv, isVal val = bv := ⟨_, rfl⟩
       have HBV := Lib.hid hbv
       rw [hbv]
       clear hbv
       go_upto_if 86 with (fail)
       go_cut [] from 87 to 111 (fun wx => Below we.heap.size we wx)
       case first =>
        obtain ⟨wd, hwd⟩ : ∃ wd, wc = wd := ⟨_, rfl⟩
        rw [hwd] at HBD ⊢
        clear hwd
        obtain ⟨k0, k1, -, -⟩ := HTK.out _ HBD.out
        obtain ⟨c0, c1, -, -⟩ := cells_of2 k0
        cases bv with
        | true =>
          have hval := (of_decide_eq_true HBV.out : val = 0 ∨ val = 1)
          have hyes : okFrc P' T' (x : Int) val = true := by
            unfold okFrc
            rw [HOK.out]
            exact decide_eq_true hval
          obtain ⟨q1, q2, q3⟩ := frc_yes hyes
          have hM := HM.out
          have hN := HN.out
          have hFE := HFE.out
          rw [q1] at hM; rw [q2] at hN; rw [q3] at hFE
          simp only [Int.toNat_natCast] at hM hN
          obtain ⟨d0, d1, -, -⟩ := cells_of2 k1
          have HC36 := Lib.hid (show ∀ W, Below wd.heap.size wd W → Calls Try.prog 36 #[.agg #[.slice qa P'.length qc, .slice sa T'.length sc], .int .i64 (x : Int), .int .i64 val] W fun e w' => (∃ v1 v2, e = .returned (.agg #[v1, v2]) ∧ NewRows W.heap.size w' v1 M ∧ NewRows W.heap.size w' v2 N) ∧ Below wd.heap.size wd w' from
            fun W hW => by
              rw [← hM, ← hN]
              have hB := HBD.out.trans (hW.mono HBD.out.size)
              exact (refForce_any P' T' qa qb 0 qc D E F G sa sb 0 sc D' E' F' G' x val W (HRPc.out.below hB (Nat.le_refl _)) (HRTc.out.below hB (Nat.le_refl _)) KP.out KT.out HIN.out hxP hval).mono fun e w' h => ⟨h.1, hW.trans (h.2.mono hW.size)⟩)
          have HC35 := Lib.hid (show ∀ W ua ub uc a b c d va vb vc a' b' c' d', Below wd.heap.size wd W → RowsAt W ua ub 0 M a b c d → RowsAt W va vb 0 N a' b' c' d' → Calls Try.prog 35 #[.agg #[.slice ya M.length yc, .slice za N.length zc], .agg #[.slice ua M.length uc, .slice va N.length vc]] W fun e w' => e = .returned (.bool true) ∧ Below wd.heap.size wd w' from
            fun W ua ub uc a b c d va vb vc a' b' c' d' hW h1 h2 => by
              have hB := HBD.out.trans (hW.mono HBD.out.size)
              exact (same_any M N ya yb 0 yc D2 E2 F2 G2 za zb 0 zc D3 E3 F3 G3 ua ub 0 uc a b c d va vb 0 vc a' b' c' d' W (HRMc.out.below hB (Nat.le_refl _)) (HRNc.out.below hB (Nat.le_refl _)) h1 h2).mono fun e w' h => ⟨h.1, hW.trans (h.2.mono hW.size)⟩)
          subst hFE
          have HHM := Lib.hid hm1
          have HHN := Lib.hid hm2
          have HTC := Lib.hid (show ∀ w', Below wd.heap.size wd w' → w'.cell? ⟨nb, 0, none⟩ = some (.slice qa P'.length qc) ∧ w'.cell? ⟨nb, 1, none⟩ = some (.slice sa T'.length sc) ∧ w'.cell? ⟨mb, 0, none⟩ = some (.slice ya M.length yc) ∧ w'.cell? ⟨mb, 1, none⟩ = some (.slice za N.length zc) from
            fun w' h => by
              obtain ⟨x0, x1, -, -⟩ := HTK.out _ (HBD.out.trans (h.mono HBD.out.size))
              obtain ⟨y0, y1, -, -⟩ := cells_of2 x0
              obtain ⟨z0, z1, -, -⟩ := cells_of2 x1
              exact ⟨y0, y1, z0, z1⟩)
          have HD := Lib.hid (below_dr (Below.refl wd.heap.size wd))
          clear hyes q1 q2 q3 hM hN k0 k1 c0 c1 d0 d1 hm1 hm2
          have HHV := Lib.hid hval
          clear hval
          go_upto_region 8 with fail
          go_region_held3 (fun w' => w'.cell? ⟨nb, 0, none⟩ = some (.slice qa P'.length qc) ∧ w'.cell? ⟨nb, 1, none⟩ = some (.slice sa T'.length sc) ∧ w'.cell? ⟨mb, 0, none⟩ = some (.slice ya M.length yc) ∧ w'.cell? ⟨mb, 1, none⟩ = some (.slice za N.length zc))
            (first | exact HTC.out _ HB2.out | exact HTC.out _ HB1.out | exact HTC.out _ HD.out)
            (first
              | (go_simp; go_at_call 36; with_reducible refine (HC36.out _ HD.out).mono ?_; rintro e w1 ⟨⟨v1, v2, rfl, n1, n2⟩, hb1⟩; obtain ⟨ua, ub, uc, ca, cb, cc, cd, rfl, rU, -⟩ := news_caps n1 HHM.out; obtain ⟨va, vb, vc, da, db, dc, dd, rfl, rV, -⟩ := news_caps n2 HHN.out; have HB1 := Lib.hid hb1; have HRU := Lib.hid rU; have HRV := Lib.hid rV; clear hb1 n1 n2 rU rV)
              | (go_simp; go_at_call 35; with_reducible refine (HC35.out _ _ _ _ _ _ _ _ _ _ _ _ _ _ _ HB1.out HRU.out HRV.out).mono ?_; rintro e w2 ⟨rfl, hb2⟩; have HB2 := Lib.hid hb2; clear hb2))
          all_goals go_wp2
          all_goals go_meet
          all_goals exact HBD.out.trans (HB2.out.mono HBD.out.size)
        | false =>
          have hval := (of_decide_eq_false HBV.out : ¬ (val = 0 ∨ val = 1))
          have hno : okFrc P' T' (x : Int) val = false := by
            unfold okFrc
            rw [HOK.out]
            exact decide_eq_false hval
          obtain ⟨q1, q2, q3⟩ := frc_no hno
          have hM := HM.out
          have hN := HN.out
          have hFE := HFE.out
          rw [q1] at hM; rw [q2] at hN; rw [q3] at hFE
          subst hM hN hFE
          obtain ⟨d0, d1, -, -⟩ := cells_of2 k1
          clear hno q1 q2 q3 hval
          go_wp2
          go_meet
          exact HBD.out
       case rest =>
        clear HBD HRMc HRNc HM HN HFE HBV
        have HBD := Lib.hid hcut
        obtain ⟨k0, k1, k2, k3⟩ := HTK.out _ HBD.out
        clear hcut k1
        by_cases hy : 0 ≤ val ∧ val < (P'.length : Int)
        · obtain ⟨y, rfl⟩ := Int.eq_ofNat_of_zero_le hy.1
          have hyP : y < P'.length := by omega
          have hyes : okEff P' T' (x : Int) (y : Int) = true := by
            unfold okEff
            rw [HOK.out]
            exact decide_eq_true hy
          obtain ⟨q1, q2, q3⟩ := eff_yes hyes
          have hV0 := HV0.out
          have hV1 := HV1.out
          have hGE := HGE.out
          rw [q1] at hV0; rw [q2] at hV1; rw [q3] at hGE
          subst hGE
          obtain ⟨P0, hP0⟩ : ∃ P0, P'.set x [] = P0 := ⟨_, rfl⟩
          obtain ⟨T0, hT0⟩ : ∃ T0, T'.set x [16 * 0] = T0 := ⟨_, rfl⟩
          obtain ⟨T1, hT1⟩ : ∃ T1, T'.set x [16 * 1] = T1 := ⟨_, rfl⟩
          have hn0 := isNet_forced HIN.out hxP (val := 0) (.inl rfl)
          have hn1 := isNet_forced HIN.out hxP (val := 1) (.inr rfl)
          have hl0 : P0.length = P'.length := by rw [← hP0, List.length_set]
          have hlT0 : T0.length ≤ 1000 := by rw [← hT0, List.length_set]; exact hl2
          have hlT1 : T1.length ≤ 1000 := by rw [← hT1, List.length_set]; exact hl2
          have hlP0 : P0.length ≤ 1000 := by omega
          have hch0 := ch_one hn0 (y := y) (by rw [List.length_set]; exact hyP)
          have hch1 := ch_one hn1 (y := y) (by rw [List.length_set]; exact hyP)
          unfold effW at hV0 hV1
          rw [List.length_set] at hch0 hch1
          rw [hV0] at hch0
          rw [hV1] at hch1
          have HC0 := Lib.hid (show ∀ W, Below we.heap.size we W → Calls Try.prog 36 #[.agg #[.slice qa P'.length qc, .slice sa T'.length sc], .int .i64 (x : Int), .int .i64 0] W fun e w' => (∃ v1 v2, e = .returned (.agg #[v1, v2]) ∧ NewRows W.heap.size w' v1 P0 ∧ NewRows W.heap.size w' v2 T0) ∧ Below W.heap.size W w' from
            fun W hW => by
              rw [← hP0, ← hT0]
              exact refForce_any P' T' qa qb 0 qc D E F G sa sb 0 sc D' E' F' G' x 0 W (HRPc.out.below hW (Nat.le_refl _)) (HRTc.out.below hW (Nat.le_refl _)) KP.out KT.out HIN.out hxP (.inl rfl))
          have HC1 := Lib.hid (show ∀ W, Below we.heap.size we W → Calls Try.prog 36 #[.agg #[.slice qa P'.length qc, .slice sa T'.length sc], .int .i64 (x : Int), .int .i64 1] W fun e w' => (∃ v1 v2, e = .returned (.agg #[v1, v2]) ∧ NewRows W.heap.size w' v1 P0 ∧ NewRows W.heap.size w' v2 T1) ∧ Below W.heap.size W w' from
            fun W hW => by
              rw [← hP0, ← hT1]
              exact refForce_any P' T' qa qb 0 qc D E F G sa sb 0 sc D' E' F' G' x 1 W (HRPc.out.below hW (Nat.le_refl _)) (HRTc.out.below hW (Nat.le_refl _)) KP.out KT.out HIN.out hxP (.inr rfl))
          have HH0 := Lib.hid (show ∀ W v g, NetAt W v P0 T0 → PairsAt W (some ⟨g, 0, none⟩) g 0 [((y : Int), (1 : Int))] → Calls Try.prog 23 #[v, .slice (some ⟨g, 0, none⟩) 1 1, .slice none 0 0] W fun e w' => e = .returned (.tuple #[.agg #[.int .i64 a0, .int .i64 b0], .int .i64 0]) ∧ Below W.heap.size W w' from
            fun W v g h1 h2 => by
              have := refChance_any P0 T0 v [((y : Int), (1 : Int))] [] (some ⟨g, 0, none⟩) g 0 1 none 0 0 0 W h1 (by rw [← hP0, ← hT0]; exact hn0) h2 (pairs_nil _) (by simp) (by simp)
              rw [← hP0, ← hT0, hch0.1, hch0.2] at this
              exact this)
          have HH1 := Lib.hid (show ∀ W v g, NetAt W v P0 T1 → PairsAt W (some ⟨g, 0, none⟩) g 0 [((y : Int), (1 : Int))] → Calls Try.prog 23 #[v, .slice (some ⟨g, 0, none⟩) 1 1, .slice none 0 0] W fun e w' => e = .returned (.tuple #[.agg #[.int .i64 a1, .int .i64 b1], .int .i64 0]) ∧ Below W.heap.size W w' from
            fun W v g h1 h2 => by
              have := refChance_any P0 T1 v [((y : Int), (1 : Int))] [] (some ⟨g, 0, none⟩) g 0 1 none 0 0 0 W h1 (by rw [← hP0, ← hT1]; exact hn1) h2 (pairs_nil _) (by simp) (by simp)
              rw [← hP0, ← hT1, hch1.1, hch1.2] at this
              exact this)
          have t1 : decide ((y : Int) < 0) = false := decide_eq_false (by omega)
          have t2 : decide ((P'.length : Int) ≤ (y : Int)) = false := decide_eq_false (by omega)
          obtain ⟨c0, c1, -, -⟩ := cells_of2 k0
          have HYB := Lib.hid (show (y : Int) ≤ 9223372036854775807 by omega)
          clear hyes q1 q2 q3 hV0 hV1 hP0 hT0 hT1 hn0 hn1 hch0 hch1 HV0 HV1 HGE hy k0 k2 k3 hl0
          go_wp2_with fail
          refine (HC0.out _ HBD.out).mono ?_
          rintro e w5 ⟨⟨v1, v2, rfl, n1, n2⟩, hb5⟩
          obtain ⟨ua, uc, va, vc, rfl, rfl, hnet⟩ := net_of_rows n1 n2 hlP0 hlT0
          have HNF := Lib.hid hnet
          have HB5 := Lib.hid (HBD.out.trans (hb5.mono HBD.out.size))
          have s5 := HB5.out.size
          clear n1 n2 hnet hb5 c0 c1
          go_wp2_with fail
          refine (HH0.out _ _ _ (HNF.out.alloc _) (pairs_one _ HYB.out)).mono ?_
          rintro e w6 ⟨rfl, hb6⟩
          have HB6 := Lib.hid ((HB5.out.alloc s5 _).trans (hb6.mono (by simp; omega)))
          obtain ⟨k0, -, -, -⟩ := HTK.out _ HB6.out
          obtain ⟨c0, c1, -, -⟩ := cells_of2 k0
          have s6 := HB6.out.size
          have hlnb := lt_of_block k0
          clear hb6 k0 HNF HC0 HH0
          go_wp2_with fail
          obtain ⟨xb, hxb⟩ : ∃ xb, w6.heap.size = xb := ⟨_, rfl⟩
          obtain ⟨wg, hwg⟩ : ∃ wg, w6.alloc (.cells #[.int .i64 a0, .int .i64 b0] 29) = wg := ⟨_, rfl⟩
          have hgb : wg.heap[xb]? = some (.cells #[.int .i64 a0, .int .i64 b0] 29 (0, 0)) := by rw [← hwg, ← hxb]; exact heap_alloc_new _ _
          have HGB := Lib.hid hgb
          have HBg : Hid (Below we.heap.size we wg) := by rw [← hwg]; exact HB6.out.alloc s6 _
          have sg := HBg.out.size
          rw [hwg, hxb]
          clear hwg hxb hgb c0 c1 s6 s5 hlnb
          refine (HC1.out _ HBg.out).mono ?_
          rintro e w7 ⟨⟨v1, v2, rfl, n1, n2⟩, hb7⟩
          obtain ⟨ua, uc, va, vc, rfl, rfl, hnet⟩ := net_of_rows n1 n2 hlP0 hlT1
          have HNF := Lib.hid hnet
          have HB7 := Lib.hid (HBg.out.trans (hb7.mono sg))
          have HG7 := Lib.hid ((hb7.block _ (lt_of_block HGB.out)).trans HGB.out)
          have s7 := HB7.out.size
          clear n1 n2 hnet hb7 HGB
          go_wp2_with fail
          refine (HH1.out _ _ _ (HNF.out.alloc _) (pairs_one _ HYB.out)).mono ?_
          rintro e w8 ⟨rfl, hb8⟩
          have HB8 := Lib.hid ((HB7.out.alloc s7 _).trans (hb8.mono (by simp; omega)))
          have hg8 := ((hb8.block _ (by have := lt_of_block HG7.out; simp; omega)).trans (Below.heap_alloc _ _ _ (lt_of_block HG7.out))).trans HG7.out
          obtain ⟨-, -, k2, k3⟩ := HTK.out _ HB8.out
          obtain ⟨c0, c1, -, -⟩ := cells_of2 k2
          obtain ⟨d0, d1, -, -⟩ := cells_of2 k3
          obtain ⟨g0, g1, -, -⟩ := cells_of2 hg8
          have s8 := HB8.out.size
          have l2 := lt_of_block k2
          have l3 := lt_of_block k3
          have l4 := lt_of_block hg8
          clear hb8 hg8 k2 k3 HNF HC1 HH1 HG7
          go_wp2_with fail
          refine (awake_any _).mono ?_
          rintro e w9 ⟨rfl, hb9⟩
          have HB9 := Lib.hid ((HB8.out.alloc s8 (.cells #[.int .i64 a1, .int .i64 b1] 29)).trans (hb9.mono (by simp; omega)))
          clear hb9
          go_wp2
          go_ret
          exact ⟨rfl, HBc.out.trans (HB9.out.mono HBc.out.size)⟩
        · have hno : okEff P' T' (x : Int) val = false := by
            unfold okEff
            rw [HOK.out]
            exact decide_eq_false hy
          obtain ⟨q1, q2, q3⟩ := eff_no hno
          have hV0 := HV0.out
          have hV1 := HV1.out
          have hGE := HGE.out
          rw [q1] at hV0; rw [q2] at hV1; rw [q3] at hGE
          simp [zeroF] at hV0 hV1
          obtain ⟨rfl, rfl⟩ := hV0
          obtain ⟨rfl, rfl⟩ := hV1
          subst hGE
          obtain ⟨d0, d1, -, -⟩ := cells_of2 k2
          obtain ⟨e0, e1, -, -⟩ := cells_of2 k3
          by_cases hy0 : val < 0
          · have t1 : decide (val < 0) = true := decide_eq_true hy0
            clear hno q1 q2 q3 HV0 HV1 HGE hy hy0 k0 k2 k3
            go_wp2_with fail
            refine (awake_any _).mono ?_
            rintro e w5 ⟨rfl, hb5⟩
            have HB5 := Lib.hid (HBD.out.trans (hb5.mono HBD.out.size))
            clear hb5
            go_wp2
            go_ret
            exact ⟨rfl, HBc.out.trans (HB5.out.mono HBc.out.size)⟩
          · have t1 : decide (val < 0) = false := decide_eq_false hy0
            have t2 : decide ((P'.length : Int) ≤ val) = true := decide_eq_true (by omega)
            clear hno q1 q2 q3 HV0 HV1 HGE hy hy0 k0 k2 k3
            go_wp2_with fail
            refine (awake_any _).mono ?_
            rintro e w5 ⟨rfl, hb5⟩
            have HB5 := Lib.hid (HBD.out.trans (hb5.mono HBD.out.size))
            clear hb5
            go_wp2
            go_ret
            exact ⟨rfl, HBc.out.trans (HB5.out.mono HBc.out.size)⟩

end Go.Proofs.Ytghffnjnpgiicaa

