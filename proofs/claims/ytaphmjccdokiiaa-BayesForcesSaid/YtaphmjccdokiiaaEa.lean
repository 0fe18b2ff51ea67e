/- BayesJoints: the walk. -/
import Derived.Test.YtaphmjccdokiiaaDa
import Derived.Test.YtaphmjccdokiiaaO
import Derived.Test.YtaphmjccdokiiaaC
namespace Go.Proofs.Ytaphmjccdokiiaa
open Go.RowKit

theorem trim_len (xss : List (List Int)) : (trim xss).length ≤ 140737488351232 := by
  unfold trim
  rw [List.length_map, List.length_take]
  omega

/-- The network's own copy. -/
theorem net_of_new {B : Nat} {w : World} {v1 v2 : Value} {P T : List (List Int)} (h1 : NewRows B w v1 (trim P)) (h2 : NewRows B w v2 (trim T)) :
    ∃ pa pc ta tc, v1 = .slice pa (trim P).length pc ∧ v2 = .slice ta (trim T).length tc ∧ NetAt w (.agg #[.slice pa (trim P).length pc, .slice ta (trim T).length tc]) (trim P) (trim T) := by
  obtain ⟨pa, pb, pc, A, B1, O, C, rfl, r1⟩ := h1.at (trim_len P)
  obtain ⟨ta, tb, tc, A', B1', O', C', rfl, r2⟩ := h2.at (trim_len T)
  exact ⟨pa, pc, ta, tc, rfl, rfl, ⟨pa, pb, 0, pc, A, B1, O, C, ta, tb, 0, tc, A', B1', O', C', rfl, r1, r2⟩⟩

set_option maxHeartbeats 4000000 in
set_option maxRecDepth 100000 in
theorem joints_any (P T : List (List Int)) (pa : Option Addr) (pb po pc : Nat) (A : Nat → Option Addr) (B O C : Nat → Nat) (ta : Option Addr) (tb to tc : Nat) (A' : Nat → Option Addr) (B' O' C' : Nat → Nat)
    (xs : List Int) (ao : Option Addr) (xb xo xc : Nat) (w : World)
    (hP : RowsAt w pa pb po P A B O C) (hT : RowsAt w ta tb to T A' B' O' C') (cP : CapsOk P A C) (cT : CapsOk T A' C') (hX : IntsAt w ao xb xo xs) (hcap : xs.length ≤ xc) (hnil : ao = none → xc = 0) :
    Calls Try.prog 3 #[.agg #[.slice pa P.length pc, .slice ta T.length tc], .slice ao xs.length xc] w fun e w' => e = .returned (.bool true) ∧ Below w.heap.size w w' := by
  have HP := Lib.hid hP
  have HT := Lib.hid hT
  have CP := Lib.hid cP
  have CT := Lib.hid cT
  have HX := Lib.hid hX
  have HC := Lib.hid hcap
  have HN := Lib.hid hnil
  clear hP hT cP cT hX hcap hnil
  go_enter Try.func3, Try.ntmps3
  go_wp2_with fail
  refine (network_any P T pa pb po pc A B O C ta tb to tc A' B' O' C' _ (HP.out.below ((Below.refl _ _).alloc (Nat.le_refl _) _) (Nat.le_refl _)) (HT.out.below ((Below.refl _ _).alloc (Nat.le_refl _) _) (Nat.le_refl _)) CP.out CT.out).mono ?_
  rintro e w1 ⟨⟨v1, v2, rfl, n1, n2⟩, hb1⟩
  obtain ⟨qa, qc, sa, sc, rfl, rfl, hnet⟩ := net_of_new n1 n2
  have HB1 := Lib.hid (((Below.refl _ w).alloc (Nat.le_refl _) (.cells #[.slice pa P.length pc, .slice ta T.length tc] 24)).trans (hb1.mono (by simp)))
  have HNET := Lib.hid hnet
  clear hb1 n1 n2 hnet
  go_wp2_with fail
  refine (list_any xs ao xb xo xc _ (HX.out.below HB1.out (Nat.le_refl _)) HC.out HN.out).mono ?_
  rintro e w2 ⟨v, rfl, hv, hb2⟩
  obtain ⟨ya, yb, yc, rfl, hy, -⟩ := hv.at
  have HY := Lib.hid (hy.alloc (.cells #[.slice qa (trim P).length qc, .slice sa (trim T).length sc] 24))
  have HNET2 := Lib.hid ((HNET.out.below hb2 (Nat.le_refl _)).alloc (.cells #[.slice qa (trim P).length qc, .slice sa (trim T).length sc] 24))
  have HB2 := Lib.hid ((HB1.out.trans (hb2.mono HB1.out.size)).alloc (by have := HB1.out.size; have := hb2.size; omega) (.cells #[.slice qa (trim P).length qc, .slice sa (trim T).length sc] 24))
  obtain ⟨P', hP'⟩ : ∃ P', trim P = P' := ⟨_, rfl⟩
  obtain ⟨T', hT'⟩ : ∃ T', trim T = T' := ⟨_, rfl⟩
  obtain ⟨ys, hys⟩ : ∃ ys, xs.take 20 = ys := ⟨_, rfl⟩
  rw [hys] at HY ⊢
  rw [hP', hT'] at HY HNET2 HB2 ⊢
  clear hv hy hb2 HNET HB1 HX HP HT CP CT HC HN hP' hT' hys
  go_wp2_with fail
  obtain ⟨nb, hnb⟩ : ∃ nb, w2.heap.size = nb := ⟨_, rfl⟩
  obtain ⟨wa, hwa⟩ : ∃ wa, w2.alloc (.cells #[.slice qa P'.length qc, .slice sa T'.length sc] 24) = wa := ⟨_, rfl⟩
  have hblk : wa.heap[nb]? = some (.cells #[.slice qa P'.length qc, .slice sa T'.length sc] 24 (0, 0)) := by rw [← hwa, ← hnb]; exact heap_alloc_new _ _
  have HBLK := Lib.hid hblk
  rw [hwa] at HY HNET2 HB2 ⊢
  clear hwa hblk
  cases hn : isNet P' T'
  · have HI := Lib.hid hn
    have hj0 := joint_noNet P' T' (.agg #[.slice qa P'.length qc, .slice sa T'.length sc]) ys ya yc wa HNET2.out hn
    unfold zeroF at hj0
    refine hj0.mono ?_
    rintro e w3 ⟨rfl, hb3⟩
    have HB3 := Lib.hid hb3
    obtain ⟨c0, c1, -, -⟩ := cells_of2 ((HB3.out.block _ (lt_of_block HBLK.out)).trans HBLK.out)
    have hlt : nb < w3.heap.size := Nat.lt_of_lt_of_le (lt_of_block HBLK.out) HB3.out.size
    clear hb3 hn hj0
    go_wp2_with fail
    have hr := refNetwork_any P' T' (.agg #[.slice qa P'.length qc, .slice sa T'.length sc]) (w3.alloc (.cells #[.int .i64 0, .int .i64 0] 29)) ((HNET2.out.below HB3.out (Nat.le_refl _)).alloc _)
    rw [HI.out] at hr
    refine hr.mono ?_
    rintro e w4 ⟨rfl, hb4⟩
    obtain ⟨d0, d1, -, -⟩ := cells_of2 ((hb4.block w3.heap.size (by simp)).trans (heap_alloc_new _ _))
    have HB4 := Lib.hid (((HB2.out.trans (HB3.out.mono HB2.out.size)).alloc (by have := HB2.out.size; have := HB3.out.size; omega) (.cells #[.int .i64 0, .int .i64 0] 29)).trans (hb4.mono (by have := HB2.out.size; have := HB3.out.size; simp; omega)))
    clear hr hb4 c0 c1
    go_wp2_with fail
    refine (awake_any _).mono ?_
    rintro e w5 ⟨rfl, hb5⟩
    have HB5 := Lib.hid (HB4.out.trans (hb5.mono HB4.out.size))
    clear hb5
    go_wp2
    go_ret
    exact ⟨rfl, HB5.out⟩
  · have HI := Lib.hid hn
    cases ha : okAsg ys P'.length
    · have HA := Lib.hid ha
      have hj0 := joint_noAsg P' T' (.agg #[.slice qa P'.length qc, .slice sa T'.length sc]) ys ya yb 0 yc wa HNET2.out HY.out hn ha
      unfold zeroF at hj0
      refine hj0.mono ?_
      rintro e w3 ⟨rfl, hb3⟩
      have HB3 := Lib.hid hb3
      obtain ⟨c0, c1, -, -⟩ := cells_of2 ((HB3.out.block _ (lt_of_block HBLK.out)).trans HBLK.out)
      have hlt : nb < w3.heap.size := Nat.lt_of_lt_of_le (lt_of_block HBLK.out) HB3.out.size
      clear hb3 hn ha hj0
      go_wp2_with fail
      have hr := refNetwork_any P' T' (.agg #[.slice qa P'.length qc, .slice sa T'.length sc]) (w3.alloc (.cells #[.int .i64 0, .int .i64 0] 29)) ((HNET2.out.below HB3.out (Nat.le_refl _)).alloc _)
      rw [HI.out] at hr
      refine hr.mono ?_
      rintro e w4 ⟨rfl, hb4⟩
      have HB34 := Lib.hid (((Below.refl _ w3).alloc (Nat.le_refl _) (.cells #[.int .i64 0, .int .i64 0] 29)).trans (hb4.mono (by simp)))
      have HF4 := Lib.hid ((hb4.block w3.heap.size (by simp)).trans (heap_alloc_new w3 (.cells #[.int .i64 0, .int .i64 0] 29)))
      obtain ⟨d0, d1, -, -⟩ := cells_of2 ((HB34.out.block _ hlt).trans ((HB3.out.block _ (lt_of_block HBLK.out)).trans HBLK.out))
      have hlt4 : nb < w4.heap.size := Nat.lt_of_lt_of_le hlt HB34.out.size
      have hf4 := lt_of_block HF4.out
      clear hr hb4 c0 c1
      go_wp2_with fail
      have hj := refJoint_any P' T' (.agg #[.slice qa P'.length qc, .slice sa T'.length sc]) ys ya yb 0 yc w4 ((HNET2.out.below HB3.out (Nat.le_refl _)).below HB34.out (Nat.le_refl _)) ((HY.out.below HB3.out (Nat.le_refl _)).below HB34.out (Nat.le_refl _)) (of_decide_eq_true HI.out)
      rw [jointV_no HA.out, HA.out] at hj
      unfold zeroF at hj
      refine hj.mono ?_
      rintro e w5 ⟨rfl, hb5⟩
      obtain ⟨e0, e1, -, -⟩ := cells_of2 ((hb5.block _ hf4).trans HF4.out)
      have hf5 : w3.heap.size < w5.heap.size := Nat.lt_of_lt_of_le hf4 hb5.size
      have HB5 := Lib.hid (((HB2.out.trans (HB3.out.mono HB2.out.size)).trans (HB34.out.mono (by have := HB2.out.size; have := HB3.out.size; omega))).trans (hb5.mono (by have := HB2.out.size; have := HB3.out.size; have := HB34.out.size; omega)))
      clear hj hb5 d0 d1
      go_wp2_with fail
      refine (awake_any _).mono ?_
      rintro e w6 ⟨rfl, hb6⟩
      have HB6 := Lib.hid ((HB5.out.alloc HB5.out.size (.cells #[.int .i64 0, .int .i64 0] 29)).trans (hb6.mono (by have := HB5.out.size; simp; omega)))
      clear hb6
      go_wp2
      go_ret
      exact ⟨rfl, HB6.out⟩
    · have HA := Lib.hid ha
      have hjo := joint_ok P' T' (.agg #[.slice qa P'.length qc, .slice sa T'.length sc]) ys ya yb 0 yc wa HNET2.out HY.out hn ha
      obtain ⟨fa, fb, hfab⟩ : ∃ fa fb : Int, fracV (wt P' T' (nth ys) P'.length) (16 ^ P'.length) = .agg #[.int .i64 fa, .int .i64 fb] := ⟨_, _, rfl⟩
      have HFAB := Lib.hid hfab
      rw [hfab] at hjo
      refine hjo.mono ?_
      rintro e w3 ⟨rfl, hb3⟩
      have HB3 := Lib.hid hb3
      obtain ⟨c0, c1, -, -⟩ := cells_of2 ((HB3.out.block _ (lt_of_block HBLK.out)).trans HBLK.out)
      have hlt : nb < w3.heap.size := Nat.lt_of_lt_of_le (lt_of_block HBLK.out) HB3.out.size
      clear hb3 hn ha hjo hfab
      go_wp2_with fail
      have hr := refNetwork_any P' T' (.agg #[.slice qa P'.length qc, .slice sa T'.length sc]) (w3.alloc (.cells #[.int .i64 fa, .int .i64 fb] 29)) ((HNET2.out.below HB3.out (Nat.le_refl _)).alloc _)
      rw [HI.out] at hr
      refine hr.mono ?_
      rintro e w4 ⟨rfl, hb4⟩
      have HB34 := Lib.hid (((Below.refl _ w3).alloc (Nat.le_refl _) (.cells #[.int .i64 fa, .int .i64 fb] 29)).trans (hb4.mono (by simp)))
      have HF4 := Lib.hid ((hb4.block w3.heap.size (by simp)).trans (heap_alloc_new w3 (.cells #[.int .i64 fa, .int .i64 fb] 29)))
      obtain ⟨d0, d1, -, -⟩ := cells_of2 ((HB34.out.block _ hlt).trans ((HB3.out.block _ (lt_of_block HBLK.out)).trans HBLK.out))
      have hlt4 : nb < w4.heap.size := Nat.lt_of_lt_of_le hlt HB34.out.size
      have hf4 := lt_of_block HF4.out
      clear hr hb4 c0 c1
      go_wp2_with fail
      have hj := refJoint_any P' T' (.agg #[.slice qa P'.length qc, .slice sa T'.length sc]) ys ya yb 0 yc w4 ((HNET2.out.below HB3.out (Nat.le_refl _)).below HB34.out (Nat.le_refl _)) ((HY.out.below HB3.out (Nat.le_refl _)).below HB34.out (Nat.le_refl _)) (of_decide_eq_true HI.out)
      rw [jointV_yes HA.out, HA.out, HFAB.out] at hj
      refine hj.mono ?_
      rintro e w5 ⟨rfl, hb5⟩
      obtain ⟨e0, e1, -, -⟩ := cells_of2 ((hb5.block _ hf4).trans HF4.out)
      have hf5 : w3.heap.size < w5.heap.size := Nat.lt_of_lt_of_le hf4 hb5.size
      have HB5 := Lib.hid (((HB2.out.trans (HB3.out.mono HB2.out.size)).trans (HB34.out.mono (by have := HB2.out.size; have := HB3.out.size; omega))).trans (hb5.mono (by have := HB2.out.size; have := HB3.out.size; have := HB34.out.size; omega)))
      clear hj hb5 d0 d1
      go_wp2_with fail
      refine (awake_any _).mono ?_
      rintro e w6 ⟨rfl, hb6⟩
      have HB6 := Lib.hid ((HB5.out.alloc HB5.out.size (.cells #[.int .i64 fa, .int .i64 fb] 29)).trans (hb6.mono (by have := HB5.out.size; simp; omega)))
      clear hb6
      go_wp2
      go_ret
      exact ⟨rfl, HB6.out⟩

end Go.Proofs.Ytaphmjccdokiiaa
