/- BayesLikely: the walk. -/
import Derived.Test.YtaphmjccdokiiaaRa
import Derived.Test.YtaphmjccdokiiaaLa
namespace Go.Proofs.Ytaphmjccdokiiaa
open Go.RowKit

theorem lkV_form (P T : List (List Int)) (gs : List (Int × Int)) : ∃ a b : Int, lkV P T gs = .agg #[.int .i64 a, .int .i64 b] := by
  unfold lkV zeroF fracV fracC
  split
  · exact ⟨_, _, rfl⟩
  · exact ⟨_, _, rfl⟩
theorem lkL_len (P T : List (List Int)) (gs : List (Int × Int)) : (lkL P T gs).length ≤ P.length := by
  unfold lkL
  split
  · rw [vals_length]; exact Nat.le_refl _
  · simp

set_option maxHeartbeats 4000000 in
set_option maxRecDepth 100000 in
theorem likelys_any (P T : List (List Int)) (pa : Option Addr) (pb po pc : Nat) (A : Nat → Option Addr) (B O C : Nat → Nat) (ta : Option Addr) (tb tz tc : Nat) (A' : Nat → Option Addr) (B' O' C' : Nat → Nat)
    (gs : List (Int × Int)) (go : Option Addr) (gb gf gc : Nat) (w : World)
    (hP : RowsAt w pa pb po P A B O C) (hT : RowsAt w ta tb tz T A' B' O' C') (cP : CapsOk P A C) (cT : CapsOk T A' C') (hG : PairsAt w go gb gf gs) (hgc : gs.length ≤ gc) (hgn : go = none → gc = 0) :
    Calls Try.prog 5 #[.agg #[.slice pa P.length pc, .slice ta T.length tc], .slice go gs.length gc] w fun e w' => e = .returned (.bool true) ∧ Below w.heap.size w w' := by
  have HP := Lib.hid hP
  have HT := Lib.hid hT
  have CP := Lib.hid cP
  have CT := Lib.hid cT
  have HG := Lib.hid hG
  have HC := Lib.hid hgc
  have HN := Lib.hid hgn
  clear hP hT cP cT hG hgc hgn
  go_enter Try.func5, Try.ntmps5
  go_wp2_with fail
  refine (network_any P T pa pb po pc A B O C ta tb tz tc A' B' O' C' _ (HP.out.below ((Below.refl _ _).alloc (Nat.le_refl _) _) (Nat.le_refl _)) (HT.out.below ((Below.refl _ _).alloc (Nat.le_refl _) _) (Nat.le_refl _)) CP.out CT.out).mono ?_
  rintro e w1 ⟨⟨v1, v2, rfl, n1, n2⟩, hb1⟩
  obtain ⟨qa, qc, sa, sc, rfl, rfl, hnet⟩ := net_of_new n1 n2
  have HB1 := Lib.hid (((Below.refl _ w).alloc (Nat.le_refl _) (.cells #[.slice pa P.length pc, .slice ta T.length tc] 24)).trans (hb1.mono (by simp)))
  have HNET := Lib.hid hnet
  clear hb1 n1 n2 hnet
  go_wp2_with fail
  refine (facts_any gs go gb gf gc _ (HG.out.below HB1.out (Nat.le_refl _)) HC.out HN.out).mono ?_
  rintro e w2 ⟨v, rfl, hv, hb2⟩
  obtain ⟨ya, yb, yc, rfl, hy⟩ := hv.at
  have HY := Lib.hid (hy.alloc (.cells #[.slice qa (trim P).length qc, .slice sa (trim T).length sc] 24))
  have HNET2 := Lib.hid ((HNET.out.below hb2 (Nat.le_refl _)).alloc (.cells #[.slice qa (trim P).length qc, .slice sa (trim T).length sc] 24))
  have HB2 := Lib.hid ((HB1.out.trans (hb2.mono HB1.out.size)).alloc (by have := HB1.out.size; have := hb2.size; omega) (.cells #[.slice qa (trim P).length qc, .slice sa (trim T).length sc] 24))
  have hlg : (gs.take 20).length ≤ 1000 := by rw [List.length_take]; omega
  obtain ⟨P', hP'⟩ : ∃ P', trim P = P' := ⟨_, rfl⟩
  obtain ⟨T', hT'⟩ : ∃ T', trim T = T' := ⟨_, rfl⟩
  obtain ⟨ys, hys⟩ : ∃ ys, gs.take 20 = ys := ⟨_, rfl⟩
  rw [hys] at HY hlg ⊢
  rw [hP', hT'] at HY HNET2 HB2 ⊢
  clear hv hy hb2 HNET HB1 HG HP HT CP CT HC HN hP' hT' hys
  go_wp2_with fail
  obtain ⟨nb, hnb⟩ : ∃ nb, w2.heap.size = nb := ⟨_, rfl⟩
  obtain ⟨wa, hwa⟩ : ∃ wa, w2.alloc (.cells #[.slice qa P'.length qc, .slice sa T'.length sc] 24) = wa := ⟨_, rfl⟩
  have hblk : wa.heap[nb]? = some (.cells #[.slice qa P'.length qc, .slice sa T'.length sc] 24 (0, 0)) := by rw [← hwa, ← hnb]; exact heap_alloc_new _ _
  have HBLK := Lib.hid hblk
  rw [hwa] at HY HNET2 HB2 ⊢
  clear hwa hblk
  cases hn : isNet P' T'
  · have HI := Lib.hid hn
    have hj0 := likely_noNet P' T' (.agg #[.slice qa P'.length qc, .slice sa T'.length sc]) (.slice ya ys.length yc) wa HNET2.out hn
    unfold zeroF at hj0
    refine hj0.mono ?_
    rintro e w3 ⟨rfl, hb3⟩
    have HB3 := Lib.hid hb3
    obtain ⟨c0, c1, -, -⟩ := cells_of2 ((HB3.out.block _ (lt_of_block HBLK.out)).trans HBLK.out)
    have hlt : nb < w3.heap.size := Nat.lt_of_lt_of_le (lt_of_block HBLK.out) HB3.out.size
    clear hb3 hn hj0
    go_wp2_with fail
    have hr := refNetwork_any P' T' (.agg #[.slice qa P'.length qc, .slice sa T'.length sc]) (w3.alloc (.cells #[.int .i64 0, .int .i64 0] 29)) ((HNET2.out.below HB3.out (Nat.le_refl _)).alloc _)
    rw [HI.out] at hr
    refine hr.mono ?_
    rintro e w4 ⟨rfl, hb4⟩
    obtain ⟨d0, d1, -, -⟩ := cells_of2 ((hb4.block w3.heap.size (by simp)).trans (heap_alloc_new _ _))
    have HB4 := Lib.hid (((HB2.out.trans (HB3.out.mono HB2.out.size)).alloc (by have := HB2.out.size; have := HB3.out.size; omega) (.cells #[.int .i64 0, .int .i64 0] 29)).trans (hb4.mono (by have := HB2.out.size; have := HB3.out.size; simp; omega)))
    clear hr hb4 c0 c1
    go_wp2_with fail
    refine (awake_any _).mono ?_
    rintro e w5 ⟨rfl, hb5⟩
    have HB5 := Lib.hid (HB4.out.trans (hb5.mono HB4.out.size))
    clear hb5
    go_wp2
    go_ret
    exact ⟨rfl, HB5.out⟩
  · have HI := Lib.hid hn
    have HIN := Lib.hid (of_decide_eq_true hn : IsNet P' T')
    obtain ⟨fa, fb, hfab⟩ := lkV_form P' T' ys
    obtain ⟨ee, hee⟩ : ∃ ee, lkE P' T' ys = ee := ⟨_, rfl⟩
    obtain ⟨ll, hll⟩ : ∃ ll, lkL P' T' ys = ll := ⟨_, rfl⟩
    have hl10 := lkL_len P' T' ys
    have h10 := HIN.out.le
    have hjo := likely_net P' T' (.agg #[.slice qa P'.length qc, .slice sa T'.length sc]) ys ya yb 0 yc wa HNET2.out hn HY.out hlg
    rw [hfab, hee, hll] at hjo
    rw [hll] at hl10
    have HFAB := Lib.hid hfab
    have HEE := Lib.hid hee
    have HLL := Lib.hid hll
    refine hjo.mono ?_
    rintro e w3 ⟨⟨u, rfl, hu⟩, hb3⟩
    obtain ⟨ua, ub, uc, rfl, hui, -⟩ := hu.at
    have HUI := Lib.hid hui
    have HB3 := Lib.hid hb3
    obtain ⟨c0, c1, -, -⟩ := cells_of2 ((HB3.out.block _ (lt_of_block HBLK.out)).trans HBLK.out)
    have hlt : nb < w3.heap.size := Nat.lt_of_lt_of_le (lt_of_block HBLK.out) HB3.out.size
    clear hb3 hn hjo hfab hee hll hu hui
    go_wp2_with fail
    have hr := refNetwork_any P' T' (.agg #[.slice qa P'.length qc, .slice sa T'.length sc]) (w3.alloc (.cells #[.int .i64 fa, .int .i64 fb] 29)) ((HNET2.out.below HB3.out (Nat.le_refl _)).alloc _)
    rw [HI.out] at hr
    refine hr.mono ?_
    rintro e w4 ⟨rfl, hb4⟩
    have HB34 := Lib.hid (((Below.refl _ w3).alloc (Nat.le_refl _) (.cells #[.int .i64 fa, .int .i64 fb] 29)).trans (hb4.mono (by simp)))
    have HF4 := Lib.hid ((hb4.block w3.heap.size (by simp)).trans (heap_alloc_new w3 (.cells #[.int .i64 fa, .int .i64 fb] 29)))
    obtain ⟨d0, d1, -, -⟩ := cells_of2 ((HB34.out.block _ hlt).trans ((HB3.out.block _ (lt_of_block HBLK.out)).trans HBLK.out))
    have hlt4 : nb < w4.heap.size := Nat.lt_of_lt_of_le hlt HB34.out.size
    have hf4 := lt_of_block HF4.out
    clear hr hb4 c0 c1
    go_wp2_with fail
    have hj := refLikely_any P' T' (.agg #[.slice qa P'.length qc, .slice sa T'.length sc]) ys ya yb 0 yc w4 ((HNET2.out.below HB3.out (Nat.le_refl _)).below HB34.out (Nat.le_refl _)) HIN.out ((HY.out.below HB3.out (Nat.le_refl _)).below HB34.out (Nat.le_refl _)) hlg
    rw [HFAB.out, HEE.out, HLL.out] at hj
    refine hj.mono ?_
    rintro e w5 ⟨⟨u', rfl, hu'⟩, hb5⟩
    obtain ⟨ua', ub', uc', rfl, hui', -⟩ := hu'.at
    have HUI' := Lib.hid (hui'.alloc (.cells #[.int .i64 fa, .int .i64 fb] 29))
    have HUI5 := Lib.hid (((HUI.out.below HB34.out (Nat.le_refl _)).below hb5 (Nat.le_refl _)).alloc (.cells #[.int .i64 fa, .int .i64 fb] 29))
    have HF5 := Lib.hid ((hb5.block _ hf4).trans HF4.out)
    have hf5 : w3.heap.size < w5.heap.size := Nat.lt_of_lt_of_le hf4 hb5.size
    have HB5 := Lib.hid (((HB2.out.trans (HB3.out.mono HB2.out.size)).trans (HB34.out.mono (by have := HB2.out.size; have := HB3.out.size; omega))).trans (hb5.mono (by have := HB2.out.size; have := HB3.out.size; have := HB34.out.size; omega)))
    clear hj hb5 d0 d1 hu' hui'
    go_wp2_with fail
    have hq := ints_any ll ll ua ua' ub 0 uc ub' 0 uc' _ HUI5.out HUI'.out
    rw [decide_eq_true rfl] at hq
    refine hq.mono ?_
    rintro e w6 ⟨rfl, hb6⟩
    obtain ⟨e0, e1, -, -⟩ := cells_of2 ((hb6.block w3.heap.size (by simp; omega)).trans ((Below.heap_alloc w5 _ _ hf5).trans HF5.out))
    obtain ⟨g0, g1, -, -⟩ := cells_of2 ((hb6.block w5.heap.size (by simp)).trans (heap_alloc_new w5 (.cells #[.int .i64 fa, .int .i64 fb] 29)))
    have HB6 := Lib.hid ((HB5.out.alloc HB5.out.size (.cells #[.int .i64 fa, .int .i64 fb] 29)).trans (hb6.mono (by have := HB5.out.size; simp; omega)))
    clear hq hb6
    go_wp2_with fail
    refine (awake_any _).mono ?_
    rintro e w7 ⟨rfl, hb7⟩
    have HB7 := Lib.hid (HB6.out.trans (hb7.mono HB6.out.size))
    clear hb7
    go_wp2
    go_ret
    exact ⟨rfl, HB7.out⟩

end Go.Proofs.Ytaphmjccdokiiaa
