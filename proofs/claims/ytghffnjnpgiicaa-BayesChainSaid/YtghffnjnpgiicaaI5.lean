/- I5: Yb -/
import Derived.Test.YtghffnjnpgiicaaI4
import Derived.Deep.CutBlock
/- tame: a network made from any one. -/
namespace Go.Proofs.Ytghffnjnpgiicaa
open Go.RowKit

/-- What tame answers. -/
def TameSays (most : Nat) (w : World) (e : Ending) (w' : World) : Prop :=
  (∃ v1 v2 P2 T2, e = .returned (.agg #[v1, v2]) ∧ NewRows w.heap.size w' v1 P2 ∧ NewRows w.heap.size w' v2 T2 ∧ IsNet P2 T2 ∧ P2.length ≤ most) ∧ Below w.heap.size w w'

set_option maxHeartbeats 8000000 in
set_option maxRecDepth 100000 in
theorem tame_any (P T : List (List Int)) (pa : Option Addr) (pb po pc : Nat) (A : Nat → Option Addr) (B O C : Nat → Nat) (ta : Option Addr) (tb tz tc : Nat) (A' : Nat → Option Addr) (B' O' C' : Nat → Nat)
    (most : Nat) (w : World) (hm1 : 1 ≤ most) (hm8 : most ≤ 8)
    (hP : RowsAt w pa pb po P A B O C) (hT : RowsAt w ta tb tz T A' B' O' C') (cP : CapsOk P A C) (cT : CapsOk T A' C') :
    Calls Try.prog 37 #[.agg #[.slice pa P.length pc, .slice ta T.length tc], .int .i64 most] w (TameSays most w) := by
  have HP := Lib.hid hP
  have HT := Lib.hid hT
  have CP := Lib.hid cP
  have CT := Lib.hid cT
  have HBW : Hid (Below w.heap.size w ((w.alloc (.cells #[.slice pa P.length pc, .slice ta T.length tc] 24)).alloc (.cells #[.slice none 0 0, .slice none 0 0] 24))) := ((Below.refl _ _).alloc (Nat.le_refl _) _).alloc (by simp) _
  have hk : ((w.alloc (.cells #[.slice pa P.length pc, .slice ta T.length tc] 24)).alloc (.cells #[.slice none 0 0, .slice none 0 0] 24)).heap[w.heap.size + 1]? = some (.cells #[.slice none 0 0, .slice none 0 0] 24 (0, 0)) := by
    have := heap_alloc_new (w.alloc (.cells #[.slice pa P.length pc, .slice ta T.length tc] 24)) (.cells #[.slice none 0 0, .slice none 0 0] 24)
    simpa using this
  have HK1 := Lib.hid hk
  clear hP hT cP cT hk
  go_enter Try.func37, Try.ntmps37
  go_wp2_with fail
  refine (network_any P T pa pb po pc A B O C ta tb tz tc A' B' O' C' _ (HP.out.below HBW.out (Nat.le_refl _)) (HT.out.below HBW.out (Nat.le_refl _)) CP.out CT.out).mono ?_
  rintro e w1 ⟨⟨v1, v2, rfl, n1, n2⟩, hb1⟩
  have hl1 : (trim P).length ≤ 1000 := by unfold trim; rw [List.length_map, List.length_take]; omega
  have hl2 : (trim T).length ≤ 1000 := by unfold trim; rw [List.length_map, List.length_take]; omega
  obtain ⟨P', hP'⟩ : ∃ P', trim P = P' := ⟨_, rfl⟩
  obtain ⟨T', hT'⟩ : ∃ T', trim T = T' := ⟨_, rfl⟩
  rw [hP'] at hl1 n1
  rw [hT'] at hl2 n2
  have HN1 := Lib.hid n1
  have HN2 := Lib.hid n2
  obtain ⟨qa, qb, qc, D, E, F, G, rfl, rP, -⟩ := news_caps n1 hl1
  obtain ⟨sa, sb, sc, D', E', F', G', rfl, rT, -⟩ := news_caps n2 hl2
  have hs1 := hb1.size
  have hsW : w.heap.size + 2 ≤ w1.heap.size := by simpa using hs1
  have hnet : NetAt w1 (.agg #[.slice qa P'.length qc, .slice sa T'.length sc]) P' T' := ⟨qa, qb, 0, qc, D, E, F, G, sa, sb, 0, sc, D', E', F', G', rfl, rP, rT⟩
  have HB1 := Lib.hid ((HBW.out.trans (hb1.mono (by simp; omega))).alloc (by omega) (.cells #[.slice qa P'.length qc, .slice sa T'.length sc] 24))
  have HRP := Lib.hid (rP.alloc (.cells #[.slice qa P'.length qc, .slice sa T'.length sc] 24))
  have HRT := Lib.hid (rT.alloc (.cells #[.slice qa P'.length qc, .slice sa T'.length sc] 24))
  have HN1a := Lib.hid (HN1.out.below ((Below.refl _ w1).alloc (Nat.le_refl _) (.cells #[.slice qa P'.length qc, .slice sa T'.length sc] 24)) (Nat.le_refl _))
  have HN2a := Lib.hid (HN2.out.below ((Below.refl _ w1).alloc (Nat.le_refl _) (.cells #[.slice qa P'.length qc, .slice sa T'.length sc] 24)) (Nat.le_refl _))
  have HNET := Lib.hid (hnet.alloc (.cells #[.slice qa P'.length qc, .slice sa T'.length sc] 24))
  have hk1 := (Below.heap_alloc w1 (.cells #[.slice qa P'.length qc, .slice sa T'.length sc] 24) (w.heap.size + 1) (by omega)).trans ((hb1.block (w.heap.size + 1) (by simp)).trans HK1.out)
  clear hb1 n1 n2 rP rT hnet hP' hT' HP HT CP CT HBW HK1 hs1 HN1 HN2
  go_upto_region 2 with fail
  obtain ⟨nb, hnb⟩ : ∃ nb, w1.heap.size = nb := ⟨_, rfl⟩
  obtain ⟨wa, hwa⟩ : ∃ wa, w1.alloc (.cells #[.slice qa P'.length qc, .slice sa T'.length sc] 24) = wa := ⟨_, rfl⟩
  have hblk : wa.heap[nb]? = some (.cells #[.slice qa P'.length qc, .slice sa T'.length sc] 24 (0, 0)) := by rw [← hwa, ← hnb]; exact heap_alloc_new _ _
  have HBLK := Lib.hid hblk
  rw [hwa] at HRP HRT HNET HB1 HN1a HN2a hk1 ⊢
  rw [hnb] at hsW ⊢
  have HK1 := Lib.hid hk1
  have hB0 : (w.alloc (.cells #[.slice pa P.length pc, .slice ta T.length tc] 24)).alloc (.cells #[.slice none 0 0, .slice none 0 0] 24) = (w.alloc (.cells #[.slice pa P.length pc, .slice ta T.length tc] 24)).alloc (.cells #[.slice none 0 0, .slice none 0 0] 24) := rfl
  clear hwa hblk hnb hB0 hk1
  have HTK := Lib.hid (show ∀ w', Below wa.heap.size wa w' → w'.heap[nb]? = some (.cells #[.slice qa P'.length qc, .slice sa T'.length sc] 24 (0, 0)) ∧ w'.heap[w.heap.size + 1]? = some (.cells #[.slice none 0 0, .slice none 0 0] 24 (0, 0)) from
    fun w' h => ⟨(h.block _ (lt_of_block HBLK.out)).trans HBLK.out, (h.block _ (lt_of_block HK1.out)).trans HK1.out⟩)
  have hone : (#[Value.slice qa P'.length qc, Value.slice sa T'.length sc] : Array Value).all (·.oneCell') = true := by simp [Value.oneCell']
  have HONE := Lib.hid hone
  clear hone HBLK HK1
  go_cut [27] from 19 to 26 (fun bb wx => bb = .bool (isNet P' T' && decide (P'.length ≤ most)) ∧ Below wa.heap.size wa wx)
  case first =>
    have hr := refNetwork_any P' T' _ wa HNET.out
    obtain ⟨k0, -⟩ := HTK.out _ (Below.refl _ _)
    obtain ⟨c0, c1, -, -⟩ := cells_of2 k0
    clear k0
    cases hn : isNet P' T'
    · rw [hn] at hr
      have HNN := Lib.hid hn
      clear hn
      go_wp2_with fail
      refine hr.mono ?_
      rintro e w4 ⟨rfl, hb4⟩
      have HB4 := Lib.hid hb4
      clear hr hb4 c0 c1
      go_wp2_with fail
      go_meet
      exact ⟨by rw [HNN.out]; rfl, HB4.out⟩
    · rw [hn] at hr
      have HNN := Lib.hid hn
      clear hn
      go_wp2_with fail
      refine hr.mono ?_
      rintro e w4 ⟨rfl, hb4⟩
      have HB4 := Lib.hid hb4
      obtain ⟨k0, -⟩ := HTK.out _ hb4
      clear hr hb4 c0 c1
      obtain ⟨c0, c1, -, -⟩ := cells_of2 k0
      clear k0
      by_cases e1 : P'.length ≤ most
      · have t1 : decide ((P'.length : Int) ≤ (most : Int)) = true := decide_eq_true (by omega)
        have HF := Lib.hid (decide_eq_true e1)
        clear e1
        go_wp2_with fail
        go_meet
        exact ⟨by rw [HNN.out, HF.out]; rfl, HB4.out⟩
      · have t1 : decide ((P'.length : Int) ≤ (most : Int)) = false := decide_eq_false (by omega)
        have HF := Lib.hid (decide_eq_false e1)
        clear e1
        go_wp2_with fail
        go_meet
        exact ⟨by rw [HNN.out, HF.out]; rfl, HB4.out⟩
  case rest =>
    obtain ⟨rfl, hbd⟩ := hcut
    have HBD := Lib.hid hbd
    obtain ⟨k0, k1⟩ := HTK.out _ hbd
    have K1 := Lib.hid k1
    have sc1 := hbd.size
    have hlr := lt_of_block k1
    obtain ⟨c0, c1, -, -⟩ := cells_of2 k0
    clear hbd k0 k1
    obtain ⟨ok, hok⟩ : ∃ ok, (isNet P' T' && decide (P'.length ≤ most)) = ok := ⟨_, rfl⟩
    have HOK := Lib.hid hok
    rw [hok]
    clear hok
    cases ok
    · have hmb := modI_bd (x := (P'.length : Int) - 1) (n := (most : Int)) (by omega)
      obtain ⟨K, hK⟩ : ∃ K : Nat, 1 + modI ((P'.length : Int) - 1) (most : Int) = (K : Int) := ⟨(1 + modI ((P'.length : Int) - 1) (most : Int)).toNat, by omega⟩
      have hK1 : 1 ≤ K := by omega
      have hK2 : K ≤ most := by omega
      have hmod := mod_any ((P'.length : Int) - 1) (most : Int) wc ⟨by omega, by omega⟩ (by omega) (by omega)
      obtain ⟨mm, hmm⟩ : ∃ mm, modI ((P'.length : Int) - 1) (most : Int) = mm := ⟨_, rfl⟩
      rw [hmm] at hmb hK hmod
      clear hmm HONE HN1a HN2a
      obtain ⟨i0, hi, hz0, hz1, hz2⟩ := info_parts Try.info25
      obtain ⟨j0, hj0, jz0, jz1, jz2⟩ := info_parts Try.info3
      go_wp2_with fail
      refine hmod.mono ?_
      rintro e wb ⟨rfl, rfl⟩
      clear hmod c0 c1
      go_wp2
      go_loopw [8, 9, 10, 11, 12, 13, 14, 15, 16] (fun i _ _ _ _ _ _ _ _ wr => ∃ (k : Nat) (v1 v2 : Value) (PS TS : List (List Int)), k ≤ K ∧ i = .int .i64 k ∧ Below wb.heap.size wb wr ∧ Two (wb.heap.size + 1) wr v1 v2 PS TS ∧ Tame PS TS k ∧
        wr.heap[wb.heap.size]? = some (.cells #[v1, v2] 24 (0, 0))) (fun i _ _ _ _ _ _ _ _ _ => K - (intOf i).toNat)
      case atStart => exact ⟨0, _, _, [], [], by omega, rfl, (Below.refl _ _).alloc (Nat.le_refl _) _, Two.nil _ _, Tame.nil, heap_alloc_new _ _⟩
      case round =>
        obtain ⟨k, v1, v2, PS, TS, hk, rfl, hb, htw, htm, h2⟩ := hrel
        have HB := Lib.hid hb
        have HTW := Lib.hid htw
        have HTM := Lib.hid htm
        have H2 := Lib.hid h2
        have hs2 := lt_of_block h2
        clear hb htw htm h2
        obtain ⟨wo, rfl⟩ : ∃ x, x = wr := ⟨_, rfl⟩
        by_cases hlt : k < K
        · go_upto_region 10 with fail
          go_cut [10] from 41 to 41 (fun i wx => i = .int .i64 0 ∧ wo = wx)
          case first =>
            go_wp2
            go_meet
            exact ⟨rfl, rfl⟩
          case rest =>
           obtain ⟨rfl, rfl⟩ := hcut
           go_upto_block 2 with (fail)
           go_cut [9, 10, 11, 12] from 41 to 87 (fun p _ _ _ wx => ∃ ps, NewInts wo.heap.size wx p ps ∧ OkPar ps (k : Int) ∧ Below wo.heap.size wo wx)
           case first =>
             go_wp2
             go_loopw [9, 10, 11, 12] (fun p j _ _ wr => ∃ (jj : Nat) (ps : List Int), jj ≤ k ∧ j = .int .i64 jj ∧ NewInts wo.heap.size wr p ps ∧ OkPar ps (jj : Int) ∧ Below wo.heap.size wo wr) (fun _ j _ _ _ => k - (intOf j).toNat)
             case atStart => exact ⟨0, [], by omega, rfl, NewInts.nil _ _, OkPar.nil _, Below.refl _ _⟩
             case round =>
               obtain ⟨jj, ps, hj, rfl, hps, hop, hbj⟩ := hrel
               obtain ⟨wq, rfl⟩ : ∃ x, x = wr := ⟨_, rfl⟩
               have HPS := Lib.hid hps
               have HOP := Lib.hid hop
               have HBJ := Lib.hid hbj
               have hlp := hop.1
               obtain ⟨uo, ub, uc, rfl, -, -⟩ := hps.at
               have HBq := Lib.hid (HBD.out.trans ((HB.out.trans (hbj.mono HB.out.size)).mono HBD.out.size))
               obtain ⟨k0, -⟩ := HTK.out _ HBq.out
               obtain ⟨c0, c1, -, -⟩ := cells_of2 k0
               clear hps hop hbj k0
               by_cases h1 : jj < k
               · by_cases h2 : k < P'.length
                 · have hPq := HRP.out.below HBq.out (Nat.le_refl _)
                   obtain ⟨rfl, -⟩ := hPq.ptr (by omega)
                   have rc := hPq.cell k h2
                   have ir := hPq.rows k h2
                   rw [Nat.zero_add] at rc
                   obtain ⟨rs, hrs⟩ : ∃ rs, row P' k = rs := ⟨_, rfl⟩
                   rw [hrs] at rc ir
                   have HIR := Lib.hid ir
                   have lrs := ir.len
                   clear hPq ir hrs
                   go_wp2
                   go_loopw [11, 12] (fun b m wr => ∃ (c : Bool) (mm : Nat), mm ≤ rs.length ∧ b = .bool c ∧ m = .int .i64 mm ∧ wr = wq) (fun _ m _ => rs.length - (intOf m).toNat)
                   case atStart => exact ⟨false, 0, by omega, rfl, rfl, rfl⟩
                   case round =>
                     obtain ⟨c, mm, hmm, rfl, rfl, hwr⟩ := hrel
                     rw [hwr]
                     clear hwr
                     by_cases h3 : mm < rs.length
                     · obtain ⟨hA, -⟩ := HIR.out.ptr (by omega)
                       rw [hA] at rc
                       have d0 := HIR.out.cell mm h3
                       have hwf := HIR.out.wf mm
                       have hm := mod_any (nth rs mm) (k : Int) wq hwf (by omega) (by omega)
                       cases c
                       · go_wp2_with fail
                         refine hm.mono ?_
                         rintro e w5 ⟨rfl, rfl⟩
                         go_wp2
                         go_roundw
                         case rel => exact ⟨_, mm + 1, by omega, rfl, by go_num, trivial⟩
                         case measure => simp [intOf]; omega
                       · go_wp2
                         go_roundw
                         case rel => exact ⟨_, mm + 1, by omega, rfl, by go_num, trivial⟩
                         case measure => simp [intOf]; omega
                     · cases c
                       · go_wp2
                         go_roundw
                         case rel => exact ⟨jj + 1, ps, by omega, by go_num, HPS.out, HOP.out.mono (by omega), HBJ.out⟩
                         case measure => simp [intOf]; omega
                       · by_cases h4 : ps.length < 3
                         · have HO := Lib.hid (HPS.out.own.alloc (.cells #[.int .i64 (jj : Int)] 3))
                           go_wp2_with (at_builtin; (refine wpList_append_own _ rfl (.tmp 84) (.tmp 86) 25 rfl wo.heap.size 3 j0 (.int .i64 0) 1 8 Try.underlying25 hj0 jz0 jz1 jz2 rfl (by decide) _ ps.length (ps.map (Value.int .i64)) rfl HO.out ⟨wq.heap.size, 0, none⟩ 1 1 [.int .i64 (jj : Int)] rfl rfl (cell_one_new _ _ _) (by simp [Value.oneCell']) ?a1 ?a2 ?a3 ?_))
                           case a1 => unfold maxLen; omega
                           case a2 => omega
                           case a3 => have := HBJ.out.size; simp; omega
                           intro u' w6 hown hg _
                           have hnew : NewInts wo.heap.size w6 u' (ps ++ [(jj : Int)]) := by
                             refine ⟨by rw [List.length_append, List.map_append]; exact hown, fun i => ?_, by rw [List.length_append]; simp; omega⟩
                             rw [nth_snoc]
                             split
                             · omega
                             · exact HPS.out.wf i
                           have HNEW := Lib.hid hnew
                           have HB6 := Lib.hid ((HBJ.out.alloc HBJ.out.size (.cells #[.int .i64 (jj : Int)] 3)).grown hg (by have := HBJ.out.size; simp; omega) (fun r hr => (HPS.out.own.lt r hr).1))
                           clear hown hg hnew HO
                           go_wp2
                           go_roundw
                           case rel => exact ⟨jj + 1, ps ++ [(jj : Int)], by omega, by go_num, HNEW.out, HOP.out.snoc h4, HB6.out⟩
                           case measure => simp [intOf]; omega
                         · go_wp2
                           go_roundw
                           case rel => exact ⟨jj + 1, ps, by omega, by go_num, HPS.out, HOP.out.mono (by omega), HBJ.out⟩
                           case measure => simp [intOf]; omega
                 · go_wp2
                   go_meet
                   exact ⟨ps, HPS.out, HOP.out.mono (by omega), HBJ.out⟩
               · go_wp2
                 go_meet
                 exact ⟨ps, HPS.out, HOP.out.mono (by omega), HBJ.out⟩
           case rest =>
             obtain ⟨ps, hps, hop, hbx⟩ := hcut
             obtain ⟨wp, rfl⟩ : ∃ x, x = wc := ⟨_, rfl⟩
             have HPS := Lib.hid hps
             have HOP := Lib.hid hop
             have HBX := Lib.hid hbx
             obtain ⟨uo, ub, uc, rfl, -, -⟩ := hps.at
             have hlp := hop.1
             clear hps hop hbx
             obtain ⟨N, hN⟩ : ∃ N, 2 ^ ps.length = N := ⟨_, rfl⟩
             have hN8 : N ≤ 8 := by
               rw [← hN]
               have : 2 ^ ps.length ≤ 2 ^ 3 := Nat.pow_le_pow_right (by omega) hlp
               omega
             have hN1 : 1 ≤ N := by rw [← hN]; exact Nat.one_le_two_pow
             have hsh : wrap64 ((2 : Int) ^ ps.length) = (N : Int) := by
               rw [← pow2_int, hN]
               exact IntWalk.wrap64_in _ ⟨by omega, by omega⟩
             have HNN := Lib.hid hN
             clear hN
             obtain ⟨w6, hrun, hts0, hb6⟩ := make_zeros wp N (Nat.le_trans hN8 (by decide))
             have HTS := Lib.hid hts0
             have HB6 := Lib.hid hb6
             clear hts0 hb6
             go_wp2
             clear hsh hrun
             go_loopw [14] (fun j wr => ∃ (m : Nat) (ts : List Int), m ≤ N ∧ j = .int .i64 m ∧ NewInts wp.heap.size wr (.slice (some ⟨wp.heap.size, 0, none⟩) N N) ts ∧ ts.length = N ∧ (∀ e, e < m → 0 ≤ nth ts e ∧ nth ts e ≤ 16) ∧ Below wp.heap.size wp wr) (fun j _ => N - (intOf j).toNat)
             case atStart => exact ⟨0, _, by omega, rfl, HTS.out, by simp, fun e he => absurd he (by omega), HB6.out⟩
             case round =>
              obtain ⟨m, ts, hm, rfl, hts, hlt4, hok4, hbt⟩ := hrel
              obtain ⟨wt, rfl⟩ : ∃ x, x = wr := ⟨_, rfl⟩
              have HT4 := Lib.hid hts
              have HO4 := Lib.hid hok4
              have HB4t := Lib.hid hbt
              have hswt := hbt.size
              clear hts hok4 hbt
              by_cases h1 : m < N
              · obtain ⟨ao, bo, co, heq, hi4, -⟩ := HT4.out.at
                have hcell := hi4.cell m (by omega)
                obtain ⟨hpt, hplt⟩ := hi4.ptr (by omega)
                rw [hpt] at heq
                simp at heq
                rw [← heq.1, Nat.zero_add] at hcell
                have hfr := HT4.out.frozen hlt4.symm m
                clear heq hi4 hpt hplt
                go_upto_region 25 with fail
                obtain ⟨W3, hW3⟩ : ∃ W3, wt.setCell ⟨wp.heap.size, m, none⟩ (.int .i64 8) = W3 := ⟨_, rfl⟩
                have HT3 : Hid (NewInts wp.heap.size W3 (.slice (some ⟨wp.heap.size, 0, none⟩) N N) (ts.set m 8)) := by rw [← hW3]; exact HT4.out.stored hlt4.symm m 8 (by omega) (by omega)
                have HB3t : Hid (Below wp.heap.size wp W3) := by rw [← hW3]; exact HB4t.out.setCell (Nat.le_refl _) _
                have HO3 := Lib.hid (show ∀ e, e < m + 1 → 0 ≤ nth (ts.set m 8) e ∧ nth (ts.set m 8) e ≤ 16 from fun e he => by
                  rw [nth_set _ _ _ _ (by omega)]
                  split
                  · omega
                  · exact HO4.out e (by omega))
                rw [hW3]
                have HBq := Lib.hid (HBD.out.trans ((HB.out.trans ((HBX.out.trans (HB3t.out.mono HBX.out.size)).mono HB.out.size)).mono HBD.out.size))
                obtain ⟨k0, -⟩ := HTK.out _ HBq.out
                obtain ⟨c0, c1, -, -⟩ := cells_of2 k0
                clear hW3 hcell hfr k0
                by_cases g1 : k < T'.length
                · have hTq := HRT.out.below HBq.out (Nat.le_refl _)
                  obtain ⟨rfl, -⟩ := hTq.ptr (by omega)
                  have rc := hTq.cell k g1
                  have ir := hTq.rows k g1
                  rw [Nat.zero_add] at rc
                  obtain ⟨rs, hrs⟩ : ∃ rs, row T' k = rs := ⟨_, rfl⟩
                  rw [hrs] at rc ir
                  have HIR := Lib.hid ir
                  have lrs := ir.len
                  clear hTq ir hrs
                  by_cases g2 : m < rs.length
                  · obtain ⟨hA, -⟩ := HIR.out.ptr (by omega)
                    rw [hA] at rc
                    have d0 := HIR.out.cell m g2
                    have hm17 := mod_any (nth rs m) 17 W3 (HIR.out.wf m) (by omega) (by omega)
                    have hb17 := modI_bd (x := nth rs m) (n := 17) (by omega)
                    obtain ⟨v17, hv17⟩ : ∃ v17, modI (nth rs m) 17 = v17 := ⟨_, rfl⟩
                    rw [hv17] at hm17 hb17
                    clear hv17
                    obtain ⟨ao, bo, co, heq, hi4, -⟩ := HT3.out.at
                    have hcell := hi4.cell m (by rw [List.length_set]; omega)
                    obtain ⟨hpt, -⟩ := hi4.ptr (by rw [List.length_set]; omega)
                    rw [hpt] at heq
                    simp at heq
                    rw [← heq.1, Nat.zero_add] at hcell
                    have hfr := HT3.out.frozen (by rw [List.length_set]; exact hlt4.symm) m
                    clear heq hi4 hpt
                    go_wp2_with fail
                    refine hm17.mono ?_
                    rintro e w7 ⟨rfl, rfl⟩
                    go_wp2
                    go_roundw
                    case rel =>
                      exact ⟨m + 1, (ts.set m 8).set m v17, by omega, by go_num, HT3.out.stored (by rw [List.length_set]; exact hlt4.symm) m v17 ⟨by omega, by omega⟩ (by rw [List.length_set]; omega), by rw [List.length_set, List.length_set]; exact hlt4, fun e he => by
                        rw [nth_set _ _ _ _ (by rw [List.length_set]; omega)]
                        split
                        · omega
                        · exact HO3.out e he, HB3t.out.setCell (Nat.le_refl _) _⟩
                    case measure => simp [intOf]; omega
                  · go_wp2
                    go_roundw
                    case rel => exact ⟨m + 1, ts.set m 8, by omega, by go_num, HT3.out, by rw [List.length_set]; exact hlt4, HO3.out, HB3t.out⟩
                    case measure => simp [intOf]; omega
                · go_wp2
                  go_roundw
                  case rel => exact ⟨m + 1, ts.set m 8, by omega, by go_num, HT3.out, by rw [List.length_set]; exact hlt4, HO3.out, HB3t.out⟩
                  case measure => simp [intOf]; omega
              · subst hlt4
                have HTAB := Lib.hid (show OkTab ts ps.length from ⟨HNN.out.symm, fun j hj => HO4.out j (by omega)⟩)
                have s1 := HB.out.size
                have s2 := HBX.out.size
                have s3 := HB4t.out.size
                have HBQ := Lib.hid (HB.out.trans ((HBX.out.trans (HB4t.out.mono s2)).mono s1))
                have HBot := Lib.hid (HBX.out.trans (HB4t.out.mono s2))
                have HTWQ := Lib.hid (HTW.out.below HBot.out (Nat.le_refl _))
                have KB2 := Lib.hid ((HBot.out.block _ hs2).trans H2.out)
                have HUP := Lib.hid ((HPS.out.below HB4t.out (Nat.le_refl _)).mono (show wb.heap.size + 1 ≤ wo.heap.size by omega))
                have HUT := Lib.hid (HT4.out.mono (show wb.heap.size + 1 ≤ wp.heap.size by omega))
                have hlP1 := HTM.out.len
                have hlT1 := HTM.out.tab
                clear HB HBX HB4t HBot HTW H2 HPS HT4 HTS HB6 HO4 HNN
                have hd := cells_of2 KB2.out
                obtain ⟨d0, d1, f0, f1⟩ := hd
                go_wp2
                go_quiet (fail)
                obtain ⟨wz, hwz⟩ : ∃ wz, wt.drewN nq = wz := ⟨_, rfl⟩
                have HBZ : Hid (Below wb.heap.size wb wz) := by rw [← hwz]; exact below_drewN HBQ.out _
                have htwo : Two (wb.heap.size + 1) wz v1 v2 (PS) (TS) := by rw [← hwz]; exact HTWQ.out.below (below_drewN (Below.refl _ _) _) (Nat.le_refl _)
                have hup : NewInts (wb.heap.size + 1) wz (.slice uo ps.length uc) ps := by rw [← hwz]; exact HUP.out.below (below_drewN (Below.refl _ _) _) (Nat.le_refl _)
                have hut : NewInts (wb.heap.size + 1) wz (.slice (some ⟨wp.heap.size, 0, none⟩) ts.length ts.length) ts := by rw [← hwz]; exact HUT.out.below (below_drewN (Below.refl _ _) _) (Nat.le_refl _)
                have hzz : wz.heap = wt.heap := by rw [← hwz]; rfl
                have kb2 := KB2.out
                rw [← hzz] at kb2
                have hszz : wb.heap.size + 1 ≤ wz.heap.size := by have := lt_of_block kb2; omega
                rw [hwz]
                have HTZ := Lib.hid htwo
                have HUPZ := Lib.hid hup
                have HUTZ := Lib.hid hut
                have Z2 := Lib.hid kb2
                clear hwz hzz htwo hup hut kb2 d0 d1 f0 f1 HUP HUT HTWQ KB2 HBQ
                obtain ⟨vs, e1, e2, e3⟩ := HTZ.out.one.ex
                have E1 := Lib.hid e1
                have E2 := Lib.hid e2
                have E3 := Lib.hid e3
                obtain ⟨d0, d1, f0, f1⟩ := cells_of2 (((Below.heap_alloc wz (.cells #[.slice uo ps.length uc] 25) (wb.heap.size) (by omega))).trans Z2.out)
                have e1' := e1
                rw [hlP1] at e1'
                have E1' := Lib.hid (e1'.alloc (.cells #[.slice uo ps.length uc] 25))
                clear e1 e2 e3 e1'
                go_wp2_with (at_builtin; refine wpList_append_own_at _ rfl (.tmp 132) (.tmp 134) 22 rfl (wb.heap.size + 1) 25 i0 (.slice none 0 0) 1 24 Try.underlying22 hi hz0 hz1 hz2 rfl (by decide) v1 k vs rfl E1'.out ⟨wz.heap.size, 0, none⟩ 1 1 [.slice uo ps.length uc] rfl rfl (cell_one_new _ _ _) (by simp [oneCell_slice]) ?z3 ?z4 ?z5 ?_)
                case z3 => unfold maxLen; omega
                case z4 => omega
                case z5 => first | omega | (simp; omega)
                intro v1' w2 hown hg hnl hat
                have hsz2 : wz.heap.size < w2.heap.size := by have := hg.size; simp at this; omega
                have htw2 := (HTZ.out.below ((Below.refl _ _).alloc (Nat.le_refl _) (.cells #[.slice uo ps.length uc] 25)) (Nat.le_refl _)).first (E1.out.alloc _) (fun j hj => let ⟨u, q1, q2⟩ := E2.out j hj; ⟨u, q1, q2.below ((Below.refl _ _).alloc (Nat.le_refl _) _) (Nat.le_refl _)⟩) E3.out (HUPZ.out.below ((Below.refl _ _).alloc (Nat.le_refl _) _) (Nat.le_refl _)) (by rw [hlP1]; exact hown) hg (by rw [World.size_alloc]; exact hat)
                have hkeep : ∀ g, g < wb.heap.size + 1 → w2.heap[g]? = wz.heap[g]? := fun g hg' => by
                  rw [hg.block g (by simp; omega) (fun e => by have := (E1.out.lt g e.symm).1; omega), Below.heap_alloc _ _ _ (by omega)]
                obtain ⟨ga, ca, rfl, -⟩ := own_slice' hown (by omega)
                have k2 := (hkeep _ (by omega)).trans Z2.out
                have hut2 : NewInts (wb.heap.size + 1) w2 (.slice (some ⟨wp.heap.size, 0, none⟩) ts.length ts.length) ts := (HUTZ.out.below ((Below.refl _ _).alloc (Nat.le_refl _) _) (Nat.le_refl _)).kept hg (own_apart HUTZ.out E1.out)
                have HB2 : Hid (Below wb.heap.size wb w2) := (HBZ.out.alloc HBZ.out.size _).grown hg (by have := HBZ.out.size; simp; omega) (fun r hr => by have := (E1.out.lt r hr).1; omega)
                obtain ⟨W3, hW3⟩ : ∃ W3, w2.setCell ⟨wb.heap.size, 0, none⟩ (.slice (some ⟨ga, 0, none⟩) (k + 1) ca) = W3 := ⟨_, rfl⟩
                have HW3 := Lib.hid hW3
                have hs3 : W3.heap.size = w2.heap.size := by rw [← hW3]; simp
                have HTW3 : Hid (Two (wb.heap.size + 1) W3 (.slice (some ⟨ga, 0, none⟩) (k + 1) ca) v2 (PS ++ [ps]) (TS)) := by rw [← hW3]; exact htw2.blocks (fun g h1 h2 => heap_setCell_other _ _ _ _ (by show g ≠ wb.heap.size; omega))
                have HUT3 : Hid (NewInts (wb.heap.size + 1) W3 (.slice (some ⟨wp.heap.size, 0, none⟩) ts.length ts.length) ts) := by rw [← hW3]; exact hut2.blocks (fun g h1 h2 => heap_setCell_other _ _ _ _ (by show g ≠ wb.heap.size; omega))
                have HB3 : Hid (Below wb.heap.size wb W3) := by rw [← hW3]; exact HB2.out.setCell (by show wb.heap.size ≤ wb.heap.size; omega) _
                have Y2 : Hid (W3.heap[wb.heap.size]? = some (.cells #[.slice (some ⟨ga, 0, none⟩) (k + 1) ca, v2] 24 (0, 0))) := by rw [← hW3]; exact heap_setCell_same _ _ 0 _ _ _ k2
                obtain ⟨d0, d1, f0, f1⟩ := cells_of2 k2
                obtain ⟨ws, e1, e2, e3⟩ := HTW3.out.two.ex
                have F1 := Lib.hid e1
                have F2 := Lib.hid e2
                have F3 := Lib.hid e3
                have e1' := e1
                rw [hlT1] at e1'
                have e1'' := e1'.alloc (.cells #[.slice (some ⟨wp.heap.size, 0, none⟩) ts.length ts.length] 25)
                have hnc := cell_one_new W3 (.slice (some ⟨wp.heap.size, 0, none⟩) ts.length ts.length) 25
                rw [hs3] at hnc
                rw [← hW3] at e1'' hnc
                have F1' := Lib.hid e1''
                have HNC := Lib.hid hnc
                have hs4 : wb.heap.size + 1 ≤ w2.heap.size := by omega
                clear hown hg hnl hat htw2 hkeep k2 hut2 hW3 E1 E2 E3 E1' HTZ HUPZ HUTZ HBZ e1 e2 e3 e1' e1'' hnc
                go_wp2_with (at_builtin; refine wpList_append_own_at _ rfl (.tmp 137) (.tmp 139) 22 rfl (wb.heap.size + 1) 25 i0 (.slice none 0 0) 1 24 Try.underlying22 hi hz0 hz1 hz2 rfl (by decide) v2 k ws rfl F1'.out ⟨w2.heap.size, 0, none⟩ 1 1 [.slice (some ⟨wp.heap.size, 0, none⟩) ts.length ts.length] rfl rfl HNC.out (by simp [oneCell_slice]) ?z6 ?z7 ?z8 ?_)
                case z6 => unfold maxLen; omega
                case z7 => omega
                case z8 => first | omega | (simp; omega)
                intro v2' w4 hown hg hnl hat
                have hW3 := HW3.out
                rw [hW3] at hg
                have htw4 := (HTW3.out.below ((Below.refl _ _).alloc (Nat.le_refl _) (.cells #[.slice (some ⟨wp.heap.size, 0, none⟩) ts.length ts.length] 25)) (Nat.le_refl _)).second (F1.out.alloc _) (fun j hj => let ⟨u, q1, q2⟩ := F2.out j hj; ⟨u, q1, q2.below ((Below.refl _ _).alloc (Nat.le_refl _) _) (Nat.le_refl _)⟩) F3.out (HUT3.out.below ((Below.refl _ _).alloc (Nat.le_refl _) _) (Nat.le_refl _)) (by rw [hlT1]; exact hown) hg (by rw [World.size_alloc, hs3]; exact hat)
                have hkeep : ∀ g, g < wb.heap.size + 1 → w4.heap[g]? = W3.heap[g]? := fun g hg' => by
                  rw [hg.block g (by simp; omega) (fun e => by have := (F1.out.lt g e.symm).1; omega), Below.heap_alloc _ _ _ (by omega)]
                obtain ⟨gb, cb, rfl, -⟩ := own_slice' hown (by omega)
                have k2 := (hkeep _ (by omega)).trans Y2.out
                have HB4 : Hid (Below wb.heap.size wb w4) := (HB3.out.alloc HB3.out.size _).grown hg (by have := HB3.out.size; simp; omega) (fun r hr => by have := (F1.out.lt r hr).1; omega)
                have HTW4 := Lib.hid htw4
                have X2 := Lib.hid k2
                obtain ⟨d0, d1, f0, f1⟩ := cells_of2 k2
                have hl4 := lt_of_block k2
                clear hown hg hnl hat htw4 hkeep k2 hW3 F1 F2 F3 F1' HNC HTW3 HUT3 HB3 Y2 HW3
                go_wp2
                go_roundw
                case rel =>
                  refine ⟨k + 1, .slice (some ⟨ga, 0, none⟩) (k + 1) ca, .slice (some ⟨gb, 0, none⟩) (k + 1) cb, PS ++ [ps], TS ++ [ts], by omega, by go_num, HB4.out.setCell (by show wb.heap.size ≤ wb.heap.size; omega) _, ?_, HTM.out.snoc HOP.out HTAB.out, ?_⟩
                  · exact HTW4.out.blocks (fun g h1 h2 => heap_setCell_other _ _ _ _ (by show g ≠ wb.heap.size; omega))
                  · exact heap_setCell_same _ _ 1 _ _ _ X2.out
                case measure => simp [intOf]; omega
        · have hkK : k = K := by omega
          have hP' := HTW.out.one
          have hT' := HTW.out.two
          obtain ⟨d0, d1, -, -⟩ := cells_of2 H2.out
          have hBo := HBD.out.trans (HB.out.mono HBD.out.size)
          have hr1 := (HTK.out _ hBo).2
          have HR1 := Lib.hid hr1
          have HBo := Lib.hid (HB1.out.trans (hBo.mono HB1.out.size))
          have hone2 : (#[v1, v2] : Array Value).all (·.oneCell') = true := by simp [hP'.oneCell, hT'.oneCell]
          have HONE2 := Lib.hid hone2
          have HP' := Lib.hid hP'
          have HT' := Lib.hid hT'
          have HNT := Lib.hid (HTM.out.net (by omega) (by omega))
          have hlen := HTM.out.len
          have hlw : w.heap.size + 1 < wb.heap.size := hlr
          clear hP' hT' hBo hr1 hone2
          go_wp2_with (refine wpList_store_row rfl 24 (.tmp 4) (.tmp 142) rfl (w.heap.size + 1) _ rfl rfl 24 _ HR1.out (by kernel_rfl) rfl HONE2.out ?_)
          refine bodyPost_ret (v := .agg #[v1, v2]) ?_ rfl ⟨⟨v1, v2, PS, TS, rfl, ?_, ?_, HNT.out, by omega⟩, below_setRow HBo.out (by omega) _⟩
          · rw [results_cell_row (ty := 24) (p := 4) rfl _ _ (w.heap.size + 1) 24 _ (0, 0) _ rfl (setRow_heap _ _ _ _ _ _ HR1.out) Try.underlying24 rfl (by kernel_rfl)]
          · exact (HP'.out.blocks (fun g h1 h2 => Go.setRow_other _ _ _ _ (by omega))).mono (by omega)
          · exact (HT'.out.blocks (fun g h1 h2 => Go.setRow_other _ _ _ _ (by omega))).mono (by omega)
    · have hn := HOK.out
      rw [Bool.and_eq_true] at hn
      have HIN := Lib.hid (of_decide_eq_true hn.1 : IsNet P' T')
      have HLE := Lib.hid (of_decide_eq_true hn.2 : P'.length ≤ most)
      have hN1 := HN1a.out.below HBD.out (Nat.le_refl _)
      have hN2 := HN2a.out.below HBD.out (Nat.le_refl _)
      have HX1 := Lib.hid hN1
      have HX2 := Lib.hid hN2
      clear hn hN1 hN2
      go_wp2_with (refine wpList_store_row rfl 24 (.tmp 4) (.tmp 28) rfl (w.heap.size + 1) _ rfl rfl 24 _ K1.out (by kernel_rfl) rfl HONE.out ?_)
      refine bodyPost_ret (v := .agg #[.slice qa P'.length qc, .slice sa T'.length sc]) ?_ rfl ⟨⟨_, _, P', T', rfl, ?_, ?_, HIN.out, HLE.out⟩, below_setRow (HB1.out.trans (HBD.out.mono HB1.out.size)) (by omega) _⟩
      · rw [results_cell_row (ty := 24) (p := 4) rfl _ _ (w.heap.size + 1) 24 _ (0, 0) _ rfl (setRow_heap _ _ _ _ _ _ K1.out) Try.underlying24 rfl (by kernel_rfl)]
      · exact (HX1.out.blocks (fun g h1 h2 => Go.setRow_other _ _ _ _ (by simp at h1; omega))).mono (by simp; omega)
      · exact (HX2.out.blocks (fun g h1 h2 => Go.setRow_other _ _ _ _ (by simp at h1; omega))).mono (by simp; omega)

end Go.Proofs.Ytghffnjnpgiicaa

