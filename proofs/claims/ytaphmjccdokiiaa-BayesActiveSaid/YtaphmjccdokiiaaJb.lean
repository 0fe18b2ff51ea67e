/- BayesActive: the walk. -/
import Derived.Test.YtaphmjccdokiiaaIb
namespace Go.Proofs.Ytaphmjccdokiiaa
open Go.RowKit

/-- What is wrong before the set is looked through. -/
def badA (P T : List (List Int)) (xs set : List Int) : Bool := !isNet P T || !okSet set P.length || decide (xs.length < 2) || !okTrail P xs
theorem badA_ok (P T : List (List Int)) (xs set : List Int) : (badA P T xs set || (hasI set (nth xs 0) || hasI set (nth xs (xs.length - 1)))) = !okAct P T xs set := by
  unfold badA okAct
  by_cases h : 2 ≤ xs.length
  · rw [decide_eq_true h, decide_eq_false (show ¬ xs.length < 2 by omega)]
    cases isNet P T <;> cases okSet set P.length <;> cases okTrail P xs <;> cases hasI set (nth xs 0) <;> cases hasI set (nth xs (xs.length - 1)) <;> rfl
  · rw [decide_eq_false h, decide_eq_true (show xs.length < 2 by omega)]
    simp
theorem hasTo_le {xs : List Int} {k : Nat} {x : Int} (h : hasTo xs k x = true) (hk : k ≤ xs.length) : hasI xs x = true := by
  obtain ⟨i, hi, e⟩ := of_decide_eq_true h
  exact hasI_mk (by omega) e

set_option maxHeartbeats 4000000 in
set_option maxRecDepth 100000 in
theorem actives_any (P T : List (List Int)) (pa : Option Addr) (pb po pc : Nat) (A : Nat → Option Addr) (B O C : Nat → Nat) (ta : Option Addr) (tb tz tc : Nat) (A' : Nat → Option Addr) (B' O' C' : Nat → Nat)
    (xs : List Int) (ao : Option Addr) (xb xo xc : Nat) (zs : List Int) (zo : Option Addr) (zb zf zc : Nat) (w : World)
    (hP : RowsAt w pa pb po P A B O C) (hT : RowsAt w ta tb tz T A' B' O' C') (cP : CapsOk P A C) (cT : CapsOk T A' C') (hX : IntsAt w ao xb xo xs) (hcap : xs.length ≤ xc) (hnil : ao = none → xc = 0) (hZ : IntsAt w zo zb zf zs) (hzc : zs.length ≤ zc) (hzn : zo = none → zc = 0) :
    Calls Try.prog 7 #[.agg #[.slice pa P.length pc, .slice ta T.length tc], .slice ao xs.length xc, .slice zo zs.length zc] w fun e w' => e = .returned (.bool true) ∧ Below w.heap.size w w' := by
  have HP := Lib.hid hP
  have HT := Lib.hid hT
  have CP := Lib.hid cP
  have CT := Lib.hid cT
  have HX := Lib.hid hX
  have HC := Lib.hid hcap
  have HN := Lib.hid hnil
  have HZ := Lib.hid hZ
  have HZC := Lib.hid hzc
  have HZN := Lib.hid hzn
  have HBW : Hid (Below w.heap.size w (w.alloc (.cells #[.slice pa P.length pc, .slice ta T.length tc] 24))) := (Below.refl _ _).alloc (Nat.le_refl _) _
  clear hP hT cP cT hX hcap hnil hZ hzc hzn
  go_enter Try.func7, Try.ntmps7
  go_wp2_with fail
  refine (network_any P T pa pb po pc A B O C ta tb tz tc A' B' O' C' _ (HP.out.below HBW.out (Nat.le_refl _)) (HT.out.below HBW.out (Nat.le_refl _)) CP.out CT.out).mono ?_
  rintro e w1 ⟨⟨v1, v2, rfl, n1, n2⟩, hb1⟩
  obtain ⟨qa, qc, sa, sc, rfl, rfl, hnet⟩ := net_of_new n1 n2
  have HB1 := Lib.hid (HBW.out.trans (hb1.mono (by simp)))
  have HNET := Lib.hid hnet
  clear hb1 n1 n2 hnet
  go_wp2_with fail
  refine (list_any xs ao xb xo xc _ (HX.out.below HB1.out (Nat.le_refl _)) HC.out HN.out).mono ?_
  obtain ⟨ys, hys⟩ : ∃ ys, xs.take 20 = ys := ⟨_, rfl⟩
  rw [hys]
  rintro e w2 ⟨v, rfl, hv, hb2⟩
  obtain ⟨ya, yb, yc, rfl, hy, -⟩ := hv.at
  have hcap2 := hv.cap
  have HB2 := Lib.hid (HB1.out.trans (hb2.mono HB1.out.size))
  have HY := Lib.hid hy
  have HNET1 := Lib.hid (HNET.out.below hb2 (Nat.le_refl _))
  clear hv hy hb2 hys
  go_wp2_with fail
  refine (list_any zs zo zb zf zc _ (HZ.out.below HB2.out (Nat.le_refl _)) HZC.out HZN.out).mono ?_
  rintro e w3 ⟨v, rfl, hv, hb3⟩
  obtain ⟨ua, ub, uc, rfl, hu, -⟩ := hv.at
  have hcap3 := hv.cap
  have HB3 := Lib.hid ((HB2.out.trans (hb3.mono HB2.out.size)).alloc (by have := HB2.out.size; have := hb3.size; omega) (.cells #[.slice qa (trim P).length qc, .slice sa (trim T).length sc] 24))
  have HY3 := Lib.hid ((HY.out.below hb3 (Nat.le_refl _)).alloc (.cells #[.slice qa (trim P).length qc, .slice sa (trim T).length sc] 24))
  have HU3 := Lib.hid (hu.alloc (.cells #[.slice qa (trim P).length qc, .slice sa (trim T).length sc] 24))
  have HNET2 := Lib.hid ((HNET1.out.below hb3 (Nat.le_refl _)).alloc (.cells #[.slice qa (trim P).length qc, .slice sa (trim T).length sc] 24))
  obtain ⟨P', hP'⟩ : ∃ P', trim P = P' := ⟨_, rfl⟩
  obtain ⟨T', hT'⟩ : ∃ T', trim T = T' := ⟨_, rfl⟩
  obtain ⟨us, hus⟩ : ∃ us, zs.take 20 = us := ⟨_, rfl⟩
  rw [hus] at HU3 hcap3 ⊢
  rw [hP', hT'] at HY3 HU3 HNET2 HB3 ⊢
  clear hv hu hb3 HNET HNET1 HY HB1 HB2 HX HZ HP HT CP CT HC HN HZC HZN hP' hT' hus HBW
  go_wp2_with fail
  obtain ⟨nb, hnb⟩ : ∃ nb, w3.heap.size = nb := ⟨_, rfl⟩
  obtain ⟨wa, hwa⟩ : ∃ wa, w3.alloc (.cells #[.slice qa P'.length qc, .slice sa T'.length sc] 24) = wa := ⟨_, rfl⟩
  have hblk : wa.heap[nb]? = some (.cells #[.slice qa P'.length qc, .slice sa T'.length sc] 24 (0, 0)) := by rw [← hwa, ← hnb]; exact heap_alloc_new _ _
  have HBLK := Lib.hid hblk
  rw [hwa] at HY3 HU3 HNET2 HB3 ⊢
  rw [hnb]
  clear hwa hblk hnb
  refine (active_any P' T' (.agg #[.slice qa P'.length qc, .slice sa T'.length sc]) ys us ya yb 0 yc ua ub 0 uc wa HNET2.out HY3.out HU3.out).mono ?_
  rintro e w4 ⟨rfl, hb4⟩
  obtain ⟨is, his⟩ : ∃ is, actI P' T' ys us = is := ⟨_, rfl⟩
  have HIS := Lib.hid his
  obtain ⟨ee, hee⟩ : ∃ ee, actE P' T' ys us = ee := ⟨_, rfl⟩
  have HEE := Lib.hid hee
  rw [his, hee]
  have HBW4 := Lib.hid (HB3.out.trans (hb4.mono HB3.out.size))
  have HN4 := Lib.hid (HNET2.out.below hb4 (Nat.le_refl _))
  have HY4 := Lib.hid (HY3.out.below hb4 (Nat.le_refl _))
  have HU4 := Lib.hid (HU3.out.below hb4 (Nat.le_refl _))
  have hblk4 := (hb4.block _ (lt_of_block HBLK.out)).trans HBLK.out
  have HBLK4 := Lib.hid hblk4
  obtain ⟨c0, c1, -, -⟩ := cells_of2 hblk4
  have hlt : nb < w4.heap.size := lt_of_block hblk4
  have hl20 : ys.length ≤ 140737488351232 := HY3.out.len
  have hl21 : us.length ≤ 140737488351232 := HU3.out.len
  clear hb4 his hee HNET2 HY3 HU3 HB3 HBLK hblk4
  go_upto_region 4 with fail
  go_cut [13] from 14 to 104 (fun bb wx => bb = .bool (badA P' T' ys us) ∧ Below w4.heap.size w4 wx)
  case first =>
    have hr := refNetwork_any P' T' (.agg #[.slice qa P'.length qc, .slice sa T'.length sc]) w4 HN4.out
    cases hn : isNet P' T'
    · rw [hn] at hr
      have HF := Lib.hid (show badA P' T' ys us = true by unfold badA; rw [hn]; rfl)
      clear hn
      go_wp2_with fail
      refine hr.mono ?_
      rintro e w5 ⟨rfl, hb5⟩
      have HB5 : Hid (Below w4.heap.size w4 w5) := hb5
      clear hb5 hr
      go_wp2_with fail
      go_meet
      exact ⟨by rw [HF.out], HB5.out⟩
    · rw [hn] at hr
      have HI := Lib.hid hn
      have HIN := Lib.hid (of_decide_eq_true hn : IsNet P' T')
      have h10 := HIN.out.le
      clear hn
      go_wp2_with fail
      refine hr.mono ?_
      rintro e w5 ⟨rfl, hb5⟩
      have HB5 : Hid (Below w4.heap.size w4 w5) := hb5
      have hb5b := (hb5.block _ (lt_of_block HBLK4.out)).trans HBLK4.out
      have HBLK5 := Lib.hid hb5b
      clear hb5 hr c0 c1 hb5b
      have hd := different_any us P'.length ua ub 0 uc w5 (HU4.out.below HB5.out (Nat.le_refl _)) hcap3
      cases e1 : okSet us P'.length
      · rw [e1] at hd
        have HF := Lib.hid (show badA P' T' ys us = true by unfold badA; rw [e1]; simp)
        clear e1
        go_wp2_with fail
        refine hd.mono ?_
        rintro e w6 ⟨rfl, m, rfl⟩
        clear hd
        go_wp2_with fail
        go_meet
        exact ⟨by rw [HF.out], below_drewN HB5.out _⟩
      · rw [e1] at hd
        have E1 := Lib.hid e1
        clear e1
        go_wp2_with fail
        refine hd.mono ?_
        rintro e w6 ⟨rfl, m, hw6⟩
        have HB6 : Hid (Below w4.heap.size w4 w6) := by rw [hw6]; exact below_drewN HB5.out _
        have hb6 : w6.heap[nb]? = some (.cells #[.slice qa P'.length qc, .slice sa T'.length sc] 24 (0, 0)) := by rw [hw6]; exact HBLK5.out
        obtain ⟨c0, c1, -, -⟩ := cells_of2 hb6
        clear hd hw6 hb6
        by_cases e2 : ys.length < 2
        · have t2 : decide ((ys.length : Int) < 2) = true := decide_eq_true (by omega)
          have HF := Lib.hid (show badA P' T' ys us = true by unfold badA; rw [decide_eq_true e2]; simp)
          clear e2
          go_wp2_with fail
          go_meet
          exact ⟨by rw [HF.out], HB6.out⟩
        · have t2 : decide ((ys.length : Int) < 2) = false := decide_eq_false (by omega)
          have HF := Lib.hid (show badA P' T' ys us = !okTrail P' ys by unfold badA; rw [HI.out, E1.out, decide_eq_false e2]; simp)
          clear e2
          have ht := trail_any P' T' (.agg #[.slice qa P'.length qc, .slice sa T'.length sc]) ys ya yb 0 yc w6 (HN4.out.below HB6.out (Nat.le_refl _)) (HY4.out.below HB6.out (Nat.le_refl _)) hcap2
          obtain ⟨ok, hok⟩ : ∃ ok, okTrail P' ys = ok := ⟨_, rfl⟩
          have HOK := Lib.hid hok
          rw [hok] at ht
          clear hok
          go_wp2_with fail
          refine ht.mono ?_
          rintro e w7 ⟨rfl, hb7⟩
          have HB7 := Lib.hid (HB6.out.trans (hb7.mono HB6.out.size))
          clear ht hb7
          cases ok
          · go_wp2_with fail
            go_meet
            exact ⟨by rw [HF.out, HOK.out]; rfl, HB7.out⟩
          · go_wp2_with fail
            go_meet
            exact ⟨by rw [HF.out, HOK.out]; rfl, HB7.out⟩
  case rest =>
    obtain ⟨rfl, hbc⟩ := hcut
    have HYc := Lib.hid (HY4.out.below hbc (Nat.le_refl _))
    have HUc := Lib.hid (HU4.out.below hbc (Nat.le_refl _))
    have HNc := Lib.hid (HN4.out.below hbc (Nat.le_refl _))
    have HBLKc := Lib.hid ((hbc.block _ (lt_of_block HBLK4.out)).trans HBLK4.out)
    have HBWc := Lib.hid (HBW4.out.trans (hbc.mono HBW4.out.size))
    have HBO := Lib.hid (badA_ok P' T' ys us)
    have HLow := Lib.hid (show badA P' T' ys us = false → 2 ≤ ys.length from fun h => by
      by_cases q : ys.length < 2
      · unfold badA at h; rw [decide_eq_true q] at h; simp at h
      · omega)
    obtain ⟨b0, hb0⟩ : ∃ b0, badA P' T' ys us = b0 := ⟨_, rfl⟩
    rw [hb0] at HBO HLow ⊢
    obtain ⟨x, hx⟩ : ∃ x, nth ys 0 = x := ⟨_, rfl⟩
    obtain ⟨y, hy⟩ : ∃ y, nth ys (ys.length - 1) = y := ⟨_, rfl⟩
    have HXX := Lib.hid hx
    have HYY := Lib.hid hy
    rw [hx, hy] at HBO
    clear hbc HY4 HU4 HN4 HBLK4 HBW4 hb0 hx hy c0 c1 hlt
    go_wp2
    go_loopw [13, 14] (fun b i wr => ∃ k : Nat, k ≤ us.length ∧ b = .bool (b0 || (hasTo us k x || hasTo us k y)) ∧ i = .int .i64 k ∧ ∃ m, wr = wc.drewN m) (fun _ i _ => us.length - (intOf i).toNat)
    case atStart => exact ⟨0, by omega, by rw [hasTo_zero, hasTo_zero]; simp, rfl, 0, rfl⟩
    case round =>
      obtain ⟨k, hk, rfl, rfl, m, rfl⟩ := hrel
      obtain ⟨bb, hbb⟩ : ∃ bb, (b0 || (hasTo us k x || hasTo us k y)) = bb := ⟨_, rfl⟩
      have HBB := Lib.hid hbb
      rw [hbb]
      clear hbb
      by_cases hgo : k < us.length ∧ bb = false
      · obtain ⟨hlt, rfl⟩ := hgo
        have hf := HBB.out
        simp only [Bool.or_eq_false_iff] at hf
        have hlow := HLow.out hf.1
        obtain ⟨rfl, -⟩ := HYc.out.ptr (by omega)
        obtain ⟨rfl, -⟩ := HUc.out.ptr (by omega)
        have hc := HUc.out.cell k hlt
        have d0 := HYc.out.cell 0 (by omega)
        have d1 := HYc.out.cell (ys.length - 1) (by omega)
        rw [Nat.zero_add] at hc d0 d1
        rw [HXX.out] at d0
        rw [HYY.out] at d1
        have H1 := Lib.hid (hasTo_succ us k x)
        have H2 := Lib.hid (hasTo_succ us k y)
        have hk1 : ((ys.length : Int) - 1).toNat = ys.length - 1 := by omega
        have i1 : (0 : Int) ≤ (ys.length : Int) - 1 := by omega
        have i2 : (ys.length : Int) - 1 < (ys.length : Int) := by omega
        clear hf
        by_cases e1 : nth us k = x
        · have t1 : (nth us k == x) = true := by rw [beq_iff_eq]; exact e1
          have HF := Lib.hid (show (b0 || (hasTo us (k + 1) x || hasTo us (k + 1) y)) = true by rw [H1.out, decide_eq_true e1]; simp)
          clear e1
          go_wp2
          go_quiet (fail)
          go_wp2
          go_roundw
          case rel => exact ⟨k + 1, by omega, by rw [HF.out], by go_num, by first | exact ⟨_, rfl⟩ | exact ⟨_, World.drewN_drewN _ _ _⟩⟩
          case measure => simp [intOf]; omega
        · have t1 : (nth us k == x) = false := by rw [beq_eq_false_iff_ne]; exact e1
          by_cases e2 : nth us k = y
          · have t2 : (nth us k == y) = true := by rw [beq_iff_eq]; exact e2
            have HF := Lib.hid (show (b0 || (hasTo us (k + 1) x || hasTo us (k + 1) y)) = true by rw [H2.out, decide_eq_true e2]; simp)
            clear e1 e2
            go_wp2
            go_quiet (fail)
            go_wp2
            go_roundw
            case rel => exact ⟨k + 1, by omega, by rw [HF.out], by go_num, by first | exact ⟨_, rfl⟩ | exact ⟨_, World.drewN_drewN _ _ _⟩⟩
            case measure => simp [intOf]; omega
          · have t2 : (nth us k == y) = false := by rw [beq_eq_false_iff_ne]; exact e2
            have HF := Lib.hid (show (b0 || (hasTo us (k + 1) x || hasTo us (k + 1) y)) = false by rw [H1.out, H2.out, decide_eq_false e1, decide_eq_false e2, Bool.or_false, Bool.or_false]; exact HBB.out)
            clear e1 e2
            go_wp2
            go_quiet (fail)
            go_wp2
            go_roundw
            case rel => exact ⟨k + 1, by omega, by rw [HF.out], by go_num, by first | exact ⟨_, rfl⟩ | exact ⟨_, World.drewN_drewN _ _ _⟩⟩
            case measure => simp [intOf]; omega
      · have hfin : bb = !okAct P' T' ys us := by
          rw [← HBO.out, ← HBB.out]
          by_cases hkl : k = us.length
          · rw [hkl, hasTo_len, hasTo_len]
          · have hbt : bb = true := by
              cases bb
              · exact absurd ⟨by omega, rfl⟩ hgo
              · rfl
            have h2 := HBB.out
            rw [hbt] at h2
            rw [h2]
            simp only [Bool.or_eq_true] at h2
            rcases h2 with h2 | h2 | h2
            · rw [h2]; rfl
            · rw [hasTo_le h2 hk]; simp
            · rw [hasTo_le h2 hk]; simp
        have HFIN := Lib.hid hfin
        have HBm := Lib.hid (below_drewN HBWc.out m)
        obtain ⟨wm, hwm⟩ : ∃ wm, wc.drewN m = wm := ⟨_, rfl⟩
        have HYm : Hid (IntsAt wm ya yb 0 ys) := by rw [← hwm]; exact HYc.out.drewN _
        have HUm : Hid (IntsAt wm ua ub 0 us) := by rw [← hwm]; exact HUc.out.drewN _
        have HNm : Hid (NetAt wm (.agg #[.slice qa P'.length qc, .slice sa T'.length sc]) P' T') := by rw [← hwm]; exact HNc.out.below (below_drewN (Below.refl _ _) _) (Nat.le_refl _)
        have hbm : wm.heap[nb]? = some (.cells #[.slice qa P'.length qc, .slice sa T'.length sc] 24 (0, 0)) := by rw [← hwm]; exact HBLKc.out
        rw [hwm] at HBm ⊢
        obtain ⟨c0, c1, -, -⟩ := cells_of2 hbm
        clear hfin hwm hbm HYc HUc HNc HBLKc HBWc
        cases ho : okAct P' T' ys us
        · have hb := HFIN.out
          rw [ho] at hb
          have hi := HIS.out
          have he := HEE.out
          rw [(act_no ho).1] at hi
          rw [(act_no ho).2] at he
          simp only [Bool.not_false] at hb
          subst hb hi he
          clear ho hgo HIS HEE HBO HBB HFIN HLow
          by_cases hkl : k < us.length
          · go_wp2_with fail
            refine (awake_any _).mono ?_
            rintro e w5 ⟨rfl, hb5⟩
            have HB5 := Lib.hid (HBm.out.trans (hb5.mono HBm.out.size))
            clear hb5
            go_wp2
            go_ret
            exact ⟨rfl, HB5.out⟩
          · go_wp2_with fail
            refine (awake_any _).mono ?_
            rintro e w5 ⟨rfl, hb5⟩
            have HB5 := Lib.hid (HBm.out.trans (hb5.mono HBm.out.size))
            clear hb5
            go_wp2
            go_ret
            exact ⟨rfl, HB5.out⟩
        · have hb := HFIN.out
          rw [ho] at hb
          have hi := HIS.out
          have he := HEE.out
          rw [(act_yes ho).1] at hi
          rw [(act_yes ho).2] at he
          simp only [Bool.not_true] at hb
          have hoo := ho
          unfold okAct at hoo
          simp only [Bool.and_eq_true] at hoo
          have HIN := Lib.hid (of_decide_eq_true hoo.1.1.1.1.1 : IsNet P' T')
          have HOS := Lib.hid hoo.1.1.1.1.2
          have htr := hoo.1.1.2
          unfold okTrail at htr
          rw [Bool.and_eq_true] at htr
          have hac := refActive_any P' T' (.agg #[.slice qa P'.length qc, .slice sa T'.length sc]) ys us ya yb 0 yc ua ub 0 uc wm HNm.out HIN.out HYm.out HUm.out htr.1 HOS.out
          rw [hi] at hac
          have hkl : ¬ k < us.length := fun q => hgo ⟨q, hb⟩
          subst hb he
          clear ho hoo htr hgo HIS HEE HBO HBB HFIN HLow hi
          go_wp2_with fail
          refine hac.mono ?_
          rintro e w5 ⟨rfl, hb5⟩
          have HB5 := Lib.hid (HBm.out.trans (hb5.mono HBm.out.size))
          clear hb5 hac c0 c1
          go_wp2_with fail
          refine (awake_any _).mono ?_
          rintro e w6 ⟨rfl, hb6⟩
          have HB6 := Lib.hid (HB5.out.trans (hb6.mono HB5.out.size))
          clear hb6
          cases is
          · go_wp2
            go_ret
            exact ⟨rfl, HB6.out⟩
          · go_wp2
            go_ret
            exact ⟨rfl, HB6.out⟩

end Go.Proofs.Ytaphmjccdokiiaa
