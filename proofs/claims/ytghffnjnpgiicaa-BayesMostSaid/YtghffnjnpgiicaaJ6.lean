/- BayesMost: the walk. -/
import Derived.Test.YtghffnjnpgiicaaJ5
import Derived.Test.YtghffnjnpgiicaaI5
import Derived.Test.YtghffnjnpgiicaaI6
import Derived.Test.YtghffnjnpgiicaaG7
namespace Go.Proofs.Ytghffnjnpgiicaa
open Go.RowKit

theorem okFacts_nil (n : Nat) : okFacts [] n = true := decide_eq_true fun i hi => absurd hi (by simp)

set_option maxHeartbeats 8000000 in
set_option maxRecDepth 100000 in
theorem mosts_any (P T : List (List Int)) (pa : Option Addr) (pb po pc : Nat) (A : Nat → Option Addr) (B O C : Nat → Nat) (ta : Option Addr) (tb tz tc : Nat) (A' : Nat → Option Addr) (B' O' C' : Nat → Nat)
    (gs : List (Int × Int)) (go : Option Addr) (gb gf gc : Nat) (w : World)
    (hP : RowsAt w pa pb po P A B O C) (hT : RowsAt w ta tb tz T A' B' O' C') (cP : CapsOk P A C) (cT : CapsOk T A' C') (hG : PairsAt w go gb gf gs) (_hgc : gs.length ≤ gc) (_hgn : go = none → gc = 0) :
    Calls Try.prog 13 #[.agg #[.slice pa P.length pc, .slice ta T.length tc], .slice go gs.length gc] w fun e w' => e = .returned (.bool true) ∧ Below w.heap.size w w' := by
  have HP := Lib.hid hP
  have HT := Lib.hid hT
  have CP := Lib.hid cP
  have CT := Lib.hid cT
  have HG := Lib.hid hG
  have HBW : Hid (Below w.heap.size w (w.alloc (.cells #[.slice pa P.length pc, .slice ta T.length tc] 24))) := (Below.refl _ _).alloc (Nat.le_refl _) _
  clear hP hT cP cT hG _hgc _hgn
  go_enter Try.func13, Try.ntmps13
  go_wp2_with fail
  refine (tame_any P T pa pb po pc A B O C ta tb tz tc A' B' O' C' 7 _ (by omega) (by omega) (HP.out.below HBW.out (Nat.le_refl _)) (HT.out.below HBW.out (Nat.le_refl _)) CP.out CT.out).mono ?_
  rintro e w1 ⟨⟨v1, v2, P', T', rfl, n1, n2, hin, hle⟩, hb1⟩
  obtain ⟨qa, qc, sa, sc, rfl, rfl, hnet⟩ := net_of_rows n1 n2 (by omega) (by have := hin.tab; omega)
  obtain ⟨wa, hwa⟩ : ∃ wa, w1.alloc (.cells #[.slice qa P'.length qc, .slice sa T'.length sc] 24) = wa := ⟨_, rfl⟩
  obtain ⟨nb, hnb⟩ : ∃ nb, w1.heap.size = nb := ⟨_, rfl⟩
  have HIN := Lib.hid hin
  have HISN : Hid (isNet P' T' = true) := decide_eq_true hin
  have h1 := hin.pos
  have HWA := Lib.hid hwa
  have HNB := Lib.hid hnb
  have HBA : Hid (Below w.heap.size w wa) := by rw [← hwa]; exact (HBW.out.trans (hb1.mono (by simp))).alloc (by have := hb1.size; simp at this; omega) _
  have HNET : Hid (NetAt wa (.agg #[.slice qa P'.length qc, .slice sa T'.length sc]) P' T') := by rw [← hwa]; exact hnet.alloc _
  have HBLK : Hid (wa.heap[nb]? = some (.cells #[.slice qa P'.length qc, .slice sa T'.length sc] 24 (0, 0))) := by rw [← hwa, ← hnb]; exact heap_alloc_new _ _
  have HGA := Lib.hid (HG.out.below HBA.out (Nat.le_refl _))
  have HK := Lib.hid (show ∀ w', Below wa.heap.size wa w' → w'.cell? ⟨nb, 0, none⟩ = some (.slice qa P'.length qc) ∧ w'.cell? ⟨nb, 1, none⟩ = some (.slice sa T'.length sc) from
    fun w' h => by
      obtain ⟨y0, y1, -, -⟩ := cells_of2 ((h.block _ (lt_of_block HBLK.out)).trans HBLK.out)
      exact ⟨y0, y1⟩)
  clear hb1 n1 n2 hnet hin hwa hnb HP HT CP CT HG HBW
  obtain ⟨c0, c1⟩ := HK.out _ (Below.refl _ _)
  go_wp2_with fail
  rw [HWA.out, HNB.out]
  refine (some_any P' T' (.agg #[.slice qa P'.length qc, .slice sa T'.length sc]) gs go gb gf gc (-1) (-1) wa HNET.out h1 (by omega) HGA.out).mono ?_
  rintro e w2 ⟨v, g, rfl, hg, hg6, hok, -, hb2⟩
  obtain ⟨eo, eb, ec, rfl, he, -, -⟩ := hg.at2
  have HE := Lib.hid he
  have HOK := Lib.hid hok
  have HB2 := Lib.hid hb2
  have hs2 := hb2.size
  clear hg hok he c0 c1 HGA HWA HNB
  obtain ⟨c0, c1⟩ := HK.out _ hb2
  have hln := likely_net P' T' (.agg #[.slice qa P'.length qc, .slice sa T'.length sc]) g eo eb 0 ec w2 (HNET.out.below hb2 (Nat.le_refl _)) HISN.out HE.out (by omega)
  clear hb2
  by_cases hz : hvW P' T' (agL g) = 0
  · obtain ⟨z1, z2, z3⟩ := lk_zero HOK.out hz
    rw [z1, z2, z3] at hln
    unfold zeroF at hln
    have HLN := Lib.hid hln
    have hfz := hvW_zero HIN.out HOK.out hz
    obtain ⟨y1, y2⟩ := ch_zero (P := P') (T := T') (okFacts_nil _) HOK.out hfz
    have HY := Lib.hid (And.intro y1 y2)
    clear z1 z2 z3 hln hz hfz y1 y2
    go_wp2_with fail
    refine HLN.out.mono ?_
    rintro e w3 ⟨⟨u, rfl, -⟩, hb3⟩
    have HBA3 := Lib.hid (HB2.out.trans (hb3.mono HB2.out.size))
    have HB3 := Lib.hid hb3
    clear c0 c1 hb3
    obtain ⟨c0, c1⟩ := HK.out _ HBA3.out
    have hlt : nb < w3.heap.size := Nat.lt_of_lt_of_le (lt_of_block HBLK.out) HBA3.out.size
    go_wp2_with fail
    have hcn := chance_net P' T' (.agg #[.slice qa P'.length qc, .slice sa T'.length sc]) [] g none 0 0 0 eo eb 0 ec (w3.alloc (.cells #[.int .i64 0, .int .i64 0] 29)) ((HNET.out.below HBA3.out (Nat.le_refl _)).alloc _) HISN.out (pairs_nil _) ((HE.out.below HB3.out (Nat.le_refl _)).alloc _) (by simp) (by omega)
    rw [HY.out.1, HY.out.2] at hcn
    unfold zeroF at hcn
    refine hcn.mono ?_
    rintro e w9 ⟨rfl, hb9⟩
    have HB9 := Lib.hid (((HBA.out.trans (HBA3.out.mono HBA.out.size)).alloc (by have := HBA.out.size; have := HBA3.out.size; omega) (.cells #[.int .i64 0, .int .i64 0] 29)).trans (hb9.mono (by have := HBA.out.size; have := HBA3.out.size; simp; omega)))
    clear hcn hb9 c0 c1
    go_wp2_with fail
    refine (awake_any _).mono ?_
    rintro e w10 ⟨rfl, hb10⟩
    have HB10 := Lib.hid ((HB9.out.alloc HB9.out.size (.cells #[.int .i64 0, .int .i64 0] 29)).trans (hb10.mono (by have := HB9.out.size; simp; omega)))
    clear hb10
    go_wp2
    go_ret
    exact ⟨rfl, HB10.out⟩
  · obtain ⟨z1, z2, z3⟩ := lk_yes HOK.out hz
    rw [z1, z2, z3] at hln
    obtain ⟨k1, k2, k3, k4⟩ := hv_facts HOK.out (by omega) hz
    have hHb := wt_bd HIN.out (bitv_Bits P'.length (hvI P' T' (agL g))) P'.length (Nat.le_refl _)
    rw [k1] at hHb
    obtain ⟨I, hI⟩ : ∃ I, hvI P' T' (agL g) = I := ⟨_, rfl⟩
    obtain ⟨H, hH⟩ : ∃ H, hvW P' T' (agL g) = H := ⟨_, rfl⟩
    rw [hI] at hln k1 k2 k3 k4
    rw [hH] at hHb hz hln k1 k4
    have hD := pow16_7 (k := P'.length) (by omega)
    obtain ⟨D, hDD⟩ : ∃ D : Int, (16 : Int) ^ P'.length = D := ⟨_, rfl⟩
    have HDD := Lib.hid hDD
    rw [hDD] at hD hln hHb
    have hp := wrap_pow P'.length (by omega)
    have hM := pow2_7 (k := P'.length) (by omega)
    obtain ⟨M, hMM⟩ : ∃ M : Nat, 2 ^ P'.length = M := ⟨_, rfl⟩
    have HMM := Lib.hid hMM
    rw [hMM] at hp hM k3 k4
    have HPW := Lib.hid hp
    have HK1 := Lib.hid k1
    have HK2 := Lib.hid k2
    have HK4 := Lib.hid k4
    obtain ⟨⟨d1, d2⟩, ⟨u1, u2⟩, r1, r2, t1, t2⟩ := frac_parts hHb.1 hHb.2 hD.1
    have hval := frac_valid (num := H) (den := D) hHb.1 hD.1
    obtain ⟨uf, hu⟩ : ∃ u, H / (Int.gcd H D : Int) = u := ⟨_, rfl⟩
    obtain ⟨df, hd⟩ : ∃ d, D / (Int.gcd H D : Int) = d := ⟨_, rfl⟩
    have HFR : Hid (fracV H D = .agg #[.int .i64 uf, .int .i64 df]) := by show fracV H D = _; rw [fracV, fracC, hu, hd]
    rw [hu] at u1 u2 r2 hval
    rw [hd] at d1 d2 u2 r1 r2 t1 t2 hval
    obtain ⟨tf, ht⟩ : ∃ t, D / df = t := ⟨_, rfl⟩
    rw [ht] at r2 t1 t2
    have hdt : df * tf = D := by rw [← ht]; have := Int.mul_ediv_add_emod D df; rw [r1] at this; omega
    have huf : 1 ≤ uf := by
      rcases Int.lt_or_le 0 uf with h | h
      · omega
      · have : uf = 0 := by omega
        rw [this, Int.zero_mul] at r2; exact absurd r2.symm hz
    have HFT := Lib.hid (And.intro r2 hdt)
    have hvd := fun W' => refValid_any uf df W' u1 (by omega) d1 (by omega)
    rw [decide_eq_true hval] at hvd
    have HVD := Lib.hid hvd
    rw [HFR.out] at hln
    have HLN := Lib.hid hln
    have q0 : decide (uf < 1) = false := decide_eq_false (by omega)
    have q1 : decide (268435456 < df) = false := decide_eq_false (by omega)
    have q2 : ((P'.length : Int) != (P'.length : Int)) = false := by simp
    clear z1 z2 z3 hln hI hH hDD hMM hp k1 k2 k4 hval hu hd ht r1 r2 hdt hvd hz
    go_wp2_with fail
    refine HLN.out.mono ?_
    rintro e w3 ⟨⟨u, rfl, hu⟩, hb3⟩
    obtain ⟨la, lb, lc, rfl, hl, -⟩ := hu.at
    rw [vals_length]
    have HBA3 := Lib.hid (HB2.out.trans (hb3.mono HB2.out.size))
    have HB3 := Lib.hid hb3
    have HL := Lib.hid hl
    clear c0 c1 hb3 hu hl HLN
    obtain ⟨wf, hwf⟩ : ∃ wf, w3.alloc (.cells #[.int .i64 uf, .int .i64 df] 29) = wf := ⟨_, rfl⟩
    obtain ⟨nf, hnf⟩ : ∃ nf, w3.heap.size = nf := ⟨_, rfl⟩
    have HWF := Lib.hid hwf
    have HNF := Lib.hid hnf
    have HBF : Hid (Below w2.heap.size w2 wf) := by rw [← hwf]; exact HB3.out.alloc HB3.out.size _
    have HFB : Hid (wf.heap[nf]? = some (.cells #[.int .i64 uf, .int .i64 df] 29 (0, 0))) := by rw [← hwf, ← hnf]; exact heap_alloc_new _ _
    have HLF : Hid (IntsAt wf la lb 0 (vals P'.length I)) := by rw [← hwf]; exact HL.out.alloc _
    clear hwf hnf
    go_wp2_with fail
    rw [HWF.out, HNF.out]
    refine (HVD.out _).mono ?_
    rintro e w4 ⟨rfl, hb4⟩
    have HB4 := Lib.hid (HBF.out.trans (hb4.mono HBF.out.size))
    have HFB4 := Lib.hid ((hb4.block _ (lt_of_block HFB.out)).trans HFB.out)
    obtain ⟨f0, f1, -, -⟩ := cells_of2 HFB4.out
    have HL4 := Lib.hid (HLF.out.below hb4 (Nat.le_refl _))
    have HBA4 := Lib.hid (HB2.out.trans (HB4.out.mono hs2))
    have HE4 := Lib.hid (HE.out.below HB4.out (Nat.le_refl _))
    clear hb4 HVD HLF HFB HBF HWF HNF HL HBA3 HB3
    go_wp2
    clear f0 f1
    go_loopw [13, 14, 15, 16, 17, 18, 19, 20] (fun b i _ _ _ _ _ _ wr => ∃ m : Nat, m ≤ M ∧ i = .int .i64 m ∧ b = .bool (decide (m ≤ I)) ∧ Below w4.heap.size w4 wr) (fun _ i _ _ _ _ _ _ _ => M - (intOf i).toNat)
    case atStart => exact ⟨0, by omega, rfl, by rw [decide_eq_true (Nat.zero_le I)], Below.refl _ _⟩
    case round =>
      obtain ⟨m, hm, rfl, rfl, hb⟩ := hrel
      obtain ⟨wq, rfl⟩ : ∃ x, x = wr := ⟨_, rfl⟩
      have HB := Lib.hid hb
      have HBq := Lib.hid (HBA4.out.trans (hb.mono HBA4.out.size))
      have hsq := hb.size
      obtain ⟨bf, hbf⟩ : ∃ bf, decide (m ≤ I) = bf := ⟨_, rfl⟩
      have HBF := Lib.hid hbf
      rw [hbf]
      clear hb hbf
      by_cases hlt : m < M
      · have hvals := refValues_any P'.length m wq (by omega) (by omega)
        have hW := wt_le HIN.out (bitv_Bits P'.length m) P'.length (Nat.le_refl _)
        have hW2 := (wt_bd HIN.out (bitv_Bits P'.length m) P'.length (Nat.le_refl _)).2
        rw [HDD.out] at hW2
        obtain ⟨W, hWW⟩ : ∃ W, wt P' T' (bitv P'.length m) P'.length = W := ⟨_, rfl⟩
        rw [hWW] at hW hW2
        have HWW := Lib.hid hWW
        obtain ⟨⟨d3, d4⟩, ⟨u3, u4⟩, r1, r2, t3, t4⟩ := frac_parts hW.1 hW2 hD.1
        obtain ⟨u, hu⟩ : ∃ u, W / (Int.gcd W D : Int) = u := ⟨_, rfl⟩
        obtain ⟨d, hd⟩ : ∃ d, D / (Int.gcd W D : Int) = d := ⟨_, rfl⟩
        have HFR2 : Hid (fracV W D = .agg #[.int .i64 u, .int .i64 d]) := by show fracV W D = _; rw [fracV, fracC, hu, hd]
        rw [hu] at u3 u4 r2
        rw [hd] at d3 d4 u4 r1 r2 t3 t4
        obtain ⟨t, ht⟩ : ∃ t, D / d = t := ⟨_, rfl⟩
        rw [ht] at r2 t3 t4
        have hdt : d * t = D := by rw [← ht]; have := Int.mul_ediv_add_emod D d; rw [r1] at this; omega
        have hcmp := frac_cmp r2 hdt HFT.out.1 HFT.out.2 t3 t1 hD.1
        have HCMP := Lib.hid hcmp
        have hsm : decide (vals P'.length m = vals P'.length I) = decide (m = I) := by
          rw [Bool.eq_iff_iff, decide_eq_true_eq, decide_eq_true_eq]
          exact ⟨fun h => vals_inj (by rw [HMM.out]; exact hlt) (by rw [HMM.out]; exact k3) h, fun h => by rw [h]⟩
        have HSM := Lib.hid hsm
        have HVALS := Lib.hid hvals
        have q3 : decide (d < 1) = false := decide_eq_false (by omega)
        have q4 : decide (268435456 < d) = false := decide_eq_false (by omega)
        clear hvals hWW hu hd ht r1 r2 hdt hcmp hsm
        have hp := HPW.out
        go_wp2_with fail
        clear hp
        refine HVALS.out.mono ?_
        rintro e w5 ⟨rfl, hrow, hb5⟩
        have hI : IntsAt w5 (some ⟨wq.heap.size, 0, none⟩) wq.heap.size 0 (vals P'.length m) := intsAt_of_row (by rw [vals_length, nth_vals']; exact hrow) (by rw [vals_length]; omega) (fun i => by rw [nth_vals]; have := bitv_Bits P'.length m i; omega)
        have HI := Lib.hid hI
        have HB5 := Lib.hid (HB.out.trans (hb5.mono hsq))
        clear hrow hb5 hI HVALS
        go_wp2_with fail
        have hin := ints_any (vals P'.length m) (vals P'.length I) (some ⟨wq.heap.size, 0, none⟩) la wq.heap.size 0 P'.length lb 0 lc w5 HI.out (HL4.out.below HB5.out (Nat.le_refl _))
        rw [vals_length, vals_length, HSM.out] at hin
        obtain ⟨sm, hsm⟩ : ∃ sm, decide (m = I) = sm := ⟨_, rfl⟩
        have HSM2 := Lib.hid hsm
        rw [hsm] at hin
        refine hin.mono ?_
        rintro e w7 ⟨rfl, hb7⟩
        have HB7 := Lib.hid (HB5.out.trans (hb7.mono HB5.out.size))
        have HI7 := Lib.hid (HI.out.below hb7 (Nat.le_refl _))
        clear hin hsm hb7 HSM HI HB5
        go_wp2
        go_loopw [17, 18] (fun b i wr => ∃ j : Nat, j ≤ g.length ∧ i = .int .i64 j ∧ b = .bool (agTo g (bitv P'.length m) j) ∧ Below w7.heap.size w7 wr) (fun _ i _ => g.length - (intOf i).toNat)
        case atStart => exact ⟨0, by omega, rfl, by rw [agTo_zero], Below.refl _ _⟩
        case round =>
          obtain ⟨j, hj, rfl, rfl, hb8⟩ := hrel
          obtain ⟨wz, rfl⟩ : ∃ x, x = wr := ⟨_, rfl⟩
          have HB8 := Lib.hid hb8
          have HBz := Lib.hid (HB7.out.trans (hb8.mono HB7.out.size))
          have HIz := HI7.out.below hb8 (Nat.le_refl _)
          obtain ⟨-, hlz⟩ := HIz.ptr (by rw [vals_length]; omega)
          clear hb8
          by_cases hlt2 : j < g.length
          · have hp := HE4.out.below HBz.out (Nat.le_refl _)
            obtain ⟨rfl, -⟩ := hp.ptr (by omega)
            have e0 := hp.cell0 j hlt2
            have e1 := hp.cell1 j hlt2
            have hgood := (okFacts_good HOK.out j hlt2).1
            rw [Nat.zero_add] at e0 e1
            obtain ⟨q, hq⟩ : ∃ q : Nat, pf g j = (q : Int) := ⟨(pf g j).toNat, by omega⟩
            have hql : q < P'.length := by omega
            have e2 := HIz.cell q (by rw [vals_length]; exact hql)
            rw [Nat.zero_add, nth_vals] at e2
            have HST := Lib.hid (agTo_step g (bitv P'.length m) j)
            rw [hq, Int.toNat_natCast] at HST
            rw [hq] at e0
            obtain ⟨ag, hag⟩ : ∃ ag, agTo g (bitv P'.length m) j = ag := ⟨_, rfl⟩
            rw [hag] at HST ⊢
            obtain ⟨y, hy⟩ : ∃ y, bitv P'.length m q = y := ⟨_, rfl⟩
            rw [hy] at HST e2
            obtain ⟨z, hz⟩ : ∃ z, pv g j = z := ⟨_, rfl⟩
            rw [hz] at HST e1
            clear hp hq hgood hag hy hz HIz
            cases ag
            · go_wp2
              go_quiet (fail)
              go_wp2
              go_roundw
              case rel => exact ⟨j + 1, by omega, by go_num, by rw [HST.out]; rfl, below_drewN HB8.out _⟩
              case measure => simp [intOf]; omega
            · by_cases e : y = z
              · have t5 : (y == z) = true := by rw [e]; simp
                have HST2 : Hid (agTo g (bitv P'.length m) (j + 1) = true) := by show _ = true; rw [HST.out, decide_eq_true e]; rfl
                clear e
                go_wp2
                go_quiet (fail)
                go_wp2
                go_roundw
                case rel => exact ⟨j + 1, by omega, by go_num, by rw [HST2.out], below_drewN HB8.out _⟩
                case measure => simp [intOf]; omega
              · have t5 : (y == z) = false := by simpa using e
                have HST2 : Hid (agTo g (bitv P'.length m) (j + 1) = false) := by show _ = false; rw [HST.out, decide_eq_false e]; rfl
                clear e
                go_wp2
                go_quiet (fail)
                go_wp2
                go_roundw
                case rel => exact ⟨j + 1, by omega, by go_num, by rw [HST2.out], below_drewN HB8.out _⟩
                case measure => simp [intOf]; omega
          · obtain rfl : j = g.length := by omega
            have hag0 := agTo_all g (bitv P'.length m) HOK.out (by omega)
            obtain ⟨ag, hag⟩ : ∃ ag, agTo g (bitv P'.length m) g.length = ag := ⟨_, rfl⟩
            rw [hag] at hag0 ⊢
            have HAG := Lib.hid hag0.symm
            have HBAz := Lib.hid (HBA4.out.trans (HBz.out.mono HBA4.out.size))
            have HIz := Lib.hid HIz
            obtain ⟨c0, c1⟩ := HK.out _ HBAz.out
            clear hag hag0 hlz
            go_wp2_with fail
            have hj := joint_ok P' T' (.agg #[.slice qa P'.length qc, .slice sa T'.length sc]) (vals P'.length m) (some ⟨wq.heap.size, 0, none⟩) wq.heap.size 0 P'.length wz (HNET.out.below HBAz.out (Nat.le_refl _)) HIz.out HISN.out (decide_eq_true ⟨vals_length _ _, fun i _ => by rw [nth_vals]; exact bitv_Bits P'.length m i⟩)
            rw [vals_length, nth_vals', HWW.out, HDD.out, HFR2.out] at hj
            refine hj.mono ?_
            rintro e w9 ⟨rfl, hb9⟩
            have HB9 := Lib.hid (HBz.out.trans (hb9.mono HBz.out.size))
            have HBr := Lib.hid (HB9.out.alloc HB9.out.size (.cells #[.int .i64 u, .int .i64 d] 29))
            have hnf := Nat.lt_of_lt_of_le (lt_of_block HFB4.out) HB9.out.size
            obtain ⟨f0, f1, -, -⟩ := cells_of2 ((HB9.out.block _ (lt_of_block HFB4.out)).trans HFB4.out)
            clear hj hb9 c0 c1
            cases sm
            · have hne : m ≠ I := of_decide_eq_false HSM2.out
              cases ag
              · have HS : Hid (decide (m + 1 ≤ I) = bf) := by show decide (m + 1 ≤ I) = bf; rw [← HBF.out, Bool.eq_iff_iff, decide_eq_true_eq, decide_eq_true_eq]; omega
                clear hne
                go_wp2
                go_roundw
                case rel => exact ⟨m + 1, by omega, by go_num, by rw [HS.out], HBr.out⟩
                case measure => simp [intOf]; omega
              · have hle := HK4.out m hlt HAG.out
                rw [HWW.out] at hle
                have hx : u * df ≤ 268435456 * 268435456 := Int.mul_le_mul (by omega) (by omega) (by omega) (by omega)
                have hy : uf * d ≤ 268435456 * 268435456 := Int.mul_le_mul (by omega) (by omega) (by omega) (by omega)
                have hx0 : 0 ≤ u * df := Int.mul_nonneg (by omega) (by omega)
                have hy0 : 0 ≤ uf * d := Int.mul_nonneg (by omega) (by omega)
                have hxy := HCMP.out.1 hle.1
                have hxs : m < I → u * df < uf * d := fun h => HCMP.out.2 (hle.2 h)
                obtain ⟨x, hxx⟩ : ∃ x, u * df = x := ⟨_, rfl⟩
                obtain ⟨y, hyy⟩ : ∃ y, uf * d = y := ⟨_, rfl⟩
                have e1 : wrap64 (u * df) = x := by rw [hxx]; exact IntWalk.wrap64_in _ ⟨by omega, by omega⟩
                have e2 : wrap64 (uf * d) = y := by rw [hyy]; exact IntWalk.wrap64_in _ ⟨by omega, by omega⟩
                rw [hxx] at hx hx0 hxy hxs
                rw [hyy] at hy hy0 hxy hxs
                have t5 : decide (y < x) = false := decide_eq_false (by omega)
                cases bf
                · have HS : Hid (decide (m + 1 ≤ I) = false) := by have := of_decide_eq_false HBF.out; exact decide_eq_false (by omega)
                  clear hne hle hxx hyy hxs
                  go_wp2
                  go_roundw
                  case rel => exact ⟨m + 1, by omega, by go_num, by rw [HS.out], HBr.out⟩
                  case measure => simp [intOf]; omega
                · have hmI := of_decide_eq_true HBF.out
                  have HS : Hid (decide (m + 1 ≤ I) = true) := decide_eq_true (by omega)
                  have hst := hxs (by omega)
                  have t6 : (x == y) = false := by rw [beq_eq_false_iff_ne]; omega
                  clear hne hle hxx hyy hxs hmI
                  go_wp2
                  go_roundw
                  case rel => exact ⟨m + 1, by omega, by go_num, by rw [HS.out], HBr.out⟩
                  case measure => simp [intOf]; omega
            · have hmI : m = I := of_decide_eq_true HSM2.out
              have hag : ag = true := by rw [← HAG.out, hmI]; exact HK2.out
              have hWH : W = H := by rw [← HWW.out, hmI]; exact HK1.out
              have hsame : (Value.agg #[.int .i64 u, .int .i64 d] : Value) = .agg #[.int .i64 uf, .int .i64 df] := by rw [← HFR2.out, ← HFR.out, hWH]
              simp at hsame
              obtain ⟨rfl, rfl⟩ := hsame
              subst hag
              have HS : Hid (decide (m + 1 ≤ I) = false) := decide_eq_false (by omega)
              clear hmI hWH
              go_wp2
              go_roundw
              case rel => exact ⟨m + 1, by omega, by go_num, by rw [HS.out], HBr.out⟩
              case measure => simp [intOf]; omega
      · obtain rfl : m = M := by omega
        have hbf : bf = false := by rw [← HBF.out]; exact decide_eq_false (by omega)
        subst hbf
        have HBE := Lib.hid (HBA.out.trans (HBq.out.mono HBA.out.size))
        have hp := HPW.out
        go_wp2_with fail
        clear hp
        refine (awake_any _).mono ?_
        rintro e w10 ⟨rfl, hb10⟩
        have HB10 := Lib.hid (HBE.out.trans (hb10.mono HBE.out.size))
        clear hb10
        go_wp2
        go_ret
        exact ⟨rfl, HB10.out⟩

end Go.Proofs.Ytghffnjnpgiicaa
