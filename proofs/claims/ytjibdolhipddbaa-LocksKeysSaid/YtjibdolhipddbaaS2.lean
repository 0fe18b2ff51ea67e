/- LocksKeys, walked. -/
import Derived.Test.YtjibdolhipddbaaS1
import Derived.Test.YtjibdolhipddbaaQv
import Derived.Test.YtjibdolhipddbaaQs
import Derived.Test.YtjibdolhipddbaaQt
namespace Go.Proofs.Ytjibdolhipddbaa
open Go.RowKit Go.Maps

theorem pow_le64 {D t : Nat} (hD : D ≤ 4) (ht : t ≤ 3) : D ^ t ≤ 64 := by
  obtain rfl | rfl | rfl | rfl | rfl : D = 0 ∨ D = 1 ∨ D = 2 ∨ D = 3 ∨ D = 4 := by omega
  all_goals
    obtain rfl | rfl | rfl | rfl : t = 0 ∨ t = 1 ∨ t = 2 ∨ t = 3 := by omega
    all_goals decide

set_option maxHeartbeats 8000000 in
set_option maxRecDepth 100000 in
theorem keys_any (L M : List (List Int)) (f0 f1 : Int) (ao : Option Addr) (b o cap : Nat) (A : Nat → Option Addr) (B O C : Nat → Nat) (co : Option Addr) (cb cq ccap : Nat) (CA : Nat → Option Addr) (CB CO CC : Nat → Nat) (w : World)
    (H : RowsAt w ao b o L A B O C) (_hc : CapsOk L A C) (HM : RowsAt w co cb cq M CA CB CO CC) (_hcm : CapsOk M CA CC)
    (h0 : -9223372036854775808 ≤ f0 ∧ f0 ≤ 9223372036854775807) (h1 : -9223372036854775808 ≤ f1 ∧ f1 ≤ 9223372036854775807) :
    Calls Try.prog 8 #[.slice ao L.length cap, .slice co M.length ccap, .agg #[.int .i64 f0, .int .i64 f1]] w fun e w' => e = .returned (.bool true) ∧ Below w.heap.size w w' := by
  have HBX := Lib.hid ((Below.refl _ w).alloc (Nat.le_refl _) (.cells #[.int .i64 f0, .int .i64 f1] 23))
  have HBOX := Lib.hid (heap_alloc_new w (.cells #[.int .i64 f0, .int .i64 f1] 23))
  have HT := Lib.hid (tame_any L ao b o cap A B O C _ (H.below HBX.out (Nat.le_refl _)))
  have HMC := Lib.hid HM
  have HM0 := Lib.hid (fun W => mod_any f0 4 W h0 (by omega) (by omega))
  have HM1 := Lib.hid (fun (n : Nat) W (g1 : 1 ≤ n) (g2 : n ≤ 6) => mod_any f1 n W h1 (by omega) (by omega))
  have hmb := modI_bd (x := f0) (n := 4) (by omega)
  obtain ⟨mv, hmv⟩ : ∃ mv, modI f0 4 = mv := ⟨_, rfl⟩
  unfold Hid at HM0
  simp only [hmv] at HM0
  have HM0 := Lib.hid HM0
  rw [hmv] at hmb
  obtain ⟨D, hD⟩ : ∃ D : Nat, (1 : Int) + mv = (D : Int) := ⟨(1 + mv).toNat, by omega⟩
  have hD4 : 1 ≤ D ∧ D ≤ 4 := by omega
  clear H HM hmv h0 h1
  go_enter Try.func8, Try.ntmps8
  go_wp2_with fail
  refine HT.out.mono ?_
  rintro e w1 ⟨v, rfl, hr, hb⟩
  obtain ⟨X, hX⟩ : ∃ X, tm L 6 = X := ⟨_, rfl⟩
  have hp : IsPlan X := by rw [← hX]; exact tm_plan L
  rw [hX] at hr
  obtain ⟨xo, xb, xc, XA, XB, XO, XC, rfl, hat, -⟩ := hr.at2 (by have := hp.le; omega)
  obtain ⟨rfl, -⟩ := hat.ptr hp.pos
  have HB1 := Lib.hid (HBX.out.trans (hb.mono HBX.out.size))
  have HBOX1 := Lib.hid ((hb.block _ (lt_of_block HBOX.out)).trans HBOX.out)
  have HX1 := Lib.hid hat
  clear hX HT hr hb hat HBX HBOX
  have hXK : 1 ≤ X.length ∧ X.length ≤ 6 := ⟨hp.pos, hp.le⟩
  obtain ⟨c0, -, -, -⟩ := cells_of2 HBOX1.out
  go_wp2_with fail
  refine (HM0.out _).mono ?_
  rintro e w1 ⟨rfl, rfl⟩
  have HTD := Lib.hid (tamed_any M X.length D co cb cq ccap CA CB CO CC w1 (HMC.out.below HB1.out (Nat.le_refl _)) hXK hD4)
  clear c0 HMC HM0
  go_wp2_with fail
  refine HTD.out.mono ?_
  rintro e w2 ⟨v, rfl, hr, hb⟩
  obtain ⟨P, hP⟩ : ∃ P, td M X.length D = P := ⟨_, rfl⟩
  have hk : OkCuts X.length P D := by rw [← hP]; exact td_cuts M hXK.1 (by omega)
  rw [hP] at hr
  obtain ⟨pb, pc, PA, PB, PO, PC, rfl, hat, hcap, hne, hfz, hpb⟩ := hr.place (by rw [hk.keys]; exact hXK.1) (by rw [hk.keys]; omega)
  have HP2 := Lib.hid hat
  have HPC := Lib.hid hcap
  have HNE := Lib.hid hne
  have HFZ := Lib.hid hfz
  have HB2 := Lib.hid hb
  have HPL := Lib.hid hp
  obtain ⟨K, hK⟩ : ∃ K, X.length = K := ⟨_, rfl⟩
  have HKK := Lib.hid hK
  have hk6 : K ≤ 6 := by omega
  have hk1 : 1 ≤ K := by omega
  rw [hK] at hk
  obtain ⟨c2, hc2⟩ : ∃ c2, (row P 0).length = c2 := ⟨_, rfl⟩
  have hc24 : 1 ≤ c2 ∧ c2 ≤ 4 := ⟨by rw [← hc2]; exact hk.pos, by rw [← hc2]; exact hk.le⟩
  obtain ⟨c, hcd⟩ : ∃ c, min c2 3 = c := ⟨_, rfl⟩
  have hc3 : 1 ≤ c ∧ c ≤ 3 ∧ c ≤ c2 := by omega
  have HPLEN := Lib.hid hk.keys
  have HLE := Lib.hid (show ∀ i, i < K → (row P i).length = c2 from fun i hi => by rw [hk.len i hi, hc2])
  have HOK := Lib.hid (cutP_cuts hk hk1 hc3.1 (by rw [hc2]; exact hc3.2.2))
  have hlx : 1 ≤ (row X 0).length ∧ (row X 0).length ≤ 6 := ⟨hp.pos0, hp.le0⟩
  obtain ⟨l, hl⟩ : ∃ l, (row X 0).length = l := ⟨_, rfl⟩
  have HLL := Lib.hid hl
  rw [hl] at hlx
  have HBIT := Lib.hid (show ∀ i j, i < K → j < l → (nth (row X i) j = 0 ∨ nth (row X i) j = 1) from fun i j hi hj => hp.bit i (by omega) j (by rw [hp.len i (by omega), hl]; exact hj))
  have HXL := Lib.hid (show ∀ i, i < K → (row X i).length = l from fun i hi => by rw [hp.len i (by omega), hl])
  rw [HPLEN.out, HKK.out]
  have cc : w2.cell? ⟨pb, 0, none⟩ = some (.slice (PA 0) c2 (PC 0)) := by
    have := HP2.out.cell 0 (by rw [HPLEN.out]; omega)
    rwa [HLE.out 0 (by omega), Nat.zero_add] at this
  clear hP HTD hr hb hat hcap hne hfz hp hk hK hXK hc2 hl
  go_upto_region 4 with fail
  go_cut [10] from 36 to 40 (fun v wx => v = .int .i64 (c : Int) ∧ wx = w2)
  case first =>
    by_cases h3 : (3 : Int) < (c2 : Int)
    · have t1 : decide ((3 : Int) < (c2 : Int)) = true := decide_eq_true h3
      have t2 : (c : Int) = 3 := by omega
      go_wp2
      go_meet
      exact ⟨by rw [t2], rfl⟩
    · have t1 : decide ((3 : Int) < (c2 : Int)) = false := decide_eq_false h3
      have t2 : (c : Int) = c2 := by omega
      go_wp2
      go_meet
      exact ⟨by rw [t2], rfl⟩
  obtain ⟨rfl, rfl⟩ := hcut
  clear cc
  have HPI := Lib.hid (show ∀ i, i < K → 0 < (row P i).length from fun i hi => by rw [HLE.out i hi]; omega)
  go_wp2_with fail
  go_loopw [11] (fun z wr => ∃ i : Nat, i ≤ K ∧ z = .int .i64 i ∧ RowsAt wr (some ⟨pb, 0, none⟩) pb 0 (cutP P c i) PA PB PO PC ∧ (∀ t, wr.frozen? ⟨pb, t, none⟩ = false) ∧ Below w1.heap.size w1 wr) (fun z _ => K - (intOf z).toNat)
  case atStart => exact ⟨0, by omega, rfl, by rw [cutP_zero]; exact HP2.out, HFZ.out, HB2.out⟩
  case round =>
    obtain ⟨i, hi, rfl, hat, hfz, hb⟩ := hrel
    have HAT := Lib.hid hat
    have HFR := Lib.hid hfz
    have HB := Lib.hid hb
    clear hat hfz hb
    by_cases hlt : i < K
    · have hlen : i < (cutP P c i).length := by rw [cutP_len, HPLEN.out]; exact hlt
      have hri : row (cutP P c i) i = row P i := by rw [cutP_row (by rw [HPLEN.out]; exact hlt), if_neg (by omega)]
      have ci := HAT.out.cell i hlen
      have hpi := ((HAT.out.rows i hlen).ptr (by rw [hri]; exact HPI.out i hlt)).1
      rw [hri, HLE.out i hlt, Nat.zero_add, hpi] at ci
      have hpc := HPC.out i (by rw [HPLEN.out]; exact hlt)
      rw [HLE.out i hlt] at hpc
      have fi := HFR.out i
      have htr := HAT.out.trunc (fun t ht hr => HNE.out t (by rwa [cutP_len] at ht) (HPI.out t (by rw [cutP_len, HPLEN.out] at ht; exact ht))) hlen (c := c) (by rw [hri, HLE.out i hlt]; exact hc3.2.2)
      rw [cutP_succ (by rw [HPLEN.out]; exact hlt), hpi] at htr
      have HTR := Lib.hid htr
      have HF2 := Lib.hid (show ∀ t, (wr.setCell ⟨pb, i, none⟩ (.slice (some ⟨PB i, PO i, none⟩) c (PC i))).frozen? ⟨pb, t, none⟩ = false from fun t => by rw [World.frozen?_setCell]; exact HFR.out t)
      have HBS := Lib.hid (HB.out.setCell (show w1.heap.size ≤ (⟨pb, i, none⟩ : Addr).block from hpb) (.slice (some ⟨PB i, PO i, none⟩) c (PC i)))
      clear hpi htr hri hlen
      go_wp2
      go_roundw
      case rel => exact ⟨i + 1, by omega, by go_num, HTR.out, HF2.out, HBS.out⟩
      case measure => simp [intOf]; omega
    · have hiK : i = K := by omega
      subst hiK
      have HLQ := Lib.hid (show ∀ t, t < i → (row (cutP P c i) t).length = c from fun t ht => by
        rw [cutP_row (by rw [HPLEN.out]; exact ht), if_pos ht, List.length_take, HLE.out t ht]; omega)
      have HQL := Lib.hid (show (cutP P c i).length = i by rw [cutP_len, HPLEN.out])
      obtain ⟨Q, hQ⟩ : ∃ Q, cutP P c i = Q := ⟨_, rfl⟩
      rw [hQ] at HAT HOK HLQ HQL
      obtain ⟨K, rfl⟩ : ∃ K, K = i := ⟨_, rfl⟩
      have HOKX := Lib.hid (show OkCuts X.length Q D by rw [HKK.out]; exact HOK.out)
      have HC0 := Lib.hid (show (row Q 0).length = c from HLQ.out 0 (by omega))
      obtain ⟨wq, rfl⟩ : ∃ wq, wq = wr := ⟨_, rfl⟩
      have HBOX2 := Lib.hid ((HB.out.block _ (lt_of_block HBOX1.out)).trans HBOX1.out)
      have HX2 := Lib.hid (HX1.out.below HB.out (Nat.le_refl _))
      obtain ⟨-, c1, -, -⟩ := cells_of2 HBOX2.out
      have ca : wq.cell? ⟨xb, 0, none⟩ = some (.slice (XA 0) l (XC 0)) := by
        have := HX2.out.cell 0 (by rw [HKK.out]; omega)
        rwa [HLL.out, Nat.zero_add] at this
      have hib := modI_bd (x := f1) (n := (l : Int)) (by omega)
      obtain ⟨j, hj⟩ : ∃ j : Nat, modI f1 (l : Int) = j := ⟨(modI f1 (l : Int)).toNat, by omega⟩
      have HMK := Lib.hid (fun W => HM1.out l W (by omega) hlx.2)
      unfold Hid at HMK
      simp only [hj] at HMK
      have HMK := Lib.hid HMK
      rw [hj] at hib
      clear hj HM1 hQ HNE HPC HP2 HFZ HB2 HPI HFR HPLEN HLE HOK HX1 HBOX1
      go_wp2_with fail
      go_quiet (with_reducible exact Calls.quiet_of_same (HMK.out _))
      obtain ⟨ws, hws⟩ : ∃ ws, wq.drewN nq = ws := ⟨_, rfl⟩
      have HBS := Lib.hid (show Below w1.heap.size w1 ws by rw [← hws]; exact below_drewN HB.out _)
      have HXS := Lib.hid (show RowsAt ws (some ⟨xb, 0, none⟩) xb 0 X XA XB XO XC by rw [← hws]; exact HX2.out.below (below_drewN (Below.refl _ _) _) (Nat.le_refl _))
      have HQS := Lib.hid (show RowsAt ws (some ⟨pb, 0, none⟩) pb 0 Q PA PB PO PC by rw [← hws]; exact HAT.out.below (below_drewN (Below.refl _ _) _) (Nat.le_refl _))
      rw [hws]
      clear hws c1 ca HBOX2 HX2 HAT HB HMK
      have hjl : j < l := by omega
      have HST := Lib.hid (strangers_ok X Q D j _ xb 0 xc XA XB XO XC _ pb 0 pc PA PB PO PC ws HXS.out HQS.out HPL.out (by omega) HOKX.out (by rw [HLL.out]; exact hjl))
      have HCO := Lib.hid (count_open (j := j) hD4 HOKX.out (by rw [HKK.out]; exact hk6) (by omega) c (by rw [HC0.out]; exact Nat.le_refl _))
      rw [HC0.out] at HST HCO
      have HME := Lib.hid (meant_le (a := X) (P := Q) (d := D) (j := j) HOKX.out c (D ^ c) HC0.out)
      obtain ⟨N, hN⟩ : ∃ N, prodC (chs Q X.length c) X.length (mt X) j c = N := ⟨_, rfl⟩
      rw [hN] at HST HCO
      rw [HKK.out, HQL.out] at HST
      clear hN
      go_wp2_with fail
      refine HST.out.mono ?_
      rintro e wt ⟨rfl, hbt⟩
      have HBT := Lib.hid hbt
      have HXT := Lib.hid (fun W (hW : Below wt.heap.size wt W) => (HXS.out.below hbt (Nat.le_refl _)).below hW (Nat.le_refl _))
      have HQT := Lib.hid (fun W (hW : Below wt.heap.size wt W) => (HQS.out.below hbt (Nat.le_refl _)).below hW (Nat.le_refl _))
      clear hbt HST HXS HQS
      have HOPN := Lib.hid (fun (key : List Int) (ko : Option Addr) (kb kc : Nat) W (hW : Below wt.heap.size wt W) (hkl : key.length = c) (hk : IntsAt W ko kb 0 key) => refOpens_any X Q key j (some ⟨xb, 0, none⟩) xb 0 xc XA XB XO XC (some ⟨pb, 0, none⟩) pb 0 pc PA PB PO PC ko kb 0 kc W (HXT.out W hW) (HQT.out W hW) hk (by rw [HKK.out]; exact hk6) (by omega) (by omega)
        (fun i hi => by rw [HXL.out i (by rw [← HKK.out]; exact hi)]; exact hjl) (by rw [HQL.out, HKK.out]) (fun i hi => by rw [hkl]; exact HLQ.out i (by rw [← HKK.out]; exact hi)))
      rw [HKK.out, HQL.out] at HOPN
      go_wp2_with fail
      go_loopw [15, 16] (fun m z wr => ∃ t : Nat, t ≤ c ∧ m = .int .i64 ((D ^ t : Nat) : Int) ∧ z = .int .i64 t ∧ wr = wt) (fun _ z _ => c - (intOf z).toNat)
      case atStart => exact ⟨0, by omega, by simp, rfl, by first | rfl | trivial⟩
      case round =>
        obtain ⟨t, ht, rfl, rfl, rfl⟩ := hrel
        by_cases htc : t < c
        · have hti : (t : Int) < (c : Int) := by omega
          have hp1 := pow_le64 hD4.2 (show t ≤ 3 by omega)
          have hp2 := pow_le64 hD4.2 (show t + 1 ≤ 3 by omega)
          have hpe : D ^ (t + 1) = D ^ t * D := Nat.pow_succ ..
          have HPE := Lib.hid (show ((D ^ (t + 1) : Nat) : Int) = ((D ^ t : Nat) : Int) * (D : Int) by rw [hpe]; exact Int.natCast_mul _ _)
          obtain ⟨M0, hM0⟩ : ∃ M0 : Nat, D ^ t = M0 := ⟨_, rfl⟩
          obtain ⟨M1, hM1⟩ : ∃ M1 : Nat, D ^ (t + 1) = M1 := ⟨_, rfl⟩
          rw [hM0, hM1] at HPE
          rw [hM0] at hp1 ⊢
          rw [hM1] at hp2
          have HM1 := Lib.hid hM1
          have e1 : (M0 : Int) * (D : Int) = (M1 : Int) := HPE.out.symm
          clear hM0 hM1 hpe
          go_wp2
          go_roundw
          case rel => exact ⟨t + 1, by omega, by rw [HM1.out], by go_num, by first | rfl | trivial⟩
          case measure => simp [intOf]; omega
        · have htc : t = c := by omega
          subst htc
          have hmx := pow_le64 hD4.2 (show t ≤ 3 by omega)
          obtain ⟨c, rfl⟩ : ∃ c, c = t := ⟨_, rfl⟩
          obtain ⟨MM, hMM⟩ : ∃ MM : Nat, D ^ c = MM := ⟨_, rfl⟩
          rw [hMM] at HCO HME hmx ⊢
          have HMM := Lib.hid hMM
          clear hMM
          obtain ⟨wt, rfl⟩ : ∃ x, x = wr := ⟨_, rfl⟩
          go_wp2
          go_loopw [17, 18, 19, 20, 21, 22, 23, 24] (fun u v z _ _ _ _ _ wr => ∃ q : Nat, q ≤ MM ∧ u = .int .i64 (opTo X Q D c j q : Nat) ∧ v = .int .i64 (mnTo X Q D c j q : Nat) ∧ z = .int .i64 q ∧ Below wt.heap.size wt wr) (fun _ _ z _ _ _ _ _ _ => MM - (intOf z).toNat)
          case atStart => exact ⟨0, by omega, rfl, rfl, rfl, Below.refl _ _⟩
          case round =>
            obtain ⟨q, hq, rfl, rfl, rfl, hb⟩ := hrel
            have HB := Lib.hid hb
            clear hb
            obtain ⟨wq, rfl⟩ : ∃ x, x = wr := ⟨_, rfl⟩
            by_cases hqm : q < MM
            · have hqi : (q : Int) < (MM : Int) := by omega
              obtain ⟨i0, hi0, hz0, hz1, hz2⟩ := info_parts Try.info3
              have hD0 : ((D : Int) == 0) = false := beq_eq_false_iff_ne.2 (by omega)
              go_wp2
              go_loopw [20, 21, 22] (fun kv rv z wr => ∃ t : Nat, t ≤ c ∧ NewInts wq.heap.size wr kv (keyN D t q) ∧ rv = .int .i64 ((q / D ^ t : Nat) : Int) ∧ z = .int .i64 t ∧ Below wq.heap.size wq wr) (fun _ _ z _ => c - (intOf z).toNat)
              case atStart => exact ⟨0, by omega, NewInts.nil _ _, by simp, rfl, Below.refl _ _⟩
              case round =>
                obtain ⟨t, ht, hni, rfl, rfl, hb⟩ := hrel
                have HBK := Lib.hid hb
                have HKL := Lib.hid (keyN_len D t q)
                by_cases htc : t < c
                · have hti : (t : Int) < (c : Int) := by omega
                  have HSU := Lib.hid (keyN_succ D t q)
                  obtain ⟨R, hR⟩ : ∃ R, q / D ^ t = R := ⟨_, rfl⟩
                  have HR2 := Lib.hid (show q / D ^ (t + 1) = R / D by rw [Nat.pow_succ, ← Nat.div_div_eq_div_mul, hR])
                  have hRq : R ≤ 64 := by have := Nat.div_le_self q (D ^ t); omega
                  obtain ⟨dg, hdg⟩ : ∃ dg, dgt D q t = dg := ⟨_, rfl⟩
                  have hdg2 : dg = 1 + R % D := by rw [← hdg, dgt, hR]
                  rw [hdg] at HSU
                  rw [hR]
                  have hrm : R % D < D := Nat.mod_lt _ (by omega)
                  have hrd : R / D ≤ R := Nat.div_le_self _ _
                  have e1 : (R : Int).tmod (D : Int) = ((R % D : Nat) : Int) := by rw [Int.tmod_eq_emod_of_nonneg (by omega)]; omega
                  have e2 : (R : Int).tdiv (D : Int) = ((R / D : Nat) : Int) := by rw [Int.tdiv_eq_ediv_of_nonneg (by omega)]; rfl
                  obtain ⟨rm, hrme⟩ : ∃ rm, R % D = rm := ⟨_, rfl⟩
                  obtain ⟨rd, hrde⟩ : ∃ rd, R / D = rd := ⟨_, rfl⟩
                  rw [hrme] at e1 hrm hdg2
                  rw [hrde] at e2 hrd HR2
                  have e3 : (1 : Int) + (rm : Int) = (dg : Int) := by omega
                  have hal := (Below.refl _ wr).alloc (Nat.le_refl _) (.cells #[.int .i64 dg] 3)
                  have HNA := Lib.hid (hni.below hal (Nat.le_refl _))
                  have hdb : dg ≤ 5 := by omega
                  clear hni hb hal hR hdg hdg2 hrme hrde
                  go_wp2_with (first
                    | (at_builtin; refine wpList_append_own _ rfl (.tmp 92) (.tmp 97) 34 rfl wq.heap.size 3 i0 (.int .i64 0) 1 8 Try.underlying34 hi0 hz0 hz1 hz2 rfl (by decide) _ (keyN D t q).length ((keyN D t q).map (Value.int .i64)) rfl HNA.out.own ⟨wr.heap.size, 0, none⟩ 1 1 [.int .i64 dg] rfl rfl (cell_one_new _ _ _) (by simp [Value.oneCell']) ?q2 ?q3 ?q4 ?_)
                    | (fail))
                  case q2 => have := HKL.out; unfold maxLen; omega
                  case q3 => have := HKL.out; omega
                  case q4 => have := HBK.out.size; simp; omega
                  intro v9 w9 hown hg _
                  have HN9 := Lib.hid (show NewInts wq.heap.size w9 v9 (keyN D (t + 1) q) from ⟨by rw [HSU.out]; simpa using hown, fun s => by
                    by_cases hs : s < t + 1
                    · rw [keyN_nth D q hs]
                      have : dgt D q s ≤ 5 := by unfold dgt; have := Nat.mod_lt (q / D ^ s) (show 0 < D by omega); omega
                      omega
                    · rw [nth_out (by rw [keyN_len]; omega)]; omega, by rw [keyN_len]; omega⟩)
                  have HB9 := Lib.hid ((HBK.out.alloc HBK.out.size (.cells #[.int .i64 dg] 3)).grown hg (by have := HBK.out.size; simp; omega) (fun r hr => (HNA.out.own.lt r hr).1))
                  clear hown hg HNA
                  go_wp2
                  go_roundw
                  case rel => exact ⟨t + 1, by omega, HN9.out, by rw [HR2.out], by go_num, HB9.out⟩
                  case measure => simp [intOf]; omega
                · have htc : t = c := by omega
                  subst htc
                  obtain ⟨c, rfl⟩ : ∃ c, c = t := ⟨_, rfl⟩
                  obtain ⟨rz, hrz⟩ : ∃ rz, q / D ^ c = rz := ⟨_, rfl⟩
                  rw [hrz]
                  clear hrz
                  obtain ⟨ko, kb, kc, rfl, hka, -⟩ := hni.at
                  have HKA := Lib.hid hka
                  have HBW := Lib.hid (HB.out.trans (HBK.out.mono HB.out.size))
                  obtain ⟨key, hkey⟩ : ∃ key, keyN D c q = key := ⟨_, rfl⟩
                  have HKEY := Lib.hid hkey
                  rw [hkey] at HKA HKL
                  rw [hkey, HKL.out]
                  have HOC := Lib.hid (HOPN.out key ko kb kc wr HBW.out HKL.out HKA.out)
                  rw [HKL.out] at HOC
                  have HOT := Lib.hid (opTo_succ X Q D c j q)
                  have HMT := Lib.hid (mnTo_succ X Q D c j q)
                  have hol := opTo_le X Q D c j q
                  have hml := mnTo_le X Q D c j q
                  rw [hkey] at HOT HMT
                  obtain ⟨on, hon⟩ : ∃ on, opTo X Q D c j q = on := ⟨_, rfl⟩
                  obtain ⟨mn, hmn⟩ : ∃ mn, mnTo X Q D c j q = mn := ⟨_, rfl⟩
                  rw [hon] at HOT hol ⊢
                  rw [hmn] at HMT hml ⊢
                  clear hon hmn hkey hka hni hb
                  go_upto_region 29 with fail
                  go_cut [106] from 102 to 105 (fun v wx => v = .bool (decide (OpenR X Q key j)) ∧ Below wr.heap.size wr wx)
                  case first =>
                    go_wp2_with fail
                    refine HOC.out.mono ?_
                    rintro e w9 ⟨rfl, m9, rfl⟩
                    have HB9 := Lib.hid (below_drewN (Below.refl wr.heap.size wr) m9)
                    go_wp2
                    go_meet
                    exact ⟨rfl, HB9.out⟩
                  obtain ⟨rfl, hbo⟩ := hcut
                  have HBO := Lib.hid hbo
                  obtain ⟨bv, hbv⟩ : ∃ bv, decide (OpenR X Q key j) = bv := ⟨_, rfl⟩
                  rw [hbv] at HOT ⊢
                  clear hbo hbv HOC
                  go_upto_if 106 with (fail)
                  go_cut [17] from 106 to 108 (fun v wx => v = .int .i64 (opTo X Q D c j (q + 1) : Nat) ∧ Below wr.heap.size wr wx)
                  case first =>
                    cases bv
                    · have HE := Lib.hid (show opTo X Q D c j (q + 1) = on by rw [HOT.out, if_neg (by decide)]; rfl)
                      go_wp2
                      go_meet
                      exact ⟨by rw [HE.out], HBO.out⟩
                    · have HE := Lib.hid (show opTo X Q D c j (q + 1) = on + 1 by rw [HOT.out, if_pos rfl])
                      go_wp2
                      go_meet
                      exact ⟨by rw [HE.out]; rfl, HBO.out⟩
                  obtain ⟨rfl, hbc⟩ := hcut
                  have HBC := Lib.hid hbc
                  obtain ⟨on1, hon1⟩ : ∃ on1, opTo X Q D c j (q + 1) = on1 := ⟨_, rfl⟩
                  have HON1 := Lib.hid hon1
                  rw [hon1]
                  clear hbc hon1 HOT HBO
                  have HCE := Lib.hid (show ∀ W, Below wr.heap.size wr W → ∀ i, i < K → (W.cell? ⟨xb, i, none⟩ = some (.slice (some ⟨XB i, XO i, none⟩) l (XC i)) ∧ W.cell? ⟨XB i, XO i + j, none⟩ = some (.int .i64 (nth (row X i) j))) ∧ W.cell? ⟨pb, i, none⟩ = some (.slice (PA i) c (PC i)) ∧ IntsAt W (PA i) (PB i) (PO i) (row Q i) from fun W hW i hi => by
                    have h := HXT.out W (HBW.out.trans (hW.mono HBW.out.size))
                    have g := HQT.out W (HBW.out.trans (hW.mono HBW.out.size))
                    have hi' : i < X.length := by rw [HKK.out]; exact hi
                    have hi2 : i < Q.length := by rw [HQL.out]; exact hi
                    have q1 := h.cell i hi'
                    have q2 := h.rows i hi'
                    have q3 := (q2.ptr (by rw [HXL.out i hi]; omega)).1
                    rw [HXL.out i hi, Nat.zero_add, q3] at q1
                    have p1 := g.cell i hi2
                    rw [HLQ.out i hi, Nat.zero_add] at p1
                    exact ⟨⟨q1, q2.cell j (by rw [HXL.out i hi]; exact hjl)⟩, p1, g.rows i hi2⟩)
                  have HKW := Lib.hid (fun W (hW : Below wr.heap.size wr W) => HKA.out.below hW (Nat.le_refl _))
                  go_wp2
                  go_loopw [23, 24] (fun fv z wx => ∃ (F : Bool) (i : Nat), i ≤ K ∧ fv = .bool F ∧ z = .int .i64 i ∧ (F = true ↔ MeantR X Q key j i) ∧ Below wr.heap.size wr wx) (fun _ z _ => K - (intOf z).toNat)
                  case atStart => exact ⟨false, 0, by omega, rfl, rfl, ⟨(fun h => nomatch h), fun ⟨i, hi, _⟩ => absurd hi (by omega)⟩, HBC.out⟩
                  case round =>
                    obtain ⟨F, i, hi, rfl, rfl, hF, hb⟩ := hrel
                    have HBX := Lib.hid hb
                    have HF := Lib.hid hF
                    clear hF hb HBC
                    obtain ⟨wy, rfl⟩ : ∃ x, x = wr := ⟨_, rfl⟩
                    by_cases hik : i < K
                    · have hii : (i : Int) < (K : Int) := by omega
                      obtain ⟨⟨ci, xi⟩, pi, hqi⟩ := HCE.out wy HBX.out i hik
                      have hbit := HBIT.out i j hik hjl
                      have hjli : (j : Int) < (l : Int) := by omega
                      have HRI := Lib.hid (fun m => ints_any (row Q i) key (PA i) ko (PB i) (PO i) (PC i) kb 0 kc (wy.drewN m) (hqi.below (below_drewN (Below.refl _ _) m) (Nat.le_refl _)) (HKW.out _ (below_drewN HBX.out m)))
                      rw [HLQ.out i hik, HKL.out] at HRI
                      have HF1 := Lib.hid (show ∀ t : Bool, (t = true ↔ nth (row X i) j = 1 ∧ row Q i = key) → ((F || t) = true ↔ MeantR X Q key j (i + 1)) from fun t ht => by
                        rw [Bool.or_eq_true, HF.out, ht]
                        constructor
                        · rintro (⟨s, hs, h⟩ | h)
                          · exact ⟨s, by omega, h⟩
                          · exact ⟨i, by omega, h⟩
                        · rintro ⟨s, hs, h⟩
                          by_cases e : s = i
                          · subst e; exact .inr h
                          · exact .inl ⟨s, by omega, h⟩)
                      obtain ⟨x, hx⟩ : ∃ x, nth (row X i) j = x := ⟨_, rfl⟩
                      rw [hx] at xi hbit HF1
                      clear hx hqi
                      cases F
                      · rcases hbit with rfl | rfl
                        · have HE := Lib.hid (HF1.out false (by simp))
                          go_wp2
                          go_roundw
                          case rel => exact ⟨false, i + 1, by omega, rfl, by go_num, HE.out, HBX.out⟩
                          case measure => simp [intOf]; omega
                        · have HE := Lib.hid (HF1.out (decide (row Q i = key)) (by simp))
                          obtain ⟨dv, hdv⟩ : ∃ dv, decide (row Q i = key) = dv := ⟨_, rfl⟩
                          rw [hdv] at HE HRI
                          clear hdv HF1 HF
                          go_wp2_with fail
                          refine (HRI.out 0).mono ?_
                          rintro e w9 ⟨rfl, m9, rfl⟩
                          have HB9 := Lib.hid (below_drewN (below_drewN HBX.out 0) m9)
                          cases dv
                          · go_wp2
                            go_roundw
                            case rel => exact ⟨false, i + 1, by omega, rfl, by go_num, HE.out, HB9.out⟩
                            case measure => simp [intOf]; omega
                          · go_wp2
                            go_roundw
                            case rel => exact ⟨true, i + 1, by omega, rfl, by go_num, HE.out, HB9.out⟩
                            case measure => simp [intOf]; omega
                      · have HE := Lib.hid (HF1.out (decide (x = 1 ∧ row Q i = key)) (by simp))
                        go_wp2
                        go_roundw
                        case rel => exact ⟨true, i + 1, by omega, rfl, by go_num, HE.out, HBX.out⟩
                        case measure => simp [intOf]; omega
                    · have hiK : i = K := by omega
                      subst hiK
                      have HBZ := Lib.hid (HBW.out.trans (HBX.out.mono HBW.out.size))
                      cases F
                      · have HE := Lib.hid (show mnTo X Q D c j (q + 1) = mn by
                          rw [HMT.out, decide_eq_false (by rw [HKK.out]; intro h; have := HF.out.2 h; cases this), if_neg (by decide)]; rfl)
                        go_wp2
                        go_roundw
                        case rel => exact ⟨q + 1, by omega, by rw [HON1.out], by rw [HE.out], by go_num, HBZ.out⟩
                        case measure => simp [intOf]; omega
                      · have HE := Lib.hid (show mnTo X Q D c j (q + 1) = mn + 1 by
                          rw [HMT.out, decide_eq_true (by rw [HKK.out]; exact HF.out.1 rfl), if_pos rfl])
                        go_wp2
                        go_roundw
                        case rel => exact ⟨q + 1, by omega, by rw [HON1.out], by rw [HE.out]; rfl, by go_num, HBZ.out⟩
                        case measure => simp [intOf]; omega
            · have hqM : q = MM := by omega
              subst hqM
              have hme := HME.out
              rw [HCO.out] at hme ⊢
              obtain ⟨mn, hmn⟩ : ∃ mn, mnTo X Q D c j q = mn := ⟨_, rfl⟩
              rw [hmn] at hme ⊢
              clear hmn
              have t1 : ((N : Int) == (N : Int)) = true := beq_self_eq_true _
              have t2 : decide ((mn : Int) ≤ (N : Int)) = true := decide_eq_true (by omega)
              have HBZ := Lib.hid (HBS.out.trans ((HBT.out.trans (HB.out.mono HBT.out.size)).mono HBS.out.size))
              go_wp2_with fail
              refine (awake_any _).mono ?_
              rintro e w17 ⟨rfl, hb17⟩
              have HB17 := Lib.hid (HB1.out.trans ((HBZ.out.trans (hb17.mono HBZ.out.size)).mono HB1.out.size))
              clear hb17
              go_wp2
              go_ret
              exact ⟨rfl, HB17.out⟩

end Go.Proofs.Ytjibdolhipddbaa
