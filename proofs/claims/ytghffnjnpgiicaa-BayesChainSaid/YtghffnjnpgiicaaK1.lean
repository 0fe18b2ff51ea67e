/- BayesCauses: the walk. -/
import Derived.Test.YtghffnjnpgiicaaJ9
import Derived.Test.YtghffnjnpgiicaaJ3
import Derived.Test.YtghffnjnpgiicaaI5
import Derived.Test.YtghffnjnpgiicaaG7
namespace Go.Proofs.Ytghffnjnpgiicaa
open Go.RowKit

theorem pairs_new (w : World) {x y : Int} (hx : -9223372036854775808 ≤ x ∧ x ≤ 9223372036854775807) (hy : -9223372036854775808 ≤ y ∧ y ≤ 9223372036854775807) : PairsAt (w.alloc (.cells #[.int .i64 x, .int .i64 y] 52)) (some ⟨w.heap.size, 0, none⟩) w.heap.size 0 [(x, y)] := by
  obtain ⟨c0, c1, -, -⟩ := cells_of2 (heap_alloc_new w (.cells #[.int .i64 x, .int .i64 y] 52))
  refine ⟨fun _ => ⟨rfl, by simp⟩, fun i hi => ?_, fun i hi => ?_, by simp, fun i => ?_⟩
  · have : i = 0 := by simpa using hi
    subst this
    exact c0
  · have : i = 0 := by simpa using hi
    subst this
    exact c1
  · match i with
    | 0 => exact ⟨hx, hy⟩
    | i + 1 => simp [pf, pv]

set_option maxHeartbeats 8000000 in
set_option maxRecDepth 100000 in
theorem causes_any (P T : List (List Int)) (pa : Option Addr) (pb po pc : Nat) (A : Nat → Option Addr) (B O C : Nat → Nat) (ta : Option Addr) (tb tz tc : Nat) (A' : Nat → Option Addr) (B' O' C' : Nat → Nat)
    (x y : Int) (w : World)
    (hP : RowsAt w pa pb po P A B O C) (hT : RowsAt w ta tb tz T A' B' O' C') (cP : CapsOk P A C) (cT : CapsOk T A' C') (hx : -9223372036854775808 ≤ x ∧ x ≤ 9223372036854775807) (hy : -9223372036854775808 ≤ y ∧ y ≤ 9223372036854775807) :
    Calls Try.prog 12 #[.agg #[.slice pa P.length pc, .slice ta T.length tc], .int .i64 x, .int .i64 y] w fun e w' => e = .returned (.bool true) ∧ Below w.heap.size w w' := by
  have HP := Lib.hid hP
  have HT := Lib.hid hT
  have CP := Lib.hid cP
  have CT := Lib.hid cT
  have HBW : Hid (Below w.heap.size w (w.alloc (.cells #[.slice pa P.length pc, .slice ta T.length tc] 24))) := (Below.refl _ _).alloc (Nat.le_refl _) _
  clear hP hT cP cT
  go_enter Try.func12, Try.ntmps12
  go_wp2_with fail
  refine (tame_any P T pa pb po pc A B O C ta tb tz tc A' B' O' C' 7 _ (by omega) (by omega) (HP.out.below HBW.out (Nat.le_refl _)) (HT.out.below HBW.out (Nat.le_refl _)) CP.out CT.out).mono ?_
  rintro e w1 ⟨⟨v1, v2, P', T', rfl, n1, n2, hin, hle⟩, hb1⟩
  obtain ⟨qa, qb, qc, E, F, G, K, rfl, rP, -⟩ := news_caps n1 (by omega)
  obtain ⟨sa, sb, sc, E', F', G', K', rfl, rT, -⟩ := news_caps n2 (by have := hin.tab; omega)
  have hnet : NetAt w1 (.agg #[.slice qa P'.length qc, .slice sa T'.length sc]) P' T' := ⟨qa, qb, 0, qc, E, F, G, K, sa, sb, 0, sc, E', F', G', K', rfl, rP, rT⟩
  obtain ⟨wa, hwa⟩ : ∃ wa, w1.alloc (.cells #[.slice qa P'.length qc, .slice sa T'.length sc] 24) = wa := ⟨_, rfl⟩
  obtain ⟨nb, hnb⟩ : ∃ nb, w1.heap.size = nb := ⟨_, rfl⟩
  have HIN := Lib.hid hin
  have HISN : Hid (isNet P' T' = true) := decide_eq_true hin
  have h1 := hin.pos
  have HWA := Lib.hid hwa
  have HNB := Lib.hid hnb
  have HBA : Hid (Below w.heap.size w wa) := by rw [← hwa]; exact (HBW.out.trans (hb1.mono (by simp))).alloc (by have := hb1.size; simp at this; omega) _
  have HNET : Hid (NetAt wa (.agg #[.slice qa P'.length qc, .slice sa T'.length sc]) P' T') := by rw [← hwa]; exact hnet.alloc _
  have HRP : Hid (RowsAt wa qa qb 0 P' E F G K) := by rw [← hwa]; exact rP.alloc _
  have HBLK : Hid (wa.heap[nb]? = some (.cells #[.slice qa P'.length qc, .slice sa T'.length sc] 24 (0, 0))) := by rw [← hwa, ← hnb]; exact heap_alloc_new _ _
  have HK := Lib.hid (show ∀ w', Below wa.heap.size wa w' → w'.cell? ⟨nb, 0, none⟩ = some (.slice qa P'.length qc) ∧ w'.cell? ⟨nb, 1, none⟩ = some (.slice sa T'.length sc) from
    fun w' h => by
      obtain ⟨y0, y1, -, -⟩ := cells_of2 ((h.block _ (lt_of_block HBLK.out)).trans HBLK.out)
      exact ⟨y0, y1⟩)
  have HNBL := Lib.hid (lt_of_block HBLK.out)
  clear hb1 n1 n2 hnet hin hwa hnb HP HT CP CT HBW rP rT
  have hm1 : ∀ W, Calls Try.prog 38 #[.int .i64 x, .int .i64 (P'.length : Int)] W fun e w' => e = .returned (.int .i64 (modI x (P'.length : Int))) ∧ W = w' := fun W => (mod_any _ _ W hx (by omega) (by omega)).mono fun _ _ h => ⟨h.1, h.2.symm⟩
  have hm2 : ∀ W, Calls Try.prog 38 #[.int .i64 y, .int .i64 (P'.length : Int)] W fun e w' => e = .returned (.int .i64 (modI y (P'.length : Int))) ∧ W = w' := fun W => (mod_any _ _ W hy (by omega) (by omega)).mono fun _ _ h => ⟨h.1, h.2.symm⟩
  have hb1 := modI_bd (x := x) (n := (P'.length : Int)) (by omega)
  have hb2 := modI_bd (x := y) (n := (P'.length : Int)) (by omega)
  obtain ⟨v, hv⟩ : ∃ v : Nat, modI x (P'.length : Int) = (v : Int) := ⟨(modI x (P'.length : Int)).toNat, by omega⟩
  obtain ⟨u, hu⟩ : ∃ u : Nat, modI y (P'.length : Int) = (u : Int) := ⟨(modI y (P'.length : Int)).toNat, by omega⟩
  rw [hv] at hm1 hb1
  rw [hu] at hm2 hb2
  have HM1 := Lib.hid hm1
  have HM2 := Lib.hid hm2
  have hvl : v < P'.length := by omega
  have hul : u < P'.length := by omega
  have hD := pow16_7 (k := P'.length) (by omega)
  obtain ⟨D, hDD⟩ : ∃ D : Int, (16 : Int) ^ P'.length = D := ⟨_, rfl⟩
  have HDD := Lib.hid hDD
  rw [hDD] at hD
  clear hv hu hm1 hm2 hDD
  go_wp2_with fail
  rw [HWA.out, HNB.out]
  refine (HM1.out _).mono ?_
  rintro e w2 ⟨rfl, rfl⟩
  go_wp2_with fail
  refine (HM2.out _).mono ?_
  rintro e w2 ⟨rfl, rfl⟩
  obtain ⟨c0, c1⟩ := HK.out _ (Below.refl _ _)
  go_wp2_with fail
  have hok : okEff P' T' (v : Int) (u : Int) = true := by
    unfold okEff isVar
    rw [HISN.out]
    simp
    omega
  obtain ⟨e1, e2, e3⟩ := eff_yes hok
  have hef := effect_any P' T' (.agg #[.slice qa P'.length qc, .slice sa T'.length sc]) (v : Int) (u : Int) wa HNET.out
  unfold EffectSays at hef
  rw [e1, e2, e3, HDD.out] at hef
  obtain ⟨ca, cb, hca⟩ : ∃ ca cb, fracV (effW P' T' v u 0) D = .agg #[.int .i64 ca, .int .i64 cb] := ⟨_, _, rfl⟩
  obtain ⟨da, db, hda⟩ : ∃ da db, fracV (effW P' T' v u 1) D = .agg #[.int .i64 da, .int .i64 db] := ⟨_, _, rfl⟩
  rw [hca, hda] at hef
  have HCA := Lib.hid hca
  have HDA := Lib.hid hda
  clear e1 e2 e3 hca hda hok HM1 HM2 HWA HNB
  refine hef.mono ?_
  rintro e w3 ⟨rfl, hb3⟩
  have HB3 := Lib.hid hb3
  obtain ⟨wf, hwf⟩ : ∃ wf, (w3.alloc (.cells #[.int .i64 ca, .int .i64 cb] 29)).alloc (.cells #[.int .i64 da, .int .i64 db] 29) = wf := ⟨_, rfl⟩
  obtain ⟨nf, hnf⟩ : ∃ nf, w3.heap.size = nf := ⟨_, rfl⟩
  have HWF := Lib.hid hwf
  have HNF := Lib.hid hnf
  have HBF : Hid (Below wa.heap.size wa wf) := by rw [← hwf]; exact (HB3.out.alloc HB3.out.size _).alloc (by have := HB3.out.size; simp; omega) _
  have HFB : Hid (wf.heap[nf]? = some (.cells #[.int .i64 ca, .int .i64 cb] 29 (0, 0)) ∧ wf.heap[nf + 1]? = some (.cells #[.int .i64 da, .int .i64 db] 29 (0, 0))) := by
    rw [← hwf, ← hnf]; exact ⟨heap_alloc2_old _ _ _, heap_alloc2_new _ _ _⟩
  clear hef hb3 hwf hnf c0 c1
  by_cases hvu : v = u
  · have t1 : ((v : Int) == (u : Int)) = true := by rw [hvu]; simp
    subst hvu
    obtain ⟨s0, s1⟩ := eff_self HIN.out hvl
    have hc := HCA.out
    have hd := HDA.out
    rw [s0, frac_zero hD.1] at hc
    rw [s1, HDD.out, frac_one hD.1] at hd
    simp at hc hd
    obtain ⟨rfl, rfl⟩ := hc
    obtain ⟨rfl, rfl⟩ := hd
    clear s0 s1
    go_upto_region 8 with fail
    rw [HWF.out, HNF.out]
    obtain ⟨f0, f1, -, -⟩ := cells_of2 HFB.out.1
    obtain ⟨g0, g1, -, -⟩ := cells_of2 HFB.out.2
    go_wp2_with fail
    refine (awake_any _).mono ?_
    rintro e w10 ⟨rfl, hb10⟩
    have HB10 := Lib.hid (HBA.out.trans ((HBF.out.trans (hb10.mono HBF.out.size)).mono HBA.out.size))
    clear hb10 f0 f1 g0 g1
    go_wp2
    go_ret
    exact ⟨rfl, HB10.out⟩
  · have t1 : ((v : Int) == (u : Int)) = false := by rw [beq_eq_false_iff_ne]; omega
    have HNE := Lib.hid hvu
    have HEN := Lib.hid (show desc P' v u = false → (ca = da ∧ cb = db) from fun h => by
      have h1 := HCA.out
      have h2 := HDA.out
      rw [eff_none HIN.out hvl hul (fun e => HNE.out e.symm) h] at h1
      rw [h1] at h2
      simpa using h2)
    clear hvu
    go_upto_region 9 with fail
    rw [HWF.out, HNF.out]
    have hds := descendant_any P' T' (.agg #[.slice qa P'.length qc, .slice sa T'.length sc]) v u wf (HNET.out.below HBF.out (Nat.le_refl _)) HIN.out hvl hul
    obtain ⟨ds, hdd⟩ : ∃ ds, desc P' v u = ds := ⟨_, rfl⟩
    rw [hdd] at hds HEN
    clear hdd
    go_cut [63] from 54 to 62 (fun b wx => b = .bool false ∧ Below wf.heap.size wf wx)
    case first =>
      obtain ⟨c0, c1⟩ := HK.out _ HBF.out
      cases ds
      · obtain ⟨rfl, rfl⟩ := HEN.out rfl
        go_wp2_with fail
        refine hds.mono ?_
        rintro e w4 ⟨rfl, hb4⟩
        obtain ⟨f0, f1, -, -⟩ := cells_of2 ((hb4.block _ (lt_of_block HFB.out.1)).trans HFB.out.1)
        obtain ⟨g0, g1, -, -⟩ := cells_of2 ((hb4.block _ (lt_of_block HFB.out.2)).trans HFB.out.2)
        have HB4 := Lib.hid hb4
        clear hds hb4 c0 c1
        go_wp2_with fail
        go_meet
        exact ⟨rfl, HB4.out⟩
      · go_wp2_with fail
        refine hds.mono ?_
        rintro e w4 ⟨rfl, hb4⟩
        have HB4 := Lib.hid hb4
        clear hds hb4 c0 c1
        go_wp2_with fail
        go_meet
        exact ⟨rfl, HB4.out⟩
    case rest =>
      obtain ⟨rfl, hb4⟩ := hcut
      obtain ⟨w4, rfl⟩ : ∃ x, x = wc := ⟨_, rfl⟩
      have HB4 := Lib.hid (HBF.out.trans (hb4.mono HBF.out.size))
      have hs4 := HB4.out.size
      have HFB4 := Lib.hid (And.intro ((hb4.block _ (lt_of_block HFB.out.1)).trans HFB.out.1) ((hb4.block _ (lt_of_block HFB.out.2)).trans HFB.out.2))
      have HBW4 := Lib.hid (HBA.out.trans (HB4.out.mono HBA.out.size))
      clear hds hb4 HEN HFB HBF HWF HNF
      go_wp2_with fail
      go_loopw [12, 13, 14, 15, 16, 17, 18] (fun i _ _ _ _ _ _ wr => ∃ val : Int, ((val = 0 ∨ val = 1) ∨ val = 2) ∧ i = .int .i64 val ∧ Below w4.heap.size w4 wr) (fun i _ _ _ _ _ _ _ => (2 - intOf i).toNat)
      case atStart => exact ⟨0, .inl (.inl rfl), rfl, Below.refl _ _⟩
      case round =>
        obtain ⟨val, hval, rfl, hb⟩ := hrel
        obtain ⟨wq, rfl⟩ : ∃ x, x = wr := ⟨_, rfl⟩
        have HB := Lib.hid hb
        have HBq := Lib.hid (HB4.out.trans (hb.mono hs4))
        have HBWq := Lib.hid (HBW4.out.trans (hb.mono HBW4.out.size))
        have hsq := HBq.out.size
        have hnq : nb < wq.heap.size := Nat.lt_of_lt_of_le HNBL.out hsq
        clear hb
        obtain ⟨c0, c1⟩ := HK.out _ HBq.out
        rcases hval with hval | rfl
        · have t2 : decide (val < 2) = true := decide_eq_true (by omega)
          have hrp := HRP.out.below HBq.out (Nat.le_refl _)
          obtain ⟨rfl, -⟩ := hrp.ptr (by omega)
          have rc := hrp.cell v hvl
          rw [Nat.zero_add] at rc
          by_cases hr : (row P' v).length = 0
          · rw [hr] at rc
            have hcn := chance_net P' T' (.agg #[.slice (some ⟨qb, 0, none⟩) P'.length qc, .slice sa T'.length sc]) [((u : Int), (1 : Int))] [((v : Int), val)] (some ⟨wq.heap.size, 0, none⟩) wq.heap.size 0 1 (some ⟨wq.heap.size + 1, 0, none⟩) (wq.heap.size + 1) 0 1
              ((wq.alloc (.cells #[.int .i64 (u : Int), .int .i64 1] 52)).alloc (.cells #[.int .i64 (v : Int), .int .i64 val] 52)) (((HNET.out.below HBq.out (Nat.le_refl _)).alloc _).alloc _) HISN.out ((pairs_new wq (by omega) (by omega)).alloc _)
              (by have := pairs_new (wq.alloc (.cells #[.int .i64 (u : Int), .int .i64 1] 52)) (x := (v : Int)) (y := val) (by omega) (by omega); rw [World.size_alloc] at this; exact this) (by simp) (by simp)
            have hgv := ch_given (T := T') HIN.out hvl hul (fun e => HNE.out e.symm) hr hval
            rw [HDD.out] at hgv
            obtain ⟨ga, gb, hga⟩ : ∃ ga gb, fracV (effW P' T' v u val) D = .agg #[.int .i64 ga, .int .i64 gb] := ⟨_, _, rfl⟩
            rw [hga] at hgv
            have HGA := Lib.hid hga
            obtain ⟨fa, fb, fe, hch, hfe⟩ : ∃ fa fb fe : Int, (chV P' T' [((u : Int), (1 : Int))] [((v : Int), val)] = .agg #[.int .i64 fa, .int .i64 fb] ∧ chE P' T' [((u : Int), (1 : Int))] [((v : Int), val)] = fe) ∧ (fe = 6 ∨ (fe = 0 ∧ fa = ga ∧ fb = gb)) := by
              rcases hgv with ⟨z1, z2⟩ | ⟨z1, z2⟩
              · exact ⟨0, 0, 6, ⟨z1, z2⟩, .inl rfl⟩
              · exact ⟨ga, gb, 0, ⟨z1, z2⟩, .inr ⟨rfl, rfl, rfl⟩⟩
            rw [hch.1, hch.2] at hcn
            have HCN := Lib.hid hcn
            have HFE := Lib.hid hfe
            have HR := Lib.hid hr
            clear hcn hgv hga hch hfe hrp hr
            go_wp2_with fail
            refine HCN.out.mono ?_
            rintro e w5 ⟨rfl, hb5⟩
            have HQ5 := Lib.hid (((HB.out.alloc HB.out.size (.cells #[.int .i64 (u : Int), .int .i64 1] 52)).alloc (by have := HB.out.size; simp; omega) (.cells #[.int .i64 (v : Int), .int .i64 val] 52)).trans (hb5.mono (by have := HB.out.size; simp; omega)))
            have HB5 := Lib.hid (((HBq.out.alloc hsq (.cells #[.int .i64 (u : Int), .int .i64 1] 52)).alloc (by simp; omega) (.cells #[.int .i64 (v : Int), .int .i64 val] 52)).trans (hb5.mono (by simp; omega)))
            have hs5 := HB5.out.size
            have hn5 : nb < w5.heap.size := Nat.lt_of_lt_of_le HNBL.out hs5
            clear hb5 c0 c1 rc HCN
            have hfk : okFrc P' T' (v : Int) val = true := by
              unfold okFrc isVar isVal
              rw [HISN.out]
              rcases hval with rfl | rfl <;> simp <;> omega
            obtain ⟨z1, z2, z3⟩ := frc_yes hfk
            rw [Int.toNat_natCast] at z1 z2
            have n3 := isNet_forced HIN.out hvl hval
            have hlen : (P'.set v []).length = P'.length := List.length_set ..
            have hc1 := ch_one n3 (y := u) (by rw [hlen]; exact hul)
            have hga : fracV (fw (P'.set v []) (T'.set v [16 * val]) (oneF u)) (16 ^ (P'.set v []).length) = .agg #[.int .i64 ga, .int .i64 gb] := by rw [hlen, HDD.out]; exact HGA.out
            rw [hga] at hc1
            obtain ⟨P2, hP2⟩ : ∃ P2, P'.set v [] = P2 := ⟨_, rfl⟩
            obtain ⟨T2, hT2⟩ : ∃ T2, T'.set v [16 * val] = T2 := ⟨_, rfl⟩
            rw [hP2] at z1 n3 hc1 hlen
            rw [hT2] at z2 n3 hc1
            have HZ := Lib.hid (And.intro z1 (And.intro z2 z3))
            have HN3 := Lib.hid n3
            have HC1 := Lib.hid hc1
            have HLEN := Lib.hid hlen
            clear hfk z1 z2 z3 n3 hlen hc1 hga hP2 hT2
            obtain ⟨c0, c1⟩ := HK.out _ HB5.out
            go_wp2_with fail
            have hfc := force_any P' T' (.agg #[.slice (some ⟨qb, 0, none⟩) P'.length qc, .slice sa T'.length sc]) (v : Int) val (w5.alloc (.cells #[.int .i64 fa, .int .i64 fb] 29)) ((HNET.out.below HB5.out (Nat.le_refl _)).alloc _)
            unfold ForceSays at hfc
            rw [HZ.out.1, HZ.out.2.1, HZ.out.2.2] at hfc
            refine hfc.mono ?_
            rintro e w6 ⟨m1, m2, rfl, n1, n2, hb6⟩
            have hl2 := HLEN.out
            have hlt2 := HN3.out.tab
            obtain ⟨ma, mc, oa, oc, rfl, rfl, hn6⟩ := net_of_rows n1 n2 (by omega) (by omega)
            have HF6 := Lib.hid ((hb6.block w5.heap.size (by simp)).trans (heap_alloc_new w5 (.cells #[.int .i64 fa, .int .i64 fb] 29)))
            have HB6 := Lib.hid ((HB5.out.alloc hs5 (.cells #[.int .i64 fa, .int .i64 fb] 29)).trans (hb6.mono (by simp; omega)))
            have hs6 := HB6.out.size
            have HQ6 := Lib.hid ((HQ5.out.alloc HQ5.out.size (.cells #[.int .i64 fa, .int .i64 fb] 29)).trans (hb6.mono (by have := HQ5.out.size; simp; omega)))
            have h56 : w5.heap.size < w6.heap.size := by have := hb6.size; simp at this; omega
            have HN6 := Lib.hid hn6
            clear hfc n1 n2 hb6 hn6 c0 c1 hl2 hlt2 HZ
            go_wp2_with fail
            have hcn := chance_net P2 T2 (.agg #[.slice ma P2.length mc, .slice oa T2.length oc]) [((u : Int), (1 : Int))] [] (some ⟨w6.heap.size + 1, 0, none⟩) (w6.heap.size + 1) 0 1 none 0 0 0
              ((w6.alloc (.cells #[.slice ma P2.length mc, .slice oa T2.length oc] 24)).alloc (.cells #[.int .i64 (u : Int), .int .i64 1] 52)) ((HN6.out.alloc _).alloc _) (decide_eq_true HN3.out)
              (by have := pairs_new (w6.alloc (.cells #[.slice ma P2.length mc, .slice oa T2.length oc] 24)) (x := (u : Int)) (y := 1) (by omega) (by omega); rw [World.size_alloc] at this; exact this) (pairs_nil _) (by simp) (by simp)
            rw [HC1.out.1, HC1.out.2] at hcn
            refine hcn.mono ?_
            rintro e w7 ⟨rfl, hb7⟩
            have HB67 := Lib.hid ((((Below.refl _ w6).alloc (Nat.le_refl _) (.cells #[.slice ma P2.length mc, .slice oa T2.length oc] 24)).alloc (by simp) (.cells #[.int .i64 (u : Int), .int .i64 1] 52)).trans (hb7.mono (by simp; omega)))
            have hs67 := HB67.out.size
            have HB7 := Lib.hid (HB6.out.trans (HB67.out.mono hs6))
            obtain ⟨f0, f1, -, -⟩ := cells_of2 ((HB67.out.block _ h56).trans HF6.out)
            have HQ7 := Lib.hid (HQ6.out.trans (HB67.out.mono HQ6.out.size))
            have HB4q := Lib.hid (HQ7.out.alloc HQ7.out.size (.cells #[.int .i64 ga, .int .i64 gb] 29))
            have k1 := (HQ7.out.block _ (lt_of_block HFB4.out.1)).trans HFB4.out.1
            have k2 := (HQ7.out.block _ (lt_of_block HFB4.out.2)).trans HFB4.out.2
            obtain ⟨a0, a1, -, -⟩ := cells_of2 k1
            obtain ⟨b0, b1, -, -⟩ := cells_of2 k2
            have l1 := lt_of_block k1
            have l2 := lt_of_block k2
            have h57 : w5.heap.size < w7.heap.size := by omega
            clear hcn hb7 k1 k2
            rcases hval with rfl | rfl
            · have hg := HGA.out
              rw [HCA.out] at hg
              simp at hg
              obtain ⟨rfl, rfl⟩ := hg
              rcases HFE.out with rfl | ⟨rfl, rfl, rfl⟩
              all_goals
                go_wp2
                go_roundw
                case rel => exact ⟨1, .inl (.inr rfl), rfl, HB4q.out⟩
                case measure => simp [intOf]
            · have hg := HGA.out
              rw [HDA.out] at hg
              simp at hg
              obtain ⟨rfl, rfl⟩ := hg
              rcases HFE.out with rfl | ⟨rfl, rfl, rfl⟩
              all_goals
                go_wp2
                go_roundw
                case rel => exact ⟨2, .inr rfl, rfl, HB4q.out⟩
                case measure => simp [intOf]
          · have t3 : (((row P' v).length : Int) == 0) = false := by rw [beq_eq_false_iff_ne]; omega
            clear hr hrp
            go_wp2_with fail
            refine (awake_any _).mono ?_
            rintro e w10 ⟨rfl, hb10⟩
            have HB10 := Lib.hid (HBWq.out.trans (hb10.mono HBWq.out.size))
            clear hb10
            go_wp2
            go_ret
            exact ⟨rfl, HB10.out⟩
        · go_wp2_with fail
          refine (awake_any _).mono ?_
          rintro e w10 ⟨rfl, hb10⟩
          have HB10 := Lib.hid (HBWq.out.trans (hb10.mono HBWq.out.size))
          clear hb10
          go_wp2
          go_ret
          exact ⟨rfl, HB10.out⟩

end Go.Proofs.Ytghffnjnpgiicaa
