/- The two sets of wrong pairs are one; LocksChecks, walked. -/
import Derived.Test.YtjibdolhipddbaaQq
import Derived.Test.YtjibdolhipddbaaQo
import Derived.Test.YtjibdolhipddbaaQl
namespace Go.Proofs.Ytjibdolhipddbaa
open Go.RowKit Go.Maps

theorem wrS_eq {a P : List (List Int)} {d : Int} (ha : IsPlan a) (hk : OkCuts a.length P d) (t : Nat) : wrS a P t = wrF a P t := by
  have hk6 := ha.le
  have hl6 := ha.le0
  rw [Bool.eq_iff_iff]
  unfold wrS lvF fbF wrF stF
  rw [chs_len]
  simp only [Bool.and_eq_true, Bool.not_eq_true', decide_eq_true_eq, decide_eq_false_iff_not]
  constructor
  · rintro ⟨⟨⟨h1, h2⟩, h3⟩, h4⟩
    have hl : (row a (t / 6)).length = (row a 0).length := ha.len _ h1
    refine ⟨⟨h1, by omega⟩, ?_, fun c hc => ?_⟩
    · have hb := ha.bit _ h1 (t % 6) (by omega)
      unfold mt at h3
      have h3' := of_decide_eq_false h3
      rcases hb with e | e
      · exact e
      · exact absurd e h3'
    · rw [hk.len _ h1] at hc
      refine Classical.byContradiction fun hn => h4 ⟨c, hc, ⟨h1, h2⟩, fun hp => hn ?_⟩
      rw [pinR_iff a P (t % 6) c _ (by omega) hk6 _ hc]
      rw [chs_nth _ _ _ hc (by omega), if_pos h1] at hp
      exact hp
  · rintro ⟨⟨h1, h2⟩, h3, h4⟩
    have hl : (row a (t / 6)).length = (row a 0).length := ha.len _ h1
    refine ⟨⟨⟨h1, by omega⟩, ?_⟩, ?_⟩
    · unfold mt
      exact decide_eq_false (by omega)
    · rintro ⟨c, hc, -, hp⟩
      have h5 := h4 c (by rw [hk.len _ h1]; exact hc)
      rw [pinR_iff a P (t % 6) c _ (by omega) hk6 _ hc] at h5
      rw [chs_nth _ _ _ hc (by omega), if_pos h1] at hp
      exact hp h5

theorem wrL_nil_iff (f : Nat → Bool) : ∀ n, wrL f n = [] ↔ ∀ t, t < n → f t = false
  | 0 => by simp [wrL]
  | n + 1 => by
    rw [wrL]
    cases e : f n
    · rw [if_neg (by decide), wrL_nil_iff f n]
      constructor
      · intro h t ht
        by_cases q : t = n
        · rw [q]; exact e
        · exact h t (by omega)
      · exact fun h t ht => h t (by omega)
    · rw [if_pos rfl]
      constructor
      · intro h; simp at h
      · intro h; rw [h n (by omega)] at e; cases e
theorem S36_none (f : Nat → Bool) : S36 f = 0 ↔ ∀ t, t < 36 → f t = false := by
  constructor
  · intro h t ht
    have := S36_bit f t
    rw [h, decide_eq_true ht] at this
    simpa using this.symm
  · intro h
    refine Nat.eq_of_testBit_eq fun i => ?_
    rw [S36_bit]
    by_cases e : i < 36
    · rw [h i e]; simp
    · rw [decide_eq_false e]; simp
theorem S36_nil (f : Nat → Bool) : S36 f = 0 ↔ wrL f 36 = [] := by rw [S36_none, wrL_nil_iff]

set_option maxHeartbeats 4000000 in
set_option maxRecDepth 100000 in
theorem checks_any (L M : List (List Int)) (ao : Option Addr) (b o cap : Nat) (A : Nat → Option Addr) (B O C : Nat → Nat) (co : Option Addr) (cb cq ccap : Nat) (CA : Nat → Option Addr) (CB CO CC : Nat → Nat) (d j : Int) (w : World)
    (H : RowsAt w ao b o L A B O C) (hc : CapsOk L A C) (HM : RowsAt w co cb cq M CA CB CO CC) (hcm : CapsOk M CA CC) :
    Calls Try.prog 4 #[.slice ao L.length cap, .slice co M.length ccap, .agg #[.int .i64 d, .int .i64 j]] w fun e w' => e = .returned (.bool true) ∧ Below w.heap.size w w' := by
  have HT := Lib.hid (fun W (hW : Below w.heap.size w W) => table_any L ao b o cap A B O C W (H.below hW (Nat.le_refl _)) hc)
  have HT2 := Lib.hid (fun W (hW : Below w.heap.size w W) => table_any M co cb cq ccap CA CB CO CC W (HM.below hW (Nat.le_refl _)) hcm)
  clear H hc HM hcm
  go_enter Try.func4, Try.ntmps4
  go_wp2_with fail
  have HBX := Lib.hid ((Below.refl _ w).alloc (Nat.le_refl _) (.cells #[.int .i64 d, .int .i64 j] 23))
  have HBOX := Lib.hid (heap_alloc_new w (.cells #[.int .i64 d, .int .i64 j] 23))
  refine (HT.out _ HBX.out).mono ?_
  rintro e w1 ⟨⟨v, rfl, hr⟩, hb⟩
  obtain ⟨X, hX⟩ : ∃ X, trim8 L = X := ⟨_, rfl⟩
  have hX8 : X.length ≤ 8 := by rw [← hX, trim8, List.length_map, List.length_take]; omega
  rw [hX] at hr
  obtain ⟨xo, xb, xc, XA, XB, XO, XC, rfl, hat, -⟩ := hr.at2 (by omega)
  have HB1 := Lib.hid (HBX.out.trans (hb.mono HBX.out.size))
  have HBOX1 := Lib.hid ((hb.block _ (lt_of_block HBOX.out)).trans HBOX.out)
  have HX := Lib.hid hat
  clear hX HT hr hat hb HBX HBOX
  go_wp2_with fail
  refine (HT2.out _ HB1.out).mono ?_
  rintro e w2 ⟨⟨v, rfl, hr⟩, hb⟩
  obtain ⟨Y, hY⟩ : ∃ Y, trim8 M = Y := ⟨_, rfl⟩
  have hY8 : Y.length ≤ 8 := by rw [← hY, trim8, List.length_map, List.length_take]; omega
  rw [hY] at hr
  obtain ⟨yo, yb, yc, YA, YB, YO, YC, rfl, hat, -⟩ := hr.at2 (by omega)
  have HB2 := Lib.hid (HB1.out.trans (hb.mono HB1.out.size))
  have HBOX2 := Lib.hid ((hb.block _ (lt_of_block HBOX1.out)).trans HBOX1.out)
  have HX2 := Lib.hid (HX.out.below hb (Nat.le_refl _))
  have HY2 := Lib.hid hat
  clear hY HT2 hr hat hb HB1 HBOX1 HX
  have c0 : w2.cell? ⟨w.heap.size, 0, none⟩ = some (.int .i64 d) := by rw [cell_of_row _ _ _ _ _ _ HBOX2.out]; rfl
  have c1 : w2.cell? ⟨w.heap.size, 1, none⟩ = some (.int .i64 j) := by rw [cell_of_row _ _ _ _ _ _ HBOX2.out]; rfl
  clear HBOX2
  go_wp2_with fail
  go_quiet (fail)
  obtain ⟨wd, hwd⟩ : ∃ wd, w2.drewN nq = wd := ⟨_, rfl⟩
  have HBD := Lib.hid (show Below w.heap.size w wd by rw [← hwd]; exact below_drewN HB2.out _)
  have HX2 := Lib.hid (show RowsAt wd xo xb 0 X XA XB XO XC by rw [← hwd]; exact HX2.out.below (below_drewN (Below.refl _ _) _) (Nat.le_refl _))
  have HY2 := Lib.hid (show RowsAt wd yo yb 0 Y YA YB YO YC by rw [← hwd]; exact HY2.out.below (below_drewN (Below.refl _ _) _) (Nat.le_refl _))
  rw [hwd]
  clear c0 c1 hwd HB2
  obtain ⟨w2, rfl⟩ : ∃ x, x = wd := ⟨_, rfl⟩
  by_cases hs : IsSys X Y d
  · obtain ⟨hpp, hd4, hok⟩ := hs
    obtain ⟨D, hD⟩ : ∃ D : Nat, d = D := ⟨d.toNat, by omega⟩
    subst hD
    have hWS : wrL (wrS X Y) 36 = wrL (wrF X Y) 36 := wrL_congr _ fun t _ => wrS_eq hpp hok t
    have HC := Lib.hid (fun W (hW : Below w2.heap.size w2 W) => check_ok X Y D xo xb 0 xc XA XB XO XC yo yb 0 yc YA YB YO YC W (HX2.out.below hW (Nat.le_refl _)) (HY2.out.below hW (Nat.le_refl _)) hpp hd4 hok)
    have HW := Lib.hid (fun W (hW : Below w2.heap.size w2 W) => wrong_ok X Y D xo xb 0 xc XA XB XO XC yo yb 0 yc YA YB YO YC W (HX2.out.below hW (Nat.le_refl _)) (HY2.out.below hW (Nat.le_refl _)) hpp hd4 hok)
    have HRW := Lib.hid (fun W (hW : Below w2.heap.size w2 W) => refWrong_any X Y D xo xb 0 xc XA XB XO XC yo yb 0 yc YA YB YO YC W (HX2.out.below hW (Nat.le_refl _)) (HY2.out.below hW (Nat.le_refl _)) hpp hok)
    have HS1 := Lib.hid (fun W (hW : Below w2.heap.size w2 W) (h : j < 0 ∨ ((row X 0).length : Int) ≤ j) => strangers_lock X Y D j xo xb 0 xc XA XB XO XC yo yb 0 yc YA YB YO YC W (HX2.out.below hW (Nat.le_refl _)) (HY2.out.below hW (Nat.le_refl _)) hpp hd4 hok h)
    have HS2 := Lib.hid (fun W (q : Nat) (hW : Below w2.heap.size w2 W) (h : q < (row X 0).length) => strangers_ok X Y D q xo xb 0 xc XA XB XO XC yo yb 0 yc YA YB YO YC W (HX2.out.below hW (Nat.le_refl _)) (HY2.out.below hW (Nat.le_refl _)) hpp hd4 hok h)
    have HRS := Lib.hid (fun W (q : Nat) (hW : Below w2.heap.size w2 W) (h : q < (row X 0).length) => refStrangers_any X Y D q xo xb 0 xc XA XB XO XC yo yb 0 yc YA YB YO YC W (HX2.out.below hW (Nat.le_refl _)) (HY2.out.below hW (Nat.le_refl _)) hpp ⟨by omega, by omega⟩ hok h)
    have HA := Lib.hid (fun W (hW : Below w2.heap.size w2 W) => access_any X xo xb 0 xc XA XB XO XC W (HX2.out.below hW (Nat.le_refl _)))
    rw [show isPlan X = true from decide_eq_true hpp] at HA
    have HCT := Lib.hid (fun W (hW : Below w2.heap.size w2 W) => refCuts_any X.length Y D yo yb 0 yc YA YB YO YC W (HY2.out.below hW (Nat.le_refl _)) hpp.pos hpp.le)
    rw [decide_eq_true hok] at HCT
    rw [hWS] at HW
    have hz := S36_nil (wrS X Y)
    rw [hWS] at hz
    have hxl := hpp.pos
    have hx0 : (0 : Int) < (X.length : Int) := by omega
    have HX0 := Lib.hid (show ∀ W, Below w2.heap.size w2 W → W.cell? ⟨xb, 0, none⟩ = some (.slice (XA 0) (row X 0).length (XC 0)) from fun W hW => by have := (HX2.out.below hW (Nat.le_refl _)).cell 0 (by omega); rwa [Nat.zero_add] at this)
    have HXX := Lib.hid hpp
    obtain ⟨rfl, -⟩ := HX2.out.ptr (by omega)
    have HLP := Lib.hid (wrL_len (wrF X Y) 36)
    obtain ⟨ps, hps⟩ : ∃ ps, wrL (wrF X Y) 36 = ps := ⟨_, rfl⟩
    rw [hps] at HW HRW hz HLP
    obtain ⟨z, hzz⟩ : ∃ z, S36 (wrS X Y) = z := ⟨_, rfl⟩
    rw [hzz] at HC hz
    obtain ⟨l, hl⟩ : ∃ l, (row X 0).length = l := ⟨_, rfl⟩
    rw [hl] at HS1 HS2 HRS HX0
    have HL := Lib.hid hl
    have HZ := Lib.hid hz
    have t1 : decide ((D : Int) < 1) = false := decide_eq_false (by omega)
    have t2 : decide (4 < (D : Int)) = false := decide_eq_false (by omega)
    clear hWS hps hzz hl hz hpp hok hd4
    obtain ⟨rv, hrv⟩ : ∃ rv : Int, (if z = 0 then 0 else 10) = rv := ⟨_, rfl⟩
    rw [hrv] at HC
    have hcz : (rv = 0 ∧ ((ps.length : Int) == 0) = true) ∨ (rv = 10 ∧ ((ps.length : Int) == 0) = false) := by
      rw [← hrv]
      by_cases ez : z = 0
      · left; refine ⟨if_pos ez, ?_⟩; rw [HZ.out.1 ez]; rfl
      · right; refine ⟨if_neg ez, ?_⟩
        have hne : ps ≠ [] := fun q => ez (HZ.out.2 q)
        have : 0 < ps.length := List.length_pos_iff.2 hne
        exact beq_eq_false_iff_ne.2 (by omega)
    have HCZ := Lib.hid hcz
    clear hrv hcz
    go_wp2_with fail
    refine (HC.out _ (Below.refl _ _)).mono ?_
    rintro e w3 ⟨rfl, hb3⟩
    have HB3 := Lib.hid hb3
    clear hb3 HC
    go_wp2_with fail
    refine (HW.out _ HB3.out).mono ?_
    rintro e w4 ⟨v, rfl, hv, hb4⟩
    obtain ⟨vo, vb, vc, rfl, hva⟩ := hv.at
    have HV := Lib.hid hva
    have HB4 := Lib.hid (HB3.out.trans (hb4.mono HB3.out.size))
    clear hv hb4 hva HB3 HW
    go_wp2_with fail
    by_cases hj : 0 ≤ j ∧ j < (l : Int)
    · obtain ⟨q, hq⟩ : ∃ q : Nat, j = q := ⟨j.toNat, by omega⟩
      subst hq
      have hql : q < l := by omega
      have hql2 : (q : Int) < (l : Int) := by omega
      have HS := Lib.hid (HS2.out w4 q HB4.out hql)
      have HR := Lib.hid (fun W hW => HRS.out W q hW hql)
      obtain ⟨pr, hpr⟩ : ∃ pr : Nat, prodC (chs Y X.length (row Y 0).length) X.length (mt X) q (row Y 0).length = pr := ⟨_, rfl⟩
      rw [hpr] at HS HR
      clear hpr HS1 HS2 HRS hj
      refine HS.out.mono ?_
      rintro e w5 ⟨rfl, hb5⟩
      have HB5 := Lib.hid (HB4.out.trans (hb5.mono HB4.out.size))
      have HV5 := Lib.hid (HV.out.below hb5 (Nat.le_refl _))
      clear hb5 HS HB4 HV
      go_wp2_with fail
      refine (HA.out _ HB5.out).mono ?_
      rintro e w6 ⟨rfl, hb6⟩
      have HB6 := Lib.hid (HB5.out.trans (hb6.mono HB5.out.size))
      have HV6 := Lib.hid (HV5.out.below hb6 (Nat.le_refl _))
      clear hb6 HA HB5 HV5
      go_wp2_with fail
      refine (HCT.out _ HB6.out).mono ?_
      rintro e w7 ⟨rfl, hb7⟩
      have HB7 := Lib.hid (HB6.out.trans (hb7.mono HB6.out.size))
      have HV7 := Lib.hid (HV6.out.below hb7 (Nat.le_refl _))
      clear hb7 HCT HB6 HV6
      go_wp2_with fail
      refine (HRW.out _ HB7.out).mono ?_
      rintro e w8 ⟨u, rfl, hu, hb8⟩
      obtain ⟨uo, ub, uc, rfl, hua⟩ := hu.at
      have HB8 := Lib.hid (HB7.out.trans (hb8.mono HB7.out.size))
      have HPS := Lib.hid (fun n => pairs_same ps vo uo vb 0 vc ub 0 uc (w8.drewN n) ((HV7.out.below hb8 (Nat.le_refl _)).below (below_drewN (Below.refl _ _) n) (Nat.le_refl _)) (hua.below (below_drewN (Below.refl _ _) n) (Nat.le_refl _)) HLP.out)
      clear hu hb8 hua HRW HB7 HV7
      go_wp2_with fail
      have tq1 : decide ((q : Int) < 0) = false := decide_eq_false (by omega)
      have tq2 : decide ((l : Int) ≤ (q : Int)) = false := decide_eq_false (by omega)
      rcases HCZ.out with ⟨rfl, tz⟩ | ⟨rfl, tz⟩
      · refine (HPS.out 0).mono ?_
        rintro e w10 ⟨rfl, m10, rfl⟩
        have HB10 := Lib.hid (below_drewN HB8.out m10)
        have c0 := HX0.out _ HB10.out
        go_wp2_with fail
        refine (HR.out _ HB10.out).mono ?_
        rintro e w11 ⟨rfl, m11, rfl⟩
        have HB11 := Lib.hid (below_drewN HB10.out m11)
        go_wp2_with fail
        refine (awake_any _).mono ?_
        rintro e w12 ⟨rfl, hb12⟩
        have HB12 := Lib.hid (below_drewN HB8.out (m10 + m11) |>.trans (hb12.mono (below_drewN HB8.out (m10 + m11)).size))
        clear hb12
        go_wp2
        go_ret
        exact ⟨rfl, HBD.out.trans (HB12.out.mono HBD.out.size)⟩
      · refine (HPS.out 0).mono ?_
        rintro e w10 ⟨rfl, m10, rfl⟩
        have HB10 := Lib.hid (below_drewN HB8.out m10)
        have c0 := HX0.out _ HB10.out
        go_wp2_with fail
        refine (HR.out _ HB10.out).mono ?_
        rintro e w11 ⟨rfl, m11, rfl⟩
        have HB11 := Lib.hid (below_drewN HB10.out m11)
        go_wp2_with fail
        refine (awake_any _).mono ?_
        rintro e w12 ⟨rfl, hb12⟩
        have HB12 := Lib.hid (below_drewN HB8.out (m10 + m11) |>.trans (hb12.mono (below_drewN HB8.out (m10 + m11)).size))
        clear hb12
        go_wp2
        go_ret
        exact ⟨rfl, HBD.out.trans (HB12.out.mono HBD.out.size)⟩
    · have hj' : j < 0 ∨ (l : Int) ≤ j := by omega
      have HS := Lib.hid (HS1.out w4 HB4.out hj')
      clear HS1 HS2 HRS hj
      refine HS.out.mono ?_
      rintro e w5 ⟨rfl, hb5⟩
      have HB5 := Lib.hid (HB4.out.trans (hb5.mono HB4.out.size))
      have HV5 := Lib.hid (HV.out.below hb5 (Nat.le_refl _))
      clear hb5 HS HB4 HV
      go_wp2_with fail
      refine (HA.out _ HB5.out).mono ?_
      rintro e w6 ⟨rfl, hb6⟩
      have HB6 := Lib.hid (HB5.out.trans (hb6.mono HB5.out.size))
      have HV6 := Lib.hid (HV5.out.below hb6 (Nat.le_refl _))
      clear hb6 HA HB5 HV5
      go_wp2_with fail
      refine (HCT.out _ HB6.out).mono ?_
      rintro e w7 ⟨rfl, hb7⟩
      have HB7 := Lib.hid (HB6.out.trans (hb7.mono HB6.out.size))
      have HV7 := Lib.hid (HV6.out.below hb7 (Nat.le_refl _))
      clear hb7 HCT HB6 HV6
      go_wp2_with fail
      refine (HRW.out _ HB7.out).mono ?_
      rintro e w8 ⟨u, rfl, hu, hb8⟩
      obtain ⟨uo, ub, uc, rfl, hua⟩ := hu.at
      have HB8 := Lib.hid (HB7.out.trans (hb8.mono HB7.out.size))
      have HPS := Lib.hid (fun n => pairs_same ps vo uo vb 0 vc ub 0 uc (w8.drewN n) ((HV7.out.below hb8 (Nat.le_refl _)).below (below_drewN (Below.refl _ _) n) (Nat.le_refl _)) (hua.below (below_drewN (Below.refl _ _) n) (Nat.le_refl _)) HLP.out)
      clear hu hb8 hua HRW HB7 HV7
      go_wp2_with fail
      by_cases ej : j < 0
      · have tq1 : decide (j < 0) = true := decide_eq_true ej
        clear ej hj'
        rcases HCZ.out with ⟨rfl, tz⟩ | ⟨rfl, tz⟩
        · refine (HPS.out 0).mono ?_
          rintro e w10 ⟨rfl, m10, rfl⟩
          have HB10 := Lib.hid (below_drewN HB8.out m10)
          have c0 := HX0.out _ HB10.out
          go_wp2_with fail
          refine (awake_any _).mono ?_
          rintro e w12 ⟨rfl, hb12⟩
          have HB12 := Lib.hid (HB10.out.trans (hb12.mono HB10.out.size))
          clear hb12
          go_wp2
          go_ret
          exact ⟨rfl, HBD.out.trans (HB12.out.mono HBD.out.size)⟩
        · refine (HPS.out 0).mono ?_
          rintro e w10 ⟨rfl, m10, rfl⟩
          have HB10 := Lib.hid (below_drewN HB8.out m10)
          have c0 := HX0.out _ HB10.out
          go_wp2_with fail
          refine (awake_any _).mono ?_
          rintro e w12 ⟨rfl, hb12⟩
          have HB12 := Lib.hid (HB10.out.trans (hb12.mono HB10.out.size))
          clear hb12
          go_wp2
          go_ret
          exact ⟨rfl, HBD.out.trans (HB12.out.mono HBD.out.size)⟩
      · have tq1 : decide (j < 0) = false := decide_eq_false ej
        have tq2 : decide ((l : Int) ≤ j) = true := decide_eq_true (by omega)
        clear ej hj'
        rcases HCZ.out with ⟨rfl, tz⟩ | ⟨rfl, tz⟩
        · refine (HPS.out 0).mono ?_
          rintro e w10 ⟨rfl, m10, rfl⟩
          have HB10 := Lib.hid (below_drewN HB8.out m10)
          have c0 := HX0.out _ HB10.out
          go_wp2_with fail
          refine (awake_any _).mono ?_
          rintro e w12 ⟨rfl, hb12⟩
          have HB12 := Lib.hid (HB10.out.trans (hb12.mono HB10.out.size))
          clear hb12
          go_wp2
          go_ret
          exact ⟨rfl, HBD.out.trans (HB12.out.mono HBD.out.size)⟩
        · refine (HPS.out 0).mono ?_
          rintro e w10 ⟨rfl, m10, rfl⟩
          have HB10 := Lib.hid (below_drewN HB8.out m10)
          have c0 := HX0.out _ HB10.out
          go_wp2_with fail
          refine (awake_any _).mono ?_
          rintro e w12 ⟨rfl, hb12⟩
          have HB12 := Lib.hid (HB10.out.trans (hb12.mono HB10.out.size))
          clear hb12
          go_wp2
          go_ret
          exact ⟨rfl, HBD.out.trans (HB12.out.mono HBD.out.size)⟩
  · have HC := Lib.hid (fun W (hW : Below w2.heap.size w2 W) => check_bad X Y d xo xb 0 xc XA XB XO XC yo yb 0 yc YA YB YO YC W (HX2.out.below hW (Nat.le_refl _)) (HY2.out.below hW (Nat.le_refl _)) hs)
    have HW := Lib.hid (fun W (hW : Below w2.heap.size w2 W) => wrong_bad X Y d xo xb 0 xc XA XB XO XC yo yb 0 yc YA YB YO YC W (HX2.out.below hW (Nat.le_refl _)) (HY2.out.below hW (Nat.le_refl _)) hs)
    have HS := Lib.hid (fun W (hW : Below w2.heap.size w2 W) => strangers_bad X Y d j xo xb 0 xc XA XB XO XC yo yb 0 yc YA YB YO YC W (HX2.out.below hW (Nat.le_refl _)) (HY2.out.below hW (Nat.le_refl _)) hs)
    have HA := Lib.hid (fun W (hW : Below w2.heap.size w2 W) => access_any X xo xb 0 xc XA XB XO XC W (HX2.out.below hW (Nat.le_refl _)))
    have HCT := Lib.hid (fun W (hW : Below w2.heap.size w2 W) (h1 : 1 ≤ X.length) (h6 : X.length ≤ 6) => refCuts_any X.length Y d yo yb 0 yc YA YB YO YC W (HY2.out.below hW (Nat.le_refl _)) h1 h6)
    have HNS := Lib.hid hs
    clear hs
    go_wp2_with fail
    refine (HC.out _ (Below.refl _ _)).mono ?_
    rintro e w3 ⟨rfl, hb3⟩
    have HB3 := Lib.hid hb3
    clear hb3 HC
    go_wp2_with fail
    refine (HW.out _ HB3.out).mono ?_
    rintro e w4 ⟨rfl, hb4⟩
    have HB4 := Lib.hid (HB3.out.trans (hb4.mono HB3.out.size))
    clear hb4 HB3 HW
    go_wp2_with fail
    refine (HS.out _ HB4.out).mono ?_
    rintro e w5 ⟨rfl, hb5⟩
    have HB5 := Lib.hid (HB4.out.trans (hb5.mono HB4.out.size))
    clear hb5 HB4 HS
    go_wp2_with fail
    refine (HA.out _ HB5.out).mono ?_
    rintro e w6 ⟨rfl, hb6⟩
    have HB6 := Lib.hid (HB5.out.trans (hb6.mono HB5.out.size))
    clear hb6 HB5 HA
    obtain ⟨pl, hpl⟩ : ∃ pl, isPlan X = pl := ⟨_, rfl⟩
    rw [hpl]
    have HPL := Lib.hid hpl
    clear hpl
    cases hplv : pl
    · subst hplv
      go_wp2_with fail
      refine (awake_any _).mono ?_
      rintro e w9 ⟨rfl, hb9⟩
      have HB9 := Lib.hid (HB6.out.trans (hb9.mono HB6.out.size))
      clear hb9
      go_wp2
      go_ret
      exact ⟨rfl, HBD.out.trans (HB9.out.mono HBD.out.size)⟩
    · subst hplv
      by_cases e1 : d < 1
      · have t1 : decide (d < 1) = true := decide_eq_true e1
        clear e1
        go_wp2_with fail
        refine (awake_any _).mono ?_
        rintro e w9 ⟨rfl, hb9⟩
        have HB9 := Lib.hid (HB6.out.trans (hb9.mono HB6.out.size))
        clear hb9
        go_wp2
        go_ret
        exact ⟨rfl, HBD.out.trans (HB9.out.mono HBD.out.size)⟩
      · by_cases e2 : 4 < d
        · have t1 : decide (d < 1) = false := decide_eq_false e1
          have t2 : decide (4 < d) = true := decide_eq_true e2
          clear e1 e2
          go_wp2_with fail
          refine (awake_any _).mono ?_
          rintro e w9 ⟨rfl, hb9⟩
          have HB9 := Lib.hid (HB6.out.trans (hb9.mono HB6.out.size))
          clear hb9
          go_wp2
          go_ret
          exact ⟨rfl, HBD.out.trans (HB9.out.mono HBD.out.size)⟩
        · have t1 : decide (d < 1) = false := decide_eq_false e1
          have t2 : decide (4 < d) = false := decide_eq_false e2
          have hpp : IsPlan X := of_decide_eq_true HPL.out
          have HCN := Lib.hid (HCT.out _ HB6.out hpp.pos hpp.le)
          have hcf : decide (OkCuts X.length Y d) = false := decide_eq_false fun h => HNS.out ⟨hpp, ⟨by omega, by omega⟩, h⟩
          rw [hcf] at HCN
          clear e1 e2 hpp hcf HCT
          go_wp2_with fail
          refine HCN.out.mono ?_
          rintro e w7 ⟨rfl, hb7⟩
          have HB7 := Lib.hid (HB6.out.trans (hb7.mono HB6.out.size))
          clear hb7 HB6 HCN
          go_wp2_with fail
          refine (awake_any _).mono ?_
          rintro e w9 ⟨rfl, hb9⟩
          have HB9 := Lib.hid (HB7.out.trans (hb9.mono HB7.out.size))
          clear hb9
          go_wp2
          go_ret
          exact ⟨rfl, HBD.out.trans (HB9.out.mono HBD.out.size)⟩

end Go.Proofs.Ytjibdolhipddbaa
