/- LocksPlans, walked. -/
import Derived.Test.YtjibdolhipddbaaT7
import Derived.Test.YtjibdolhipddbaaRg
import Derived.Test.YtjibdolhipddbaaQj
namespace Go.Proofs.Ytjibdolhipddbaa
open Go.RowKit Go.Maps

set_option maxHeartbeats 8000000 in
set_option maxRecDepth 100000 in
theorem plans_any (L : List (List Int)) (c d : Int) (ao : Option Addr) (b o cap : Nat) (A : Nat → Option Addr) (B O C : Nat → Nat) (w : World)
    (H : RowsAt w ao b o L A B O C) (hc : CapsOk L A C) (_h0 : -9223372036854775808 ≤ c ∧ c ≤ 9223372036854775807) (_h1 : -9223372036854775808 ≤ d ∧ d ≤ 9223372036854775807) :
    Calls Try.prog 3 #[.slice ao L.length cap, .agg #[.int .i64 c, .int .i64 d]] w fun e w' => e = .returned (.bool true) ∧ Below w.heap.size w w' := by
  have HT := Lib.hid (fun W (hW : Below w.heap.size w W) => table_any L ao b o cap A B O C W (H.below hW (Nat.le_refl _)) hc)
  clear H hc
  go_enter Try.func3, Try.ntmps3
  go_wp2_with fail
  have HBX := Lib.hid ((Below.refl _ w).alloc (Nat.le_refl _) (.cells #[.int .i64 c, .int .i64 d] 23))
  have HBOX := Lib.hid (heap_alloc_new w (.cells #[.int .i64 c, .int .i64 d] 23))
  refine (HT.out _ HBX.out).mono ?_
  rintro e w1 ⟨⟨v, rfl, hr⟩, hb⟩
  obtain ⟨X, hX⟩ : ∃ X, trim8 L = X := ⟨_, rfl⟩
  have hX8 : X.length ≤ 8 := by rw [← hX, trim8, List.length_map, List.length_take]; omega
  rw [hX] at hr
  obtain ⟨xo, xb, xc, XA, XB, XO, XC, rfl, hat, -⟩ := hr.at2 (by omega)
  have HB1 := Lib.hid (HBX.out.trans (hb.mono HBX.out.size))
  have HBOX1 := Lib.hid ((hb.block _ (lt_of_block HBOX.out)).trans HBOX.out)
  have HX1 := Lib.hid hat
  clear hX HT hr hat hb HBX HBOX
  have c0 : w1.cell? ⟨w.heap.size, 0, none⟩ = some (.int .i64 c) := by rw [cell_of_row _ _ _ _ _ _ HBOX1.out]; rfl
  have c1 : w1.cell? ⟨w.heap.size, 1, none⟩ = some (.int .i64 d) := by rw [cell_of_row _ _ _ _ _ _ HBOX1.out]; rfl
  clear HBOX1
  go_wp2_with fail
  go_quiet (fail)
  obtain ⟨w2, hw2⟩ : ∃ w2, w1.drewN nq = w2 := ⟨_, rfl⟩
  have HB2 := Lib.hid (show Below w.heap.size w w2 by rw [← hw2]; exact below_drewN HB1.out _)
  have HX := Lib.hid (show RowsAt w2 xo xb 0 X XA XB XO XC by rw [← hw2]; exact HX1.out.below (below_drewN (Below.refl _ _) _) (Nat.le_refl _))
  rw [hw2]
  clear c0 c1 hw2 HB1 HX1
  have HA := Lib.hid (fun W (hW : Below w2.heap.size w2 W) => access_any X xo xb 0 xc XA XB XO XC W (HX.out.below hW (Nat.le_refl _)))
  by_cases hok : IsPlan X ∧ 1 ≤ d ∧ d ≤ 4
  · obtain ⟨hp, hd1, hd4⟩ := hok
    obtain ⟨D, hD⟩ : ∃ D : Nat, d = D := ⟨d.toNat, by omega⟩
    subst hD
    have hDD : 1 ≤ D ∧ D ≤ 4 := by omega
    obtain ⟨rfl, -⟩ := HX.out.ptr hp.pos
    have HP := Lib.hid hp
    rw [show isPlan X = true from decide_eq_true hp] at HA
    have HLE := Lib.hid (fun W (hW : Below w2.heap.size w2 W) => least_pos X D _ xb 0 xc XA XB XO XC W (HX.out.below hW (Nat.le_refl _)) hp hDD)
    have HRL := Lib.hid (fun W (hW : Below w2.heap.size w2 W) => refLeast_any X D _ xb 0 xc XA XB XO XC W (HX.out.below hW (Nat.le_refl _)) hp hDD)
    have td1 : decide ((D : Int) < 1) = false := decide_eq_false (by omega)
    have td2 : decide (4 < (D : Int)) = false := decide_eq_false (by omega)
    have hX6 := hp.le
    have hX1 := hp.pos
    clear hp hd1 hd4
    by_cases hcc : 1 ≤ c ∧ c ≤ 4
    · obtain ⟨cn, hcn⟩ : ∃ cn : Nat, c = cn := ⟨c.toNat, by omega⟩
      subst hcn
      have hc4 : 1 ≤ cn ∧ cn ≤ 4 := by omega
      have HPL := Lib.hid (plan_pos X cn D _ xb 0 xc XA XB XO XC w2 HX.out HP.out hc4 hDD)
      have tc1 : decide ((cn : Int) < 1) = false := decide_eq_false (by omega)
      have tc2 : decide (4 < (cn : Int)) = false := decide_eq_false (by omega)
      clear hcc
      go_wp2_with fail
      refine HPL.out.mono ?_
      rintro e w3 ⟨⟨v, k, rfl, hk⟩, hb3⟩
      have HB3 := Lib.hid hb3
      clear hb3 HPL
      go_wp2_with fail
      refine (HLE.out _ HB3.out).mono ?_
      rintro e w4 ⟨⟨n, rfl, hn⟩, hb4⟩
      have HB4 := Lib.hid (HB3.out.trans (hb4.mono HB3.out.size))
      have HB34 := Lib.hid hb4
      clear hb4 HLE
      go_wp2_with fail
      refine (HA.out _ HB4.out).mono ?_
      rintro e w5 ⟨rfl, hb5⟩
      have HB5 := Lib.hid (HB4.out.trans (hb5.mono HB4.out.size))
      have HB35 := Lib.hid (HB34.out.trans (hb5.mono HB34.out.size))
      clear hb5 HA HB4 HB34
      go_wp2_with fail
      refine (HRL.out _ HB5.out).mono ?_
      rintro e w6 ⟨⟨n2, rfl, hn2⟩, hb6⟩
      obtain rfl : n2 = n := least_inj (fun _ => Iff.rfl) hn hn2
      have HB6 := Lib.hid (HB5.out.trans (hb6.mono HB5.out.size))
      have HB36 := Lib.hid (HB35.out.trans (hb6.mono HB35.out.size))
      clear hb6 HRL HB5 HB35
      rcases hk with ⟨rfl, rfl, hno⟩ | ⟨rfl, hyes, Y, hY, hnr⟩
      · have hnc : n2 = 0 ∨ cn < n2 := by
          by_cases e : n2 = 0
          · exact .inl e
          · right
            have := least_from hDD.1 hn (by omega) hc4.1
            by_cases q : cn < n2
            · exact q
            · exact absurd (this.2 (by omega)) hno
        obtain ⟨nz, hnz⟩ : ∃ nz : Int, ((n2 : Nat) : Int) = nz := ⟨_, rfl⟩
        have hnc2 : nz = 0 ∨ (nz ≠ 0 ∧ (cn : Int) < nz) := by omega
        rw [hnz]
        clear hno hn hn2 hnc hnz
        rcases hnc2 with rfl | ⟨e1, e2⟩
        · go_wp2_with fail
          refine (awake_any _).mono ?_
          rintro e w7 ⟨rfl, hb7⟩
          have HB7 := Lib.hid (HB2.out.trans ((HB6.out.trans (hb7.mono HB6.out.size)).mono HB2.out.size))
          clear hb7
          go_wp2
          go_ret
          exact ⟨rfl, HB7.out⟩
        · have t1 : (nz == 0) = false := beq_eq_false_iff_ne.2 e1
          have t2 : decide ((cn : Int) < nz) = true := decide_eq_true e2
          clear e1 e2
          go_wp2_with fail
          refine (awake_any _).mono ?_
          rintro e w7 ⟨rfl, hb7⟩
          have HB7 := Lib.hid (HB2.out.trans ((HB6.out.trans (hb7.mono HB6.out.size)).mono HB2.out.size))
          clear hb7
          go_wp2
          go_ret
          exact ⟨rfl, HB7.out⟩
      · have hnc : n2 ≠ 0 ∧ n2 ≤ cn := by
          have h1 : n2 ≠ 0 := by
            intro e
            rcases hn with ⟨_, h⟩ | ⟨h, _⟩
            · exact h cn hc4.1 hc4.2 hyes
            · omega
          exact ⟨h1, (least_from hDD.1 hn (by omega) hc4.1).1 hyes⟩
        obtain ⟨hoc, hwr⟩ := cuts_right HP.out hDD hc4 hY
        have HQL := Lib.hid (cutsL_len Y cn X.length)
        have HQ0 := Lib.hid (show (row (cutsL Y cn X.length) 0).length = cn by rw [cutsL_row _ _ _ (by omega), cutRow_len])
        obtain ⟨Q, hQ⟩ : ∃ Q, cutsL Y cn X.length = Q := ⟨_, rfl⟩
        rw [hQ] at hnr hoc hwr HQL HQ0
        obtain ⟨qo, qb, qc, QA, QB, QO, QC, rfl, hqat⟩ := hnr.at (by have := HQL.out; omega)
        obtain ⟨rfl, -⟩ := hqat.ptr (by have := HQL.out; omega)
        have HQA := Lib.hid (fun W (hW : Below w3.heap.size w3 W) => hqat.below hW (Nat.le_refl _))
        have HOK := Lib.hid hoc
        have HWL := Lib.hid (show wrL (wrF X Q) 36 = [] from (wrL_nil_iff _ 36).2 fun t _ => hwr t)
        have HSZ := Lib.hid (show S36 (wrS X Q) = 0 from S36_eq_zero.2 fun t _ => by rw [wrS_eq HP.out hoc]; exact hwr t)
        have HXW := Lib.hid (fun W (hW : Below w6.heap.size w6 W) => HX.out.below (HB6.out.trans (hW.mono HB6.out.size)) (Nat.le_refl _))
        have HQW := Lib.hid (fun W (hW : Below w6.heap.size w6 W) => HQA.out W (HB36.out.trans (hW.mono HB36.out.size)))
        have HCT := Lib.hid (refCuts_any X.length Q D _ qb 0 qc QA QB QO QC w6 (HQW.out _ (Below.refl _ _)) hX1 hX6)
        rw [decide_eq_true hoc] at HCT
        have HRW := Lib.hid (fun W (hW : Below w6.heap.size w6 W) => refWrong_any X Q D _ xb 0 xc XA XB XO XC _ qb 0 qc QA QB QO QC W (HXW.out W hW) (HQW.out W hW) HP.out HOK.out)
        rw [HWL.out] at HRW
        have HCK := Lib.hid (fun W (hW : Below w6.heap.size w6 W) => check_ok X Q D _ xb 0 xc XA XB XO XC _ qb 0 qc QA QB QO QC W (HXW.out W hW) (HQW.out W hW) HP.out (by omega) HOK.out)
        rw [HSZ.out, if_pos rfl] at HCK
        have HC0 := Lib.hid (show ∀ W, Below w6.heap.size w6 W → W.cell? ⟨qb, 0, none⟩ = some (.slice (QA 0) cn (QC 0)) from fun W hW => by
          have := (HQW.out W hW).cell 0 (by have := HQL.out; omega)
          rwa [HQ0.out, Nat.zero_add] at this)
        have hql : 0 < Q.length := by have := HQL.out; omega
        obtain ⟨nz, hnz⟩ : ∃ nz : Int, ((n2 : Nat) : Int) = nz := ⟨_, rfl⟩
        have t1 : (nz == 0) = false := beq_eq_false_iff_ne.2 (by omega)
        have t2 : decide ((cn : Int) < nz) = false := decide_eq_false (by omega)
        rw [hnz]
        clear hnc hn hn2 hnz hyes hY hnr hoc hwr hQ hqat HWL HSZ
        go_wp2_with fail
        refine HCT.out.mono ?_
        rintro e w7 ⟨rfl, hb7⟩
        have HB7 := Lib.hid hb7
        have cq := HC0.out _ hb7
        clear hb7 HCT
        go_wp2_with fail
        refine (HRW.out _ HB7.out).mono ?_
        rintro e w8 ⟨v, rfl, hv, hb8⟩
        obtain ⟨vo, vb, vc, rfl, -⟩ := hv.at
        have HB8 := Lib.hid (HB7.out.trans (hb8.mono HB7.out.size))
        clear hv hb8 cq HRW
        go_wp2_with fail
        refine (HCK.out _ HB8.out).mono ?_
        rintro e w9 ⟨rfl, hb9⟩
        have HB9 := Lib.hid (HB8.out.trans (hb9.mono HB8.out.size))
        clear hb9 HCK
        go_wp2_with fail
        refine (awake_any _).mono ?_
        rintro e w10 ⟨rfl, hb10⟩
        have HB10 := Lib.hid (HB9.out.trans (hb10.mono HB9.out.size))
        have HBA := Lib.hid (HB2.out.trans ((HB6.out.trans (HB10.out.mono HB6.out.size)).mono HB2.out.size))
        clear hb10
        go_wp2
        go_ret
        exact ⟨rfl, HBA.out⟩
    · have HPL := Lib.hid (plan_bad X c D _ xb 0 xc XA XB XO XC w2 HX.out (.inr (.inl hcc)))
      have hcz : c < 1 ∨ (1 ≤ c ∧ 4 < c) := by omega
      go_wp2_with fail
      refine HPL.out.mono ?_
      rintro e w3 ⟨rfl, hb3⟩
      have HB3 := Lib.hid hb3
      clear hb3 HPL hcc
      go_wp2_with fail
      refine (HLE.out _ HB3.out).mono ?_
      rintro e w4 ⟨⟨n, rfl, hn⟩, hb4⟩
      have HB4 := Lib.hid (HB3.out.trans (hb4.mono HB3.out.size))
      clear hb4 HLE
      go_wp2_with fail
      refine (HA.out _ HB4.out).mono ?_
      rintro e w5 ⟨rfl, hb5⟩
      have HB5 := Lib.hid (HB4.out.trans (hb5.mono HB4.out.size))
      clear hb5 HA
      go_wp2_with fail
      refine (HRL.out _ HB5.out).mono ?_
      rintro e w6 ⟨⟨n2, rfl, hn2⟩, hb6⟩
      obtain rfl : n2 = n := least_inj (fun _ => Iff.rfl) hn hn2
      have HB6 := Lib.hid (HB5.out.trans (hb6.mono HB5.out.size))
      clear hb6 HRL hn hn2
      rcases hcz with h | ⟨h1, h2⟩
      · have t1 : decide (c < 1) = true := decide_eq_true h
        clear h
        go_wp2_with fail
        refine (awake_any _).mono ?_
        rintro e w7 ⟨rfl, hb7⟩
        have HB7 := Lib.hid (HB2.out.trans ((HB6.out.trans (hb7.mono HB6.out.size)).mono HB2.out.size))
        clear hb7
        go_wp2
        go_ret
        exact ⟨rfl, HB7.out⟩
      · have t1 : decide (c < 1) = false := decide_eq_false (by omega)
        have t2 : decide (4 < c) = true := decide_eq_true h2
        clear h1 h2
        go_wp2_with fail
        refine (awake_any _).mono ?_
        rintro e w7 ⟨rfl, hb7⟩
        have HB7 := Lib.hid (HB2.out.trans ((HB6.out.trans (hb7.mono HB6.out.size)).mono HB2.out.size))
        clear hb7
        go_wp2
        go_ret
        exact ⟨rfl, HB7.out⟩
  · have hbad : isPlan X = false ∨ ¬ (1 ≤ d ∧ d ≤ 4) := by
      by_cases hp : IsPlan X
      · exact .inr fun q => hok ⟨hp, q⟩
      · exact .inl (not_plan hp)
    have HPL := Lib.hid (plan_bad X c d xo xb 0 xc XA XB XO XC w2 HX.out (by rcases hbad with h | h; exact .inl h; exact .inr (.inr h)))
    have HLE := Lib.hid (fun W (hW : Below w2.heap.size w2 W) => least_bad X d xo xb 0 xc XA XB XO XC W (HX.out.below hW (Nat.le_refl _)) hbad)
    have hcase : isPlan X = false ∨ (isPlan X = true ∧ d < 1) ∨ (isPlan X = true ∧ 1 ≤ d ∧ 4 < d) := by
      rcases hbad with h | h
      · exact .inl h
      · cases e : isPlan X
        · exact .inl rfl
        · right
          by_cases q : d < 1
          · exact .inl ⟨rfl, q⟩
          · exact .inr ⟨rfl, by omega, by omega⟩
    clear hok hbad
    go_wp2_with fail
    refine HPL.out.mono ?_
    rintro e w3 ⟨rfl, hb3⟩
    have HB3 := Lib.hid hb3
    clear hb3 HPL
    go_wp2_with fail
    refine (HLE.out _ HB3.out).mono ?_
    rintro e w4 ⟨rfl, hb4⟩
    have HB4 := Lib.hid (HB3.out.trans (hb4.mono HB3.out.size))
    clear hb4 HLE
    go_wp2_with fail
    refine (HA.out _ HB4.out).mono ?_
    rintro e w5 ⟨rfl, hb5⟩
    have HB5 := Lib.hid (HB4.out.trans (hb5.mono HB4.out.size))
    clear hb5 HA
    rcases hcase with h | ⟨h, h2⟩ | ⟨h, h2, h3⟩
    · rw [h]
      clear h
      go_wp2_with fail
      refine (awake_any _).mono ?_
      rintro e w7 ⟨rfl, hb7⟩
      have HB7 := Lib.hid (HB2.out.trans ((HB5.out.trans (hb7.mono HB5.out.size)).mono HB2.out.size))
      clear hb7
      go_wp2
      go_ret
      exact ⟨rfl, HB7.out⟩
    · rw [h]
      have t1 : decide (d < 1) = true := decide_eq_true h2
      clear h h2
      go_wp2_with fail
      refine (awake_any _).mono ?_
      rintro e w7 ⟨rfl, hb7⟩
      have HB7 := Lib.hid (HB2.out.trans ((HB5.out.trans (hb7.mono HB5.out.size)).mono HB2.out.size))
      clear hb7
      go_wp2
      go_ret
      exact ⟨rfl, HB7.out⟩
    · rw [h]
      have t1 : decide (d < 1) = false := decide_eq_false (by omega)
      have t2 : decide (4 < d) = true := decide_eq_true h3
      clear h h2 h3
      go_wp2_with fail
      refine (awake_any _).mono ?_
      rintro e w7 ⟨rfl, hb7⟩
      have HB7 := Lib.hid (HB2.out.trans ((HB5.out.trans (hb7.mono HB5.out.size)).mono HB2.out.size))
      clear hb7
      go_wp2
      go_ret
      exact ⟨rfl, HB7.out⟩

end Go.Proofs.Ytjibdolhipddbaa
