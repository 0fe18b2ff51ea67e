/- N2 N3 -/
import Derived.Test.YtjibdolhipddbaaRg
import Derived.Test.YtjibdolhipddbaaQs
import Derived.Test.YtjibdolhipddbaaQm
/- LocksOwn, walked. -/
namespace Go.Proofs.Ytjibdolhipddbaa
open Go.RowKit Go.Maps

theorem trim8_same {X : List (List Int)} (h : X.length ≤ 8) (h2 : ∀ i, i < X.length → (row X i).length ≤ 8) : trim8 X = X := by
  refine rows_eq (by unfold trim8; simp; omega) fun i hi => ?_
  have hi' : i < X.length := by unfold trim8 at hi; simp at hi; omega
  have : row (trim8 X) i = (row X i).take 8 := by
    unfold trim8 row
    simp [List.getD_eq_getElem?_getD, hi', show i < 8 by omega]
  rw [this, List.take_of_length_le (h2 i hi')]

set_option maxHeartbeats 8000000 in
set_option maxRecDepth 100000 in
theorem owns_any (L : List (List Int)) (d : Int) (ao : Option Addr) (b o cap : Nat) (A : Nat → Option Addr) (B O C : Nat → Nat) (w : World) (H : RowsAt w ao b o L A B O C) (_hc : CapsOk L A C) (hdw : -9223372036854775808 ≤ d ∧ d ≤ 9223372036854775807) :
    Calls Try.prog 10 #[.slice ao L.length cap, .int .i64 d] w fun e w' => e = .returned (.bool true) ∧ Below w.heap.size w w' := by
  have HT := Lib.hid (tame_any L ao b o cap A B O C w H)
  have HMD := Lib.hid (fun W => mod_any d 4 W hdw (by omega) (by omega))
  have hmb := modI_bd (x := d) (n := 4) (by omega)
  obtain ⟨mv, hmv⟩ : ∃ mv, modI d 4 = mv := ⟨_, rfl⟩
  unfold Hid at HMD
  simp only [hmv] at HMD
  have HMD := Lib.hid HMD
  rw [hmv] at hmb
  obtain ⟨D, hD⟩ : ∃ D : Nat, (1 : Int) + mv = (D : Int) := ⟨(1 + mv).toNat, by omega⟩
  have hD4 : 1 ≤ D ∧ D ≤ 4 := by omega
  clear H hmv hdw
  go_enter Try.func10, Try.ntmps10
  go_wp2_with fail
  refine HT.out.mono ?_
  rintro e w1 ⟨v, rfl, hr, hb⟩
  obtain ⟨X, hX⟩ : ∃ X, tm L 6 = X := ⟨_, rfl⟩
  have hp : IsPlan X := by rw [← hX]; exact tm_plan L
  rw [hX] at hr
  obtain ⟨xo, xb, xc, XA, XB, XO, XC, rfl, hat, hcap⟩ := hr.at2 (by have := hp.le; omega)
  obtain ⟨rfl, -⟩ := hat.ptr hp.pos
  have hl6 : ∀ i, i < X.length → 1 ≤ (row X i).length ∧ (row X i).length ≤ 6 := fun i hi => by rw [hp.len i hi]; exact ⟨hp.pos0, hp.le0⟩
  have hX6 := hp.le
  have hX1 := hp.pos
  have HTB := Lib.hid (table_any X _ xb 0 xc XA XB XO XC w1 hat fun i hi => ⟨hcap i hi, fun q => by
    have := (hat.rows i hi).ptr (by have := hl6 i hi; omega)
    rw [q] at this; cases this.1⟩)
  rw [trim8_same (by omega) fun i hi => by have := hl6 i hi; omega] at HTB
  have HX1 := Lib.hid hat
  have HCAP := Lib.hid hcap
  have HP := Lib.hid hp
  have HB1 := Lib.hid hb
  have HLN := Lib.hid hl6
  clear hX HT hr hat hb hcap hl6
  go_wp2_with fail
  refine HTB.out.mono ?_
  rintro e w2 ⟨⟨v, rfl, hr⟩, hb⟩
  obtain ⟨yo, yb, yc, YA, YB, YO, YC, rfl, hat, -⟩ := hr.at2 (by omega)
  have HY := Lib.hid hat
  have HX := Lib.hid (HX1.out.below hb (Nat.le_refl _))
  have HB2 := Lib.hid (HB1.out.trans (hb.mono HB1.out.size))
  clear HTB hr hat hb HX1 HB1
  have HPL := Lib.hid (show ∀ W, Below w2.heap.size w2 W → Calls Try.prog 12 #[.slice (some ⟨xb, 0, none⟩) X.length xc, .int .i64 4, .int .i64 D] W fun e w' =>
      (∃ v k, e = .returned (.tuple #[v, .int .i64 k]) ∧ ((k = 6 ∧ v = .slice none 0 0 ∧ ¬ PosA X D 4) ∨ (k = 0 ∧ PosA X D 4 ∧ ∃ Y, CovA X D 4 Y ∧ NewRows W.heap.size w' v (cutsL Y 4 X.length)))) ∧ Below W.heap.size W w' from
    fun W hW => plan_pos X 4 D _ xb 0 xc XA XB XO XC W (HX.out.below hW (Nat.le_refl _)) HP.out (by omega) hD4)
  have HMG := Lib.hid (fun W (hW : Below w2.heap.size w2 W) => merge_ok X _ xb 0 xc XA XB XO XC W (HX.out.below hW (Nat.le_refl _)) HCAP.out HP.out)
  have HML := Lib.hid (mgK_len X X.length)
  have HMN := Lib.hid (mgN_len X X.length)
  have HMP := Lib.hid (show ∀ x ∈ mgK X X.length, x.length ≤ 8 from fun x hx => by
    obtain ⟨q, hq, e⟩ := mgK_rows X.length (Nat.le_refl _) _ hx
    rw [← e]; have := HLN.out q hq; omega)
  go_wp2_with fail
  refine (HMD.out _).mono ?_
  rintro e w2 ⟨rfl, rfl⟩
  go_wp2_with fail
  refine (HPL.out _ (Below.refl _ _)).mono ?_
  rintro e w3 ⟨⟨v, k, rfl, hk⟩, hb3⟩
  have HK := Lib.hid hk
  have HB3 := Lib.hid hb3
  clear hk hb3
  go_wp2_with fail
  refine (HMG.out _ HB3.out).mono ?_
  rintro e w4 ⟨m, n, rfl, hm, hn, hb4⟩
  have HB4 := Lib.hid (HB3.out.trans (hb4.mono HB3.out.size))
  have HM := Lib.hid (hm.mono HB3.out.size)
  have HN := Lib.hid (hn.mono HB3.out.size)
  have HPV := Lib.hid (show ∃ RP : List (List Int), RP.length ≤ 6 ∧ (∀ x ∈ RP, x.length ≤ 8) ∧ ((RP = [] ∧ v = .slice none 0 0) ∨ (1 ≤ RP.length ∧ NewRows w2.heap.size w4 v RP)) from by
    rcases HK.out with ⟨rfl, rfl, -⟩ | ⟨rfl, -, Y, -, h⟩
    · exact ⟨[], by simp, fun i hi => absurd hi (by simp), .inl ⟨rfl, rfl⟩⟩
    · exact ⟨_, by rw [cutsL_len]; exact hX6, fun x hx => by
        obtain ⟨i, hi, e⟩ := mem_row hx
        rw [cutsL_len] at hi
        rw [← e, cutsL_row _ _ _ hi, cutRow_len]; omega, .inr ⟨by rw [cutsL_len]; exact hX1, h.below hb4 (Nat.le_refl _)⟩⟩)
  have HMX := Lib.hid (mgK_has (a := X) X.length 0 (by omega))
  have hm1 : 1 ≤ (mgK X X.length).length := List.length_pos_of_mem HMX.out
  obtain ⟨MK, hMK⟩ : ∃ MK, mgK X X.length = MK := ⟨_, rfl⟩
  obtain ⟨MN, hMN⟩ : ∃ MN, mgN X X.length = MN := ⟨_, rfl⟩
  rw [hMK] at HM HML HMP hm1
  rw [hMN] at HN HMN
  obtain ⟨no, nb, nc, rfl, -, -⟩ := HN.out.at
  obtain ⟨mb, mc, ms, rfl, hmc, hmb1, hmb2, hmin⟩ := HM.out.in hm1
  have HMI := Lib.hid hmin
  clear hm hn hb4 HMG HMD hMK hMN HMX hmin HM
  go_upto_region 6 with fail
  go_cut [12] from 36 to 41 (fun v wx => ∃ RR : List (List Int), NewRows w2.heap.size wx v RR ∧ 1 ≤ RR.length ∧ RR.length ≤ 13 ∧ (∀ x ∈ RR, x.length ≤ 8) ∧ Below w2.heap.size w2 wx)
  case first =>
    obtain ⟨j0, hj0, jz0, jz1, jz2⟩ := info_parts Try.info34
    obtain ⟨RP, hrp6, hrp8, hrp⟩ := HPV.out
    obtain ⟨w5, hw5⟩ : ∃ w5, w4.alloc (.cells #[.slice no MN.length nc] 34) = w5 := ⟨_, rfl⟩
    have hal : Below w4.heap.size w4 w5 := by rw [← hw5]; exact (Below.refl _ w4).alloc (Nat.le_refl _) _
    have hown1 : w5.ownsRow w2.heap.size 34 1 (.slice (some ⟨w4.heap.size, 0, none⟩) 1 1) 1 [.slice no MN.length nc] := by
      refine ⟨rfl, .inr ⟨w4.heap.size, 1, #[.slice no MN.length nc], rfl, HB4.out.size, by rw [← hw5]; exact heap_alloc_new _ _, Nat.le_refl _, by unfold maxLen; omega, rfl, rfl⟩⟩
    have hnr5 : NewRows w2.heap.size w5 (.slice (some ⟨w4.heap.size, 0, none⟩) 1 1) [MN] := ⟨_, hown1, fun j hj => by
      have : j = 0 := by simp at hj; omega
      subst this
      exact ⟨_, rfl, HN.out.below hal (Nat.le_refl _)⟩, fun u hu => by rw [List.mem_singleton.1 hu]; rfl⟩
    have HB5 := Lib.hid (HB4.out.trans (hal.mono HB4.out.size))
    have HAL := Lib.hid hal
    have HO1 := Lib.hid hown1
    have HR5 := Lib.hid hnr5
    have HW5 := Lib.hid hw5
    have HRP8 := Lib.hid hrp8
    have hms : ms.length = MK.length := HMI.out.len
    have hmk6 := HML.out
    have hgl : ∀ (W : World) (k : Nat), Below w4.heap.size w4 W → ∀ j u, ms[j]? = some u → W.cell? ((⟨mb, 0, none⟩ : Addr).add j) = some u := fun W _ hW j u hj => HMI.out.drop hW hmb2 0 j u (by simpa using hj)
    have HGL := Lib.hid hgl
    clear hal hown1 hnr5 hw5 hrp8 hgl
    rcases hrp with ⟨rfl, rfl⟩ | ⟨hrp1, hrp⟩
    · have HNM := Lib.hid (HGL.out w5 0 HAL.out)
      go_wp2_with (first
        | (at_builtin; rw [HW5.out]; refine wpList_append_own_none rfl (.tmp 37) (.tmp 38) 22 rfl w2.heap.size 34 j0 1 Try.underlying22 hj0 (.slice (some ⟨w4.heap.size, 0, none⟩) 1 1) 1 [.slice no MN.length nc] rfl HO1.out rfl ?_)
        | (at_builtin; refine wpList_append_own _ rfl (.tmp 39) (.tmp 40) 22 rfl w2.heap.size 34 j0 (.slice none 0 0) 1 24 Try.underlying22 hj0 jz0 jz1 jz2 rfl (by decide) (.slice (some ⟨w4.heap.size, 0, none⟩) 1 1) 1 [.slice no MN.length nc] rfl HO1.out ⟨mb, 0, none⟩ MK.length mc ms rfl ?r1 HNM.out HMI.out.one ?r2 ?r3 ?r4 ?_)
        | (fail))
      case r2 => unfold maxLen; omega
      case r3 => omega
      case r4 => exact HB5.out.size
      intro v1 w7 hown hg _
      have hn7 : NewRows w2.heap.size w7 v1 ([MN] ++ MK) := by
        refine NewRows.append HO1.out ?_ ?_ hms (fun j hj => by simpa using HMI.out.dp HAL.out 0 j (by simpa using hj)) HMI.out.one hown hg
        · intro j hj
          have : j = 0 := by simp at hj; omega
          subst this
          exact ⟨_, rfl, HN.out.below HAL.out (Nat.le_refl _)⟩
        · intro u hu; rw [List.mem_singleton.1 hu]; rfl
      have HR7 := Lib.hid hn7
      have HB7 := Lib.hid (HB5.out.grown hg HB5.out.size (fun r hr => by simp [Value.ownBlock] at hr; have := HB4.out.size; omega))
      clear hown hg hn7
      go_wp2
      go_meet
      exact ⟨_, HR7.out, by simp, by simp; omega, fun x hx => by
        rcases List.mem_append.1 hx with q | q
        · rw [List.mem_singleton.1 q, HMN.out]; omega
        · exact HMP.out x q, HB7.out⟩
    · obtain ⟨pb, pc, ps, rfl, hpc, hpb1, hpb2, hpin⟩ := hrp.in hrp1
      have HPI := Lib.hid hpin
      have hps : ps.length = RP.length := hpin.len
      have HNP := Lib.hid (show ∀ j u, ps[j]? = some u → w5.cell? ((⟨pb, 0, none⟩ : Addr).add j) = some u from fun j u hj => HPI.out.drop HAL.out hpb2 0 j u (by simpa using hj))
      clear hpin hrp
      go_wp2_with (first
        | (at_builtin; rw [HW5.out]; refine wpList_append_own _ rfl (.tmp 37) (.tmp 38) 22 rfl w2.heap.size 34 j0 (.slice none 0 0) 1 24 Try.underlying22 hj0 jz0 jz1 jz2 rfl (by decide) (.slice (some ⟨w4.heap.size, 0, none⟩) 1 1) 1 [.slice no MN.length nc] rfl HO1.out ⟨pb, 0, none⟩ RP.length pc ps rfl ?q1 HNP.out HPI.out.one ?q2 ?q3 ?q4 ?_)
        | (fail))
      case q1 => omega
      case q2 => unfold maxLen; omega
      case q3 => omega
      case q4 => exact HB5.out.size
      intro v1 w6 hown hg _
      have hn6 : NewRows w2.heap.size w6 v1 ([MN] ++ RP) := by
        obtain ⟨xs, e1, e2, e3⟩ := HR5.out.ex
        refine NewRows.append HO1.out ?_ ?_ hps (fun j hj => by simpa using HPI.out.dp HAL.out 0 j (by simpa using hj)) HPI.out.one hown hg
        · intro j hj
          have : j = 0 := by simp at hj; omega
          subst this
          exact ⟨_, rfl, HN.out.below HAL.out (Nat.le_refl _)⟩
        · intro u hu; rw [List.mem_singleton.1 hu]; rfl
      have hb6 : Below w4.heap.size w4 w6 := HAL.out.grown hg HAL.out.size (fun r hr => by simp [Value.ownBlock] at hr; omega)
      have HB6 := Lib.hid (HB4.out.trans (hb6.mono HB4.out.size))
      have HNM := Lib.hid (HGL.out w6 0 hb6)
      obtain ⟨xs, e1, e2, e3⟩ := hn6.ex
      have HE1 := Lib.hid e1
      have HE2 := Lib.hid e2
      have HE3 := Lib.hid e3
      have HXL := Lib.hid (show ([MN] ++ RP).length = 1 + RP.length by simp; omega)
      obtain ⟨XS, hXS⟩ : ∃ XS, [MN] ++ RP = XS := ⟨_, rfl⟩
      have HXS := Lib.hid hXS
      rw [hXS] at HE1 HE2 HXL
      have HM6 := Lib.hid (fun j hj => HMI.out.dp hb6 0 j hj)
      clear hown hg hn6 hb6 e1 e2 e3 hXS
      go_wp2_with (first
        | (at_builtin; refine wpList_append_own _ rfl (.tmp 39) (.tmp 40) 22 rfl w2.heap.size 34 j0 (.slice none 0 0) 1 24 Try.underlying22 hj0 jz0 jz1 jz2 rfl (by decide) v1 XS.length xs rfl HE1.out ⟨mb, 0, none⟩ MK.length mc ms rfl ?q5 HNM.out HMI.out.one ?q6 ?q7 ?q8 ?_)
        | (fail))
      case q5 => omega
      case q6 => have := HXL.out; unfold maxLen; omega
      case q7 => have := HXL.out; omega
      case q8 => exact HB6.out.size
      intro v2 w7 hown hg _
      have HR7 := Lib.hid (NewRows.append HE1.out HE2.out HE3.out hms (fun j hj => by simpa using HM6.out j (by simpa using hj)) HMI.out.one hown hg)
      have HB7 := Lib.hid (HB6.out.grown hg HB6.out.size (fun r hr => (HE1.out.lt r hr).1))
      clear hown hg
      go_wp2
      go_meet
      exact ⟨_, HR7.out, by have := HXL.out; simp; omega, by have := HXL.out; simp; omega, fun x hx => by
        rcases List.mem_append.1 hx with q | q
        · rw [← HXS.out] at q
          rcases List.mem_append.1 q with q | q
          · rw [List.mem_singleton.1 q, HMN.out]; omega
          · exact HRP8.out x q
        · exact HMP.out x q, HB7.out⟩
  obtain ⟨RR, hrr, hr1, hr13, hr8, hbc⟩ := hcut
  obtain ⟨ab, rcap, AA, BB, OO, CC, rfl, hw⟩ := Wide.of hrr hr1 fun i hi => hr8 _ (row_mem hi)
  obtain ⟨rn, hrn⟩ : ∃ rn, RR.length = rn := ⟨_, rfl⟩
  obtain ⟨LL, hLL⟩ : ∃ LL : Nat → Nat, (fun i => (row RR i).length) = LL := ⟨_, rfl⟩
  rw [hrn, hLL] at hw
  rw [hrn]
  have hr13 : rn ≤ 13 := by omega
  have HW := Lib.hid hw
  have HB5 := Lib.hid hbc
  clear hrr hr8 hbc hw hrn hLL HB4 HB3 HN HPV HMI
  go_wp2
  go_loopw [13, 14] (fun x _ wr => ∃ i : Nat, i ≤ rn ∧ x = .int .i64 i ∧ Wide w2.heap.size wr ab rn AA BB OO LL CC ∧ Below w2.heap.size w2 wr) (fun x _ _ => rn - (intOf x).toNat)
  case atStart => exact ⟨0, by omega, rfl, HW.out, HB5.out⟩
  case round =>
    clear HW HB5
    obtain ⟨i, hi, rfl, hw, hb⟩ := hrel
    have HW := Lib.hid hw
    have HB := Lib.hid hb
    clear hw hb
    by_cases hlt : i < rn
    · go_wp2
      go_loopw [14] (fun x wr => ∃ j : Nat, j ≤ LL i ∧ x = .int .i64 j ∧ Wide w2.heap.size wr ab rn AA BB OO LL CC ∧ Below w2.heap.size w2 wr) (fun x _ => LL i - (intOf x).toNat)
      case atStart => exact ⟨0, by omega, rfl, HW.out, HB.out⟩
      case round =>
        clear HW HB
        obtain ⟨j, hj, rfl, hw, hb⟩ := hrel
        have HW := Lib.hid hw
        have HB := Lib.hid hb
        have ci := hw.hdr i hlt
        have hcp := hw.cap i hlt
        clear hw hb
        by_cases hjl : j < LL i
        · obtain ⟨p1, p2, p3, p4⟩ := HW.out.ptr i hlt (by omega)
          obtain ⟨⟨z, c0⟩, f0⟩ := HW.out.val i hlt j hjl
          rw [p1] at ci
          have HW2 := Lib.hid (HW.out.store hlt hjl (-1))
          have HB2' := Lib.hid (HB.out.setCell (show w2.heap.size ≤ (⟨BB i, OO i + j, none⟩ : Addr).block from p2) (.int .i64 (-1)))
          obtain ⟨wz, hwz⟩ : ∃ wz, wr.setCell ⟨BB i, OO i + j, none⟩ (.int .i64 (-1)) = wz := ⟨_, rfl⟩
          rw [hwz] at HW2 HB2'
          clear p1 p2 p3 p4
          go_wp2
          go_roundw
          case rel => exact ⟨j + 1, by omega, by go_num, HW2.out, HB2'.out⟩
          case measure => simp [intOf]; omega
        · go_wp2
          go_roundw
          case rel => exact ⟨i + 1, by omega, by go_num, HW.out, HB.out⟩
          case measure => simp [intOf]; omega
    · clear HW
      have HXR := Lib.hid (HX.out.below HB.out (Nat.le_refl _))
      have HYR := Lib.hid (HY.out.below HB.out (Nat.le_refl _))
      go_wp2_with fail
      refine (HPL.out _ HB.out).mono ?_
      rintro e w8 ⟨⟨v2, k2, rfl, hk2⟩, hb8⟩
      have HB8 := Lib.hid hb8
      have hsm := same_any X X (some ⟨xb, 0, none⟩) yo xb 0 xc yb 0 yc XA XB XO XC YA YB YO YC w8 (HXR.out.below hb8 (Nat.le_refl _)) (HYR.out.below hb8 (Nat.le_refl _))
      rw [decide_eq_true rfl] at hsm
      have HSM := Lib.hid hsm
      clear hb8 hsm
      rcases hk2 with ⟨rfl, rfl, hno⟩ | ⟨rfl, hyes, Y, hY, hnr⟩
      · obtain rfl : k = 6 := by
          rcases HK.out with ⟨h, -, -⟩ | ⟨-, h, -⟩
          · exact h
          · exact absurd h hno
        clear hno HK
        go_wp2_with fail
        refine HSM.out.mono ?_
        rintro e w9 ⟨rfl, m9, rfl⟩
        go_wp2_with fail
        refine (awake_any _).mono ?_
        rintro e w10 ⟨rfl, hb10⟩
        have HB9 := Lib.hid (below_drewN (HB.out.trans (HB8.out.mono HB.out.size)) m9)
        have HB10 := Lib.hid (HB2.out.trans ((HB9.out.trans (hb10.mono HB9.out.size)).mono HB2.out.size))
        clear hb10
        go_wp2
        go_ret
        exact ⟨rfl, HB10.out⟩
      · obtain rfl : k = 0 := by
          rcases HK.out with ⟨-, -, h⟩ | ⟨h, -, -⟩
          · exact absurd hyes h
          · exact h
        obtain ⟨hok, hwr⟩ := cuts_right HP.out hD4 (by omega) hY
        have HQL := Lib.hid (cutsL_len Y 4 X.length)
        obtain ⟨Q, hQ⟩ : ∃ Q, cutsL Y 4 X.length = Q := ⟨_, rfl⟩
        rw [hQ] at hnr hok hwr HQL
        obtain ⟨qo, qb, qc, QA, QB, QO, QC, rfl, hqat⟩ := hnr.at (by have := HQL.out; omega)
        have HQA := Lib.hid hqat
        have HOK := Lib.hid hok
        have HWL := Lib.hid (show wrL (wrF X Q) 36 = [] from (wrL_nil_iff _ 36).2 fun t _ => hwr t)
        have HXW := Lib.hid (fun W (hW : Below w8.heap.size w8 W) => (HXR.out.below HB8.out (Nat.le_refl _)).below hW (Nat.le_refl _))
        have HYW := Lib.hid (fun W (hW : Below w8.heap.size w8 W) => (HYR.out.below HB8.out (Nat.le_refl _)).below hW (Nat.le_refl _))
        have HCT := Lib.hid (fun W (hW : Below w8.heap.size w8 W) => refCuts_any X.length Q D qo qb 0 qc QA QB QO QC W (HQA.out.below hW (Nat.le_refl _)) hX1 hX6)
        rw [decide_eq_true hok] at HCT
        have HRW := Lib.hid (fun W (hW : Below w8.heap.size w8 W) => refWrong_any X Q D yo yb 0 yc YA YB YO YC qo qb 0 qc QA QB QO QC W (HYW.out W hW) (HQA.out.below hW (Nat.le_refl _)) HP.out HOK.out)
        rw [HWL.out] at HRW
        clear hyes hY hnr hok hwr hQ hqat HK
        go_wp2_with fail
        refine HSM.out.mono ?_
        rintro e w9 ⟨rfl, m9, hw9⟩
        have HB9 := Lib.hid (show Below w8.heap.size w8 w9 by rw [hw9]; exact below_drewN (Below.refl _ _) _)
        clear hw9
        go_wp2_with fail
        refine (HCT.out _ HB9.out).mono ?_
        rintro e w10 ⟨rfl, hb10⟩
        have HB10 := Lib.hid (HB9.out.trans (hb10.mono HB9.out.size))
        clear hb10
        go_wp2_with fail
        refine (HRW.out _ HB10.out).mono ?_
        rintro e w11 ⟨v, rfl, hv, hb11⟩
        obtain ⟨vo, vb, vc, rfl, -⟩ := hv.at
        have HB11 := Lib.hid (HB10.out.trans (hb11.mono HB10.out.size))
        clear hv hb11
        go_wp2_with fail
        refine (awake_any _).mono ?_
        rintro e w12 ⟨rfl, hb12⟩
        have HB12 := Lib.hid (HB11.out.trans (hb12.mono HB11.out.size))
        have HBA := Lib.hid (HB.out.trans ((HB8.out.trans (HB12.out.mono HB8.out.size)).mono HB.out.size))
        clear hb12
        go_wp2
        go_ret
        exact ⟨rfl, HB2.out.trans (HBA.out.mono HB2.out.size)⟩

end Go.Proofs.Ytjibdolhipddbaa

/-
  LocksOwn, proved: results of Plan and Merge are new memory, and neither changes its arguments: for every list of rows and every int the statement's function returns true. The arguments read behind the call as they read before. No condition.
-/
namespace Go.Proofs.Ytjibdolhipddbaa
open Go.ChangeShapes Go.WideShapes Go.ChangeAt Go.RowKit Go.Joins

theorem Try.own_owns : ownKnob Try.prog.godebug = none := by kernel_rfl
theorem Try.laidOut_owns : laidOutB Try.prog = true := by kernel_rfl

set_option maxHeartbeats 1000000 in
set_option maxRecDepth 100000 in
theorem owns_lifted (os : Os) (started : os.Started) (H : Type) (enc : TypeId × Value → H) :
    ReturnsInHanded {} Try.checked os 10 .any (Rows.locksOwnSpec.pre6 enc Try.prog Try.f10 Rows.locksOwnRow.domain false) (Rows.locksOwnSpec.post enc Try.prog Try.f10 false true false false) := by
  refine returnsInHanded_of_change_sized (C := Try.checked) Try.own_owns started (by kernel_rfl) Try.func10
    (ChangeSpec.witness6 (enc := enc) (C := Try.checked) false ⟨#[], #[.slice none 0 0, .int .i64 0], []⟩ 8 (by kernel_rfl) (by kernel_rfl) (by kernel_rfl) (by kernel_rfl)) ?_
  intro W base args ds gs before hval0 hW _ hsz0 _
  have hsz : (DataW.weightsEach Try.prog (Try.f10.params.toList ++ Rows.locksOwnSpec.plain.varTypes Try.prog) (ds ++ gs)).all (· ≤ reachBytes) = true := hsz0
  clear hsz0
  have hval : ∀ (j : Nat) t v, Try.f10.params[j]? = some t → args[j]? = some v → Value.okWide Try.prog W .any base t v := hval0
  have hW' := hW
  obtain ⟨p, q, hA0, hV, rfl, _, _⟩ := hW
  have hA : DataW.TrodAll enc Try.prog W 0 (fun _ => true) true Try.f10.params.toList args.toList ds p := hA0
  rw [Try.params10] at hA hval hsz
  obtain ⟨v0, v1, d0, d1, p0, p1, rfl, rfl, rfl, h0, h1⟩ := trodAll_two hA
  obtain ⟨rfl, rfl⟩ := trodVars_none hV
  have h0k := h0
  have h1k := h1
  clear hA0 hval0
  simp only [List.append_nil] at hW'
  have hlt0 : ∀ x ∈ p0, x.block < W.heap.size := fun x hx => hW'.lt x (by simp [hx])
  have hlt1 : ∀ x ∈ p1, x.block < W.heap.size := fun x hx => hW'.lt x (by simp [hx])
  have hw0 : ∀ n ∈ d0.weights Try.prog 22, n ≤ 140737488351232 := fun n hn => by
    exact of_decide_eq_true (List.all_eq_true.1 hsz _ (DataW.weights_mem_each (j := 0) (t := 22) rfl rfl n hn))
  have hs0 := okWide_slice Try.underlying22 (hval 0 22 v0 rfl rfl)
  obtain ⟨fuel0, hf0⟩ := h0
  have hf0' : DataW.trod enc Try.prog W 0 (fun _ => true) true fuel0 22 [v0] = some (d0, p0) := by obtain ⟨_, _, _, rfl⟩ := hs0; simpa [Value.cells] using hf0
  obtain ⟨pa0, P0, pb0, po0, pc0, A0, B0, O0, C0, rfl, r0, s0⟩ := open_rows hf0' hw0
  obtain ⟨x1, rfl, b1⟩ := open_int3 (hval 1 3 v1 rfl rfl) h1
  refine (owns_any P0 x1 pa0 pb0 po0 pc0 A0 B0 O0 C0 W r0 s0 b1).mono fun e W' ⟨he, hbelow⟩ => ?_
  subst he
  refine ⟨_, rfl, _, _, _, [], p0 ++ p1, [], hW', ?_, ?_, ?_, hbelow.frame _, fun h => by cases h⟩
  · exact trodAll_mk1 (shut_bool Try.underlying4 true)
  · exact trodAll_mk2 (Below.trod Try.laidOut_owns (by kernel_rfl) (of_decide_eq_true (by kernel_rfl)) h0k hbelow hlt0) (Below.trod Try.laidOut_owns (by kernel_rfl) (of_decide_eq_true (by kernel_rfl)) h1k hbelow hlt1)
  · exact rfl

theorem owns_holds : Rows.LocksOwnSaid :=
  OpenClaim.holds_of_wide 10 Try.f10 rfl rfl rfl rfl rfl rfl rfl ⟨rfl, rfl, rfl, rfl, rfl⟩ rfl rfl rfl rfl rfl (by kernel_rfl) Try.func10 (by kernel_rfl)
    (of_decide_eq_true (by kernel_rfl)) (by unfold Func.isWrapper; first | (rw [if_pos (by decide +kernel)]; kernel_rfl) | (rw [if_neg (by decide +kernel)]; exact ⟨rfl, rfl⟩))
    (fun os started H enc _ => owns_lifted os started H enc)

end Go.Proofs.Ytjibdolhipddbaa
