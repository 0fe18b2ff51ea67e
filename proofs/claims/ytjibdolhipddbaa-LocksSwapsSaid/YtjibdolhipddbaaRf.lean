/- M2 M3 -/
import Derived.Test.YtjibdolhipddbaaRe
import Derived.Test.YtjibdolhipddbaaQv
import Derived.Test.YtjibdolhipddbaaQs
import Derived.Test.YtjibdolhipddbaaQt
import Derived.Test.YtjibdolhipddbaaQm
/- LocksSwaps, walked. -/
namespace Go.Proofs.Ytjibdolhipddbaa
open Go.RowKit Go.Maps

theorem NewInts.cellAt {B g n cap : Nat} {w : World} {xs : List Int} (h : NewInts B w (.slice (some ⟨g, 0, none⟩) n cap) xs) (hn : n = xs.length) {j : Nat} (hj : j < n) : w.cell? ⟨g, j, none⟩ = some (.int .i64 (nth xs j)) := by
  obtain ⟨ao, b, cap', hv, hat, -⟩ := h.at
  have hp := (hat.ptr (by omega)).1
  injection hv with q1 q2 q3
  rw [hp] at q1
  injection q1 with q1
  injection q1 with q1
  have := hat.cell j (by omega)
  rw [Nat.zero_add, ← q1] at this
  exact this
theorem set_nth_self (r : List Int) (u : Nat) : r.set u (nth r u) = r := by
  by_cases h : u < r.length
  · unfold nth; rw [List.getD_eq_getElem?_getD, List.getElem?_eq_getElem h]; simp
  · rw [List.set_eq_of_length_le (by omega)]

set_option maxHeartbeats 8000000 in
set_option maxRecDepth 100000 in
theorem swaps_any (L M : List (List Int)) (f0 f1 f2 f3 f4 : Int) (ao : Option Addr) (b o cap : Nat) (A : Nat → Option Addr) (B O C : Nat → Nat) (co : Option Addr) (cb cq ccap : Nat) (CA : Nat → Option Addr) (CB CO CC : Nat → Nat) (w : World)
    (H : RowsAt w ao b o L A B O C) (_hc : CapsOk L A C) (HM : RowsAt w co cb cq M CA CB CO CC) (_hcm : CapsOk M CA CC)
    (h0 : -9223372036854775808 ≤ f0 ∧ f0 ≤ 9223372036854775807) (h1 : -9223372036854775808 ≤ f1 ∧ f1 ≤ 9223372036854775807) (h2 : -9223372036854775808 ≤ f2 ∧ f2 ≤ 9223372036854775807) (h3 : -9223372036854775808 ≤ f3 ∧ f3 ≤ 9223372036854775807) (h4 : -9223372036854775808 ≤ f4 ∧ f4 ≤ 9223372036854775807) :
    Calls Try.prog 7 #[.slice ao L.length cap, .slice co M.length ccap, .agg #[.int .i64 f0, .int .i64 f1, .int .i64 f2, .int .i64 f3, .int .i64 f4]] w fun e w' => e = .returned (.bool true) ∧ Below w.heap.size w w' := by
  have HBX := Lib.hid ((Below.refl _ w).alloc (Nat.le_refl _) (.cells #[.int .i64 f0, .int .i64 f1, .int .i64 f2, .int .i64 f3, .int .i64 f4] 55))
  have HBOX := Lib.hid (heap_alloc_new w (.cells #[.int .i64 f0, .int .i64 f1, .int .i64 f2, .int .i64 f3, .int .i64 f4] 55))
  have HT := Lib.hid (tame_any L ao b o cap A B O C _ (H.below HBX.out (Nat.le_refl _)))
  have HMC := Lib.hid HM
  have HM0 := Lib.hid (fun W => mod_any f0 4 W h0 (by omega) (by omega))
  have HMD := Lib.hid (fun (n : Nat) (g1 : 1 ≤ n) (g2 : n ≤ 6) => (⟨fun W => mod_any f1 n W h1 (by omega) (by omega), fun W => mod_any f2 n W h2 (by omega) (by omega), fun W => mod_any f3 n W h3 (by omega) (by omega), fun W => mod_any f4 n W h4 (by omega) (by omega)⟩ : (∀ W, Calls Try.prog _ _ W _) ∧ (∀ W, Calls Try.prog _ _ W _) ∧ (∀ W, Calls Try.prog _ _ W _) ∧ (∀ W, Calls Try.prog _ _ W _)))
  have hmb := modI_bd (x := f0) (n := 4) (by omega)
  obtain ⟨mv, hmv⟩ : ∃ mv, modI f0 4 = mv := ⟨_, rfl⟩
  unfold Hid at HM0
  simp only [hmv] at HM0
  have HM0 := Lib.hid HM0
  rw [hmv] at hmb
  obtain ⟨D, hD⟩ : ∃ D : Nat, (1 : Int) + mv = (D : Int) := ⟨(1 + mv).toNat, by omega⟩
  have hD4 : 1 ≤ D ∧ D ≤ 4 := by omega
  clear H HM hmv h0 h1 h2 h3 h4
  go_enter Try.func7, Try.ntmps7
  go_wp2_with fail
  refine HT.out.mono ?_
  rintro e w1 ⟨v, rfl, hr, hb⟩
  obtain ⟨X, hX⟩ : ∃ X, tm L 6 = X := ⟨_, rfl⟩
  have hp : IsPlan X := by rw [← hX]; exact tm_plan L
  rw [hX] at hr
  obtain ⟨xo, xb, xc, XA, XB, XO, XC, rfl, hat, -⟩ := hr.at2 (by have := hp.le; omega)
  obtain ⟨rfl, -⟩ := hat.ptr hp.pos
  have HB1 := Lib.hid (HBX.out.trans (hb.mono HBX.out.size))
  have HBOX1 := Lib.hid ((hb.block _ (lt_of_block HBOX.out)).trans HBOX.out)
  have HX1 := Lib.hid hat
  clear hX HT hr hb hat HBX HBOX
  have hXK : 1 ≤ X.length ∧ X.length ≤ 6 := ⟨hp.pos, hp.le⟩
  have c0 : w1.cell? ⟨w.heap.size, 0, none⟩ = some (.int .i64 f0) := by rw [cell_of_row _ _ _ _ _ _ HBOX1.out]; rfl
  go_wp2_with fail
  refine (HM0.out _).mono ?_
  rintro e w1 ⟨rfl, rfl⟩
  have HTD := Lib.hid (tamed_any M X.length D co cb cq ccap CA CB CO CC w1 (HMC.out.below HB1.out (Nat.le_refl _)) hXK hD4)
  clear c0 HMC HM0
  go_wp2_with fail
  refine HTD.out.mono ?_
  rintro e w2 ⟨v, rfl, hr, hb⟩
  obtain ⟨P, hP⟩ : ∃ P, td M X.length D = P := ⟨_, rfl⟩
  have hk : OkCuts X.length P D := by rw [← hP]; exact td_cuts M hXK.1 (by omega)
  rw [hP] at hr
  obtain ⟨po, pb, pc, PA, PB, PO, PC, rfl, hat, hcap⟩ := hr.at2 (by have := hk.keys; omega)
  obtain ⟨rfl, -⟩ := hat.ptr (by rw [hk.keys]; omega)
  have HB2 := Lib.hid (HB1.out.trans (hb.mono HB1.out.size))
  have HBOX2 := Lib.hid ((hb.block _ (lt_of_block HBOX1.out)).trans HBOX1.out)
  have HX2 := Lib.hid (HX1.out.below hb (Nat.le_refl _))
  have HP2 := Lib.hid hat
  have HPC := Lib.hid hcap
  have HPL := Lib.hid hp
  have HOK := Lib.hid hk
  clear hP HTD hr hb hat hcap HB1 HBOX1 HX1
  obtain ⟨c, hc⟩ : ∃ c, (row P 0).length = c := ⟨_, rfl⟩
  have HCC := Lib.hid hc
  have hc4 : 1 ≤ c ∧ c ≤ 4 := ⟨by rw [← hc]; exact hk.pos, by rw [← hc]; exact hk.le⟩
  have HPK := Lib.hid hk.keys
  have hk6 : X.length ≤ 6 := hp.le
  have hk1 : 1 ≤ X.length := hp.pos
  obtain ⟨K, hK⟩ : ∃ K, X.length = K := ⟨_, rfl⟩
  have HKK := Lib.hid hK
  rw [hK] at hk6 hk1
  have HLE := Lib.hid (show ∀ i, i < K → (row P i).length = c from fun i hi => by rw [hk.len i (by omega), hc])
  have hPl : P.length = K := by rw [hk.keys, hK]
  clear hp hk hc hXK
  rw [hPl, HKK.out]
  have cc : w2.cell? ⟨pb, 0, none⟩ = some (.slice (PA 0) c (PC 0)) := by
    have := HP2.out.cell 0 (by omega)
    rwa [HLE.out 0 (by omega), Nat.zero_add] at this
  obtain ⟨HX', HY', -, -⟩ := HMD.out D hD4.1 (by omega)
  obtain ⟨-, -, HU', HV'⟩ := HMD.out c hc4.1 (by omega)
  have hmx := modI_bd (x := f1) (n := (D : Int)) (by omega)
  have hmy := modI_bd (x := f2) (n := (D : Int)) (by omega)
  have hmu := modI_bd (x := f3) (n := (c : Int)) (by omega)
  have hmw := modI_bd (x := f4) (n := (c : Int)) (by omega)
  obtain ⟨mx, hx⟩ : ∃ mx, modI f1 (D : Int) = mx := ⟨_, rfl⟩
  obtain ⟨my, hy⟩ : ∃ my, modI f2 (D : Int) = my := ⟨_, rfl⟩
  obtain ⟨u, hu⟩ : ∃ u : Nat, modI f3 (c : Int) = u := ⟨(modI f3 (c : Int)).toNat, by omega⟩
  obtain ⟨t, ht⟩ : ∃ t : Nat, modI f4 (c : Int) = t := ⟨(modI f4 (c : Int)).toNat, by omega⟩
  simp only [hx] at HX' hmx
  simp only [hy] at HY' hmy
  simp only [hu] at HU' hmu
  simp only [ht] at HV' hmw
  have HX3 := Lib.hid HX'
  have HY3 := Lib.hid HY'
  have HU3 := Lib.hid HU'
  have HV3 := Lib.hid HV'
  obtain ⟨x, hxx⟩ : ∃ x, (1 : Int) + mx = x := ⟨_, rfl⟩
  obtain ⟨y, hyy⟩ : ∃ y, (1 : Int) + my = y := ⟨_, rfl⟩
  have hx4 : 1 ≤ x ∧ x ≤ (D : Int) := by omega
  have hy4 : 1 ≤ y ∧ y ≤ (D : Int) := by omega
  have huc : u < c := by omega
  have htc : t < c := by omega
  clear HX' HY' HU' HV' HMD hx hy hu ht
  have c1 : w2.cell? ⟨w.heap.size, 1, none⟩ = some (.int .i64 f1) := by rw [cell_of_row _ _ _ _ _ _ HBOX2.out]; rfl
  have c2 : w2.cell? ⟨w.heap.size, 2, none⟩ = some (.int .i64 f2) := by rw [cell_of_row _ _ _ _ _ _ HBOX2.out]; rfl
  go_wp2_with fail
  go_quiet (first | with_reducible exact Calls.quiet_of_same (HX3.out _) | with_reducible exact Calls.quiet_of_same (HY3.out _))
  obtain ⟨w3, hw3⟩ : ∃ w3, w2.drewN nq = w3 := ⟨_, rfl⟩
  have HB3 := Lib.hid (show Below w2.heap.size w2 w3 by rw [← hw3]; exact below_drewN (Below.refl _ _) _)
  have HBOX3 := Lib.hid ((HB3.out.block _ (lt_of_block HBOX2.out)).trans HBOX2.out)
  have c3 : w3.cell? ⟨w.heap.size, 3, none⟩ = some (.int .i64 f3) := by rw [cell_of_row _ _ _ _ _ _ HBOX3.out]; rfl
  have c4 : w3.cell? ⟨w.heap.size, 4, none⟩ = some (.int .i64 f4) := by rw [cell_of_row _ _ _ _ _ _ HBOX3.out]; rfl
  rw [hw3]
  clear hw3 c1 c2
  go_wp2_with fail
  go_quiet (first | with_reducible exact Calls.quiet_of_same (HU3.out _) | with_reducible exact Calls.quiet_of_same (HV3.out _))
  obtain ⟨w4, hw4⟩ : ∃ w4, w3.drewN nq = w4 := ⟨_, rfl⟩
  have HB4 := Lib.hid (show Below w2.heap.size w2 w4 by rw [← hw4]; exact below_drewN HB3.out _)
  rw [hw4]
  clear hw4 c3 c4 HBOX2 HBOX3 HB3 HX3 HY3 HU3 HV3 cc hxx hyy hmx hmy hmu hmw
  have HPR := Lib.hid (show ∀ W, Below w2.heap.size w2 W → ∀ i, i < K → W.cell? ⟨pb, i, none⟩ = some (.slice (some ⟨PB i, PO i, none⟩) c (PC i)) ∧ IntsAt W (some ⟨PB i, PO i, none⟩) (PB i) (PO i) (row P i) ∧ c ≤ PC i from fun W hW i hi => by
    have h := HP2.out.below hW (Nat.le_refl _)
    have hi' : i < P.length := by omega
    have q1 := h.cell i hi'
    have q2 := h.rows i hi'
    have q3 := HPC.out i hi'
    have q4 := (q2.ptr (by rw [HLE.out i hi]; omega)).1
    rw [HLE.out i hi, Nat.zero_add, q4] at q1
    rw [q4] at q2
    rw [HLE.out i hi] at q3
    exact ⟨q1, q2, q3⟩)
  obtain ⟨i0, hi0, hz0, hz1, hz2⟩ := info_parts Try.info3
  obtain ⟨j0, hj0, jz0, jz1, jz2⟩ := info_parts Try.info34
  go_wp2_with fail
  go_loopw [15, 16, 17, 18, 19] (fun v z _ _ _ wr => ∃ i : Nat, i ≤ K ∧ z = .int .i64 i ∧ NewRows w2.heap.size wr v (swP u t x y (P.take i)) ∧ Below w2.heap.size w2 wr) (fun _ z _ _ _ _ => K - (intOf z).toNat)
  case atStart => exact ⟨0, by omega, rfl, NewRows.nil _ _, HB4.out⟩
  case round =>
    clear HB4
    obtain ⟨i, hi, rfl, hn, hb⟩ := hrel
    obtain ⟨wq, rfl⟩ : ∃ wq, wq = wr := ⟨_, rfl⟩
    have HB := Lib.hid hb
    have HNR := Lib.hid hn
    have HTL := Lib.hid (show (swP u t x y (P.take i)).length = i by rw [swP_len]; simp; omega)
    clear hb hn
    by_cases hlt : i < K
    · have HSU := Lib.hid (swP_succ (u := u) (v := t) (x := x) (y := y) (P := P) (i := i) (by omega))
      obtain ⟨ci, hia, hpc⟩ := HPR.out wq HB.out i hlt
      have HIA := Lib.hid hia
      have hrl := HLE.out i hlt
      have HNW := Lib.hid (news_at HIA.out ⟨PB i, PO i, none⟩ rfl c)
      rw [show (row P i).take c = row P i by rw [← hrl, List.take_length]] at HNW
      obtain ⟨r, hr⟩ : ∃ r, row P i = r := ⟨_, rfl⟩
      rw [hr] at HNW HSU HIA hrl hia
      have HWF := Lib.hid hia.wf
      have HRL := Lib.hid hrl
      clear hr hia
      go_wp2_with (first
        | (at_builtin; refine wpList_append_own _ rfl (.tmp 68) (.tmp 72) 34 rfl wq.heap.size 3 i0 (.int .i64 0) 1 8 Try.underlying34 hi0 hz0 hz1 hz2 rfl (by decide) (.slice none 0 0) 0 [] rfl (own_nil _ _) ⟨PB i, PO i, none⟩ c (PC i) (r.map (Value.int .i64)) rfl ?r1 HNW.out (oneCell_ints _) ?r2 ?r3 ?r4 ?_)
        | (fail))
      case r1 => have := HRL.out; simp; omega
      case r2 => unfold maxLen; omega
      case r3 => omega
      case r4 => exact Nat.le_refl _
      intro v1 w5 hown hg _
      have hni : NewInts wq.heap.size w5 v1 r := ⟨by rw [HRL.out]; simpa using hown, HWF.out, by have := HRL.out; omega⟩
      have hb5 : Below wq.heap.size wq w5 := (Below.refl _ wq).grown hg (Nat.le_refl _) (fun r hr => by simp [Value.ownBlock] at hr)
      obtain ⟨g, rc, rfl⟩ : ∃ g rc, v1 = .slice (some ⟨g, 0, none⟩) c rc := by
        rcases hni.own.2 with ⟨_, q⟩ | ⟨g, rc, cur, q, _⟩
        · have := HRL.out; omega
        · exact ⟨g, rc, by rw [q, HRL.out]⟩
      have hgb : wq.heap.size ≤ g := by
        rcases hni.own.2 with ⟨q, _⟩ | ⟨g', rc', cur, q, q2, _⟩
        · cases q
        · injection q with q; injection q with q; injection q with q; omega
      have HNI := Lib.hid hni
      have HB5 := Lib.hid hb5
      have d1 := hni.cellAt HRL.out.symm huc
      have d2 := hni.frozen HRL.out.symm u
      obtain ⟨z, hz⟩ : ∃ z, nth r u = z := ⟨_, rfl⟩
      rw [hz] at d1
      have HZ := Lib.hid hz
      have hui : (u : Int) < (c : Int) := by omega
      clear hown hg hni hb5 HIA HNW ci hpc hz hrl
      go_upto_if 79 with (fail)
      go_cut [] from 79 to 93 (fun wx => NewInts wq.heap.size wx (.slice (some ⟨g, 0, none⟩) c rc) (swD u x y r) ∧ Below wq.heap.size wq wx)
      case first =>
        by_cases e1 : z = x
        · have t1 : (z == x) = true := beq_iff_eq.2 e1
          have HS := Lib.hid (HNI.out.stored HRL.out.symm u y (by omega) (by rw [HRL.out]; exact huc))
          have HE := Lib.hid (show swD u x y r = r.set u y by unfold swD swZ; rw [HZ.out, if_pos e1])
          clear e1
          go_wp2
          go_meet
          exact ⟨by rw [HE.out]; exact HS.out, HB5.out.setCell hgb _⟩
        · have t1 : (z == x) = false := beq_eq_false_iff_ne.2 e1
          by_cases e2 : z = y
          · have t2 : (z == y) = true := beq_iff_eq.2 e2
            have HS := Lib.hid (HNI.out.stored HRL.out.symm u x (by omega) (by rw [HRL.out]; exact huc))
            have HE := Lib.hid (show swD u x y r = r.set u x by unfold swD swZ; rw [HZ.out, if_neg e1, if_pos e2])
            clear e1 e2
            go_wp2
            go_meet
            exact ⟨by rw [HE.out]; exact HS.out, HB5.out.setCell hgb _⟩
          · have t2 : (z == y) = false := beq_eq_false_iff_ne.2 e2
            have HE := Lib.hid (show swD u x y r = r by unfold swD swZ; rw [HZ.out, if_neg e1, if_neg e2, ← HZ.out]; exact set_nth_self r u)
            clear e1 e2
            go_wp2
            go_meet
            exact ⟨by rw [HE.out]; exact HNI.out, HB5.out⟩
      obtain ⟨hni, hbc⟩ := hcut
      obtain ⟨r1, hr1⟩ : ∃ r1, swD u x y r = r1 := ⟨_, rfl⟩
      have hrl1 : r1.length = c := by rw [← hr1, swD_len, HRL.out]
      have HSR := Lib.hid (show swR u t x y r = (r1.set u (nth r1 t)).set t (nth r1 u) by rw [← hr1]; rfl)
      rw [hr1] at hni
      have HRL1 := Lib.hid hrl1
      have HNI := Lib.hid hni
      have HBC := Lib.hid hbc
      have d3 := hni.cellAt hrl1.symm huc
      have d4 := hni.cellAt hrl1.symm htc
      obtain ⟨zu, hzu⟩ : ∃ zu, nth r1 u = zu := ⟨_, rfl⟩
      obtain ⟨zt, hzt⟩ : ∃ zt, nth r1 t = zt := ⟨_, rfl⟩
      have hwu := hni.wf u
      have hwt := hni.wf t
      rw [hzu] at d3 hwu
      rw [hzt] at d4 hwt
      rw [hzu, hzt] at HSR
      have hti : (t : Int) < (c : Int) := by omega
      clear hni hbc hr1 hrl1 hzu hzt d1 d2 HZ HWF HB5
      go_wp2_with fail
      go_quiet (fail)
      obtain ⟨w6, hw6⟩ : ∃ w6, wc.drewN nq = w6 := ⟨_, rfl⟩
      have HB6 := Lib.hid (show Below wq.heap.size wq w6 by rw [← hw6]; exact below_drewN HBC.out _)
      have HN6 := Lib.hid (show NewInts wq.heap.size w6 (.slice (some ⟨g, 0, none⟩) c rc) r1 by rw [← hw6]; exact HNI.out.below (below_drewN (Below.refl _ _) _) (Nat.le_refl _))
      rw [hw6]
      clear hw6 d3 d4 HNI HBC
      have d1 := HN6.out.cellAt HRL1.out.symm huc
      have d2 := HN6.out.frozen HRL1.out.symm u
      obtain ⟨w7, hw7⟩ : ∃ w7, w6.setCell ⟨g, u, none⟩ (.int .i64 zt) = w7 := ⟨_, rfl⟩
      have HN7 := Lib.hid (show NewInts wq.heap.size w7 (.slice (some ⟨g, 0, none⟩) c rc) (r1.set u zt) by rw [← hw7]; exact HN6.out.stored HRL1.out.symm u zt hwt (by rw [HRL1.out]; exact huc))
      have HB7 := Lib.hid (show Below wq.heap.size wq w7 by rw [← hw7]; exact HB6.out.setCell hgb _)
      have HW7 := Lib.hid hw7
      clear hw7
      go_upto_region 19 with fail
      rw [HW7.out]
      clear d1 d2
      have d1 := HN7.out.cellAt (by rw [List.length_set, HRL1.out]) htc
      have d2 := HN7.out.frozen (by rw [List.length_set, HRL1.out]) t
      obtain ⟨w8, hw8⟩ : ∃ w8, w7.setCell ⟨g, t, none⟩ (.int .i64 zu) = w8 := ⟨_, rfl⟩
      have HN8 := Lib.hid (show NewInts wq.heap.size w8 (.slice (some ⟨g, 0, none⟩) c rc) (swR u t x y r) by rw [← hw8, HSR.out]; exact HN7.out.stored (by rw [List.length_set, HRL1.out]) t zu hwu (by rw [List.length_set, HRL1.out]; exact htc))
      have HB8 := Lib.hid (show Below wq.heap.size wq w8 by rw [← hw8]; exact HB7.out.setCell hgb _)
      have HW8 := Lib.hid hw8
      clear hw8
      go_upto_region 20 with fail
      rw [HW8.out]
      clear d1 d2 HN6 HN7 HB6 HB7 HW7 HW8
      have HBA := Lib.hid (HB.out.trans (HB8.out.mono HB.out.size))
      have hal := (Below.refl _ w8).alloc (Nat.le_refl _) (.cells #[.slice (some ⟨g, 0, none⟩) c rc] 34)
      obtain ⟨ws, e1, e2, e3⟩ := ((HNR.out.below HB8.out (Nat.le_refl _)).below hal (Nat.le_refl _)).ex
      have HNI := Lib.hid ((HN8.out.mono HB.out.size).below hal (Nat.le_refl _))
      have HE1 := Lib.hid e1
      have HE2 := Lib.hid e2
      have HE3 := Lib.hid e3
      clear hal e1 e2 e3 HNR HN8
      go_wp2_with (first
        | (at_builtin; refine wpList_append_own _ rfl (.tmp 110) (.tmp 112) 22 rfl w2.heap.size 34 j0 (.slice none 0 0) 1 24 Try.underlying22 hj0 jz0 jz1 jz2 rfl (by decide) _ (swP u t x y (P.take i)).length ws rfl HE1.out ⟨w8.heap.size, 0, none⟩ 1 1 [.slice (some ⟨g, 0, none⟩) c rc] rfl rfl (cell_one_new _ _ _) (by simp [oneCell_slice]) ?s2 ?s3 ?s4 ?_)
        | (fail))
      case s2 => have := HTL.out; unfold maxLen; omega
      case s3 => have := HTL.out; omega
      case s4 => have := HBA.out.size; simp; omega
      intro v9 w9 hown hg _
      have HN9 := Lib.hid (NewRows.snoc HE1.out HE2.out HE3.out HNI.out rfl hown hg)
      have HB9 := Lib.hid ((HBA.out.alloc HBA.out.size (.cells #[.slice (some ⟨g, 0, none⟩) c rc] 34)).grown hg (by have := HBA.out.size; simp; omega) (fun r hr => (HE1.out.lt r hr).1))
      clear hown hg HE1 HE2 HE3 HNI
      go_wp2
      go_roundw
      case rel => exact ⟨i + 1, by omega, by go_num, by rw [HSU.out]; exact HN9.out, HB9.out⟩
      case measure => simp [intOf]; omega
    · have hiK : i = K := by omega
      subst hiK
      have htk : P.take i = P := List.take_of_length_le (by omega)
      rw [htk] at HNR HTL
      have hQ := swP_cuts (u := u) (v := t) (x := x) (y := y) HOK.out (by rw [HKK.out]; exact hk1) (by rw [HCC.out]; exact huc) (by rw [HCC.out]; exact htc) hx4 hy4
      have hwr : ∀ s, wrS X (swP u t x y P) s = wrS X P s := fun s => by rw [wrS_eq HPL.out hQ, wrS_eq HPL.out HOK.out, swP_wrong HOK.out (by rw [HCC.out]; exact huc) (by rw [HCC.out]; exact htc)]
      have HPRD := Lib.hid (fun j (hj : j < 6) => swP_prod (a := X) (P := P) (u := u) (v := t) (x := x) (y := y) (by rw [HKK.out]; exact hk6) (by rw [HKK.out]; exact hk1) HOK.out (by rw [HCC.out]; exact huc) (by rw [HCC.out]; exact htc) (by omega) (by omega) hj)
      have HL6 := Lib.hid HPL.out.le0
      have HWL := Lib.hid (show wrL (wrS X (swP u t x y P)) 36 = wrL (wrS X P) 36 from wrL_congr _ fun s _ => hwr s)
      have HSS := Lib.hid (show S36 (wrS X (swP u t x y P)) = S36 (wrS X P) from S36_congr fun s _ => hwr s)
      obtain ⟨Q, hQQ⟩ : ∃ Q, swP u t x y P = Q := ⟨_, rfl⟩
      rw [hQQ] at HNR HTL hQ HPRD HWL HSS
      obtain ⟨qo, qb, qc, QA, QB, QO, QC, rfl, hqat⟩ := HNR.out.at (by rw [HTL.out]; omega)
      have HQA := Lib.hid hqat
      have HQK := Lib.hid hQ
      clear hwr hQQ hqat hQ htk
      have HXW := Lib.hid (fun W (hW : Below wq.heap.size wq W) => HX2.out.below (HB.out.trans (hW.mono HB.out.size)) (Nat.le_refl _))
      have HPW := Lib.hid (fun W (hW : Below wq.heap.size wq W) => HP2.out.below (HB.out.trans (hW.mono HB.out.size)) (Nat.le_refl _))
      have HQW := Lib.hid (fun W (hW : Below wq.heap.size wq W) => HQA.out.below hW (Nat.le_refl _))
      have hxl := HL6.out
      have HW1 := Lib.hid (fun W (hW : Below wq.heap.size wq W) => wrong_ok X P D _ xb 0 xc XA XB XO XC _ pb 0 pc PA PB PO PC W (HXW.out W hW) (HPW.out W hW) HPL.out (by omega) HOK.out)
      have HW2 := Lib.hid (fun W (hW : Below wq.heap.size wq W) => wrong_ok X Q D _ xb 0 xc XA XB XO XC qo qb 0 qc QA QB QO QC W (HXW.out W hW) (HQW.out W hW) HPL.out (by omega) HQK.out)
      have HC1 := Lib.hid (fun W (hW : Below wq.heap.size wq W) => check_ok X P D _ xb 0 xc XA XB XO XC _ pb 0 pc PA PB PO PC W (HXW.out W hW) (HPW.out W hW) HPL.out (by omega) HOK.out)
      have HC2 := Lib.hid (fun W (hW : Below wq.heap.size wq W) => check_ok X Q D _ xb 0 xc XA XB XO XC qo qb 0 qc QA QB QO QC W (HXW.out W hW) (HQW.out W hW) HPL.out (by omega) HQK.out)
      have HS1 := Lib.hid (fun W j (hW : Below wq.heap.size wq W) (hj : j < (row X 0).length) => strangers_ok X P D j _ xb 0 xc XA XB XO XC _ pb 0 pc PA PB PO PC W (HXW.out W hW) (HPW.out W hW) HPL.out (by omega) HOK.out hj)
      have HS2 := Lib.hid (show ∀ W j (hW : Below wq.heap.size wq W) (hj : j < (row X 0).length), Calls Try.prog 21 #[.slice (some ⟨xb, 0, none⟩) X.length xc, .slice qo Q.length qc, .int .i64 D, .int .i64 j] W fun e w' =>
          e = .returned (.tuple #[.int .i64 (prodC (chs P X.length (row P 0).length) X.length (mt X) j (row P 0).length : Nat), .int .i64 0]) ∧ Below W.heap.size W w' from fun W j hW hj => by
        have := strangers_ok X Q D j _ xb 0 xc XA XB XO XC qo qb 0 qc QA QB QO QC W (HXW.out W hW) (HQW.out W hW) HPL.out (by omega) HQK.out hj
        rw [HPRD.out j (by omega)] at this
        exact this)
      have HX0 := Lib.hid (show ∀ W, Below wq.heap.size wq W → W.cell? ⟨xb, 0, none⟩ = some (.slice (XA 0) (row X 0).length (XC 0)) from fun W hW => by
        have := (HXW.out W hW).cell 0 (by rw [HKK.out]; omega)
        rwa [Nat.zero_add] at this)
      obtain ⟨PR, hPR⟩ : ∃ PR : Nat → Nat, ∀ j, prodC (chs P X.length (row P 0).length) X.length (mt X) j (row P 0).length = PR j := ⟨_, fun _ => rfl⟩
      unfold Hid at HS1 HS2
      simp only [hPR] at HS1 HS2
      have HS1 := Lib.hid HS1
      have HS2 := Lib.hid HS2
      clear hPR
      rw [HWL.out] at HW2
      rw [HSS.out] at HC2
      have HLP := Lib.hid (wrL_len (wrS X P) 36)
      obtain ⟨ps, hps⟩ : ∃ ps, wrL (wrS X P) 36 = ps := ⟨_, rfl⟩
      rw [hps] at HW1 HW2 HLP
      obtain ⟨rv, hrv⟩ : ∃ rv : Int, (if S36 (wrS X P) = 0 then 0 else 10) = rv := ⟨_, rfl⟩
      rw [hrv] at HC1 HC2
      obtain ⟨l, hl⟩ : ∃ l, (row X 0).length = l := ⟨_, rfl⟩
      rw [hl] at HS1 HS2 HX0 hxl
      rw [HTL.out, HKK.out] at HW2 HC2 HS2
      rw [hPl, HKK.out] at HW1 HC1 HS1
      rw [HTL.out]
      clear hps hrv hl HWL HSS HPRD HXW HPW HQW HNR
      go_wp2_with fail
      refine (HW1.out _ (Below.refl _ _)).mono ?_
      rintro e w10 ⟨v, rfl, hv, hb10⟩
      obtain ⟨vo, vb, vc, rfl, hva⟩ := hv.at
      have HB10 := Lib.hid hb10
      have HV := Lib.hid hva
      clear hv hb10 hva HW1
      go_wp2_with fail
      refine (HW2.out _ HB10.out).mono ?_
      rintro e w11 ⟨v, rfl, hv, hb11⟩
      obtain ⟨uo, ub, uc, rfl, hua⟩ := hv.at
      have HB11 := Lib.hid (HB10.out.trans (hb11.mono HB10.out.size))
      have HPS := Lib.hid (pairs_same ps vo uo vb 0 vc ub 0 uc w11 (HV.out.below hb11 (Nat.le_refl _)) hua HLP.out)
      clear hv hb11 hua HW2 HV HB10
      go_wp2_with fail
      refine HPS.out.mono ?_
      rintro e w12 ⟨rfl, m12, hw12⟩
      have HB12 := Lib.hid (show Below wq.heap.size wq w12 by rw [hw12]; exact below_drewN HB11.out _)
      clear hw12 HPS HB11
      go_wp2_with fail
      refine (HC1.out _ HB12.out).mono ?_
      rintro e w13 ⟨rfl, hb13⟩
      have HB13 := Lib.hid (HB12.out.trans (hb13.mono HB12.out.size))
      clear hb13 HC1 HB12
      go_wp2_with fail
      refine (HC2.out _ HB13.out).mono ?_
      rintro e w14 ⟨rfl, hb14⟩
      have HB14 := Lib.hid (HB13.out.trans (hb14.mono HB13.out.size))
      clear hb14 HC2 HB13
      go_wp2_with fail
      go_loopw [24, 25, 26, 27, 28] (fun z _ _ _ _ wr => ∃ j : Nat, j ≤ l ∧ z = .int .i64 j ∧ Below wq.heap.size wq wr) (fun z _ _ _ _ _ => l - (intOf z).toNat)
      case atStart => exact ⟨0, by omega, rfl, HB14.out⟩
      case round =>
        clear HB14
        obtain ⟨j, hj, rfl, hb⟩ := hrel
        have HBR := Lib.hid hb
        clear hb
        have ca := HX0.out _ HBR.out
        by_cases hjl : j < l
        · have HSA := Lib.hid (HS1.out wr j HBR.out hjl)
          have HSB := Lib.hid (fun W hW => HS2.out W j hW hjl)
          obtain ⟨pr, hpr⟩ : ∃ pr : Nat, PR j = pr := ⟨_, rfl⟩
          rw [hpr] at HSA HSB
          clear hpr
          have hji : (j : Int) < (l : Int) := by omega
          go_wp2_with fail
          refine HSA.out.mono ?_
          rintro e w15 ⟨rfl, hb15⟩
          have HB15 := Lib.hid (HBR.out.trans (hb15.mono HBR.out.size))
          clear hb15 HSA
          go_wp2_with fail
          refine (HSB.out _ HB15.out).mono ?_
          rintro e w16 ⟨rfl, hb16⟩
          have HB16 := Lib.hid (HB15.out.trans (hb16.mono HB15.out.size))
          clear hb16 HSB ca
          go_wp2
          go_roundw
          case rel => exact ⟨j + 1, by omega, by go_num, HB16.out⟩
          case measure => simp [intOf]; omega
        · have hjl : j = l := by omega
          subst hjl
          go_wp2_with fail
          refine (awake_any _).mono ?_
          rintro e w17 ⟨rfl, hb17⟩
          have HB17 := Lib.hid (HBR.out.trans (hb17.mono HBR.out.size))
          have HBZ := Lib.hid (HB.out.trans (HB17.out.mono HB.out.size))
          clear hb17
          go_wp2
          go_ret
          exact ⟨rfl, HB2.out.trans (HBZ.out.mono HB2.out.size)⟩

end Go.Proofs.Ytjibdolhipddbaa

/-
  LocksSwaps, proved: exchanging two depths of a chamber, or two chambers, in all keys changes neither the wrong pairs nor the strangers of a lock: for every two lists of rows and every five ints the statement's function returns true. The arguments read behind the call as they read before. No condition.
-/
namespace Go.Proofs.Ytjibdolhipddbaa
open Go.ChangeShapes Go.WideShapes Go.ChangeAt Go.RowKit Go.Joins

theorem Try.own_swaps : ownKnob Try.prog.godebug = none := by kernel_rfl
theorem Try.laidOut_swaps : laidOutB Try.prog = true := by kernel_rfl

set_option maxHeartbeats 1000000 in
set_option maxRecDepth 100000 in
theorem swaps_lifted (os : Os) (started : os.Started) (H : Type) (enc : TypeId × Value → H) :
    ReturnsInHanded {} Try.checked os 7 .any (Rows.locksSwapsSpec.pre6 enc Try.prog Try.f7 Rows.locksSwapsRow.domain false) (Rows.locksSwapsSpec.post enc Try.prog Try.f7 false true false false) := by
  refine returnsInHanded_of_change_sized (C := Try.checked) Try.own_swaps started (by kernel_rfl) Try.func7
    (ChangeSpec.witness6 (enc := enc) (C := Try.checked) false ⟨#[], #[.slice none 0 0, .slice none 0 0, .agg #[.int .i64 0, .int .i64 0, .int .i64 0, .int .i64 0, .int .i64 0]], []⟩ 8 (by kernel_rfl) (by kernel_rfl) (by kernel_rfl) (by kernel_rfl)) ?_
  intro W base args ds gs before hval0 hW _ hsz0 _
  have hsz : (DataW.weightsEach Try.prog (Try.f7.params.toList ++ Rows.locksSwapsSpec.plain.varTypes Try.prog) (ds ++ gs)).all (· ≤ reachBytes) = true := hsz0
  clear hsz0
  have hval : ∀ (j : Nat) t v, Try.f7.params[j]? = some t → args[j]? = some v → Value.okWide Try.prog W .any base t v := hval0
  have hW' := hW
  obtain ⟨p, q, hA0, hV, rfl, _, _⟩ := hW
  have hA : DataW.TrodAll enc Try.prog W 0 (fun _ => true) true Try.f7.params.toList args.toList ds p := hA0
  rw [Try.params7] at hA hval hsz
  obtain ⟨v0, v1, v2, d0, d1, d2, p0, p1, p2, rfl, rfl, rfl, h0, h1, h2⟩ := trodAll_three hA
  obtain ⟨rfl, rfl⟩ := trodVars_none hV
  have h0k := h0
  have h1k := h1
  have h2k := h2
  clear hA0 hval0
  simp only [List.append_nil] at hW'
  have hlt0 : ∀ x ∈ p0, x.block < W.heap.size := fun x hx => hW'.lt x (by simp [hx])
  have hlt1 : ∀ x ∈ p1, x.block < W.heap.size := fun x hx => hW'.lt x (by simp [hx])
  have hlt2 : ∀ x ∈ p2, x.block < W.heap.size := fun x hx => hW'.lt x (by simp [hx])
  have hw0 : ∀ n ∈ d0.weights Try.prog 22, n ≤ 140737488351232 := fun n hn => by
    exact of_decide_eq_true (List.all_eq_true.1 hsz _ (DataW.weights_mem_each (j := 0) (t := 22) rfl rfl n hn))
  have hw1 : ∀ n ∈ d1.weights Try.prog 22, n ≤ 140737488351232 := fun n hn => by
    exact of_decide_eq_true (List.all_eq_true.1 hsz _ (DataW.weights_mem_each (j := 1) (t := 22) rfl rfl n hn))
  have hs0 := okWide_slice Try.underlying22 (hval 0 22 v0 rfl rfl)
  obtain ⟨fuel0, hf0⟩ := h0
  have hf0' : DataW.trod enc Try.prog W 0 (fun _ => true) true fuel0 22 [v0] = some (d0, p0) := by obtain ⟨_, _, _, rfl⟩ := hs0; simpa [Value.cells] using hf0
  obtain ⟨pa0, P0, pb0, po0, pc0, A0, B0, O0, C0, rfl, r0, s0⟩ := open_rows hf0' hw0
  have hs1 := okWide_slice Try.underlying22 (hval 1 22 v1 rfl rfl)
  obtain ⟨fuel1, hf1⟩ := h1
  have hf1' : DataW.trod enc Try.prog W 0 (fun _ => true) true fuel1 22 [v1] = some (d1, p1) := by obtain ⟨_, _, _, rfl⟩ := hs1; simpa [Value.cells] using hf1
  obtain ⟨pa1, P1, pb1, po1, pc1, A1, B1, O1, C1, rfl, r1, s1⟩ := open_rows hf1' hw1
  obtain ⟨x2, y2, z2, s2, t2, rfl, b2, c2, e2, g2, i2⟩ := open_arr5 (hval 2 55 v2 rfl rfl) h2
  refine (swaps_any P0 P1 x2 y2 z2 s2 t2 pa0 pb0 po0 pc0 A0 B0 O0 C0 pa1 pb1 po1 pc1 A1 B1 O1 C1 W r0 s0 r1 s1 b2 c2 e2 g2 i2).mono fun e W' ⟨he, hbelow⟩ => ?_
  subst he
  refine ⟨_, rfl, _, _, _, [], p0 ++ (p1 ++ p2), [], hW', ?_, ?_, ?_, hbelow.frame _, fun h => by cases h⟩
  · exact trodAll_mk1 (shut_bool Try.underlying4 true)
  · exact trodAll_mk3 (Below.trod Try.laidOut_swaps (by kernel_rfl) (of_decide_eq_true (by kernel_rfl)) h0k hbelow hlt0) (Below.trod Try.laidOut_swaps (by kernel_rfl) (of_decide_eq_true (by kernel_rfl)) h1k hbelow hlt1) (Below.trod Try.laidOut_swaps (by kernel_rfl) (of_decide_eq_true (by kernel_rfl)) h2k hbelow hlt2)
  · exact rfl

theorem swaps_holds : Rows.LocksSwapsSaid :=
  OpenClaim.holds_of_wide 7 Try.f7 rfl rfl rfl rfl rfl rfl rfl ⟨rfl, rfl, rfl, rfl, rfl⟩ rfl rfl rfl rfl rfl (by kernel_rfl) Try.func7 (by kernel_rfl)
    (of_decide_eq_true (by kernel_rfl)) (by unfold Func.isWrapper; first | (rw [if_pos (by decide +kernel)]; kernel_rfl) | (rw [if_neg (by decide +kernel)]; exact ⟨rfl, rfl⟩))
    (fun os started H enc _ => swaps_lifted os started H enc)

end Go.Proofs.Ytjibdolhipddbaa
