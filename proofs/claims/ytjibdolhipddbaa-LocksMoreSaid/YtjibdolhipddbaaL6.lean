/- LocksMore, walked. -/
import Derived.Test.YtjibdolhipddbaaL5
import Derived.Test.YtjibdolhipddbaaK3
import Derived.Test.YtjibdolhipddbaaD5
import Derived.Test.YtjibdolhipddbaaE8
namespace Go.Proofs.Ytjibdolhipddbaa
open Go.RowKit Go.Maps

set_option maxHeartbeats 8000000 in
set_option maxRecDepth 100000 in
theorem more_any (L : List (List Int)) (x y z : Int) (ao : Option Addr) (b o cap : Nat) (A : Nat → Option Addr) (B O C : Nat → Nat) (w : World) (H : RowsAt w ao b o L A B O C) (_hc : CapsOk L A C)
    (hx : -9223372036854775808 ≤ x ∧ x ≤ 9223372036854775807) (hy : -9223372036854775808 ≤ y ∧ y ≤ 9223372036854775807) (hz : -9223372036854775808 ≤ z ∧ z ≤ 9223372036854775807) :
    Calls Try.prog 6 #[.slice ao L.length cap, .agg #[.int .i64 x, .int .i64 y, .int .i64 z]] w fun e w' => e = .returned (.bool true) ∧ Below w.heap.size w w' := by
  have HBX := Lib.hid ((Below.refl _ w).alloc (Nat.le_refl _) (.cells #[.int .i64 x, .int .i64 y, .int .i64 z] 51))
  have HBOX := Lib.hid (heap_alloc_new w (.cells #[.int .i64 x, .int .i64 y, .int .i64 z] 51))
  have HT := Lib.hid (tame_any L ao b o cap A B O C _ (H.below HBX.out (Nat.le_refl _)))
  have HM1 := Lib.hid (fun W => mod_any x 4 W hx (by omega) (by omega))
  have HM2 := Lib.hid (fun (n : Nat) W (h1 : 1 ≤ n) (h2 : n ≤ 6) => mod_any y n W hy (by omega) (by omega))
  have HM3 := Lib.hid (fun (n : Nat) W (h1 : 1 ≤ n) (h2 : n ≤ 6) => mod_any z n W hz (by omega) (by omega))
  have hmb := modI_bd (x := x) (n := 4) (by omega)
  obtain ⟨mv, hmv⟩ : ∃ mv, modI x 4 = mv := ⟨_, rfl⟩
  unfold Hid at HM1
  simp only [hmv] at HM1
  have HM1 := Lib.hid HM1
  rw [hmv] at hmb
  obtain ⟨D, hD⟩ : ∃ D : Nat, (1 : Int) + mv = (D : Int) := ⟨(1 + mv).toNat, by omega⟩
  have hD4 : 1 ≤ D ∧ D ≤ 4 := by omega
  clear H hmv hx hy hz
  go_enter Try.func6, Try.ntmps6
  go_wp2_with fail
  refine HT.out.mono ?_
  rintro e w1 ⟨v, rfl, hr, hb⟩
  obtain ⟨X, hX⟩ : ∃ X, tm L 6 = X := ⟨_, rfl⟩
  have hp : IsPlan X := by rw [← hX]; exact tm_plan L
  rw [hX] at hr
  have hr := hr.mono HBX.out.size
  obtain ⟨xb, xc, vs, rfl, hxc, hxb1, hxb2, hin⟩ := hr.in hp.pos
  obtain ⟨ao', b', cap', XA, XB, XO, XC, hv, hat, hcap⟩ := hr.at2 (by have := hp.le; omega)
  obtain ⟨rfl, rfl⟩ : ao' = some ⟨xb, 0, none⟩ ∧ cap' = xc := by injection hv with h1 h2 h3; exact ⟨h1.symm, h3.symm⟩
  obtain rfl : b' = xb := by have := (hat.ptr hp.pos).1; injection this with h; injection h with h; exact h.symm
  have HB1 := Lib.hid (HBX.out.trans (hb.mono HBX.out.size))
  have HBOX1 := Lib.hid ((hb.block _ (lt_of_block HBOX.out)).trans HBOX.out)
  have HX := Lib.hid hat
  have HCAP := Lib.hid hcap
  have HIN := Lib.hid hin
  have HP := Lib.hid hp
  have HXB := Lib.hid hxb2
  clear hX HT hr hb hat hcap hin HBX HBOX hv hxb1 hxb2
  have HL := Lib.hid (fun W (hW : Below w1.heap.size w1 W) (D : Nat) (hD : 1 ≤ D ∧ D ≤ 4) => least_pos X D _ b' 0 cap' XA XB XO XC W (HX.out.below hW (Nat.le_refl _)) hp hD)
  have HPL := Lib.hid (fun W (hW : Below w1.heap.size w1 W) (c : Nat) (hc : 1 ≤ c ∧ c ≤ 4) => plan_pos X c D _ b' 0 cap' XA XB XO XC W (HX.out.below hW (Nat.le_refl _)) hp hc hD4)
  have HMG := Lib.hid (fun W (hW : Below w1.heap.size w1 W) => merge_ok X _ b' 0 cap' XA XB XO XC W (HX.out.below hW (Nat.le_refl _)) HCAP.out hp)
  have HCL := Lib.hid (show ∀ W, Below w1.heap.size w1 W → W.cell? ⟨w.heap.size, 0, none⟩ = some (.int .i64 x) ∧ W.cell? ⟨w.heap.size, 1, none⟩ = some (.int .i64 y) ∧ W.cell? ⟨w.heap.size, 2, none⟩ = some (.int .i64 z) from fun W hW => cells_of3 ((hW.block _ (lt_of_block HBOX1.out)).trans HBOX1.out))
  have HMN := Lib.hid (mgN_len X X.length)
  have HMP := Lib.hid (mg_plan hp)
  have HML := Lib.hid (mgK_len X X.length)
  obtain ⟨K, hK⟩ : ∃ K, X.length = K := ⟨_, rfl⟩
  obtain ⟨l, hl⟩ : ∃ l, (row X 0).length = l := ⟨_, rfl⟩
  have HKK := Lib.hid hK
  have HLL := Lib.hid hl
  have HLE := Lib.hid (show ∀ i, i < K → (row X i).length = l from fun i hi => by rw [hp.len i (by omega), hl])
  have hK6 : K ≤ 6 := by rw [← hK]; exact hp.le
  have hK1 : 1 ≤ K := by rw [← hK]; exact hp.pos
  have hl6 : l ≤ 6 := by rw [← hl]; exact hp.le0
  have hl1 : 1 ≤ l := by rw [← hl]; exact hp.pos0
  rw [hK] at HL HPL HMN HMG hxc HMP HML
  clear hp hK hl
  rw [HKK.out]
  obtain ⟨c0, -, -⟩ := HCL.out w1 (Below.refl _ _)
  go_wp2_with fail
  refine (HM1.out _).mono ?_
  rintro e w1 ⟨rfl, rfl⟩
  go_wp2_with fail
  refine (HL.out _ (Below.refl _ _) D hD4).mono ?_
  rintro e w2 ⟨⟨n, rfl, hn⟩, hb2⟩
  have hn4 : n ≤ 4 := by rcases hn with ⟨h, _⟩ | ⟨_, h, _⟩ <;> omega
  have HN := Lib.hid hn
  have HB2 := Lib.hid hb2
  have t1 : decide ((n : Int) < 0) = false := decide_eq_false (by omega)
  have t2 : decide (4 < (n : Int)) = false := decide_eq_false (by omega)
  clear hn hb2 c0
  go_wp2_with fail
  refine (HMG.out _ HB2.out).mono ?_
  rintro e w3 ⟨v, u, rfl, hm, hu, hb3⟩
  obtain ⟨mo, mb, mc, MA, MB, MO, MC, rfl, hmat⟩ := hm.at (by have := HML.out; omega)
  obtain ⟨lo, lb, lc, rfl, -, -⟩ := hu.at
  have HB3 := Lib.hid (HB2.out.trans (hb3.mono HB2.out.size))
  have HLM := Lib.hid (least_pos (mgK X K) D mo mb 0 mc MA MB MO MC w3 hmat HMP.out hD4)
  have HMI := Lib.hid (show ∀ k, LeastIs (mgK X K) D k → k = n from fun k hk => least_merge HP.out HN.out (by rw [HKK.out]; exact hk))
  rw [HMN.out]
  obtain ⟨km, hkm⟩ : ∃ km, (mgK X K).length = km := ⟨_, rfl⟩
  rw [hkm] at HLM ⊢
  clear hm hu hb3 hmat hkm HMG HML HMP
  go_wp2_with fail
  refine HLM.out.mono ?_
  rintro e w4 ⟨⟨k, rfl, hk⟩, hb4⟩
  obtain rfl := HMI.out k hk
  have HB4 := Lib.hid (HB3.out.trans (hb4.mono HB3.out.size))
  clear hk hb4 HMI HLM HB3 HB2
  by_cases hn0 : k = 0
  · have t3 : ((k : Int) == 0) = true := by rw [hn0]; rfl
    go_wp2_with fail
    refine (awake_any _).mono ?_
    rintro e w7 ⟨rfl, hb7⟩
    have HB7 := Lib.hid (HB1.out.trans ((HB4.out.trans (hb7.mono HB4.out.size)).mono HB1.out.size))
    clear hb7
    go_wp2
    go_ret
    exact ⟨rfl, HB7.out⟩
  have t3 : ((k : Int) == 0) = false := beq_eq_false_iff_ne.2 (by omega)
  have hk1 : 1 ≤ k := by omega
  obtain ⟨kz, hkz⟩ : ∃ kz : Int, (k : Int) = kz := ⟨_, rfl⟩
  have HKZ := Lib.hid hkz
  rw [hkz] at t3 ⊢
  clear hkz t1 t2
  go_wp2_with fail
  go_loopw [14, 15, 16] (fun x _ _ wr => ∃ c : Nat, 1 ≤ c ∧ c ≤ 5 ∧ x = .int .i64 c ∧ Below w1.heap.size w1 wr) (fun x _ _ _ => 5 - (intOf x).toNat)
  case atStart => exact ⟨1, by omega, by omega, rfl, HB4.out⟩
  case round =>
    clear HB4
    obtain ⟨c, hc1, hc5, rfl, hb⟩ := hrel
    have HB := Lib.hid hb
    clear hb
    by_cases hc4 : c ≤ 4
    · have t4 : decide ((c : Int) ≤ 4) = true := decide_eq_true (by omega)
      go_wp2_with fail
      refine (HPL.out _ HB.out c ⟨hc1, hc4⟩).mono ?_
      rintro e w5 ⟨⟨v, kk, rfl, hk⟩, hb5⟩
      have HB5 := Lib.hid (HB.out.trans (hb5.mono HB.out.size))
      have hfrom := least_from hD4.1 HN.out hk1 hc1
      rcases hk with ⟨rfl, rfl, hno⟩ | ⟨rfl, hyes, -⟩
      · have t5 : ¬ kz ≤ (c : Int) := fun h => hno (hfrom.2 (by have := HKZ.out; omega))
        clear hb5 hfrom hno
        go_wp2
        go_roundw
        case rel => exact ⟨c + 1, by omega, by omega, by go_num, HB5.out⟩
        case measure => simp [intOf]; omega
      · have t5 : kz ≤ (c : Int) := by have := hfrom.1 hyes; have := HKZ.out; omega
        clear hb5 hfrom hyes
        go_wp2
        go_roundw
        case rel => exact ⟨c + 1, by omega, by omega, by go_num, HB5.out⟩
        case measure => simp [intOf]; omega
    · have t4 : decide ((c : Int) ≤ 4) = false := decide_eq_false (by omega)
      clear HPL
      go_upto_if 102 with (fail)
      go_cut [17, 18] from 102 to 120 (fun _ _ wx => Below w1.heap.size w1 wx)
      case first =>
        by_cases hd3 : D < 4
        · have t6 : decide ((D : Int) < 4) = true := decide_eq_true (by omega)
          have HLD := Lib.hid (show Calls Try.prog 13 #[.slice (some ⟨b', 0, none⟩) K cap', .int .i64 ((D : Int) + 1)] wr fun e w' => (∃ n : Nat, e = .returned (.tuple #[.int .i64 n, .int .i64 0]) ∧ LeastIs X (D + 1) n) ∧ Below wr.heap.size wr w' from HL.out wr HB.out (D + 1) (by omega))
          go_wp2_with fail
          refine HLD.out.mono ?_
          rintro e w5 ⟨⟨m, rfl, hm⟩, hb5⟩
          have HB5 := Lib.hid (HB.out.trans (hb5.mono HB.out.size))
          have hmk := least_depth HN.out hk1 hm
          obtain ⟨mz, hmz⟩ : ∃ mz : Int, (m : Int) = mz := ⟨_, rfl⟩
          have t7 : decide (mz < 1) = false := decide_eq_false (by omega)
          have t8 : decide (kz < mz) = false := decide_eq_false (by have := HKZ.out; omega)
          rw [hmz]
          clear hmk hm hb5 hmz
          go_wp2
          go_meet
          exact HB5.out
        · have t6 : decide ((D : Int) < 4) = false := decide_eq_false (by omega)
          go_wp2
          go_meet
          exact HB.out
      clear HB t4 hc1 hc5 hc4
      go_upto_if 123 with (fail)
      go_cut [19, 20, 21, 22] from 123 to 156 (fun _ _ _ _ wx => Below w1.heap.size w1 wx)
      case first =>
        have HB := Lib.hid hcut
        clear hcut
        by_cases hk2 : 1 < K
        · have t6 : decide (1 < (K : Int)) = true := decide_eq_true (by omega)
          have hib := modI_bd (x := y) (n := (K : Int)) (by omega)
          obtain ⟨i, hi⟩ : ∃ i : Nat, modI y (K : Int) = i := ⟨(modI y (K : Int)).toNat, by omega⟩
          have HMK := Lib.hid (fun W => HM2.out K W (by omega) hK6)
          unfold Hid at HMK
          simp only [hi] at HMK
          have HMK := Lib.hid HMK
          rw [hi] at hib
          clear hi HM2
          obtain ⟨-, c1, -⟩ := HCL.out wc HB.out
          go_wp2_with fail
          refine (HMK.out _).mono ?_
          rintro e wc ⟨rfl, rfl⟩
          have HNW := Lib.hid (show ∀ j u, (vs.take i)[j]? = some u → wc.cell? ((⟨b', 0, none⟩ : Addr).add j) = some u from HIN.out.take HB.out HXB.out i)
          have HLEN := Lib.hid (show vs.length = K by rw [HIN.out.len, HKK.out])
          obtain ⟨j0, hj0, jz0, jz1, jz2⟩ := info_parts Try.info34
          go_wp2_with (first
            | (at_builtin; refine wpList_append_own _ rfl (.tmp 129) (.tmp 132) 22 rfl w1.heap.size 34 j0 (.slice none 0 0) 1 24 Try.underlying22 hj0 jz0 jz1 jz2 rfl (by decide) (.slice none 0 0) 0 [] rfl (World.ownsRow_nil _ _ _ _) ⟨b', 0, none⟩ i cap' (vs.take i) rfl ?q1 HNW.out (fun u hu => HIN.out.one u (List.mem_of_mem_take hu)) ?q2 ?q3 ?q4 ?_)
            | (fail))
          case q1 => have := HLEN.out; simp; omega
          case q2 => unfold maxLen; omega
          case q3 => omega
          case q4 => exact HB.out.size
          intro v1 w5 hown hg _
          have hown1 : w5.ownsRow w1.heap.size 34 1 v1 (X.take i).length (vs.take i) := by simpa [HKK.out, Nat.min_eq_left (show i ≤ K by omega)] using hown
          have HOWN := Lib.hid hown1
          have hb5' : Below w1.heap.size w1 w5 := HB.out.grown hg (by have := HB.out.size; omega) (fun r hr => by simp [Value.ownBlock] at hr)
          have HB5 := Lib.hid hb5'
          obtain ⟨ad, had⟩ : ∃ ad : Addr, (if cap' = i + 1 then (some ⟨b', 0, none⟩ : Option Addr) else some ⟨b', i + 1, none⟩) = some ad := by split <;> exact ⟨_, rfl⟩
          have HNW2 := Lib.hid (show ∀ j u, (vs.drop (i + 1))[j]? = some u → w5.cell? (ad.add j) = some u from fun j u hj => by
            by_cases e : cap' = i + 1
            · have : (vs.drop (i + 1)).length = 0 := by have := HLEN.out; simp; omega
              rw [List.length_eq_zero_iff.1 this] at hj
              simp at hj
            · rw [if_neg e] at had
              injection had with had
              rw [← had]
              exact HIN.out.drop HB5.out HXB.out (i + 1) j u hj)
          clear hown hg hown1 hb5'
          go_wp2_with (first
            | (at_builtin; refine wpList_append_own _ rfl (.tmp 134) (.tmp 138) 22 rfl w1.heap.size 34 j0 (.slice none 0 0) 1 24 Try.underlying22 hj0 jz0 jz1 jz2 rfl (by decide) v1 (X.take i).length (vs.take i) rfl HOWN.out ad (K - (i + 1)) (cap' - (i + 1)) (vs.drop (i + 1)) rfl ?q5 HNW2.out (fun u hu => HIN.out.one u (List.mem_of_mem_drop hu)) ?q6 ?q7 ?q8 ?_)
            | (fail))
          case q5 => have := HLEN.out; simp; omega
          case q6 => unfold maxLen; simp; omega
          case q7 => simp; omega
          case q8 => exact HB5.out.size
          intro v2 w6 hown hg _
          have hnr : NewRows w.heap.size w6 v2 (noKey X i) := by
            refine NewRows.append (ownsRow_mono HOWN.out HB1.out.size) (HIN.out.tk HB5.out i) (fun u hu => HIN.out.one u (List.mem_of_mem_take hu)) ?_ (HIN.out.dp HB5.out (i + 1)) (fun u hu => HIN.out.one u (List.mem_of_mem_drop hu)) ?_ hg
            · have := HLEN.out; simp [HKK.out, this]
            · refine ownsRow_mono ?_ HB1.out.size
              simpa [HKK.out] using hown
          have hb6 : Below w1.heap.size w1 w6 := HB5.out.grown hg HB5.out.size (fun r hr => (HOWN.out.lt r hr).1)
          have HB6 := Lib.hid hb6
          have HPK := Lib.hid (noKey_plan HP.out (i := i) (by rw [HKK.out]; omega) (by rw [HKK.out]; omega))
          obtain ⟨no, nb, nc, NA, NB, NO, NC, rfl, hnat⟩ := hnr.at (by have := HPK.out.le; omega)
          have HLK := Lib.hid (least_pos (noKey X i) D no nb 0 nc NA NB NO NC w6 hnat HPK.out hD4)
          have HLS := Lib.hid (show ∀ m, LeastIs (noKey X i) D m → 1 ≤ m ∧ m ≤ k from fun m hm => least_noKey HP.out (by rw [HKK.out]; omega) (by rw [HKK.out]; omega) HN.out hk1 hm)
          obtain ⟨nk, hnk⟩ : ∃ nk, (noKey X i).length = nk := ⟨_, rfl⟩
          rw [hnk] at HLK ⊢
          clear hown hg hnr hb6 hnat hnk HNW2 HNW had HOWN
          go_wp2_with fail
          refine HLK.out.mono ?_
          rintro e w7 ⟨⟨m, rfl, hm⟩, hb7⟩
          have HB7 := Lib.hid (HB6.out.trans (hb7.mono HB6.out.size))
          have hmk := HLS.out m hm
          obtain ⟨mz, hmz⟩ : ∃ mz : Int, (m : Int) = mz := ⟨_, rfl⟩
          have t7 : decide (mz < 1) = false := decide_eq_false (by omega)
          have t8 : decide (kz < mz) = false := decide_eq_false (by have := HKZ.out; omega)
          rw [hmz]
          clear hmk hm hb7 hmz
          go_wp2
          go_meet
          exact HB7.out
        · have t6 : decide (1 < (K : Int)) = false := decide_eq_false (by omega)
          go_wp2
          go_meet
          exact HB.out
      have HB := Lib.hid hcut
      clear hcut
      have ca : wc.cell? ⟨b', 0, none⟩ = some (.slice (XA 0) l (XC 0)) := by
        have := (HX.out.below HB.out (Nat.le_refl _)).cell 0 (by rw [HKK.out]; omega)
        rwa [HLE.out 0 (by omega), Nat.zero_add] at this
      go_upto_if 161 with (fail)
      go_cut [23, 24, 25, 26, 27, 28] from 161 to 211 (fun _ _ _ _ _ _ wx => Below w1.heap.size w1 wx)
      case first =>
        by_cases hl2 : 1 < l
        · have t6 : decide (1 < (l : Int)) = true := decide_eq_true (by omega)
          rw [t6]
          have hib := modI_bd (x := z) (n := (l : Int)) (by omega)
          obtain ⟨j, hj⟩ : ∃ j : Nat, modI z (l : Int) = j := ⟨(modI z (l : Int)).toNat, by omega⟩
          have HMK := Lib.hid (fun W => HM3.out l W (by omega) hl6)
          unfold Hid at HMK
          simp only [hj] at HMK
          have HMK := Lib.hid HMK
          rw [hj] at hib
          clear hj HM3
          obtain ⟨-, -, c2⟩ := HCL.out _ HB.out
          go_wp2_with fail
          go_quiet (exact Calls.quiet_of_same (HMK.out _))
          obtain ⟨wd, hwd⟩ : ∃ wd, wc.drewN nq = wd := ⟨_, rfl⟩
          have HBD := Lib.hid (show Below w1.heap.size w1 wd by rw [← hwd]; exact below_drewN HB.out _)
          rw [hwd]
          clear hwd c2 ca HB HMK
          have HDI := Lib.hid (show ∀ i, i < K → XA i = some ⟨XB i, XO i, none⟩ ∧ l ≤ XC i from fun i hi => by
            have hi' : i < X.length := by rw [HKK.out]; exact hi
            refine ⟨((HX.out.rows i hi').ptr (by rw [HLE.out i hi]; omega)).1, ?_⟩
            have := HCAP.out i hi'
            rwa [HLE.out i hi] at this)
          have HCE := Lib.hid (show ∀ W, Below w1.heap.size w1 W → ∀ i, i < K → W.cell? ⟨b', i, none⟩ = some (.slice (some ⟨XB i, XO i, none⟩) l (XC i)) ∧ IntsAt W (some ⟨XB i, XO i, none⟩) (XB i) (XO i) (row X i) from fun W hW i hi => by
            have h := HX.out.below hW (Nat.le_refl _)
            have hi' : i < X.length := by rw [HKK.out]; exact hi
            have h1 := h.cell i hi'
            have h2 := h.rows i hi'
            rw [HLE.out i hi, Nat.zero_add, (HDI.out i hi).1] at h1
            rw [(HDI.out i hi).1] at h2
            exact ⟨h1, h2⟩)
          obtain ⟨i0, hi0, hz0, hz1, hz2⟩ := info_parts Try.info3
          obtain ⟨j0, hj0, jz0, jz1, jz2⟩ := info_parts Try.info34
          go_wp2
          go_loopw [24, 25, 26] (fun v x _ wr => ∃ i : Nat, i ≤ K ∧ x = .int .i64 i ∧ NewRows w1.heap.size wr v (noLock (X.take i) j) ∧ Below w1.heap.size w1 wr) (fun _ x _ _ => K - (intOf x).toNat)
          case atStart => exact ⟨0, by omega, rfl, NewRows.nil _ _, HBD.out⟩
          case round =>
            clear HBD
            obtain ⟨i, hi, rfl, hn, hb⟩ := hrel
            obtain ⟨wq, rfl⟩ : ∃ wq, wq = wr := ⟨_, rfl⟩
            have HB := Lib.hid hb
            have HNR := Lib.hid hn
            have HTL := Lib.hid (show (noLock (X.take i) j).length = i by rw [noLock_len]; simp [HKK.out]; omega)
            clear hb hn
            by_cases hlt : i < K
            · have HSU := Lib.hid (noLock_succ (X := X) (i := i) (j := j) (by rw [HKK.out]; exact hlt))
              have ci := (HCE.out wq HB.out i hlt).1
              have HIA := Lib.hid (HCE.out wq HB.out i hlt).2
              have hxl := (HDI.out i hlt).2
              have HRL := Lib.hid (HLE.out i hlt)
              have HNW := Lib.hid (news_at HIA.out ⟨XB i, XO i, none⟩ rfl j)
              go_wp2_with (first
                | (at_builtin; refine wpList_append_own _ rfl (.tmp 175) (.tmp 181) 34 rfl wq.heap.size 3 i0 (.int .i64 0) 1 8 Try.underlying34 hi0 hz0 hz1 hz2 rfl (by decide) (.slice none 0 0) 0 [] rfl (own_nil _ _) ⟨XB i, XO i, none⟩ j (XC i) (((row X i).take j).map (Value.int .i64)) rfl ?r1 HNW.out (oneCell_ints _) ?r2 ?r3 ?r4 ?_)
                | (fail))
              case r1 => have := HRL.out; simp; omega
              case r2 => unfold maxLen; omega
              case r3 => omega
              case r4 => exact Nat.le_refl _
              intro v1 w5 hown hg _
              have hown1 : w5.ownsRow wq.heap.size 3 1 v1 j (((row X i).take j).map (Value.int .i64)) := by simpa using hown
              have HOWN := Lib.hid hown1
              have hb5 : Below wq.heap.size wq w5 := (Below.refl _ wq).grown hg (Nat.le_refl _) (fun r hr => by simp [Value.ownBlock] at hr)
              have HB5 := Lib.hid (HB.out.trans (hb5.mono HB.out.size))
              have HBQ := Lib.hid hb5
              have HIA5 := Lib.hid (HIA.out.below hb5 (Nat.le_refl _))
              clear hown hg hown1 hb5 HIA HNW ci
              have ci := (HCE.out w5 HB5.out i hlt).1
              obtain ⟨ad, had⟩ : ∃ ad : Addr, (if XC i = j + 1 then (some ⟨XB i, XO i, none⟩ : Option Addr) else some ⟨XB i, XO i + (j + 1), none⟩) = some ad := by split <;> exact ⟨_, rfl⟩
              have HNW2 := Lib.hid (show ∀ t u, (((row X i).drop (j + 1)).map (Value.int .i64))[t]? = some u → w5.cell? (ad.add t) = some u from fun t u ht => by
                by_cases e : XC i = j + 1
                · have : (((row X i).drop (j + 1)).map (Value.int .i64)).length = 0 := by have := HRL.out; simp; omega
                  rw [List.length_eq_zero_iff.1 this] at ht
                  simp at ht
                · rw [if_neg e] at had
                  injection had with had
                  rw [← had]
                  exact news_drop HIA5.out (j + 1) t u ht)
              go_wp2_with (first
                | (at_builtin; refine wpList_append_own _ rfl (.tmp 184) (.tmp 191) 34 rfl wq.heap.size 3 i0 (.int .i64 0) 1 8 Try.underlying34 hi0 hz0 hz1 hz2 rfl (by decide) v1 j (((row X i).take j).map (Value.int .i64)) rfl HOWN.out ad (l - (j + 1)) (XC i - (j + 1)) (((row X i).drop (j + 1)).map (Value.int .i64)) rfl ?r5 HNW2.out (oneCell_ints _) ?r6 ?r7 ?r8 ?_)
                | (fail))
              case r5 => have := HRL.out; simp; omega
              case r6 => unfold maxLen; omega
              case r7 => omega
              case r8 => exact HBQ.out.size
              intro v2 w6 hown hg _
              have hni : NewInts wq.heap.size w6 v2 (noCol j (row X i)) := by
                have hlen : (noCol j (row X i)).length = j + (l - (j + 1)) := by rw [noCol_len (by rw [HRL.out]; omega), HRL.out]; omega
                refine ⟨?_, fun q => ?_, by omega⟩
                · rw [hlen]; simpa [noCol, List.map_append] using hown
                · rw [noCol_nth (by rw [HRL.out]; omega)]; exact HIA5.out.wf _
              have hb6 : Below wq.heap.size wq w6 := HBQ.out.grown hg HBQ.out.size (fun r hr => (HOWN.out.lt r hr).1)
              have HB6 := Lib.hid (HB.out.trans (hb6.mono HB.out.size))
              obtain ⟨vo, vb, vc, rfl, -, -⟩ := hni.at
              obtain ⟨RL, hRL⟩ : ∃ RL, (noCol j (row X i)).length = RL := ⟨_, rfl⟩
              rw [hRL] at hni
              have hal := (Below.refl _ w6).alloc (Nat.le_refl _) (.cells #[.slice vo RL vc] 34)
              obtain ⟨ws, e1, e2, e3⟩ := ((HNR.out.below hb6 (Nat.le_refl _)).below hal (Nat.le_refl _)).ex
              have HNI := Lib.hid ((hni.mono HB.out.size).below hal (Nat.le_refl _))
              have HE1 := Lib.hid e1
              have HE2 := Lib.hid e2
              have HE3 := Lib.hid e3
              rw [hRL]
              clear hown hg hni hb6 hal e1 e2 e3 hRL HNW2 had HNR ci HOWN HIA5
              go_wp2_with (first
                | (at_builtin; refine wpList_append_own _ rfl (.tmp 183) (.tmp 193) 22 rfl w1.heap.size 34 j0 (.slice none 0 0) 1 24 Try.underlying22 hj0 jz0 jz1 jz2 rfl (by decide) _ (noLock (X.take i) j).length ws rfl HE1.out ⟨w6.heap.size, 0, none⟩ 1 1 [.slice vo RL vc] rfl rfl (cell_one_new _ _ _) (by simp [oneCell_slice]) ?s2 ?s3 ?s4 ?_)
                | (fail))
              case s2 => have := HTL.out; unfold maxLen; omega
              case s3 => have := HTL.out; omega
              case s4 => have := HB6.out.size; simp; omega
              intro v9 w9 hown hg _
              have HN9 := Lib.hid (NewRows.snoc HE1.out HE2.out HE3.out HNI.out rfl hown hg)
              have HB9 := Lib.hid ((HB6.out.alloc HB6.out.size (.cells #[.slice vo RL vc] 34)).grown hg (by have := HB6.out.size; simp; omega) (fun r hr => (HE1.out.lt r hr).1))
              clear hown hg HE1 HE2 HE3 HNI HB5 HBQ
              go_wp2
              go_roundw
              case rel => exact ⟨i + 1, by omega, by go_num, by rw [HSU.out]; exact HN9.out, HB9.out⟩
              case measure => simp [intOf]; omega
            · have hiK : i = K := by omega
              subst hiK
              have htk : X.take i = X := List.take_of_length_le (by rw [HKK.out]; exact Nat.le_refl _)
              rw [htk] at HNR HTL
              have HPK := Lib.hid (noLock_plan HP.out (j := j) (by rw [HLL.out]; omega) (by rw [HLL.out]; omega))
              obtain ⟨no, nb, nc, NA, NB, NO, NC, rfl, hnat⟩ := HNR.out.at (by have := HPK.out.le; omega)
              have HLK := Lib.hid (least_pos (noLock X j) D no nb 0 nc NA NB NO NC wq hnat HPK.out hD4)
              have HLS := Lib.hid (show ∀ m, LeastIs (noLock X j) D m → 1 ≤ m ∧ m ≤ k from fun m hm => least_noLock HP.out (by rw [HLL.out]; omega) (by rw [HLL.out]; omega) HN.out hk1 hm)
              obtain ⟨nk, hnk⟩ : ∃ nk, (noLock X j).length = nk := ⟨_, rfl⟩
              rw [hnk] at HLK ⊢
              clear hnat hnk htk HNR HTL
              go_wp2_with fail
              refine HLK.out.mono ?_
              rintro e w7 ⟨⟨m, rfl, hm⟩, hb7⟩
              have HB7 := Lib.hid (HB.out.trans (hb7.mono HB.out.size))
              have hmk := HLS.out m hm
              obtain ⟨mz, hmz⟩ : ∃ mz : Int, (m : Int) = mz := ⟨_, rfl⟩
              have t7 : decide (mz < 1) = false := decide_eq_false (by omega)
              have t8 : decide (kz < mz) = false := decide_eq_false (by have := HKZ.out; omega)
              rw [hmz]
              clear hmk hm hb7 hmz
              go_wp2
              go_meet
              exact HB7.out
        · have t6 : decide (1 < (l : Int)) = false := decide_eq_false (by omega)
          go_wp2
          go_meet
          exact HB.out
      have HB := Lib.hid hcut
      clear hcut
      go_wp2_with fail
      refine (awake_any _).mono ?_
      rintro e w7 ⟨rfl, hb7⟩
      have HB7 := Lib.hid (HB1.out.trans ((HB.out.trans (hb7.mono HB.out.size)).mono HB1.out.size))
      clear hb7
      go_wp2
      go_ret
      exact ⟨rfl, HB7.out⟩

end Go.Proofs.Ytjibdolhipddbaa
