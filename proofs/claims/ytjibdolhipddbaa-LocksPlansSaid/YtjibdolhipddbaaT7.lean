/- The reference's Least, walked. -/
import Derived.Test.YtjibdolhipddbaaT6
namespace Go.Proofs.Ytjibdolhipddbaa
open Go.RowKit Go.Maps

theorem pow187 {c : Nat} (h : c ≤ 3) : 187 ^ c ≤ 6539203 := by
  obtain rfl | rfl | rfl | rfl : c = 0 ∨ c = 1 ∨ c = 2 ∨ c = 3 := by omega
  all_goals decide
theorem chI_chN (a : List (List Int)) (d : Nat) : chI a d a.length [] 0 = nI (chN a d) := by
  unfold chI nI chN; rw [List.map_map]; rfl

set_option maxHeartbeats 8000000 in
set_option maxRecDepth 100000 in
theorem refLeast_any (a : List (List Int)) (D : Nat) (ao : Option Addr) (b o cap : Nat) (A : Nat → Option Addr) (B O C : Nat → Nat) (w : World) (H : RowsAt w ao b o a A B O C) (ha : IsPlan a) (hD : 1 ≤ D ∧ D ≤ 4) :
    Calls Try.prog 16 #[.slice ao a.length cap, .int .i64 D] w fun e w' => (∃ n : Nat, e = .returned (.int .i64 n) ∧ LeastIs a D n) ∧ Below w.heap.size w w' := by
  obtain ⟨i0, hi0, hz0, hz1, hz2⟩ := info_parts Try.info3
  have hk1 := ha.pos
  have HGO := Lib.hid (goals_any a ao b o cap A B O C w H ha)
  have HCH := Lib.hid (show Calls Try.prog 40 #[.slice ao a.length cap, .int .i64 D, .slice none 0 0, .int .i64 0] w fun e w' => ∃ v, e = .returned v ∧ NewInts w.heap.size w' v (nI (chN a D)) ∧ Below w.heap.size w w' by
    have h := chambers_any a D ao b o cap A B O C ha hD a.length [] 0 none 0 0 0 w H (IntsAt.nil _ _ _ _) (by simp) (by omega) (by simp) (.inl ⟨rfl, rfl, rfl⟩)
    rw [chI_chN] at h
    exact h)
  have HCL := Lib.hid (show (chN a D).length ≤ 187 by unfold chN; rw [List.length_map]; exact (lvs_at ha.le hD.1 hD.2).1)
  have HCA := Lib.hid (show ∀ x ∈ chN a D, x < 68719476736 from fun x hx => (chN_at hx).1)
  have HPA := Lib.hid ha
  have hG := glN_lt a
  obtain ⟨G, hGv⟩ : ∃ G, glN a = G := ⟨_, rfl⟩
  have HGV := Lib.hid hGv
  rw [hGv] at HGO hG
  clear H ha hGv
  go_enter Try.func16, Try.ntmps16
  go_wp2_with fail
  refine HGO.out.mono ?_
  rintro e w ⟨rfl, rfl⟩
  obtain ⟨gi, hgi⟩ : ∃ gi : Int, ((G : Nat) : Int) = gi := ⟨_, rfl⟩
  have HGI := Lib.hid hgi
  rw [hgi]
  clear hgi
  go_wp2_with fail
  refine HCH.out.mono ?_
  rintro e w1 ⟨v, rfl, hn, hb⟩
  have HB1 := Lib.hid hb
  obtain ⟨mo, mb, mc, rfl, hma, -⟩ := hn.at
  have HMX := Lib.hid (maximal_any (chN a D) mo mb 0 mc w1 hma HCA.out (by have := HCL.out; omega))
  have HNL := Lib.hid (nI_len (chN a D))
  rw [HNL.out]
  clear hn hb hma HGO HCH
  go_wp2_with fail
  refine HMX.out.mono ?_
  rintro e w2 ⟨v, rfl, hn, hb⟩
  obtain ⟨T, hT⟩ : ∃ T, mxS (chN a D) = T := ⟨_, rfl⟩
  have HT := Lib.hid hT
  rw [hT] at hn
  obtain ⟨tto, tb, tc, rfl, hta, -⟩ := hn.at
  have htn : T.length ≤ 187 := by
    have := mxTo_len (chN a D) (chN a D).length
    have h2 := HCL.out
    rw [← hT]; unfold mxS; omega
  have HTA := Lib.hid hta
  have HTS := Lib.hid (show ∀ k, k < T.length → ntN T k < 68719476736 from fun k hk => HCA.out _ (mx_mem (by rw [hT]; exact ntN_mem hk)))
  have HB2 := Lib.hid (HB1.out.trans (hb.mono HB1.out.size))
  rw [nI_len]
  obtain ⟨tn, htv⟩ : ∃ tn, T.length = tn := ⟨_, rfl⟩
  have HTN := Lib.hid htv
  rw [htv] at htn HTS ⊢
  have HN0 := Lib.hid (NewInts.one w2 0 HB2.out.size (by omega))
  have HB3 := Lib.hid (HB2.out.alloc HB2.out.size (.cells #[.int .i64 0] 3))
  have HTC := Lib.hid (show ∀ W, Below w2.heap.size w2 W → ∀ k, k < tn → tto = some ⟨tb, 0, none⟩ ∧ W.cell? ⟨tb, k, none⟩ = some (.int .i64 (ntN T k : Nat)) from fun W hW k hk => by
    have h := HTA.out.below hW (Nat.le_refl _)
    have := h.cell k (by rw [nI_len, HTN.out]; exact hk)
    rw [nI_nth (by rw [HTN.out]; exact hk), Nat.zero_add] at this
    exact ⟨(h.ptr (by rw [nI_len, HTN.out]; omega)).1, this⟩)
  clear hn hb hta hT htv HMX HB1 HNL
  have HB23 := Lib.hid ((Below.refl _ w2).alloc (Nat.le_refl _) (.cells #[.int .i64 0] 3))
  go_wp2
  go_loopw [7, 8, 9, 10, 11, 12] (fun v x _ _ _ _ wr => ∃ (cc : Nat) (S : List Nat), 1 ≤ cc ∧ cc ≤ 5 ∧ x = .int .i64 cc ∧ NewInts w.heap.size wr v (nI S) ∧ Inv a D (cc - 1) S ∧ S.length ≤ 187 ^ (cc - 1) ∧ (∀ c', 1 ≤ c' → c' < cc → ¬ PosA a D c') ∧ Below w2.heap.size w2 wr) (fun _ x _ _ _ _ _ => 5 - (intOf x).toNat)
  case atStart => exact ⟨1, [0], by omega, by omega, rfl, HN0.out, Inv.start a D, by simp, fun c' h1 h2 => by omega, HB23.out⟩
  case round =>
    clear HN0 HB3 HB23
    obtain ⟨cc, S, hc1, hc5, rfl, hn, hinv, hsl, hno, hb⟩ := hrel
    obtain ⟨wq, rfl⟩ : ∃ wq, wq = wr := ⟨_, rfl⟩
    have HINV := Lib.hid hinv
    have HNO := Lib.hid hno
    have HB := Lib.hid hb
    have HBW := Lib.hid (HB2.out.trans (hb.mono HB2.out.size))
    obtain ⟨so, sb, sc, rfl, hsa, -⟩ := hn.at
    have HSA := Lib.hid hsa
    rw [nI_len]
    have HSL := Lib.hid hsl
    have HSS := Lib.hid (show ∀ i, i < S.length → ntN S i < 68719476736 from fun i hi => (inU_at _ _ (hinv.mem _ (ntN_mem hi))).1)
    clear hn hinv hno hb hsa hsl
    by_cases hc4 : cc ≤ 4
    · have hp := pow187 (show cc - 1 ≤ 3 by omega)
      have hsb : S.length ≤ 6539203 := Nat.le_trans HSL.out hp
      obtain ⟨sn, hsn⟩ : ∃ sn, S.length = sn := ⟨_, rfl⟩
      have HSN := Lib.hid hsn
      rw [hsn] at hsb HSS ⊢
      have HSC := Lib.hid (show ∀ W, Below wq.heap.size wq W → ∀ i, i < sn → so = some ⟨sb, 0, none⟩ ∧ W.cell? ⟨sb, i, none⟩ = some (.int .i64 (ntN S i : Nat)) from fun W hW i hi => by
        have h := HSA.out.below hW (Nat.le_refl _)
        have := h.cell i (by rw [nI_len, HSN.out]; exact hi)
        rw [nI_nth (by rw [HSN.out]; exact hi), Nat.zero_add] at this
        exact ⟨(h.ptr (by rw [nI_len, HSN.out]; omega)).1, this⟩)
      have HPL := Lib.hid (show ∀ i k, i ≤ sn → k ≤ tn → (prT S T i k).length ≤ 1222840000 from fun i k hi hk => by
        rw [prT_len i k (by rw [HSN.out]; exact hi) (by rw [HTN.out]; exact hk), HTN.out]
        have h1 : i * tn ≤ 6539203 * 187 := Nat.mul_le_mul (by omega) htn
        omega)
      have hccb : decide ((cc : Int) ≤ 4) = true := decide_eq_true (by omega)
      clear hp hsn
      go_wp2
      go_loopw [9, 10, 11, 12] (fun v x _ _ wx => ∃ i : Nat, i ≤ sn ∧ x = .int .i64 i ∧ NewInts wq.heap.size wx v (nI (prT S T i 0)) ∧ (∀ z ∈ prT S T i 0, z < 68719476736 ∧ z ≠ G) ∧ Below wq.heap.size wq wx) (fun _ x _ _ _ => sn - (intOf x).toNat)
      case atStart => exact ⟨0, by omega, rfl, by simpa [prT, nI] using NewInts.nil _ _, fun z hz => by simp [prT] at hz, Below.refl _ _⟩
      case round =>
        obtain ⟨i, hi, rfl, hn, hz, hb⟩ := hrel
        have HN := Lib.hid hn
        have HZ := Lib.hid hz
        have HBX := Lib.hid hb
        clear hn hz hb
        by_cases hlt : i < sn
        · have hii : (i : Int) < (sn : Int) := by omega
          go_wp2
          go_loopw [9, 11, 12] (fun v x _ wx => ∃ k : Nat, k ≤ tn ∧ x = .int .i64 k ∧ NewInts wq.heap.size wx v (nI (prT S T i k)) ∧ (∀ z ∈ prT S T i k, z < 68719476736 ∧ z ≠ G) ∧ Below wq.heap.size wq wx) (fun _ x _ _ => tn - (intOf x).toNat)
          case atStart => exact ⟨0, by omega, rfl, HN.out, HZ.out, HBX.out⟩
          case round =>
            clear HN HZ HBX
            obtain ⟨k, hk, rfl, hn, hz, hb⟩ := hrel
            have HN := Lib.hid hn
            have HZ := Lib.hid hz
            have HBX := Lib.hid hb
            clear hn hz hb
            by_cases hkt : k < tn
            · have hki : (k : Int) < (tn : Int) := by omega
              obtain ⟨rfl, cs⟩ := HSC.out wr HBX.out i hlt
              obtain ⟨rfl, ct⟩ := HTC.out wr (HB.out.trans (HBX.out.mono HB.out.size)) k hkt
              have hs36 := HSS.out i hlt
              have ht36 := HTS.out k hkt
              have HST := Lib.hid (prT_step (S := S) (T := T) (i := i) (k := k) (by rw [HTN.out]; exact hkt))
              have HPS := Lib.hid (show ntN S i ||| ntN T k = G → PosA a D cc from fun h => by
                have := HINV.out.some HPA.out hD (ntN_mem (l := S) (by rw [HSN.out]; exact hlt)) (by rw [HT.out]; exact ntN_mem (l := T) (by rw [HTN.out]; exact hkt)) (by rw [HGV.out]; exact h)
                rwa [show cc - 1 + 1 = cc by omega] at this)
              have hor := i64_or_nat (ntN S i) (ntN T k) hs36 ht36
              have horl : ntN S i ||| ntN T k < 68719476736 := by
                have : ntN S i ||| ntN T k < 2 ^ 36 := Nat.or_lt_two_pow (by omega) (by omega)
                omega
              obtain ⟨z, hzv⟩ : ∃ z, ntN S i ||| ntN T k = z := ⟨_, rfl⟩
              rw [hzv] at HST HPS hor horl
              obtain ⟨s, hsv⟩ : ∃ s : Int, ((ntN S i : Nat) : Int) = s := ⟨_, rfl⟩
              obtain ⟨t, htv⟩ : ∃ t : Int, ((ntN T k : Nat) : Int) = t := ⟨_, rfl⟩
              obtain ⟨zi, hzi⟩ : ∃ zi : Int, ((z : Nat) : Int) = zi := ⟨_, rfl⟩
              rw [hsv] at cs hor
              rw [htv] at ct hor
              rw [hzi] at hor
              have HOR := Lib.hid hor
              have HZI := Lib.hid hzi
              clear hzv hsv htv hs36 ht36
              go_wp2_with fail
              go_quiet (fail)
              obtain ⟨wd, hwd⟩ : ∃ wd, wr.drewN nq = wd := ⟨_, rfl⟩
              have HBD := Lib.hid (show Below wq.heap.size wq wd by rw [← hwd]; exact below_drewN HBX.out _)
              have HND := Lib.hid (HN.out.below (show Below wr.heap.size wr wd by rw [← hwd]; exact below_drewN (Below.refl _ _) _) (Nat.le_refl _))
              rw [hwd]
              clear hwd cs ct hor hzi
              by_cases hzg : z = G
              · have t1 : (zi == gi) = true := beq_iff_eq.2 (by have := HZI.out; have := HGI.out; omega)
                have HF := Lib.hid (HPS.out hzg)
                have HBZ := Lib.hid (HB2.out.trans ((HB.out.trans (HBD.out.mono HB.out.size)).mono HB2.out.size))
                clear hzg
                go_wp2
                go_ret
                exact ⟨⟨cc, rfl, .inr ⟨hc1, hc4, HF.out, fun c' h1 h2 => HNO.out c' h1 h2⟩⟩, HBZ.out⟩
              · have t1 : (zi == gi) = false := beq_eq_false_iff_ne.2 (by have := HZI.out; have := HGI.out; omega)
                have HZ2 := Lib.hid (show ∀ y ∈ prT S T i (k + 1), y < 68719476736 ∧ y ≠ G from fun y hy => by
                  rw [HST.out] at hy
                  rcases List.mem_append.1 hy with q | q
                  · exact HZ.out y q
                  · rw [List.mem_singleton.1 q]; exact ⟨horl, hzg⟩)
                have hpl := HPL.out i k (by omega) (by omega)
                have HO := Lib.hid (HND.out.below ((Below.refl _ wd).alloc (Nat.le_refl _) (.cells #[.int .i64 zi] 3)) (Nat.le_refl _)).own
                have HNL := Lib.hid (nI_len (prT S T i k))
                clear hzg
                go_wp2_with (first
                  | (at_builtin; refine wpList_append_own _ rfl (.tmp 49) (.tmp 51) 34 rfl wq.heap.size 3 i0 (.int .i64 0) 1 8 Try.underlying34 hi0 hz0 hz1 hz2 rfl (by decide) _ (nI (prT S T i k)).length ((nI (prT S T i k)).map (Value.int .i64)) rfl HO.out ⟨wd.heap.size, 0, none⟩ 1 1 [.int .i64 zi] rfl rfl (cell_one_new _ _ _) (by simp [Value.oneCell']) ?q2 ?q3 ?q4 ?_)
                  | (fail))
                case q2 => have := HNL.out; unfold maxLen; omega
                case q3 => have := HNL.out; omega
                case q4 => have := HBD.out.size; simp; omega
                intro v9 w9 hown hg _
                have HN9 := Lib.hid (show NewInts wq.heap.size w9 v9 (nI (prT S T i (k + 1))) from by
                  have hw := nI_wf (l := prT S T i (k + 1)) fun y hy => (HZ2.out y hy).1
                  rw [HST.out, nI_app] at hw ⊢
                  have he : nI [z] = [zi] := by unfold nI; rw [List.map_singleton, HZI.out]
                  rw [he] at hw ⊢
                  exact NewInts.more hown hw (by have := HNL.out; simp; omega))
                have HB9 := Lib.hid ((HBD.out.alloc HBD.out.size (.cells #[.int .i64 zi] 3)).grown hg (by have := HBD.out.size; simp; omega) (fun r hr => (HO.out.lt r hr).1))
                clear hown hg HO
                go_wp2
                go_roundw
                case rel => exact ⟨k + 1, by omega, by go_num, HN9.out, HZ2.out, HB9.out⟩
                case measure => simp [intOf]; omega
            · have hkt : k = tn := by omega
              subst hkt
              have HE := Lib.hid (show prT S T (i + 1) 0 = prT S T i k by rw [prT_row (by rw [HSN.out]; exact hlt), HTN.out])
              go_wp2
              go_roundw
              case rel => exact ⟨i + 1, by omega, by go_num, by rw [HE.out]; exact HN.out, by rw [HE.out]; exact HZ.out, HBX.out⟩
              case measure => simp [intOf]; omega
        · have hisn : i = sn := by omega
          subst hisn
          have HPR := Lib.hid (show prT S T i 0 = prT S (mxS (chN a D)) S.length 0 by rw [HT.out, HSN.out])
          have HNX := Lib.hid (show Inv a D cc (mxS (prT S T i 0)) by
            have := HINV.out.next
            rw [← HPR.out] at this
            rwa [show cc - 1 + 1 = cc by omega] at this)
          have HNP := Lib.hid (show ¬ PosA a D cc by
            have := HINV.out.none HPA.out hD (fun x hx => by rw [HGV.out]; rw [← HPR.out] at hx; exact (HZ.out x hx).2)
            rwa [show cc - 1 + 1 = cc by omega] at this)
          have HSL2 := Lib.hid (show (mxS (prT S T i 0)).length ≤ 187 ^ cc by
            have h1 : (mxS (prT S T i 0)).length ≤ (prT S T i 0).length := mxTo_len _ _
            rw [prT_len i 0 (by rw [HSN.out]; exact Nat.le_refl _) (by omega), HTN.out] at h1
            have h2 : i * tn ≤ 187 ^ (cc - 1) * 187 := Nat.mul_le_mul (by rw [← HSN.out]; exact HSL.out) htn
            rw [← Nat.pow_succ, show (cc - 1).succ = cc by omega] at h2
            omega)
          have hpl := HPL.out i 0 (Nat.le_refl _) (by omega)
          obtain ⟨R, hR⟩ : ∃ R, prT S T i 0 = R := ⟨_, rfl⟩
          rw [hR] at HN HZ HNX HSL2 hpl
          obtain ⟨ro, rb, rc, rfl, hra, -⟩ := HN.out.at
          have HMX := Lib.hid (maximal_any R ro rb 0 rc wr hra (fun x hx => (HZ.out x hx).1) (by omega))
          rw [nI_len]
          have HBE := Lib.hid (HBW.out.trans (HBX.out.mono HBW.out.size))
          clear hR hra HN HZ
          go_wp2_with fail
          refine HMX.out.mono ?_
          rintro e w8 ⟨v8, rfl, hn8, hb8⟩
          have HN8 := Lib.hid (hn8.mono HBE.out.size)
          have HB8 := Lib.hid (HB.out.trans ((HBX.out.trans (hb8.mono HBX.out.size)).mono HB.out.size))
          have HNO2 := Lib.hid (show ∀ c', 1 ≤ c' → c' < cc + 1 → ¬ PosA a D c' from fun c' h1 h2 => by
            by_cases e : c' = cc
            · rw [e]; exact HNP.out
            · exact HNO.out c' h1 (by omega))
          clear hn8 hb8
          go_wp2
          go_roundw
          case rel => exact ⟨cc + 1, _, by omega, by omega, by go_num, HN8.out, HNX.out, HSL2.out, HNO2.out, HB8.out⟩
          case measure => simp [intOf]; omega
    · have hccb : decide ((cc : Int) ≤ 4) = false := decide_eq_false (by omega)
      have HBZ := Lib.hid (HB2.out.trans (HB.out.mono HB2.out.size))
      go_wp2
      go_ret
      exact ⟨⟨0, rfl, .inl ⟨rfl, fun c h1 h4 => HNO.out c h1 (by omega)⟩⟩, HBZ.out⟩

end Go.Proofs.Ytjibdolhipddbaa
