/- BayesReversed: the walk. -/
import Derived.Test.YtghffnjnpgiicaaI5
import Derived.Test.YtghffnjnpgiicaaI7
namespace Go.Proofs.Ytghffnjnpgiicaa
open Go.RowKit

set_option maxHeartbeats 4000000 in
set_option maxRecDepth 100000 in
theorem reverseds_any (P T : List (List Int)) (pa : Option Addr) (pb po pc : Nat) (A : Nat → Option Addr) (B O C : Nat → Nat) (ta : Option Addr) (tb tz tc : Nat) (A' : Nat → Option Addr) (B' O' C' : Nat → Nat)
    (xs : List Int) (ao : Option Addr) (xb xo xc : Nat) (zs : List Int) (zo : Option Addr) (zb zf zc : Nat) (w : World)
    (hP : RowsAt w pa pb po P A B O C) (hT : RowsAt w ta tb tz T A' B' O' C') (cP : CapsOk P A C) (cT : CapsOk T A' C') (hX : IntsAt w ao xb xo xs) (hcap : xs.length ≤ xc) (hnil : ao = none → xc = 0) (hZ : IntsAt w zo zb zf zs) (hzc : zs.length ≤ zc) (hzn : zo = none → zc = 0) :
    Calls Try.prog 14 #[.agg #[.slice pa P.length pc, .slice ta T.length tc], .slice ao xs.length xc, .slice zo zs.length zc] w fun e w' => e = .returned (.bool true) ∧ Below w.heap.size w w' := by
  have HP := Lib.hid hP
  have HT := Lib.hid hT
  have CP := Lib.hid cP
  have CT := Lib.hid cT
  have HX := Lib.hid hX
  have HC := Lib.hid hcap
  have HN := Lib.hid hnil
  have HZ := Lib.hid hZ
  have HZC := Lib.hid hzc
  have HZN := Lib.hid hzn
  have HBW : Hid (Below w.heap.size w (w.alloc (.cells #[.slice pa P.length pc, .slice ta T.length tc] 24))) := (Below.refl _ _).alloc (Nat.le_refl _) _
  clear hP hT cP cT hX hcap hnil hZ hzc hzn
  go_enter Try.func14, Try.ntmps14
  go_wp2_with fail
  refine (tame_any P T pa pb po pc A B O C ta tb tz tc A' B' O' C' 8 _ (by omega) (by omega) (HP.out.below HBW.out (Nat.le_refl _)) (HT.out.below HBW.out (Nat.le_refl _)) CP.out CT.out).mono ?_
  rintro e w1 ⟨⟨v1, v2, P', T', rfl, n1, n2, hin, hle⟩, hb1⟩
  obtain ⟨qa, qc, sa, sc, rfl, rfl, hnet⟩ := net_of_rows n1 n2 (by omega) (by have := hin.tab; omega)
  have HIN := Lib.hid hin
  have HB1 := Lib.hid (HBW.out.trans (hb1.mono (by simp)))
  have HNET := Lib.hid hnet
  clear hb1 n1 n2 hnet hin
  go_wp2_with fail
  refine (list_any xs ao xb xo xc _ (HX.out.below HB1.out (Nat.le_refl _)) HC.out HN.out).mono ?_
  obtain ⟨ys, hys⟩ : ∃ ys, xs.take 20 = ys := ⟨_, rfl⟩
  have hyl : ys.length ≤ 20 := by rw [← hys, List.length_take]; omega
  rw [hys]
  rintro e w2 ⟨v, rfl, hv, hb2⟩
  obtain ⟨ya, yb, yc, rfl, hy, -⟩ := hv.at
  have HB2 := Lib.hid (HB1.out.trans (hb2.mono HB1.out.size))
  have HY := Lib.hid hy
  have hcap2 := hv.cap
  have HNET1 := Lib.hid (HNET.out.below hb2 (Nat.le_refl _))
  clear hv hy hb2 hys
  go_wp2_with fail
  refine (list_any zs zo zb zf zc _ (HZ.out.below HB2.out (Nat.le_refl _)) HZC.out HZN.out).mono ?_
  rintro e w3 ⟨v, rfl, hv, hb3⟩
  obtain ⟨ua, ub, uc, rfl, hu, -⟩ := hv.at
  have hcap3 := hv.cap
  have HB3 := Lib.hid ((HB2.out.trans (hb3.mono HB2.out.size)).alloc (by have := HB2.out.size; have := hb3.size; omega) (.cells #[.slice qa P'.length qc, .slice sa T'.length sc] 24))
  have HY3 := Lib.hid ((HY.out.below hb3 (Nat.le_refl _)).alloc (.cells #[.slice qa P'.length qc, .slice sa T'.length sc] 24))
  have HU3 := Lib.hid (hu.alloc (.cells #[.slice qa P'.length qc, .slice sa T'.length sc] 24))
  have HNET2 := Lib.hid ((HNET1.out.below hb3 (Nat.le_refl _)).alloc (.cells #[.slice qa P'.length qc, .slice sa T'.length sc] 24))
  obtain ⟨us, hus⟩ : ∃ us, zs.take 20 = us := ⟨_, rfl⟩
  rw [hus] at HU3 hcap3 ⊢
  clear hv hu hb3 HNET HNET1 HY HB1 HB2 HX HZ HP HT CP CT HC HN HZC HZN hus HBW
  go_wp2_with fail
  obtain ⟨nb, hnb⟩ : ∃ nb, w3.heap.size = nb := ⟨_, rfl⟩
  obtain ⟨wa, hwa⟩ : ∃ wa, w3.alloc (.cells #[.slice qa P'.length qc, .slice sa T'.length sc] 24) = wa := ⟨_, rfl⟩
  have hblk : wa.heap[nb]? = some (.cells #[.slice qa P'.length qc, .slice sa T'.length sc] 24 (0, 0)) := by rw [← hwa, ← hnb]; exact heap_alloc_new _ _
  have HBLK := Lib.hid hblk
  rw [hwa] at HY3 HU3 HNET2 HB3 ⊢
  rw [hnb]
  clear hwa hblk hnb
  refine (active_any P' T' (.agg #[.slice qa P'.length qc, .slice sa T'.length sc]) ys us ya yb 0 yc ua ub 0 uc wa HNET2.out HY3.out HU3.out).mono ?_
  rintro e w4 ⟨rfl, hb4⟩
  obtain ⟨is, his⟩ : ∃ is, actI P' T' ys us = is := ⟨_, rfl⟩
  have HIS := Lib.hid his
  obtain ⟨ee, hee⟩ : ∃ ee, actE P' T' ys us = ee := ⟨_, rfl⟩
  have HEE := Lib.hid hee
  rw [his, hee]
  have HBW4 := Lib.hid (HB3.out.trans (hb4.mono HB3.out.size))
  have HN4 := Lib.hid (HNET2.out.below hb4 (Nat.le_refl _))
  have HY4 := Lib.hid (HY3.out.below hb4 (Nat.le_refl _))
  have HU4 := Lib.hid (HU3.out.below hb4 (Nat.le_refl _))
  have HBLK4 := Lib.hid ((hb4.block _ (lt_of_block HBLK.out)).trans HBLK.out)
  obtain ⟨j0, hj0, jz0, jz1, jz2⟩ := info_parts Try.info3
  have hl21 : us.length ≤ 140737488351232 := HU3.out.len
  clear hb4 his hee HNET2 HY3 HU3 HB3 HBLK
  go_wp2
  go_loopw [12, 13] (fun p i wr => ∃ (k : Nat) (bs : List Int), k ≤ ys.length ∧ i = .int .i64 ((ys.length : Int) - 1 - (k : Int)) ∧ NewInts w4.heap.size wr p bs ∧ bs.length = k ∧ (∀ j, j < k → nth bs j = nth ys (ys.length - 1 - j)) ∧ Below w4.heap.size w4 wr) (fun _ i _ => (intOf i + 1).toNat)
  case atStart => exact ⟨0, [], by omega, by simp, NewInts.nil _ _, rfl, fun j hj => absurd hj (by omega), Below.refl _ _⟩
  case round =>
    obtain ⟨k, bs, hk, rfl, hbs, hlb, hel, hb⟩ := hrel
    subst hlb
    have HBS := Lib.hid hbs
    have HEL := Lib.hid hel
    have HB := Lib.hid hb
    obtain ⟨wq, rfl⟩ : ∃ x, x = wr := ⟨_, rfl⟩
    obtain ⟨ba, bb, bc, rfl, hbat, -⟩ := hbs.at
    have hbcap := hbs.cap
    have HBAT := Lib.hid hbat
    clear hbs hel hb hbat
    by_cases hlt : bs.length < ys.length
    · obtain ⟨m, hm⟩ : ∃ m : Nat, (ys.length : Int) - 1 - (bs.length : Int) = (m : Int) := ⟨ys.length - 1 - bs.length, by omega⟩
      have hmn : m < ys.length := by omega
      have hYq := HY4.out.below HB.out (Nat.le_refl _)
      obtain ⟨rfl, -⟩ := hYq.ptr (by omega)
      have hc := hYq.cell m hmn
      have hwf := hYq.wf m
      rw [Nat.zero_add] at hc
      have hmk : ys.length - 1 - bs.length = m := by omega
      have HM := Lib.hid hm
      have HO := Lib.hid (HBS.out.own.alloc (.cells #[.int .i64 (nth ys m)] 3))
      rw [hm]
      clear hYq hm
      go_wp2_with (at_builtin; (refine wpList_append_own _ rfl (.tmp 39) (.tmp 44) 25 rfl w4.heap.size 3 j0 (.int .i64 0) 1 8 Try.underlying25 hj0 jz0 jz1 jz2 rfl (by decide) _ bs.length (bs.map (Value.int .i64)) rfl HO.out ⟨wq.heap.size, 0, none⟩ 1 1 [.int .i64 (nth ys m)] rfl rfl (cell_one_new _ _ _) (by simp [Value.oneCell']) ?a1 ?a2 ?a3 ?_))
      case a1 => unfold maxLen; omega
      case a2 => omega
      case a3 => have := HB.out.size; simp; omega
      intro u' w6 hown hg _
      have hnew : NewInts w4.heap.size w6 u' (bs ++ [nth ys m]) := by
        refine ⟨by rw [List.length_append, List.map_append]; exact hown, fun i => ?_, by rw [List.length_append]; simp; omega⟩
        rw [nth_snoc]
        split
        · exact hwf
        · exact HBS.out.wf i
      have HNEW := Lib.hid hnew
      have HB6 := Lib.hid ((HB.out.alloc HB.out.size (.cells #[.int .i64 (nth ys m)] 3)).grown hg (by have := HB.out.size; simp; omega) (fun r hr => (HBS.out.own.lt r hr).1))
      clear hown hg hnew HO hc
      go_wp2
      go_roundw
      case rel =>
        refine ⟨bs.length + 1, bs ++ [nth ys m], by omega, by have := HM.out; go_num, HNEW.out, by rw [List.length_append]; rfl, fun j hj => ?_, HB6.out⟩
        rw [nth_snoc]
        split
        · rename_i e; rw [e, hmk]
        · exact HEL.out j (by omega)
      case measure => have := HM.out; first | (simp [intOf]; omega) | (simp [intOf]; done)
    · have hkl : bs.length = ys.length := by omega
      have hback : Back ys bs := ⟨by omega, fun j hj => HEL.out j (by omega)⟩
      have hact := act_back (P := P') (T := T') (set := us) hback
      rw [HIS.out, HEE.out] at hact
      have h2 := active_any P' T' (.agg #[.slice qa P'.length qc, .slice sa T'.length sc]) bs us ba bb 0 bc ua ub 0 uc wq (HN4.out.below HB.out (Nat.le_refl _)) HBAT.out (HU4.out.below HB.out (Nat.le_refl _))
      rw [hact.1, hact.2] at h2
      have hbq := (HB.out.block _ (lt_of_block HBLK4.out)).trans HBLK4.out
      obtain ⟨c0, c1, -, -⟩ := cells_of2 hbq
      have HBQ := Lib.hid hbq
      have HBWq := Lib.hid (HBW4.out.trans (HB.out.mono HBW4.out.size))
      have t1 : (ys.length : Int) - 1 - (bs.length : Int) = -1 := by omega
      rw [t1]
      clear t1
      have t2 : (ee != ee) = false := by simp
      have H2 := Lib.hid h2
      clear hback hact hbq h2 hkl hlt hk hcap2 hcap3 hbcap
      go_wp2_with fail
      refine H2.out.mono ?_
      rintro e w7 ⟨rfl, hb7⟩
      have HB7 := Lib.hid (HBWq.out.trans (hb7.mono HBWq.out.size))
      have HBB := Lib.hid (HB.out.trans (hb7.mono HB.out.size))
      have hb7b := (hb7.block _ (lt_of_block HBQ.out)).trans HBQ.out
      have HBQ7 := Lib.hid hb7b
      clear hb7 c0 c1 hb7b
      cases ho : okAct P' T' ys us
      · have hi := HIS.out
        have he := HEE.out
        rw [(act_no ho).1] at hi
        rw [(act_no ho).2] at he
        subst hi he
        clear ho HIS HEE t2
        go_wp2_with fail
        refine (awake_any _).mono ?_
        rintro e w8 ⟨rfl, hb8⟩
        have HB8 := Lib.hid (HB7.out.trans (hb8.mono HB7.out.size))
        clear hb8
        go_wp2
        go_ret
        exact ⟨rfl, HB8.out⟩
      · have he := HEE.out
        rw [(act_yes ho).2] at he
        subst he
        cases is
        · clear ho HIS HEE t2
          go_wp2_with fail
          refine (awake_any _).mono ?_
          rintro e w8 ⟨rfl, hb8⟩
          have HB8 := Lib.hid (HB7.out.trans (hb8.mono HB7.out.size))
          clear hb8
          go_wp2
          go_ret
          exact ⟨rfl, HB8.out⟩
        · have hj := active_joined HIS.out
          have hlen : 2 ≤ ys.length := by
            unfold okAct at ho
            simp only [Bool.and_eq_true, decide_eq_true_eq] at ho
            exact ho.1.1.1.2
          have hY7 := HY4.out.below HBB.out (Nat.le_refl _)
          obtain ⟨rfl, hyb⟩ := hY7.ptr (by omega)
          have d0 := hY7.cell 0 (by omega)
          have d1 := hY7.cell (ys.length - 1) (by omega)
          rw [Nat.zero_add] at d0 d1
          obtain ⟨x, hx⟩ : ∃ x, nth ys 0 = x := ⟨_, rfl⟩
          obtain ⟨y, hy⟩ : ∃ y, nth ys (ys.length - 1) = y := ⟨_, rfl⟩
          rw [hx, hy] at hj
          rw [hx] at d0
          rw [hy] at d1
          have D0 := Lib.hid d0
          have D1 := Lib.hid d1
          have HJ := Lib.hid hj
          have i1 : (0 : Int) ≤ (ys.length : Int) - 1 := by omega
          have i2 : (ys.length : Int) - 1 < (ys.length : Int) := by omega
          have hk1 : ((ys.length : Int) - 1).toNat = ys.length - 1 := by omega
          have i4 : (0 : Int) < (ys.length : Int) := by omega
          have i5 : 0 < ys.length := by omega
          have i6 : ys.length - 1 < ys.length := by omega
          have i7 : (1 : Int) ≤ (ys.length : Int) := by omega
          have i8 : 1 ≤ ys.length := by omega
          have hwr : IntKind.i64.wrap ((ys.length : Int) - 1) = (ys.length : Int) - 1 := IntWalk.i64_in _ (by omega)
          have HTC := Lib.hid (show ∀ w', Below w7.heap.size w7 w' → w'.cell? ⟨nb, 0, none⟩ = some (.slice qa P'.length qc) ∧ w'.cell? ⟨nb, 1, none⟩ = some (.slice sa T'.length sc) ∧ w'.cell? ⟨yb, 0, none⟩ = some (.int .i64 x) ∧ w'.cell? ⟨yb, ys.length - 1, none⟩ = some (.int .i64 y) from
            fun w' h => by
              obtain ⟨y0, y1, -, -⟩ := cells_of2 ((h.block _ (lt_of_block HBQ7.out)).trans HBQ7.out)
              exact ⟨y0, y1, (h.cell (p := ⟨yb, 0, none⟩) hyb).trans D0.out, (h.cell (p := ⟨yb, ys.length - 1, none⟩) hyb).trans D1.out⟩)
          have HD := Lib.hid (below_dr (Below.refl w7.heap.size w7))
          have HCL := Lib.hid (show ∀ W, Below w7.heap.size w7 W → Calls Try.prog 27 #[.agg #[.slice qa P'.length qc, .slice sa T'.length sc], .int .i64 x, .int .i64 y, .slice ua us.length uc] W fun e w' => (∃ v, e = .returned (.tuple #[.bool false, v, .int .i64 0])) ∧ Below w7.heap.size w7 w' from
            fun W hW => by
              have hB := HBB.out.trans (hW.mono HBB.out.size)
              refine (sep_any P' T' _ x y us ua ub 0 uc W (HN4.out.below hB (Nat.le_refl _)) (HU4.out.below hB (Nat.le_refl _))).mono ?_
              rintro e w' ⟨v, h1, -, h3⟩
              rw [HJ.out.1, HJ.out.2] at h1
              exact ⟨⟨v, h1⟩, hW.trans (h3.mono hW.size)⟩)
          clear ho hY7 d0 d1 hx hy hj t2 HIS HEE
          go_upto_region 13 with fail
          go_region_held3 (fun w' => w'.cell? ⟨nb, 0, none⟩ = some (.slice qa P'.length qc) ∧ w'.cell? ⟨nb, 1, none⟩ = some (.slice sa T'.length sc) ∧ w'.cell? ⟨yb, 0, none⟩ = some (.int .i64 x) ∧ w'.cell? ⟨yb, ys.length - 1, none⟩ = some (.int .i64 y))
            (first | exact HTC.out _ HB8.out | exact HTC.out _ HD.out)
            ((go_simp; go_at_call 27; (with_reducible refine (HCL.out _ HD.out).mono ?_); rintro e w8 ⟨⟨v8, rfl⟩, hb8⟩; have HB8 := Lib.hid hb8; clear hb8))
          all_goals go_wp2_with fail
          all_goals
            refine (awake_any _).mono ?_
            rintro e w9 ⟨rfl, hb9⟩
            have HB9 := Lib.hid ((HB7.out.trans (HB8.out.mono HB7.out.size)).trans (hb9.mono (Nat.le_trans HB7.out.size HB8.out.size)))
            clear hb9
            go_wp2
            go_ret
            exact ⟨rfl, HB9.out⟩

end Go.Proofs.Ytghffnjnpgiicaa
