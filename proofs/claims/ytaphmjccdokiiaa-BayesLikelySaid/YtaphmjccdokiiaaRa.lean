/- The reference's Likely. -/
import Derived.Test.YtaphmjccdokiiaaQa
import Derived.Test.YtaphmjccdokiiaaJ
namespace Go.Proofs.Ytaphmjccdokiiaa
open Go.RowKit Go.Maps

/-- The list kept so far. -/
def soFar (P T : List (List Int)) (ag : (Nat → Int) → Bool) (k : Nat) : List Int := if (hvTo P T ag k).2 = 0 then [] else vals P.length (hvTo P T ag k).1
theorem soFar_yes {P T : List (List Int)} {ag : (Nat → Int) → Bool} {k : Nat} (hn : IsNet P T) (h : hvTo P T ag (k + 1) = (k, wt P T (bitv P.length k) P.length)) (h2 : (hvTo P T ag k).2 < wt P T (bitv P.length k) P.length) : soFar P T ag (k + 1) = vals P.length k := by
  have := (hvTo_bd (ag := ag) hn k).1
  unfold soFar
  rw [h, if_neg (by show ¬ wt P T (bitv P.length k) P.length = 0; omega)]
theorem soFar_no {P T : List (List Int)} {ag : (Nat → Int) → Bool} {k : Nat} (h : hvTo P T ag (k + 1) = hvTo P T ag k) : soFar P T ag (k + 1) = soFar P T ag k := by
  unfold soFar; rw [h]

set_option maxHeartbeats 4000000 in
set_option maxRecDepth 100000 in
theorem refLikely_any (P T : List (List Int)) (v : Value) (gs : List (Int × Int)) (bo : Option Addr) (bb boff bc : Nat) (w : World) (h : NetAt w v P T) (hn : IsNet P T)
    (hg : PairsAt w bo bb boff gs) (hlg : gs.length ≤ 1000) :
    Calls Try.prog 25 #[v, .slice bo gs.length bc] w fun e w' => (∃ u, e = .returned (.tuple #[u, lkV P T gs, .int .i64 (lkE P T gs)]) ∧ NewInts w.heap.size w' u (lkL P T gs)) ∧ Below w.heap.size w w' := by
  have HNet := Lib.hid h
  have HN := Lib.hid hn
  have HG := Lib.hid hg
  obtain ⟨pa, b, o, pc, A, B, O, C, ta, b', o', tc, A', B', O', C', rfl, hP, hT⟩ := h.ex
  have h10 := HN.out.le
  clear hP hT h hn hg
  obtain ⟨wa, hwa⟩ : ∃ wa, (w.alloc (.cells #[.slice pa P.length pc, .slice ta T.length tc] 24)).alloc (.cells #[.int .i64 0, .int .i64 0] 29) = wa := ⟨_, rfl⟩
  have HWA := Lib.hid hwa
  have W0n : w.heap.size + 2 = wa.heap.size := by rw [← hwa]; simp
  have W0b : Below w.heap.size w wa := by rw [← hwa]; exact ((Below.refl _ _).alloc (Nat.le_refl _) _).alloc (by simp) _
  have HW0n := Lib.hid W0n
  have HW0b := Lib.hid W0b
  have HNa : Hid (NetAt wa (.agg #[.slice pa P.length pc, .slice ta T.length tc]) P T) := by rw [← hwa]; exact (HNet.out.alloc _).alloc _
  have HGa : Hid (PairsAt wa bo bb boff gs) := by rw [← hwa]; exact (HG.out.alloc _).alloc _
  have HT2 := Lib.hid (show ∀ w', Below wa.heap.size wa w' → w'.heap[w.heap.size]? = some (.cells #[.slice pa P.length pc, .slice ta T.length tc] 24 (0, 0)) ∧ w'.heap[w.heap.size + 1]? = some (.cells #[.int .i64 0, .int .i64 0] 29 (0, 0)) from
    fun w' h => two2 (by rw [hwa]; exact h.mono (Nat.le_of_eq W0n)) (Nat.le_refl _))
  have h2 := two_pow_le h10
  have hp := wrap_pow P.length (by omega)
  obtain ⟨m, hm⟩ : ∃ m : Nat, m = 2 ^ P.length := ⟨_, rfl⟩
  rw [← hm] at h2 hp
  have HM := Lib.hid hm
  clear W0n W0b hwa hm
  go_enter Try.func25, Try.ntmps25
  go_wp2_with fail
  rw [HWA.out]
  have hf := refFacts_any gs P.length bo bb boff bc wa HGa.out h10 hlg
  cases e1 : okFacts gs P.length
  · rw [e1] at hf
    have HX := Lib.hid (lk_bad (T := T) e1)
    refine hf.mono ?_
    rintro e w1 ⟨rfl, hb1⟩
    have HB1 : Hid (Below wa.heap.size wa w1) := hb1
    obtain ⟨k0, k1⟩ := HT2.out _ HB1.out
    have K1 := Lib.hid k1
    clear hf hb1 k0 k1 e1
    go_wp2_with (refine wpList_store_row rfl 29 (.tmp 5) (.tmp 22) rfl (w.heap.size + 1) _ rfl rfl 29 _ K1.out (by kernel_rfl) rfl (by simp [Value.oneCell']) ?_)
    refine bodyPost_ret (v := .tuple #[.slice none 0 0, zeroF, .int .i64 2]) ?_ rfl ⟨⟨.slice none 0 0, by rw [HX.out.2.1, HX.out.2.2], by rw [HX.out.1]; exact NewInts.nil _ _⟩, below_setRow (HW0b.out.trans (HB1.out.mono (by have := HW0n.out; omega))) (by omega) _⟩
    exact results_slot_cell2 (ty := 29) (s := 4) (p := 5) (u := 6) rfl _ _ (w.heap.size + 1) 29 _ (0, 0) _ rfl (setRow_heap _ _ _ _ _ _ K1.out) Try.underlying29 rfl (by kernel_rfl)
  · rw [e1] at hf
    have E1 := Lib.hid e1
    refine hf.mono ?_
    rintro e w1 ⟨rfl, hb1⟩
    have HB1 : Hid (Below wa.heap.size wa w1) := hb1
    clear hf hb1 e1
    go_wp2
    go_loopw [8, 9, 10, 11, 12] (fun s u i _ _ wr => ∃ (k : Nat) (u0 : Value), k ≤ m ∧ i = .int .i64 k ∧ s = .int .i64 (hvTo P T (agL gs) k).2 ∧ u = u0 ∧ NewInts wa.heap.size wr u0 (soFar P T (agL gs) k) ∧ Below wa.heap.size wa wr) (fun _ _ i _ _ _ => m - (intOf i).toNat)
    case atStart => exact ⟨0, _, by omega, rfl, rfl, rfl, NewInts.nil _ _, HB1.out⟩
    case round =>
      obtain ⟨k, u, hk, rfl, rfl, rfl, hu, hb⟩ := hrel
      have HB := Lib.hid hb
      have HU := Lib.hid hu
      have hbd := hvTo_bd (ag := agL gs) HN.out k
      obtain ⟨k0, k1⟩ := HT2.out _ HB.out
      obtain ⟨x0, x1, -, -⟩ := cells_of2 k0
      clear hb hu k0 k1
      by_cases hlt : k < m
      · go_wp2_with fail
        refine (refValues_any P.length k _ h10 (by omega)).mono ?_
        rintro e w2 ⟨rfl, hrow, hb2⟩
        have s0 := HB.out.size
        have HB2 := Lib.hid (HB.out.trans (hb2.mono s0))
        have s2 := HB2.out.size
        have hN : NewInts wa.heap.size w2 (.slice (some ⟨wr.heap.size, 0, none⟩) (vals P.length k).length (vals P.length k).length) (vals P.length k) := newInts_of_row (by rw [vals_length, nth_vals']; exact hrow) s0 (by rw [vals_length]; omega) (vals_wf _ _)
        have hI : IntsAt w2 (some ⟨wr.heap.size, 0, none⟩) wr.heap.size 0 (vals P.length k) := intsAt_of_row (by rw [vals_length, nth_vals']; exact hrow) (by rw [vals_length]; omega) (vals_wf _ _)
        rw [vals_length] at hN
        have HNI := Lib.hid hN
        have HI := Lib.hid hI
        have HU2 := Lib.hid (HU.out.below hb2 (Nat.le_refl _))
        obtain ⟨y0, y1, -, -⟩ := cells_of2 (HT2.out _ HB2.out).1
        have hwt := wt_le HN.out (bitv_Bits P.length k) P.length (Nat.le_refl _)
        clear hb2 hrow hN hI x0 x1
        go_wp2_with fail
        have hW := refWeight_any P T (.agg #[.slice pa P.length pc, .slice ta T.length tc]) (vals P.length k) _ _ 0 P.length w2 (HNa.out.below HB2.out (Nat.le_refl _)) HI.out HN.out (by rw [nth_vals']; exact bitv_Bits _ _) (vals_length _ _)
        rw [vals_length, nth_vals'] at hW
        obtain ⟨wk, hwk⟩ : ∃ wk, wt P T (bitv P.length k) P.length = wk := ⟨_, rfl⟩
        have HWK := Lib.hid hwk
        obtain ⟨bt, hbt⟩ : ∃ bt, (hvTo P T (agL gs) k).2 = bt := ⟨_, rfl⟩
        have HBT := Lib.hid hbt
        rw [hwk] at hwt hW
        rw [hbt] at hbd ⊢
        clear hwk hbt
        refine hW.mono ?_
        rintro e w3 ⟨rfl, hb3⟩
        have HB3 := Lib.hid (HB2.out.trans (hb3.mono s2))
        have s3 := HB3.out.size
        have HI3 := Lib.hid (HI.out.below hb3 (Nat.le_refl _))
        have HNI3 := Lib.hid (HNI.out.below hb3 (Nat.le_refl _))
        have HU3 := Lib.hid (HU2.out.below hb3 (Nat.le_refl _))
        clear hW hb3 y0 y1
        go_wp2_with fail
        have hA := agrees_any (vals P.length k) gs _ _ 0 P.length bo bb boff bc w3 HI3.out (HGa.out.below HB3.out (Nat.le_refl _)) (by rw [vals_length]; exact E1.out) hlg
        rw [vals_length, nth_vals'] at hA
        cases e2 : agL gs (bitv P.length k)
        · rw [e2] at hA
          have HS := Lib.hid (hv_ag (P := P) (T := T) e2)
          refine hA.mono ?_
          rintro e w4 ⟨rfl, hb4⟩
          have HB4 := Lib.hid (HB3.out.trans (hb4.mono s3))
          have HU4 := Lib.hid (HU3.out.below hb4 (Nat.le_refl _))
          clear hA hb4 e2
          go_wp2
          go_roundw
          case rel => exact ⟨k + 1, _, by omega, by go_num, by rw [HS.out, HBT.out], rfl, by rw [soFar_no HS.out]; exact HU4.out, HB4.out⟩
          case measure => simp [intOf]; omega
        · rw [e2] at hA
          have HE := Lib.hid e2
          refine hA.mono ?_
          rintro e w4 ⟨rfl, hb4⟩
          have HB4 := Lib.hid (HB3.out.trans (hb4.mono s3))
          have HU4 := Lib.hid (HU3.out.below hb4 (Nat.le_refl _))
          have HNI4 := Lib.hid (HNI3.out.below hb4 (Nat.le_refl _))
          clear hA hb4 e2
          by_cases hgt : bt < wk
          · have HS := Lib.hid (hv_yes (P := P) (T := T) HE.out (by rw [HBT.out, HWK.out]; exact hgt))
            have HSY := Lib.hid (soFar_yes HN.out HS.out (by rw [HBT.out, HWK.out]; exact hgt))
            go_wp2
            go_roundw
            case rel => exact ⟨k + 1, .slice (some ⟨wr.heap.size, 0, none⟩) P.length P.length, by omega, by go_num, by rw [HS.out, HWK.out], rfl, by rw [HSY.out]; exact HNI4.out, HB4.out⟩
            case measure => simp [intOf]; omega
          · have HS := Lib.hid (hv_no (P := P) (T := T) (ag := agL gs) (k := k) (by rw [HBT.out, HWK.out]; exact hgt))
            go_wp2
            go_roundw
            case rel => exact ⟨k + 1, _, by omega, by go_num, by rw [HS.out, HBT.out], rfl, by rw [soFar_no HS.out]; exact HU4.out, HB4.out⟩
            case measure => simp [intOf]; omega
      · have e : k = 2 ^ P.length := by have := HM.out; omega
        have HE := Lib.hid e
        have K1 := Lib.hid (HT2.out _ HB.out).2
        have HWV : Hid (hvW P T (agL gs) = (hvTo P T (agL gs) k).2) := by unfold hvW; rw [← e]; exact rfl
        have HIV : Hid (hvI P T (agL gs) = (hvTo P T (agL gs) k).1) := by unfold hvI; rw [← e]; exact rfl
        have HVL := Lib.hid (hvTo_val (P := P) (T := T) (ag := agL gs) k)
        obtain ⟨bt, hbt⟩ : ∃ bt, (hvTo P T (agL gs) k).2 = bt := ⟨_, rfl⟩
        have HBT := Lib.hid hbt
        rw [hbt] at hbd ⊢
        clear e hbt
        by_cases hz : bt = 0
        · have HX := Lib.hid (lk_zero (P := P) (T := T) E1.out (by rw [HWV.out, HBT.out]; exact hz))
          subst hz
          go_wp2_with (refine wpList_store_row rfl 29 (.tmp 5) (.tmp 47) rfl (w.heap.size + 1) _ rfl rfl 29 _ K1.out (by kernel_rfl) rfl (by simp [Value.oneCell']) ?_)
          refine bodyPost_ret (v := .tuple #[.slice none 0 0, zeroF, .int .i64 6]) ?_ rfl ⟨⟨.slice none 0 0, by rw [HX.out.2.1, HX.out.2.2], by rw [HX.out.1]; exact NewInts.nil _ _⟩, below_setRow (HW0b.out.trans (HB.out.mono (by have := HW0n.out; omega))) (by omega) _⟩
          exact results_slot_cell2 (ty := 29) (s := 4) (p := 5) (u := 6) rfl _ _ (w.heap.size + 1) 29 _ (0, 0) _ rfl (setRow_heap _ _ _ _ _ _ K1.out) Try.underlying29 rfl (by kernel_rfl)
        · have HX := Lib.hid (lk_yes (P := P) (T := T) E1.out (by rw [HWV.out, HBT.out]; exact hz))
          have hz0 : (bt == 0) = false := by rw [beq_eq_false_iff_ne]; exact hz
          have hHU := HU.out
          unfold soFar at hHU
          rw [if_neg (by rw [HBT.out]; exact hz), ← HIV.out] at hHU
          have HOK := Lib.hid (show okAsg (vals P.length (hvI P T (agL gs))) P.length = true from decide_eq_true ⟨vals_length _ _, fun i _ => by rw [nth_vals]; exact bitv_Bits _ _ _⟩)
          have HJV := Lib.hid (show jointV P T (vals P.length (hvI P T (agL gs))) = fracV bt (16 ^ P.length) by
            rw [jointV_yes HOK.out, nth_vals', HIV.out]
            rcases HVL.out with q | q
            · exact absurd (HBT.out.symm.trans q.1) hz
            · rw [← q.1, HBT.out])
          obtain ⟨uo, ub, uc, rfl, hui, -⟩ := hHU.at
          have HUU := Lib.hid hHU
          have HUI := Lib.hid hui
          clear hz hHU hui
          have hj := refJoint_any P T (.agg #[.slice pa P.length pc, .slice ta T.length tc]) (vals P.length (hvI P T (agL gs))) uo ub 0 uc wr (HNa.out.below HB.out (Nat.le_refl _)) HUI.out HN.out
          rw [HOK.out, HJV.out] at hj
          have hfab : fracV bt (16 ^ P.length) = .agg #[.int .i64 (bt / (Int.gcd bt (16 ^ P.length) : Int)), .int .i64 (16 ^ P.length / (Int.gcd bt (16 ^ P.length) : Int))] := rfl
          obtain ⟨fa, hfa⟩ : ∃ fa, bt / (Int.gcd bt (16 ^ P.length) : Int) = fa := ⟨_, rfl⟩
          obtain ⟨fb, hfb⟩ : ∃ fb, (16 : Int) ^ P.length / (Int.gcd bt (16 ^ P.length) : Int) = fb := ⟨_, rfl⟩
          rw [hfa, hfb] at hfab
          rw [hfab] at hj
          have HFAB := Lib.hid hfab
          clear hfab hfa hfb
          go_wp2_with fail
          refine hj.mono ?_
          rintro e w2 ⟨rfl, hb2⟩
          have s0 := HB.out.size
          have s2 := hb2.size
          have HB2 := Lib.hid (HB.out.trans (hb2.mono s0))
          have HUU2 := Lib.hid (HUU.out.below hb2 (Nat.le_refl _))
          obtain ⟨-, l2⟩ := HT2.out _ HB2.out
          have K2 := Lib.hid l2
          obtain ⟨z0, z1, zf0, zf1⟩ := cells_of2 l2
          have hne : w.heap.size + 1 < w2.heap.size := lt_of_block l2
          clear hj hb2 l2
          go_wp2
          go_region
          all_goals go_wp2
          have hs0 := HW0n.out
          have KZ := Lib.hid (heap_setCell_same _ _ 1 _ _ (.int .i64 fb) (heap_setCell_same _ _ 0 _ _ (.int .i64 fa) K2.out))
          refine bodyPost_ret (v := .tuple #[.slice uo (vals P.length (hvI P T (agL gs))).length uc, .agg #[.int .i64 fa, .int .i64 fb], .int .i64 0]) ?_ rfl ⟨⟨.slice uo (vals P.length (hvI P T (agL gs))).length uc, ?_, ?_⟩, ?_⟩
          rotate_left
          · rw [HX.out.2.1, HX.out.2.2, HWV.out, HBT.out, HFAB.out]
          · rw [HX.out.1]
            exact (HUU2.out.blocks (fun g h1 h2 => by
              rw [show ∀ z : World, z.drew.heap = z.heap from fun _ => rfl, Below.heap_alloc _ _ _ (by simpa using h2), heap_setCell_other _ _ _ _ (by show g ≠ w.heap.size + 1; omega), heap_setCell_other _ _ _ _ (by show g ≠ w.heap.size + 1; omega)])).mono (by omega)
          · exact (((HW0b.out.trans (HB2.out.mono (by omega))).setCell (by show w.heap.size ≤ w.heap.size + 1; omega) _).setCell (by show w.heap.size ≤ w.heap.size + 1; omega) _).alloc (by simp; omega) _ |>.drew
          · refine results_slot_cell2 (ty := 29) (s := 4) (p := 5) (u := 6) rfl _ _ (w.heap.size + 1) 29 #[.int .i64 fa, .int .i64 fb] (0, 0) _ rfl ?_ Try.underlying29 rfl (by kernel_rfl)
            rw [show ∀ z : World, z.drew.heap = z.heap from fun _ => rfl, Below.heap_alloc _ _ _ (by simp; omega)]
            exact KZ.out

end Go.Proofs.Ytaphmjccdokiiaa
