/- 'network': a copy of a network, with at most 12 variables. -/
import Derived.Test.YtaphmjccdokiiaaN
namespace Go.Proofs.Ytaphmjccdokiiaa
open Go.RowKit

/-- What is known of the spare places of the rows of an argument. -/
def CapsOk (xss : List (List Int)) (A : Nat → Option Addr) (C : Nat → Nat) : Prop := ∀ i, i < xss.length → (row xss i).length ≤ C i ∧ (A i = none → C i = 0)

theorem oneCell_slice (ao : Option Addr) (n c : Nat) : (Value.slice ao n c).oneCell' = true := rfl

theorem rfl3 (w : World) (a b c : Obj) : (((w.alloc a).alloc b).alloc c).heap[w.heap.size]? = some a := by
  rw [Below.heap_alloc _ _ _ (by simp; omega), Below.heap_alloc _ _ _ (by simp)]; exact heap_alloc_new _ _
theorem rfl4 (w : World) (a b c : Obj) : (((w.alloc a).alloc b).alloc c).heap[w.heap.size + 1]? = some b := by
  rw [Below.heap_alloc _ _ _ (by simp)]
  have := heap_alloc_new (w.alloc a) b
  simpa using this
theorem rfl5 (w : World) (a b c : Obj) : (((w.alloc a).alloc b).alloc c).heap[w.heap.size + 2]? = some c := by
  have := heap_alloc_new ((w.alloc a).alloc b) c
  simpa using this

set_option maxHeartbeats 4000000 in
set_option maxRecDepth 100000 in
theorem network_any (P T : List (List Int)) (pa : Option Addr) (pb po pc : Nat) (A : Nat → Option Addr) (B O C : Nat → Nat) (ta : Option Addr) (tb to tc : Nat) (A' : Nat → Option Addr) (B' O' C' : Nat → Nat) (w : World)
    (hP : RowsAt w pa pb po P A B O C) (hT : RowsAt w ta tb to T A' B' O' C') (cP : CapsOk P A C) (cT : CapsOk T A' C') :
    Calls Try.prog 15 #[.agg #[.slice pa P.length pc, .slice ta T.length tc]] w fun e w' =>
      (∃ v1 v2, e = .returned (.agg #[v1, v2]) ∧ NewRows w.heap.size w' v1 (trim P) ∧ NewRows w.heap.size w' v2 (trim T)) ∧ Below w.heap.size w w' := by
  have HP := Lib.hid hP
  have HT := Lib.hid hT
  have CP := Lib.hid cP
  have CT := Lib.hid cT
  have hlP := hP.len
  have hlT := hT.len
  obtain ⟨i0, hi, hz0, hz1, hz2⟩ := info_parts Try.info25
  clear hP hT cP cT
  go_enter Try.func15, Try.ntmps15
  go_wp2
  go_loopw [4, 5] (fun i _ wr => ∃ (k : Nat) (v1 : Value), k ≤ P.length ∧ k ≤ 12 ∧ i = .int .i64 k ∧ Below w.heap.size w wr ∧ NewRows (w.heap.size + 3) wr v1 ((P.take k).map (List.take 20)) ∧
    wr.heap[w.heap.size]? = some (.cells #[.slice pa P.length pc, .slice ta T.length tc] 24 (0, 0)) ∧ wr.heap[w.heap.size + 1]? = some (.cells #[.slice none 0 0, .slice none 0 0] 24 (0, 0)) ∧
    wr.heap[w.heap.size + 2]? = some (.cells #[v1, .slice none 0 0] 24 (0, 0))) (fun i _ _ => P.length - (intOf i).toNat)
  case atStart => exact ⟨0, _, by omega, by omega, rfl, (((Below.refl _ _).alloc (Nat.le_refl _) _).alloc (by simp) _).alloc (by simp; omega) _, NewRows.nil _ _, rfl3 _ _ _ _, rfl4 _ _ _ _, rfl5 _ _ _ _⟩
  case round =>
    obtain ⟨k, v1, hk, hk12, rfl, hb, hr, h0, h1, h2⟩ := hrel
    obtain ⟨c0, c1, -, -⟩ := cells_of2 h0
    obtain ⟨d0, d1, f0, f1⟩ := cells_of2 h2
    have HB := Lib.hid hb
    have HR := Lib.hid hr
    have H0 := Lib.hid h0
    have H1 := Lib.hid h1
    have H2 := Lib.hid h2
    clear hb hr h0 h1 h2
    by_cases hgo : k < P.length ∧ k < 12
    · obtain ⟨hlt, hl12⟩ := hgo
      have hP' := HP.out.below HB.out (Nat.le_refl _)
      obtain ⟨rfl, -⟩ := hP'.ptr (by omega)
      have hck := hP'.cell k hlt
      have HRK := Lib.hid (hP'.rows k hlt)
      clear hP'
      go_wp2_with fail
      refine (list_any (row P k) _ _ _ _ _ HRK.out (CP.out k hlt).1 (CP.out k hlt).2).mono ?_
      rintro e w1 ⟨u, rfl, hu, hb1⟩
      obtain ⟨q, hq⟩ : ∃ q, q = List.take 20 (row P k) := ⟨_, rfl⟩
      rw [← hq] at hu
      have HQ := Lib.hid hq
      clear hq
      obtain ⟨uo, ub, uc, rfl, -, -⟩ := hu.at
      obtain ⟨vs, e1, e2, e3⟩ := (HR.out.below hb1 (Nat.le_refl _)).ex
      have hlk : ((P.take k).map (List.take 20)).length = k := by simp; omega
      have hN := HB.out.size
      have hN1 := lt_of_block H2.out
      have hN2 := hb1.size
      have K0 := Lib.hid ((hb1.block _ (lt_of_block H0.out)).trans H0.out)
      have K1 := Lib.hid ((hb1.block _ (lt_of_block H1.out)).trans H1.out)
      have K2 := Lib.hid ((hb1.block _ (lt_of_block H2.out)).trans H2.out)
      have HU := Lib.hid (hu.mono (B' := w.heap.size + 3) (by omega))
      have HB1 := Lib.hid hb1
      have E2 := Lib.hid e2
      have E3 := Lib.hid e3
      have E1 := Lib.hid e1
      have e1' := e1
      rw [hlk] at e1'
      clear hu hb1 e1 e2 e3 d0 d1 f0 f1 c0 c1
      go_wp2_with (at_builtin; refine wpList_append_own _ rfl (.tmp 21) (.tmp 28) 22 rfl (w.heap.size + 3) 25 i0 (.slice none 0 0) 1 24 Try.underlying22 hi hz0 hz1 hz2 rfl (by decide) v1 k vs rfl (e1'.alloc _) ⟨w1.heap.size, 0, none⟩ 1 1 [.slice uo q.length uc] rfl rfl (cell_one_new _ _ _) (by simp [oneCell_slice]) ?c3 ?c4 ?c5 ?_)
      case c3 => unfold maxLen; omega
      case c4 => omega
      case c5 => simp; omega
      intro v' w2 hown hg hnl
      have hvb : ∀ g, g < w.heap.size + 3 → w2.heap[g]? = w1.heap[g]? := fun g hg' => by
        rw [hg.block g (by simp; omega) (fun e => by have := E1.out.lt g e.symm; omega), Below.heap_alloc _ _ _ (by omega)]
      have HNR := Lib.hid (NewRows.snoc (w := w1.alloc (.cells #[.slice uo q.length uc] 25)) (E1.out.alloc _) (fun j hj => let ⟨x, h1, h2⟩ := E2.out j hj; ⟨x, h1, h2.below ((Below.refl _ _).alloc (Nat.le_refl _) _) (Nat.le_refl _)⟩) E3.out (HU.out.below ((Below.refl _ _).alloc (Nat.le_refl _) _) (Nat.le_refl _)) (oneCell_slice _ _ _) (by rw [hlk]; exact hown) hg)
      obtain ⟨g', cap', rfl, hgb⟩ := slice_of_own hown
      have L0 := Lib.hid ((hvb _ (by omega)).trans K0.out)
      have L1 := Lib.hid ((hvb _ (by omega)).trans K1.out)
      have L2 := Lib.hid ((hvb _ (by omega)).trans K2.out)
      have HB2 : Hid (Below w.heap.size w w2) := ((HB.out.trans (HB1.out.mono hN)).alloc (by omega) _).grown hg (by simp; omega) (fun r hr => by have := E1.out.lt r hr; omega)
      obtain ⟨d0, d1, f0, f1⟩ := cells_of2 L2.out
      clear hvb hown hg hnl e1'
      go_wp2
      go_roundw
      case rel =>
        refine ⟨k + 1, .slice (some ⟨g', 0, none⟩) (k + 1) cap', by omega, by omega, by go_num, HB2.out.setCell (by show w.heap.size ≤ w.heap.size + 1 + 1; omega) _, ?_, ?_, ?_, ?_⟩
        · rw [take_succ_row hlt, ← HQ.out]
          exact HNR.out.setCell (by show w.heap.size + 1 + 1 < _; omega) _
        · rw [heap_setCell_other _ _ _ _ (by show w.heap.size ≠ w.heap.size + 1 + 1; omega)]; exact L0.out
        · rw [heap_setCell_other _ _ _ _ (by show w.heap.size + 1 ≠ w.heap.size + 1 + 1; omega)]; exact L1.out
        · exact heap_setCell_same _ _ 0 _ _ _ L2.out
      case measure => simp [intOf]; omega
    · have htr : (P.take k).map (List.take 20) = trim P := by
        unfold trim
        by_cases e : k = 12
        · rw [e]
        · rw [List.take_of_length_le (show P.length ≤ k by omega), List.take_of_length_le (show P.length ≤ 12 by omega)]
      rw [htr] at HR
      have hcase : (¬ k < P.length) ∨ (k < P.length ∧ ¬ k < 12) := by omega
      clear htr hgo
      rcases hcase with g1 | ⟨g1, g2⟩
      all_goals
        go_wp2
        clear c0 c1 d0 d1 f0 f1
        obtain ⟨wo, rfl⟩ : ∃ wo : World, wo = wr := ⟨_, rfl⟩
        have hz := lt_of_block H2.out
        go_loopw [6, 7] (fun i _ wr => ∃ (k : Nat) (v2 : Value), k ≤ T.length ∧ k ≤ 12 ∧ i = .int .i64 k ∧ Below w.heap.size w wr ∧ (∀ g, w.heap.size + 3 ≤ g → g < wo.heap.size → wr.heap[g]? = wo.heap[g]?) ∧ NewRows wo.heap.size wr v2 ((T.take k).map (List.take 20)) ∧ wo.heap.size ≤ wr.heap.size ∧
          wr.heap[w.heap.size]? = some (.cells #[.slice pa P.length pc, .slice ta T.length tc] 24 (0, 0)) ∧ wr.heap[w.heap.size + 1]? = some (.cells #[.slice none 0 0, .slice none 0 0] 24 (0, 0)) ∧
          wr.heap[w.heap.size + 2]? = some (.cells #[v1, v2] 24 (0, 0))) (fun i _ _ => T.length - (intOf i).toNat)
        case atStart => exact ⟨0, _, by omega, by omega, rfl, HB.out, fun _ _ _ => rfl, NewRows.nil _ _, Nat.le_refl _, H0.out, H1.out, H2.out⟩
        case round =>
          obtain ⟨k, v2, hk, hk12, rfl, hb, hr1, hr, hzz, h0, h1, h2⟩ := hrel
          clear HB H0 H1 H2
          obtain ⟨c0, c1, -, -⟩ := cells_of2 h0
          obtain ⟨d0, d1, f0, f1⟩ := cells_of2 h2
          have HB := Lib.hid hb
          have HR1 := Lib.hid hr1
          have HR2 := Lib.hid hr
          have H0 := Lib.hid h0
          have H1 := Lib.hid h1
          have H2 := Lib.hid h2
          clear hb hr1 hr h0 h1 h2
          by_cases hgo : k < T.length ∧ k < 12
          · obtain ⟨hlt, hl12⟩ := hgo
            have hT' := HT.out.below HB.out (Nat.le_refl _)
            obtain ⟨rfl, -⟩ := hT'.ptr (by omega)
            have hck := hT'.cell k hlt
            have HRK := Lib.hid (hT'.rows k hlt)
            clear hT'
            go_wp2_with fail
            refine (list_any (row T k) _ _ _ _ _ HRK.out (CT.out k hlt).1 (CT.out k hlt).2).mono ?_
            rintro e w1 ⟨u, rfl, hu, hb1⟩
            obtain ⟨q, hq⟩ : ∃ q, q = List.take 20 (row T k) := ⟨_, rfl⟩
            rw [← hq] at hu
            have HQ := Lib.hid hq
            clear hq
            obtain ⟨uo, ub, uc, rfl, -, -⟩ := hu.at
            obtain ⟨vs, e1, e2, e3⟩ := (HR2.out.below hb1 (Nat.le_refl _)).ex
            have hlk : ((T.take k).map (List.take 20)).length = k := by simp; omega
            have hN := HB.out.size
            have hN1 := lt_of_block H2.out
            have hN2 := hb1.size
            have K0 := Lib.hid ((hb1.block _ (lt_of_block H0.out)).trans H0.out)
            have K1 := Lib.hid ((hb1.block _ (lt_of_block H1.out)).trans H1.out)
            have K2 := Lib.hid ((hb1.block _ (lt_of_block H2.out)).trans H2.out)
            have HU := Lib.hid (hu.mono (B' := wo.heap.size) (by omega))
            have HB1 := Lib.hid hb1
            have E2 := Lib.hid e2
            have E3 := Lib.hid e3
            have E1 := Lib.hid e1
            have e1' := e1
            rw [hlk] at e1'
            clear hu hb1 e1 e2 e3 d0 d1 f0 f1 c0 c1
            go_wp2_with (at_builtin; refine wpList_append_own _ rfl (.tmp 44) (.tmp 51) 22 rfl wo.heap.size 25 i0 (.slice none 0 0) 1 24 Try.underlying22 hi hz0 hz1 hz2 rfl (by decide) v2 k vs rfl (e1'.alloc _) ⟨w1.heap.size, 0, none⟩ 1 1 [.slice uo q.length uc] rfl rfl (cell_one_new _ _ _) (by simp [oneCell_slice]) ?c6 ?c7 ?c8 ?_)
            case c6 => unfold maxLen; omega
            case c7 => omega
            case c8 => simp; omega
            intro v' w2 hown hg hnl
            have hvb : ∀ g, g < wo.heap.size → w2.heap[g]? = w1.heap[g]? := fun g hg' => by
              rw [hg.block g (by simp; omega) (fun e => by have := E1.out.lt g e.symm; omega), Below.heap_alloc _ _ _ (by omega)]
            have HNR := Lib.hid (NewRows.snoc (w := w1.alloc (.cells #[.slice uo q.length uc] 25)) (E1.out.alloc _) (fun j hj => let ⟨x, h1, h2⟩ := E2.out j hj; ⟨x, h1, h2.below ((Below.refl _ _).alloc (Nat.le_refl _) _) (Nat.le_refl _)⟩) E3.out (HU.out.below ((Below.refl _ _).alloc (Nat.le_refl _) _) (Nat.le_refl _)) (oneCell_slice _ _ _) (by rw [hlk]; exact hown) hg)
            have HQ1 := Lib.hid (fun (g : Nat) (h1 : w.heap.size + 3 ≤ g) (h2 : g < wo.heap.size) => (hvb g h2).trans ((HB1.out.block g (by omega)).trans (HR1.out g h1 h2)))
            have hz2 : wo.heap.size ≤ w2.heap.size := by have := hg.size; simp at this; omega
            obtain ⟨g', cap', rfl, hgb⟩ := slice_of_own hown
            have L0 := Lib.hid ((hvb _ (by omega)).trans K0.out)
            have L1 := Lib.hid ((hvb _ (by omega)).trans K1.out)
            have L2 := Lib.hid ((hvb _ (by omega)).trans K2.out)
            have HB2 : Hid (Below w.heap.size w w2) := ((HB.out.trans (HB1.out.mono hN)).alloc (by omega) _).grown hg (by simp; omega) (fun r hr => by have := E1.out.lt r hr; omega)
            obtain ⟨d0, d1, f0, f1⟩ := cells_of2 L2.out
            clear hvb hown hg hnl e1'
            go_wp2
            go_roundw
            case rel =>
              refine ⟨k + 1, .slice (some ⟨g', 0, none⟩) (k + 1) cap', by omega, by omega, by go_num, HB2.out.setCell (by show w.heap.size ≤ w.heap.size + 1 + 1; omega) _, fun g h1 h2 => (heap_setCell_other _ _ _ _ (by show g ≠ w.heap.size + 1 + 1; omega)).trans (HQ1.out g h1 h2), ?_, by simpa using hz2, ?_, ?_, ?_⟩
              · rw [take_succ_row hlt, ← HQ.out]
                exact HNR.out.setCell (by show w.heap.size + 1 + 1 < _; omega) _
              · rw [heap_setCell_other _ _ _ _ (by show w.heap.size ≠ w.heap.size + 1 + 1; omega)]; exact L0.out
              · rw [heap_setCell_other _ _ _ _ (by show w.heap.size + 1 ≠ w.heap.size + 1 + 1; omega)]; exact L1.out
              · exact heap_setCell_same _ _ 1 _ _ _ L2.out
            case measure => simp [intOf]; omega

          · have htr : (T.take k).map (List.take 20) = trim T := by
              unfold trim
              by_cases e : k = 12
              · rw [e]
              · rw [List.take_of_length_le (show T.length ≤ k by omega), List.take_of_length_le (show T.length ≤ 12 by omega)]
            rw [htr] at HR2
            have HV1 := Lib.hid HR.out.oneCell
            have HV2 := Lib.hid HR2.out.oneCell
            have hcase : (¬ k < T.length) ∨ (k < T.length ∧ ¬ k < 12) := by omega
            clear htr hgo
            rcases hcase with g1 | ⟨g1, g2⟩
            all_goals
              go_wp2_with (first | (refine wpList_load_row rfl 24 (.tmp 3) rfl (w.heap.size + 2) rfl 24 _ _ _ H2.out Try.underlying24 rfl (by kernel_rfl) ?_) | (refine wpList_store_row rfl 24 (.tmp 2) (.tmp 54) rfl (w.heap.size + 1) _ rfl rfl 24 _ H1.out (by kernel_rfl) rfl (by simp [HV1.out, HV2.out]) ?_))
              have hlt1 := lt_of_block H1.out
              refine bodyPost_ret (v := .agg #[v1, v2]) ?_ rfl ⟨⟨v1, v2, rfl, ?_, ?_⟩, below_setRow HB.out (by omega) _⟩
              · exact results_cell_row (ty := 24) (p := 2) rfl _ _ (w.heap.size + 1) 24 _ (0, 0) _ rfl (setRow_heap _ _ _ _ _ _ H1.out) Try.underlying24 rfl (by kernel_rfl)
              · exact (HR.out.blocks fun g hg hg2 => (setRow_other _ _ _ _ (by omega)).trans (HR1.out g hg hg2)).mono (by omega)
              · exact (HR2.out.blocks fun g hg hg2 => setRow_other _ _ _ _ (by omega)).mono (by omega)


end Go.Proofs.Ytaphmjccdokiiaa
