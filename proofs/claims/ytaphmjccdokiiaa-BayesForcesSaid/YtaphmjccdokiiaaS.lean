/- Chance. -/
import Derived.Test.YtaphmjccdokiiaaQ
namespace Go.Proofs.Ytaphmjccdokiiaa
open Go.RowKit Go.Maps

/-- The results of Chance, for a network. -/
def chV (P T : List (List Int)) (qs gs : List (Int × Int)) : Value :=
  if okFacts qs P.length = true ∧ okFacts gs P.length = true then
    if fw P T (look gs) = 0 then zeroF else if cmp (look qs) (look gs) = true then fracV (fw P T (union (look qs) (look gs))) (fw P T (look gs)) else fracV 0 (fw P T (look gs))
  else zeroF
def chE (P T : List (List Int)) (qs gs : List (Int × Int)) : Int :=
  if okFacts qs P.length = true ∧ okFacts gs P.length = true then if fw P T (look gs) = 0 then 6 else 0 else 2

theorem ch_bad {P T : List (List Int)} {qs gs : List (Int × Int)} (h : okFacts qs P.length = false ∨ okFacts gs P.length = false) : chV P T qs gs = zeroF ∧ chE P T qs gs = 2 := by
  have : ¬ (okFacts qs P.length = true ∧ okFacts gs P.length = true) := fun q => by rcases h with h | h <;> rw [h] at q <;> simp at q
  exact ⟨if_neg this, if_neg this⟩
theorem ch_zero {P T : List (List Int)} {qs gs : List (Int × Int)} (h : okFacts qs P.length = true) (h2 : okFacts gs P.length = true) (hz : fw P T (look gs) = 0) : chV P T qs gs = zeroF ∧ chE P T qs gs = 6 := by
  unfold chV chE
  simp [h, h2, hz]
theorem ch_yes {P T : List (List Int)} {qs gs : List (Int × Int)} (h : okFacts qs P.length = true) (h2 : okFacts gs P.length = true) (hz : ¬ fw P T (look gs) = 0) (h3 : cmp (look qs) (look gs) = true) :
    chV P T qs gs = fracV (fw P T (union (look qs) (look gs))) (fw P T (look gs)) ∧ chE P T qs gs = 0 := by
  unfold chV chE
  simp [h, h2, hz, h3]
theorem ch_not {P T : List (List Int)} {qs gs : List (Int × Int)} (h : okFacts qs P.length = true) (h2 : okFacts gs P.length = true) (hz : ¬ fw P T (look gs) = 0) (h3 : cmp (look qs) (look gs) = false) :
    chV P T qs gs = fracV 0 (fw P T (look gs)) ∧ chE P T qs gs = 0 := by
  unfold chV chE
  simp [h, h2, hz, h3]

theorem Below.thenW {M : Nat} {a b c : World} (h : Below M a b) (k : Below b.heap.size b c) (hM : M ≤ a.heap.size) : Below M a c := h.trans (k.mono (Nat.le_trans hM h.size))

theorem okFacts_good {ps : List (Int × Int)} {n : Nat} (h : okFacts ps n = true) : ∀ i, i < ps.length → goodPair ps n i := of_decide_eq_true h
theorem look_dom {ps : List (Int × Int)} {n : Nat} (h : okFacts ps n = true) (hn : n ≤ 10) : Dom (look ps) := by
  intro x c hx
  obtain ⟨j, hj, rfl, _⟩ := lookTo_some hx
  have := (okFacts_good h j hj).1
  omega

theorem fw_bd {P T : List (List Int)} {φ : Int → Option Int} (h : IsNet P T) : 0 ≤ fw P T φ ∧ fw P T φ ≤ 1125899906842624 := by
  have h1 := fwTo_bd (φ := φ) h (2 ^ P.length)
  have h2 := two_pow_le h.le
  unfold fw
  generalize 2 ^ P.length = m at *
  omega

set_option maxHeartbeats 2000000 in
set_option maxRecDepth 100000 in
theorem chance_noNet (P T : List (List Int)) (v x y : Value) (w : World) (h : NetAt w v P T) (hn : isNet P T = false) :
    Calls Try.prog 22 #[v, x, y] w fun e w' => e = .returned (.tuple #[zeroF, .int .i64 2]) ∧ Below w.heap.size w w' := by
  have HNet := Lib.hid h
  have HN' := Lib.hid hn
  obtain ⟨pa, b, o, pc, A, B, O, C, ta, b', o', tc, A', B', O', C', rfl, hP, hT⟩ := h.ex
  clear hP hT h hn
  go_enter Try.func22, Try.ntmps22
  go_wp2_with fail
  refine (isNetwork_any P T _ _ ((HNet.out.alloc _).alloc _)).mono ?_
  rw [HN'.out]
  rintro e w1 ⟨rfl, hb1⟩
  obtain ⟨k0, k1⟩ := two2 hb1 (by simp)
  obtain ⟨c0, c1, -, -⟩ := cells_of2 k0
  obtain ⟨c2, c3, f2, f3⟩ := cells_of2 k1
  have HB1 := Lib.hid hb1
  have K1 := Lib.hid k1
  clear k0 k1 hb1
  go_wp2_with (refine wpList_store_row rfl 29 (.tmp 6) (.tmp 18) rfl (w.heap.size + 1) _ rfl rfl 29 _ K1.out (by kernel_rfl) rfl (by simp [Value.oneCell']) ?_)
  refine bodyPost_ret (v := .tuple #[zeroF, .int .i64 2]) ?_ rfl ⟨rfl, below_setRow ((((Below.refl _ _).alloc (Nat.le_refl _) _).alloc (by simp) _).trans (HB1.out.mono (by simp; omega))) (by omega) _⟩
  exact results_cell_row2 (ty := 29) (p := 6) (u := 7) rfl _ _ (w.heap.size + 1) 29 _ (0, 0) _ rfl (setRow_heap _ _ _ _ _ _ K1.out) Try.underlying29 rfl (by kernel_rfl)

set_option maxHeartbeats 4000000 in
set_option maxRecDepth 100000 in
theorem chance_net (P T : List (List Int)) (v : Value) (qs gs : List (Int × Int)) (ao : Option Addr) (ab aoff ac : Nat) (bo : Option Addr) (bb boff bc : Nat) (w : World) (h : NetAt w v P T) (hn : isNet P T = true)
    (ha : PairsAt w ao ab aoff qs) (hg : PairsAt w bo bb boff gs) (hla : qs.length ≤ 1000) (hlg : gs.length ≤ 1000) :
    Calls Try.prog 22 #[v, .slice ao qs.length ac, .slice bo gs.length bc] w fun e w' => e = .returned (.tuple #[chV P T qs gs, .int .i64 (chE P T qs gs)]) ∧ Below w.heap.size w w' := by
  have HNet := Lib.hid h
  have HN' := Lib.hid hn
  have HN := Lib.hid (of_decide_eq_true hn : IsNet P T)
  have HA := Lib.hid ha
  have HG := Lib.hid hg
  obtain ⟨pa, b, o, pc, A, B, O, C, ta, b', o', tc, A', B', O', C', rfl, hP, hT⟩ := h.ex
  have h10 := HN.out.le
  clear hP hT h hn ha hg
  have W0n : w.heap.size + 2 ≤ ((w.alloc (.cells #[.slice pa P.length pc, .slice ta T.length tc] 24)).alloc (.cells #[.int .i64 0, .int .i64 0] 29)).heap.size := by simp
  have W0b : Below w.heap.size w ((w.alloc (.cells #[.slice pa P.length pc, .slice ta T.length tc] 24)).alloc (.cells #[.int .i64 0, .int .i64 0] 29)) := ((Below.refl _ _).alloc (Nat.le_refl _) _).alloc (by simp) _
  have HW0n := Lib.hid W0n
  have HW0b := Lib.hid W0b
  clear W0n W0b
  go_enter Try.func22, Try.ntmps22
  go_wp2_with fail
  refine (isNetwork_any P T _ _ ((HNet.out.alloc _).alloc _)).mono ?_
  rw [HN'.out]
  rintro e w1 ⟨rfl, hb1⟩
  have HB1 : Hid (Below (w.heap.size + 2) _ w1) := hb1.mono (by simp)
  obtain ⟨k0, k1⟩ := two2 HB1.out (Nat.le_refl _)
  obtain ⟨c0, c1, -, -⟩ := cells_of2 k0
  clear k0 k1 hb1
  go_wp2_with fail
  refine (toFacts_any qs P.length ao ab aoff ac _ (((HA.out.alloc _).alloc _).below HB1.out (by simp)) h10 hla).mono ?_
  rintro e w2 ⟨⟨mo, rfl, hf1⟩, hb2⟩
  have HB2 := Lib.hid (Below.thenW HB1.out hb2 HW0n.out)
  obtain ⟨k0, k1⟩ := two2 HB2.out (Nat.le_refl _)
  obtain ⟨d0, d1, -, -⟩ := cells_of2 k0
  have HF1 := Lib.hid hf1
  clear k0 k1 hb2 c0 c1 hf1
  go_wp2_with fail
  refine (toFacts_any gs P.length bo bb boff bc _ (((HG.out.alloc _).alloc _).below HB2.out (by simp)) h10 hlg).mono ?_
  rintro e w3 ⟨⟨mo2, rfl, hf2⟩, hb3⟩
  have HB3 := Lib.hid (Below.thenW HB2.out hb3 HW0n.out)
  obtain ⟨k0, k1⟩ := two2 HB3.out (Nat.le_refl _)
  obtain ⟨c0, c1, -, -⟩ := cells_of2 k0
  have K1 := Lib.hid k1
  have HF2 := Lib.hid hf2
  have HB3' := Lib.hid hb3
  clear k0 k1 hb3 d0 d1 hf2
  cases e1 : okFacts qs P.length
  · have HX := Lib.hid (ch_bad (T := T) (gs := gs) (.inl e1))
    clear e1
    go_wp2_with (refine wpList_store_row rfl 29 (.tmp 6) (.tmp 41) rfl (w.heap.size + 1) _ rfl rfl 29 _ K1.out (by kernel_rfl) rfl (by simp [Value.oneCell']) ?_)
    refine bodyPost_ret (v := .tuple #[zeroF, .int .i64 2]) ?_ rfl ⟨by rw [HX.out.1, HX.out.2], below_setRow (HW0b.out.trans (HB3.out.mono (by omega))) (by omega) _⟩
    exact results_cell_row2 (ty := 29) (p := 6) (u := 7) rfl _ _ (w.heap.size + 1) 29 _ (0, 0) _ rfl (setRow_heap _ _ _ _ _ _ K1.out) Try.underlying29 rfl (by kernel_rfl)
  · cases e2 : okFacts gs P.length
    · have HX := Lib.hid (ch_bad (T := T) (qs := qs) (.inr e2))
      clear e1 e2
      go_wp2_with (refine wpList_store_row rfl 29 (.tmp 6) (.tmp 41) rfl (w.heap.size + 1) _ rfl rfl 29 _ K1.out (by kernel_rfl) rfl (by simp [Value.oneCell']) ?_)
      refine bodyPost_ret (v := .tuple #[zeroF, .int .i64 2]) ?_ rfl ⟨by rw [HX.out.1, HX.out.2], below_setRow (HW0b.out.trans (HB3.out.mono (by omega))) (by omega) _⟩
      exact results_cell_row2 (ty := 29) (p := 6) (u := 7) rfl _ _ (w.heap.size + 1) 29 _ (0, 0) _ rfl (setRow_heap _ _ _ _ _ _ K1.out) Try.underlying29 rfl (by kernel_rfl)
    · obtain ⟨g1, rfl, hfa⟩ := HF1.out e1
      obtain ⟨g2, rfl, hfg⟩ := HF2.out e2
      have hd1 := look_dom e1 h10
      have hd2 := look_dom e2 h10
      have HFA := Lib.hid (hfa.below HB3'.out (Nat.le_refl _))
      have HFG := Lib.hid hfg
      have HD1 := Lib.hid hd1
      have HD2 := Lib.hid hd2
      have hbd := fw_bd (φ := look gs) HN.out
      have hbd2 := fw_bd (φ := union (look qs) (look gs)) HN.out
      have E1 := Lib.hid e1
      have E2 := Lib.hid e2
      clear hfa hfg hd1 hd2 e1 e2
      go_wp2_with fail
      refine (factsWeight_any P T _ g2 (look gs) _ (((HNet.out.alloc _).alloc _).below HB3.out (by simp)) HN.out HFG.out HD2.out).mono ?_
      rintro e w4 ⟨rfl, hb4⟩
      have HB4 := Lib.hid (Below.thenW HB3.out hb4 HW0n.out)
      obtain ⟨k0, k1⟩ := two2 HB4.out (Nat.le_refl _)
      obtain ⟨d0, d1, -, -⟩ := cells_of2 k0
      have K4 := Lib.hid k1
      have HFA4 := Lib.hid (HFA.out.below hb4 (Nat.le_refl _))
      have HFG4 := Lib.hid (HFG.out.below hb4 (Nat.le_refl _))
      clear k0 k1 hb4 c0 c1
      by_cases hz : fw P T (look gs) = 0
      · have HX := Lib.hid (ch_zero E1.out E2.out hz)
        go_wp2_with (refine wpList_store_row rfl 29 (.tmp 6) (.tmp 47) rfl (w.heap.size + 1) _ rfl rfl 29 _ K4.out (by kernel_rfl) rfl (by simp [Value.oneCell']) ?_)
        refine bodyPost_ret (v := .tuple #[zeroF, .int .i64 6]) ?_ rfl ⟨by rw [HX.out.1, HX.out.2], below_setRow (HW0b.out.trans (HB4.out.mono (by omega))) (by omega) _⟩
        exact results_cell_row2 (ty := 29) (p := 6) (u := 7) rfl _ _ (w.heap.size + 1) 29 _ (0, 0) _ rfl (setRow_heap _ _ _ _ _ _ K4.out) Try.underlying29 rfl (by kernel_rfl)
      · have hz0 : (fw P T (look gs) == 0) = false := by rw [beq_eq_false_iff_ne]; exact hz
        have HZ := Lib.hid hz
        have hpos : 1 ≤ fw P T (look gs) := by omega
        clear hz
        go_wp2_with fail
        refine (join_any g1 g2 _ _ _ HFA4.out HFG4.out HD1.out HD2.out).mono ?_
        rintro e w5 ⟨⟨mo, rfl, hf5⟩, hb5⟩
        have HB5 := Lib.hid (Below.thenW HB4.out hb5 HW0n.out)
        obtain ⟨k0, k1⟩ := two2 HB5.out (Nat.le_refl _)
        obtain ⟨c0, c1, -, -⟩ := cells_of2 k0
        have K5 := Lib.hid k1
        have HF5 := Lib.hid hf5
        clear k0 k1 hb5 d0 d1 hf5
        cases e3 : cmp (look qs) (look gs)
        · have HX := Lib.hid (ch_not E1.out E2.out HZ.out e3)
          clear e3
          go_wp2_with fail
          refine (fraction_any _ _ _ (by omega) (by omega) (by omega) (by omega)).mono ?_
          rintro e w7 ⟨rfl, hb7⟩
          have HB7 := Lib.hid (Below.thenW HB5.out hb7 HW0n.out)
          have K7 := Lib.hid (two2 HB7.out (Nat.le_refl _)).2
          clear hb7
          go_wp2_with (refine wpList_store_row rfl 29 (.tmp 6) (.tmp 57) rfl (w.heap.size + 1) _ rfl rfl 29 _ K7.out (by kernel_rfl) rfl (fracC_all _ _) ?_)
          refine bodyPost_ret (v := .tuple #[fracV 0 (fw P T (look gs)), .int .i64 0]) ?_ rfl ⟨by rw [HX.out.1, HX.out.2], below_setRow (HW0b.out.trans (HB7.out.mono (by omega))) (by omega) _⟩
          exact results_cell_row2 (ty := 29) (p := 6) (u := 7) rfl _ _ (w.heap.size + 1) 29 _ (0, 0) _ rfl (setRow_heap _ _ _ _ _ _ K7.out) Try.underlying29 rfl (by kernel_rfl)
        · obtain ⟨g3, rfl, hfu⟩ := HF5.out e3
          have HFU := Lib.hid hfu
          have E3 := Lib.hid e3
          clear hfu e3
          go_wp2_with fail
          refine (factsWeight_any P T _ g3 _ _ (((HNet.out.alloc _).alloc _).below HB5.out (by simp)) HN.out HFU.out (dom_union HD1.out HD2.out)).mono ?_
          rintro e w6 ⟨rfl, hb6⟩
          have HB6 := Lib.hid (Below.thenW HB5.out hb6 HW0n.out)
          clear hb6 c0 c1
          go_wp2_with fail
          refine (fraction_any _ _ _ (by omega) (by omega) (by omega) (by omega)).mono ?_
          rintro e w7 ⟨rfl, hb7⟩
          have HB7 := Lib.hid (Below.thenW HB6.out hb7 HW0n.out)
          have K7 := Lib.hid (two2 HB7.out (Nat.le_refl _)).2
          clear hb7
          go_wp2_with (refine wpList_store_row rfl 29 (.tmp 6) (.tmp 62) rfl (w.heap.size + 1) _ rfl rfl 29 _ K7.out (by kernel_rfl) rfl (fracC_all _ _) ?_)
          refine bodyPost_ret (v := .tuple #[fracV (fw P T (union (look qs) (look gs))) (fw P T (look gs)), .int .i64 0]) ?_ rfl ⟨?_, below_setRow (HW0b.out.trans (HB7.out.mono (by omega))) (by omega) _⟩
          · exact results_cell_row2 (ty := 29) (p := 6) (u := 7) rfl _ _ (w.heap.size + 1) 29 _ (0, 0) _ rfl (setRow_heap _ _ _ _ _ _ K7.out) Try.underlying29 rfl (by kernel_rfl)
          · rw [(ch_yes E1.out E2.out HZ.out E3.out).1, (ch_yes E1.out E2.out HZ.out E3.out).2]

end Go.Proofs.Ytaphmjccdokiiaa
