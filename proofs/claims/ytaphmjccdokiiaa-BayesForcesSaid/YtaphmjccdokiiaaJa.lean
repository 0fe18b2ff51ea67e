/- The reference's conditional probability. -/
import Derived.Test.YtaphmjccdokiiaaIa
import Derived.Test.YtaphmjccdokiiaaS
namespace Go.Proofs.Ytaphmjccdokiiaa
open Go.RowKit Go.Maps

set_option maxHeartbeats 4000000 in
set_option maxRecDepth 100000 in
theorem refChance_any (P T : List (List Int)) (v : Value) (qs gs : List (Int × Int)) (ao : Option Addr) (ab aoff ac : Nat) (bo : Option Addr) (bb boff bc : Nat) (w : World) (h : NetAt w v P T) (hn : IsNet P T)
    (ha : PairsAt w ao ab aoff qs) (hg : PairsAt w bo bb boff gs) (hla : qs.length ≤ 1000) (hlg : gs.length ≤ 1000) :
    Calls Try.prog 23 #[v, .slice ao qs.length ac, .slice bo gs.length bc] w fun e w' => e = .returned (.tuple #[chV P T qs gs, .int .i64 (chE P T qs gs)]) ∧ Below w.heap.size w w' := by
  have HNet := Lib.hid h
  have HN := Lib.hid hn
  have HA := Lib.hid ha
  have HG := Lib.hid hg
  obtain ⟨pa, b, o, pc, A, B, O, C, ta, b', o', tc, A', B', O', C', rfl, hP, hT⟩ := h.ex
  have h10 := HN.out.le
  clear hP hT h hn ha hg
  obtain ⟨wa, hwa⟩ : ∃ wa, (w.alloc (.cells #[.slice pa P.length pc, .slice ta T.length tc] 24)).alloc (.cells #[.int .i64 0, .int .i64 0] 29) = wa := ⟨_, rfl⟩
  have HWA := Lib.hid hwa
  have W0n : w.heap.size + 2 ≤ wa.heap.size := by rw [← hwa]; simp
  have W0b : Below w.heap.size w wa := by rw [← hwa]; exact ((Below.refl _ _).alloc (Nat.le_refl _) _).alloc (by simp) _
  have HW0n := Lib.hid W0n
  have HW0b := Lib.hid W0b
  have HNa : Hid (NetAt wa (.agg #[.slice pa P.length pc, .slice ta T.length tc]) P T) := by rw [← hwa]; exact (HNet.out.alloc _).alloc _
  have HAa : Hid (PairsAt wa ao ab aoff qs) := by rw [← hwa]; exact (HA.out.alloc _).alloc _
  have HGa : Hid (PairsAt wa bo bb boff gs) := by rw [← hwa]; exact (HG.out.alloc _).alloc _
  have HT2 := Lib.hid (show ∀ w', Below wa.heap.size wa w' → w'.heap[w.heap.size]? = some (.cells #[.slice pa P.length pc, .slice ta T.length tc] 24 (0, 0)) ∧ w'.heap[w.heap.size + 1]? = some (.cells #[.int .i64 0, .int .i64 0] 29 (0, 0)) from
    fun w' h => two2 (by rw [hwa]; exact h.mono W0n) (Nat.le_refl _))
  clear W0n W0b hwa
  go_enter Try.func23, Try.ntmps23
  go_wp2_with fail
  rw [HWA.out]
  have hf := refFacts_any qs P.length ao ab aoff ac wa HAa.out h10 hla
  cases e1 : okFacts qs P.length
  · rw [e1] at hf
    have HX := Lib.hid (ch_bad (T := T) (gs := gs) (.inl e1))
    refine hf.mono ?_
    rintro e w1 ⟨rfl, hb1⟩
    have HB1 : Hid (Below wa.heap.size wa w1) := hb1
    obtain ⟨k0, k1⟩ := HT2.out _ HB1.out
    have K1 := Lib.hid k1
    clear hf hb1 k0 k1 e1
    go_wp2_with (refine wpList_store_row rfl 29 (.tmp 6) (.tmp 23) rfl (w.heap.size + 1) _ rfl rfl 29 _ K1.out (by kernel_rfl) rfl (by simp [Value.oneCell']) ?_)
    refine bodyPost_ret (v := .tuple #[zeroF, .int .i64 2]) ?_ rfl ⟨by rw [HX.out.1, HX.out.2], below_setRow (HW0b.out.trans (HB1.out.mono (by have := HW0n.out; omega))) (by omega) _⟩
    exact results_cell_row2 (ty := 29) (p := 6) (u := 7) rfl _ _ (w.heap.size + 1) 29 _ (0, 0) _ rfl (setRow_heap _ _ _ _ _ _ K1.out) Try.underlying29 rfl (by kernel_rfl)
  · rw [e1] at hf
    have E1 := Lib.hid e1
    refine hf.mono ?_
    rintro e w1 ⟨rfl, hb1⟩
    have HB1 : Hid (Below wa.heap.size wa w1) := hb1
    clear hf hb1 e1
    go_wp2_with fail
    have hf := refFacts_any gs P.length bo bb boff bc w1 (HGa.out.below HB1.out (Nat.le_refl _)) h10 hlg
    cases e2 : okFacts gs P.length
    · rw [e2] at hf
      have HX := Lib.hid (ch_bad (T := T) (qs := qs) (.inr e2))
      refine hf.mono ?_
      rintro e w2 ⟨rfl, hb2⟩
      have HB2 : Hid (Below wa.heap.size wa w2) := HB1.out.trans (hb2.mono HB1.out.size)
      obtain ⟨k0, k1⟩ := HT2.out _ HB2.out
      have K1 := Lib.hid k1
      clear hf hb2 k0 k1 e2
      go_wp2_with (refine wpList_store_row rfl 29 (.tmp 6) (.tmp 23) rfl (w.heap.size + 1) _ rfl rfl 29 _ K1.out (by kernel_rfl) rfl (by simp [Value.oneCell']) ?_)
      refine bodyPost_ret (v := .tuple #[zeroF, .int .i64 2]) ?_ rfl ⟨by rw [HX.out.1, HX.out.2], below_setRow (HW0b.out.trans (HB2.out.mono (by have := HW0n.out; omega))) (by omega) _⟩
      exact results_cell_row2 (ty := 29) (p := 6) (u := 7) rfl _ _ (w.heap.size + 1) 29 _ (0, 0) _ rfl (setRow_heap _ _ _ _ _ _ K1.out) Try.underlying29 rfl (by kernel_rfl)
    · rw [e2] at hf
      have E2 := Lib.hid e2
      refine hf.mono ?_
      rintro e w2 ⟨rfl, hb2⟩
      have HB2 : Hid (Below wa.heap.size wa w2) := HB1.out.trans (hb2.mono HB1.out.size)
      obtain ⟨k0, k1⟩ := HT2.out _ HB2.out
      obtain ⟨c0, c1, -, -⟩ := cells_of2 k0
      clear hf hb2 k0 k1 e2
      go_wp2_with fail
      have hs := refSum_any P T (.agg #[.slice pa P.length pc, .slice ta T.length tc]) gs [] bo bb boff bc none 0 0 0 w2 (HNa.out.below HB2.out (Nat.le_refl _)) HN.out (HGa.out.below HB2.out (Nat.le_refl _)) ⟨fun h => by simp at h, fun i hi => by simp at hi, fun i hi => by simp at hi, by simp, fun i => by simp [pf, pv]⟩ hlg (by simp) E2.out (decide_eq_true (fun i hi => by simp at hi))
      rw [sm_one E2.out h10] at hs
      refine hs.mono ?_
      rintro e w3 ⟨rfl, hb3⟩
      have HB3 : Hid (Below wa.heap.size wa w3) := HB2.out.trans (hb3.mono HB2.out.size)
      obtain ⟨k0, k1⟩ := HT2.out _ HB3.out
      have K3 := Lib.hid k1
      obtain ⟨d0, d1, -, -⟩ := cells_of2 k0
      have hbd := fw_bd (φ := look gs) HN.out
      clear hs hb3 k0 k1 c0 c1
      by_cases hz : fw P T (look gs) = 0
      · have HX := Lib.hid (ch_zero E1.out E2.out hz)
        go_wp2_with (refine wpList_store_row rfl 29 (.tmp 6) (.tmp 29) rfl (w.heap.size + 1) _ rfl rfl 29 _ K3.out (by kernel_rfl) rfl (by simp [Value.oneCell']) ?_)
        refine bodyPost_ret (v := .tuple #[zeroF, .int .i64 6]) ?_ rfl ⟨by rw [HX.out.1, HX.out.2], below_setRow (HW0b.out.trans (HB3.out.mono (by have := HW0n.out; omega))) (by omega) _⟩
        exact results_cell_row2 (ty := 29) (p := 6) (u := 7) rfl _ _ (w.heap.size + 1) 29 _ (0, 0) _ rfl (setRow_heap _ _ _ _ _ _ K3.out) Try.underlying29 rfl (by kernel_rfl)
      · have hz0 : (fw P T (look gs) == 0) = false := by rw [beq_eq_false_iff_ne]; exact hz
        have HZ := Lib.hid hz
        have hpos : 1 ≤ fw P T (look gs) := by omega
        clear hz
        go_wp2_with fail
        have hs := refSum_any P T (.agg #[.slice pa P.length pc, .slice ta T.length tc]) qs gs ao ab aoff ac bo bb boff bc w3 (HNa.out.below HB3.out (Nat.le_refl _)) HN.out (HAa.out.below HB3.out (Nat.le_refl _)) (HGa.out.below HB3.out (Nat.le_refl _)) hla hlg E1.out E2.out
        rw [sm_two E1.out E2.out h10] at hs
        obtain ⟨nu, hnu⟩ : ∃ nu, (if cmp (look qs) (look gs) = true then fw P T (union (look qs) (look gs)) else 0) = nu := ⟨_, rfl⟩
        have hnb : 0 ≤ nu ∧ nu ≤ 1125899906842624 := by
          rw [← hnu]
          split
          · exact fw_bd HN.out
          · omega
        have HX : Hid (chV P T qs gs = fracV nu (fw P T (look gs)) ∧ chE P T qs gs = 0) := by
          cases e3 : cmp (look qs) (look gs)
          · rw [e3, if_neg (by decide)] at hnu
            have := ch_not E1.out E2.out HZ.out e3
            rw [← hnu]; exact this
          · rw [e3, if_pos rfl] at hnu
            have := ch_yes E1.out E2.out HZ.out e3
            rw [← hnu]; exact this
        rw [hnu] at hs
        refine hs.mono ?_
        rintro e w4 ⟨rfl, hb4⟩
        have HB4 : Hid (Below wa.heap.size wa w4) := HB3.out.trans (hb4.mono HB3.out.size)
        clear hs hb4 d0 d1 hnu
        go_wp2_with fail
        refine (reduced_any nu (fw P T (look gs)) w4 (by omega) (by omega) (by omega) (by omega)).mono ?_
        rintro e w5 ⟨rfl, hb5⟩
        have HB5 : Hid (Below wa.heap.size wa w5) := HB4.out.trans (hb5.mono HB4.out.size)
        have K5 := Lib.hid (HT2.out _ HB5.out).2
        clear hb5
        go_wp2_with (refine wpList_store_row rfl 29 (.tmp 6) (.tmp 35) rfl (w.heap.size + 1) _ rfl rfl 29 _ K5.out (by kernel_rfl) rfl (fracC_all _ _) ?_)
        refine bodyPost_ret (v := .tuple #[fracV nu (fw P T (look gs)), .int .i64 0]) ?_ rfl ⟨by rw [HX.out.1, HX.out.2], below_setRow (HW0b.out.trans (HB5.out.mono (by have := HW0n.out; omega))) (by omega) _⟩
        exact results_cell_row2 (ty := 29) (p := 6) (u := 7) rfl _ _ (w.heap.size + 1) 29 _ (0, 0) _ rfl (setRow_heap _ _ _ _ _ _ K5.out) Try.underlying29 rfl (by kernel_rfl)

end Go.Proofs.Ytaphmjccdokiiaa
