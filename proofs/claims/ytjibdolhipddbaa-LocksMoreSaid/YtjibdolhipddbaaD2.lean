/- The pins of a lock in a chamber, counted; the strangers. -/
import Derived.Test.YtjibdolhipddbaaD1
namespace Go.Proofs.Ytjibdolhipddbaa
open Go.RowKit Go.Maps

/-- How many depths have a pin. -/
def pinC (k : Nat) (f : Nat → Bool) (c : Nat → Int) (j : Nat) : Nat := (List.range 5).countP fun v : Nat => decide (PinF k f c j (v : Int))
theorem law3 : Keyed Try.prog 3 := int_keyed Try.underlying3
noncomputable abbrev RB : Value → Option (DataW Unit × List MemPlace) := plainElem Try.prog 4

theorem pinF_succ (i : Nat) (f : Nat → Bool) (c : Nat → Int) (j : Nat) (v : Int) : PinF (i + 1) f c j v ↔ PinF i f c j v ∨ (f (6 * i + j) = true ∧ c i = v) := by
  constructor
  · rintro ⟨o, ho, h⟩
    by_cases e : o = i
    · rw [e] at h; exact .inr h
    · exact .inl ⟨o, by omega, h⟩
  · rintro (⟨o, ho, h⟩ | h)
    · exact ⟨o, by omega, h⟩
    · exact ⟨i, by omega, h⟩
theorem pinC_no {i : Nat} {f : Nat → Bool} {c : Nat → Int} {j : Nat} (h : f (6 * i + j) = false) : pinC (i + 1) f c j = pinC i f c j := by
  unfold pinC
  congr 1
  funext v
  refine decide_eq_decide.2 ?_
  rw [pinF_succ, h]
  simp
theorem count_five (g : Nat → Bool) (v0 : Nat) (h : v0 < 5) : (List.range 5).countP (fun v => g v || v == v0) = if g v0 = true then (List.range 5).countP g else (List.range 5).countP g + 1 := by
  obtain rfl | rfl | rfl | rfl | rfl : v0 = 0 ∨ v0 = 1 ∨ v0 = 2 ∨ v0 = 3 ∨ v0 = 4 := by omega
  all_goals
    rw [show List.range 5 = [0, 1, 2, 3, 4] from rfl]
    simp only [List.countP_cons, List.countP_nil]
    cases g 0 <;> cases g 1 <;> cases g 2 <;> cases g 3 <;> cases g 4 <;> rfl
theorem pinC_yes {i : Nat} {f : Nat → Bool} {c : Nat → Int} {j : Nat} (h : f (6 * i + j) = true) (hc : 0 ≤ c i ∧ c i ≤ 4) : pinC (i + 1) f c j = if decide (PinF i f c j (c i)) = true then pinC i f c j else pinC i f c j + 1 := by
  obtain ⟨v0, hv⟩ : ∃ v0 : Nat, c i = v0 := ⟨(c i).toNat, by omega⟩
  have := count_five (fun v : Nat => decide (PinF i f c j (v : Int))) v0 (by omega)
  unfold pinC
  rw [hv, ← this]
  congr 1
  funext v
  rw [Bool.eq_iff_iff]
  simp only [decide_eq_true_eq, Bool.or_eq_true, beq_iff_eq]
  rw [pinF_succ, h, hv]
  constructor
  · rintro (q | ⟨-, q⟩)
    · exact .inl q
    · exact .inr (by omega)
  · rintro (q | q)
    · exact .inl q
    · exact .inr ⟨rfl, by omega⟩

set_option maxHeartbeats 4000000 in
set_option maxRecDepth 100000 in
theorem pins_any (k l j : Nat) (f : Nat → Bool) (c : Nat → Int) (w : World) (hk : k ≤ 6) (hj : j < 6) (hc : ∀ i, i < 6 → 0 ≤ c i ∧ c i ≤ 4) :
    Calls Try.prog 44 #[planV k l f, colV c, .int .i64 j] w fun e w' => e = .returned (.int .i64 (pinC k f c j : Nat)) ∧ Below w.heap.size w w' := by
  have HB := Lib.hid ((((Below.refl _ w).alloc (Nat.le_refl _) (.cells (planC k l f) 63)).alloc (by simp) (.cells (colC c) 84)).alloc (by simp; omega) (.map #[] 0))
  obtain ⟨h0, h1, h2⟩ := three_heap w (.cells (planC k l f) 63) (.cells (colC c) 84) (.map #[] 0)
  have hown := World.ownsMap_made ((w.alloc (.cells (planC k l f) 63)).alloc (.cells (colC c) 84)) Try.prog 3 RB
  rw [show ((w.alloc (.cells (planC k l f) 63)).alloc (.cells (colC c) 84)).heap.size = w.heap.size + 2 by simp] at hown
  obtain ⟨wa, hwa⟩ : ∃ wa, ((w.alloc (.cells (planC k l f) 63)).alloc (.cells (colC c) 84)).alloc (.map #[] 0) = wa := ⟨_, rfl⟩
  rw [hwa] at HB h0 h1 h2 hown
  rw [planC] at hwa
  have HWA := Lib.hid hwa
  have H0 := Lib.hid h0
  have H1 := Lib.hid h1
  have HOW := Lib.hid hown
  have HC := Lib.hid hc
  obtain ⟨c0, c1, c2⟩ := cells_of3 h0
  have hmm := @run_makeMap Try.prog
  clear hwa h0 h1 h2 hown hc
  show Calls _ _ #[.agg #[.int .i64 k, .int .i64 l, sv f], .agg (colC c), _] _ _
  go_enter Try.func44, Try.ntmps44
  go_upto_region 2 with fail
  rw [HWA.out]
  go_wp2
  go_loopw [8, 12] (fun _ y wr => ∃ (i : Nat) (D : DataW Unit), i ≤ k ∧ y = .int .i64 i ∧ Below w.heap.size w wr ∧ wr.heap[w.heap.size]? = some (.cells (planC k l f) 63 (0, 0)) ∧ wr.heap[w.heap.size + 1]? = some (.cells (colC c) 84 (0, 0)) ∧
    wr.ownsMap Try.prog 3 RB (w.heap.size + 1 + 1) i D ∧ Maps.size D = pinC i f c j ∧ ∀ v : Int, Maps.has D (.int .i64 v) = decide (PinF i f c j v)) (fun _ y _ => k - (intOf y).toNat)
  case atStart => exact ⟨0, .map [], by omega, rfl, HB.out, H0.out, H1.out, HOW.out, by
      rw [show pinC 0 f c j = 0 from List.countP_eq_zero.2 fun v _ => by rw [decide_eq_true_eq]; rintro ⟨o, ho, -⟩; omega]; rfl, fun v => by
      rw [show decide (PinF 0 f c j v) = false from decide_eq_false (by rintro ⟨o, ho, -⟩; omega)]; rfl⟩
  case round =>
    obtain ⟨i, D, hi, rfl, hb, h0, h1, hown, hsz, hhas⟩ := hrel
    have HB := Lib.hid hb
    have H0 := Lib.hid h0
    have H1 := Lib.hid h1
    have HOW := Lib.hid hown
    have HSZ := Lib.hid hsz
    have HHS := Lib.hid hhas
    clear c0 c1 c2 hmm
    obtain ⟨c0, c1, c2⟩ := cells_of3 h0
    clear hb h0 h1 hown hsz hhas
    by_cases hlt : i < k
    · have HHA := Lib.hid (fun w => has_any f i j w (by omega) hj)
      have d1 := (colC_cell H1.out (show i < 6 by omega)).1
      have hci := HC.out i (by omega)
      have hi6 : (i : Int) < 6 := by omega
      simp only [sv] at c2
      cases e : f (6 * i + j)
      · have HH := Lib.hid (fun w => by have := HHA.out w; rw [e] at this; exact this)
        have HN1 := Lib.hid (show Maps.size D = pinC (i + 1) f c j by rw [pinC_no e]; exact HSZ.out)
        have HN2 := Lib.hid (show ∀ v : Int, Maps.has D (.int .i64 v) = decide (PinF (i + 1) f c j v) from fun v => by
          rw [HHS.out v]
          refine decide_eq_decide.2 ?_
          rw [pinF_succ, e]
          simp)
        clear e HHA
        go_wp2_with fail
        refine (HH.out _).mono ?_
        rintro e w' ⟨rfl, rfl⟩
        go_wp2
        go_roundw
        case rel => exact ⟨i + 1, D, by omega, by go_num, HB.out, H0.out, H1.out, HOW.out.mono (by omega), HN1.out, HN2.out⟩
        case measure => simp [intOf]; omega
      · have HH := Lib.hid (fun w => by have := HHA.out w; rw [e] at this; exact this)
        have hkey : keyOf Try.prog 3 (.int .i64 (c i)) = some (.int .i64 (c i)) := keyOf_int_mk Try.underlying3 (WalkArith.wf_i64 (by omega))
        have HTD := HOW.out.tidy law3
        have HN1 := Lib.hid (show Maps.size (D.put (.int .i64 (c i)) (.lit (.bool true))) = pinC (i + 1) f c j by
          rw [size_put HTD, HHS.out, pinC_yes e hci, HSZ.out])
        have HN2 := Lib.hid (show ∀ v : Int, Maps.has (D.put (.int .i64 (c i)) (.lit (.bool true))) (.int .i64 v) = decide (PinF (i + 1) f c j v) from fun v => by
          by_cases q : v = c i
          · rw [q, has_put_same HTD.isMap (law3.key hkey)]
            exact (decide_eq_true ((pinF_succ i f c j (c i)).2 (.inr ⟨e, rfl⟩))).symm
          · rw [has_put_other (fun h => q (by injection h)), HHS.out v]
            refine decide_eq_decide.2 ?_
            rw [pinF_succ]
            constructor
            · exact .inl
            · rintro (h | h)
              · exact h
              · exact absurd h.2.symm q)
        have HKEY := Lib.hid hkey
        clear e HHA HTD hkey
        go_wp2_with fail
        refine (HH.out _).mono ?_
        rintro e w' ⟨rfl, rfl⟩
        go_wp2_with (first
          | (at_mapUpdate; refine wpList_mapUpdate_own _ rfl (.tmp 20) (.tmp 23) (.const (.bool true)) 93 rfl 3 4 law3 Try.underlying93 RB (w.heap.size + 1 + 1) i D rfl HOW.out (by unfold maxLen; omega) _ _ (.int .i64 (c i)) rfl rfl HKEY.out (.lit (.bool true)) [] (plainElem_bool Try.underlying4 true) ?_; intro w1 hown1 hgrow1)
          | (fail))
        have HO1 := Lib.hid hown1
        have HB1 := Lib.hid (show Below w.heap.size w w1 from HB.out.grown hgrow1 HB.out.size (fun r hr => by injection hr with hr; omega))
        have H01 := Lib.hid ((hgrow1.block _ (lt_of_block H0.out) (by intro h; injection h with h; omega)).trans H0.out)
        have H11 := Lib.hid ((hgrow1.block _ (lt_of_block H1.out) (by intro h; injection h with h; omega)).trans H1.out)
        clear hown1 hgrow1
        go_wp2
        go_roundw
        case rel => exact ⟨i + 1, _, by omega, by go_num, HB1.out, H01.out, H11.out, HO1.out, HN1.out, HN2.out⟩
        case measure => simp [intOf]; omega
    · have hik : i = k := by omega
      subst hik
      go_wp2_with (first
        | (at_len; refine wpList_len_own _ rfl (.tmp 25) 93 rfl 3 4 Try.underlying93 RB (w.heap.size + 1 + 1) i D rfl HOW.out ?_; rw [HSZ.out])
        | (fail))
      go_ret
      exact ⟨rfl, HB.out⟩

end Go.Proofs.Ytjibdolhipddbaa
