/- The reference's Active. -/
import Derived.Test.YtaphmjccdokiiaaXa
namespace Go.Proofs.Ytaphmjccdokiiaa
open Go.RowKit

/-- The trail passes v between b and a. -/
def passR (P : List (List Int)) (set : List Int) (b v a : Nat) : Bool := if (hasI (row P v) (b : Int) && hasI (row P v) (a : Int)) = true then opnd P v set else !hasI set (v : Int)
/-- The trail is active. -/
def actv (P : List (List Int)) (xs set : List Int) : Bool := decide (∀ i, i < xs.length - 2 → passR P set (at' xs i) (at' xs (i + 1)) (at' xs (i + 2)) = true)

theorem actv_no {P : List (List Int)} {xs set : List Int} {k a v b : Nat} (hk : k + 2 < xs.length) (ha : at' xs k = a) (hv : at' xs (k + 1) = v) (hb : at' xs (k + 2) = b) (h : passR P set a v b = false) : actv P xs set = false :=
  decide_eq_false fun q => by have := q k (by omega); rw [ha, hv, hb, h] at this; cases this

set_option maxHeartbeats 4000000 in
set_option maxRecDepth 100000 in
theorem refActive_any (P T : List (List Int)) (v : Value) (xs set : List Int) (ao : Option Addr) (xb xo xc : Nat) (so : Option Addr) (sb sf sc : Nat) (w : World) (h : NetAt w v P T) (hn : IsNet P T) (hX : IntsAt w ao xb xo xs) (hS : IntsAt w so sb sf set)
    (hok : okSet xs P.length = true) (hok2 : okSet set P.length = true) :
    Calls Try.prog 31 #[v, .slice ao xs.length xc, .slice so set.length sc] w fun e w' => e = .returned (.bool (actv P xs set)) ∧ Below w.heap.size w w' := by
  have HNet := Lib.hid h
  have HN := Lib.hid hn
  have HOK := Lib.hid hok
  have HOK2 := Lib.hid hok2
  have hl := hX.len
  obtain ⟨pa, b, o, pc, A, B, O, C, ta, b', o', tc, A', B', O', C', rfl, hP, hT⟩ := h.ex
  obtain ⟨W0, hW0⟩ : ∃ W0, w.alloc (.cells #[.slice pa P.length pc, .slice ta T.length tc] 24) = W0 := ⟨_, rfl⟩
  have HW0 := Lib.hid hW0
  have hB0 : Below w.heap.size w W0 := by rw [← hW0]; exact (Below.refl _ _).alloc (Nat.le_refl _) _
  have HB0 := Lib.hid hB0
  have hs0 : W0.heap.size = w.heap.size + 1 := by rw [← hW0]; simp
  have HS0 := Lib.hid hs0
  have HX := Lib.hid (hX.below hB0 (Nat.le_refl _))
  have HS := Lib.hid (hS.below hB0 (Nat.le_refl _))
  have HP := Lib.hid (hP.below hB0 (Nat.le_refl _))
  have hb0 := heap_alloc_new w (.cells #[.slice pa P.length pc, .slice ta T.length tc] 24)
  rw [hW0] at hb0
  have HBX := Lib.hid hb0
  have hlP := hP.len
  have hlS := hS.len
  have h10 := hn.le
  have hpos := hn.pos
  obtain ⟨rfl, -⟩ := hP.ptr (by omega)
  clear h hP hT hX hS hW0 hB0 hb0 hn hok hok2 hs0
  go_enter Try.func31, Try.ntmps31
  go_wp2
  rw [HW0.out]
  go_loopw [7, 8] (fun i _ wr => ∃ k : Nat, k ≤ xs.length ∧ i = .int .i64 ((k : Int) + 1) ∧ (∀ i, i < k → i < xs.length - 2 → passR P set (at' xs i) (at' xs (i + 1)) (at' xs (i + 2)) = true) ∧ Below W0.heap.size W0 wr) (fun i _ _ => xs.length + 1 - (intOf i).toNat)
  case atStart => exact ⟨0, by omega, rfl, fun j hj => absurd hj (by omega), Below.refl _ _⟩
  case round =>
    obtain ⟨k, hk, rfl, ha, hb⟩ := hrel
    have HA := Lib.hid ha
    have HB := Lib.hid hb
    clear ha hb
    by_cases hlt : k + 2 < xs.length
    · have hlt' : ((k : Int) + 1 + 1) < (xs.length : Int) := by omega
      have hX' := HX.out.below HB.out (Nat.le_refl _)
      have hS' := HS.out.below HB.out (Nat.le_refl _)
      have hP' := HP.out.below HB.out (Nat.le_refl _)
      obtain ⟨rfl, hxb⟩ := hX'.ptr (by omega)
      obtain ⟨ea, ha⟩ := okSet_at HOK.out (show k < xs.length by omega)
      obtain ⟨ev, hv⟩ := okSet_at HOK.out (show k + 1 < xs.length by omega)
      obtain ⟨eb, hb⟩ := okSet_at HOK.out hlt
      have d1 := hX'.cell (k + 1) (by omega)
      obtain ⟨qa, hqa⟩ : ∃ qa, at' xs k = qa := ⟨_, rfl⟩
      obtain ⟨qv, hqv⟩ : ∃ qv, at' xs (k + 1) = qv := ⟨_, rfl⟩
      obtain ⟨qb, hqb⟩ : ∃ qb, at' xs (k + 2) = qb := ⟨_, rfl⟩
      have HQA := Lib.hid hqa
      have HQV := Lib.hid hqv
      have HQB := Lib.hid hqb
      rw [hqa] at ea ha
      rw [hqv] at ev hv
      rw [hqb] at eb hb
      have HEA := Lib.hid ea
      have HEB := Lib.hid eb
      rw [ev] at d1
      have r0 := hP'.cell qv hv
      obtain ⟨x0, x1, -, -⟩ := cells_of2 ((HB.out.block _ (lt_of_block HBX.out)).trans HBX.out)
      have hk2 : ((k : Int) + 1).toNat = k + 1 := by omega
      have hk3 : ((k : Int) + 1 - 1).toNat = k := by omega
      have hk4 : ((k : Int) + 1 + 1).toNat = k + 2 := by omega
      clear hX' hS' hP' ea ev eb hqa hqv hqb
      go_wp2
      go_quiet (fail)
      obtain ⟨wz, hwz⟩ : ∃ wz, wr.drewN nq = wz := ⟨_, rfl⟩
      have HBZ : Hid (Below W0.heap.size W0 wz) := by rw [← hwz]; exact below_drewN HB.out _
      rw [hwz]
      clear d1 r0 x0 x1 hwz HB
      have hX' := HX.out.below HBZ.out (Nat.le_refl _)
      have hS' := HS.out.below HBZ.out (Nat.le_refl _)
      have hP' := HP.out.below HBZ.out (Nat.le_refl _)
      have d0 := hX'.cell k (by omega)
      have d1 := hX'.cell (k + 1) (by omega)
      have d2 := hX'.cell (k + 2) hlt
      rw [HEA.out] at d0
      rw [show nth xs (k + 1) = (qv : Int) by rw [(okSet_at HOK.out (show k + 1 < xs.length by omega)).1, HQV.out]] at d1
      rw [HEB.out] at d2
      have HC1 := Lib.hid (has_any (row P qv) (qa : Int) (A qv) (B qv) (O qv) (C qv) wz (hP'.rows qv hv))
      have HC2 := Lib.hid (has_any (row P qv) (qb : Int) (A qv) (B qv) (O qv) (C qv) wz (hP'.rows qv hv))
      have HC3 := Lib.hid (has_any set (qv : Int) so sb sf sc wz hS')
      obtain ⟨-, hxz⟩ := hX'.ptr (by omega)
      have hsz := HBZ.out.size
      have hnz : w.heap.size + 1 ≤ W0.heap.size := Nat.le_of_eq HS0.out.symm
      have HT2 := Lib.hid (show ∀ w', Below wz.heap.size wz w' → w'.cell? ⟨w.heap.size, 0, none⟩ = some (.slice (some ⟨b, o, none⟩) P.length pc) ∧ w'.cell? ⟨w.heap.size, 1, none⟩ = some (.slice ta T.length tc) ∧ w'.cell? ⟨xb, xo + (k + 1), none⟩ = some (.int .i64 (qv : Int)) from
        fun w' h => by
          obtain ⟨x0, x1, -, -⟩ := cells_of2 (((HBZ.out.trans (h.mono hsz)).block _ (lt_of_block HBX.out)).trans HBX.out)
          exact ⟨x0, x1, (h.cell (p := ⟨xb, xo + (k + 1), none⟩) hxz).trans d1⟩)
      have HD := Lib.hid (below_drew' (Below.refl wz.heap.size wz))
      have HCL := Lib.hid (show ∀ W, Below wz.heap.size wz W → Calls Try.prog 63 #[.agg #[.slice (some ⟨b, o, none⟩) P.length pc, .slice ta T.length tc], .int .i64 qv, .slice so set.length sc] W fun e w' => e = .returned (.bool (opnd P qv set)) ∧ Below wz.heap.size wz w' from
        fun W hW => (opened_any P T _ qv set so sb sf sc W (HNet.out.below (HB0.out.trans ((HBZ.out.trans (hW.mono hsz)).mono (by omega))) (Nat.le_refl _)) HN.out hv (HS.out.below (HBZ.out.trans (hW.mono hsz)) (Nat.le_refl _)) HOK2.out).mono fun e w' h => ⟨h.1, hW.trans (h.2.mono hW.size)⟩)
      clear hX' hS' hP' hsz
      have hstep : passR P set qa qv qb = true → ∀ i, i < k + 1 → i < xs.length - 2 → passR P set (at' xs i) (at' xs (i + 1)) (at' xs (i + 2)) = true := fun h i hi h2 => by
        by_cases e : i = k
        · subst e; rw [HQA.out, HQV.out, HQB.out]; exact h
        · exact HA.out i (by omega) h2
      have HST := Lib.hid hstep
      have i0 : (0 : Int) ≤ (k : Int) + 1 := by omega
      have i1 : (k : Int) + 1 < (xs.length : Int) := by omega
      clear hstep
      cases e1 : hasI (row P qv) (qa : Int)
      · rw [e1] at HC1
        cases e3 : hasI set (qv : Int)
        · rw [e3] at HC3
          have HT := Lib.hid (HST.out (by unfold passR; rw [e1, e3]; rfl))
          clear e1 e3 HC2
          go_wp2_with fail
          refine HC1.out.mono ?_
          rintro e w' ⟨rfl, rfl⟩
          go_wp2_with fail
          refine HC3.out.mono ?_
          rintro e w' ⟨rfl, rfl⟩
          go_wp2
          go_roundw
          case rel => exact ⟨k + 1, by omega, by go_num, HT.out, HBZ.out⟩
          case measure => simp [intOf]; omega
        · rw [e3] at HC3
          have HF := Lib.hid (actv_no (P := P) (set := set) hlt HQA.out HQV.out HQB.out (by unfold passR; rw [e1, e3]; rfl))
          clear e1 e3 HC2
          go_wp2_with fail
          refine HC1.out.mono ?_
          rintro e w' ⟨rfl, rfl⟩
          go_wp2_with fail
          refine HC3.out.mono ?_
          rintro e w' ⟨rfl, rfl⟩
          go_wp2
          go_ret
          exact ⟨ret_bool HF.out.symm, HB0.out.trans (HBZ.out.mono (by omega))⟩
      · rw [e1] at HC1
        cases e2 : hasI (row P qv) (qb : Int)
        · rw [e2] at HC2
          cases e3 : hasI set (qv : Int)
          · rw [e3] at HC3
            have HT := Lib.hid (HST.out (by unfold passR; rw [e1, e2, e3]; rfl))
            clear e1 e2 e3
            go_wp2_with fail
            refine HC1.out.mono ?_
            rintro e w' ⟨rfl, rfl⟩
            go_wp2_with fail
            refine HC2.out.mono ?_
            rintro e w' ⟨rfl, rfl⟩
            go_wp2_with fail
            refine HC3.out.mono ?_
            rintro e w' ⟨rfl, rfl⟩
            go_wp2
            go_roundw
            case rel => exact ⟨k + 1, by omega, by go_num, HT.out, HBZ.out⟩
            case measure => simp [intOf]; omega
          · rw [e3] at HC3
            have HF := Lib.hid (actv_no (P := P) (set := set) hlt HQA.out HQV.out HQB.out (by unfold passR; rw [e1, e2, e3]; rfl))
            clear e1 e2 e3
            go_wp2_with fail
            refine HC1.out.mono ?_
            rintro e w' ⟨rfl, rfl⟩
            go_wp2_with fail
            refine HC2.out.mono ?_
            rintro e w' ⟨rfl, rfl⟩
            go_wp2_with fail
            refine HC3.out.mono ?_
            rintro e w' ⟨rfl, rfl⟩
            go_wp2
            go_ret
            exact ⟨ret_bool HF.out.symm, HB0.out.trans (HBZ.out.mono (by omega))⟩
        · rw [e2] at HC2
          cases e3 : opnd P qv set
          · rw [e3] at HCL
            have HF := Lib.hid (actv_no (P := P) (set := set) hlt HQA.out HQV.out HQB.out (by unfold passR; rw [e1, e2, e3]; rfl))
            clear e1 e2 e3 HC3
            go_wp2_with fail
            refine HC1.out.mono ?_
            rintro e w' ⟨rfl, rfl⟩
            go_wp2_with fail
            refine HC2.out.mono ?_
            rintro e w' ⟨rfl, rfl⟩
            clear d0 d1 d2
            go_wp2
            go_region_held3 (fun w' => w'.cell? ⟨w.heap.size, 0, none⟩ = some (.slice (some ⟨b, o, none⟩) P.length pc) ∧ w'.cell? ⟨w.heap.size, 1, none⟩ = some (.slice ta T.length tc) ∧ w'.cell? ⟨xb, xo + (k + 1), none⟩ = some (.int .i64 (qv : Int)))
              (first | exact HT2.out _ HB1.out | exact HT2.out _ HD.out)
              ((go_simp; go_at_call 63; with_reducible refine (HCL.out _ HD.out).mono ?_; rintro e w1 ⟨rfl, hb1⟩; have HB1 := Lib.hid hb1; clear hb1))
            all_goals go_wp2
            all_goals go_ret
            all_goals exact ⟨ret_bool HF.out.symm, HB0.out.trans ((HBZ.out.trans (HB1.out.mono HBZ.out.size)).mono (by omega))⟩
          · rw [e3] at HCL
            have HT := Lib.hid (HST.out (by unfold passR; rw [e1, e2, e3]; rfl))
            clear e1 e2 e3 HC3
            go_wp2_with fail
            refine HC1.out.mono ?_
            rintro e w' ⟨rfl, rfl⟩
            go_wp2_with fail
            refine HC2.out.mono ?_
            rintro e w' ⟨rfl, rfl⟩
            clear d0 d1 d2
            go_wp2
            go_region_held3 (fun w' => w'.cell? ⟨w.heap.size, 0, none⟩ = some (.slice (some ⟨b, o, none⟩) P.length pc) ∧ w'.cell? ⟨w.heap.size, 1, none⟩ = some (.slice ta T.length tc) ∧ w'.cell? ⟨xb, xo + (k + 1), none⟩ = some (.int .i64 (qv : Int)))
              (first | exact HT2.out _ HB1.out | exact HT2.out _ HD.out)
              ((go_simp; go_at_call 63; with_reducible refine (HCL.out _ HD.out).mono ?_; rintro e w1 ⟨rfl, hb1⟩; have HB1 := Lib.hid hb1; clear hb1))
            all_goals go_wp2
            all_goals go_roundw
            case rel => exact ⟨k + 1, by omega, by go_num, HT.out, HBZ.out.trans (HB1.out.mono HBZ.out.size)⟩
            case measure => simp [intOf]; omega
    · have HT := Lib.hid (show actv P xs set = true from decide_eq_true (fun i hi => HA.out i (by omega) hi))
      go_wp2
      go_ret
      exact ⟨ret_bool HT.out.symm, HB0.out.trans (HB.out.mono (by have := HS0.out; omega))⟩

end Go.Proofs.Ytaphmjccdokiiaa
