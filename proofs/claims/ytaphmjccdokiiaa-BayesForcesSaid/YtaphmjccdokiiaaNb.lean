/- Force. -/
import Derived.Test.YtaphmjccdokiiaaMb
namespace Go.Proofs.Ytaphmjccdokiiaa
open Go.RowKit

/-- The arguments of Force are right. -/
def okFrc (P T : List (List Int)) (x val : Int) : Bool := isNet P T && isVar x P.length && isVal val
def frcP (P T : List (List Int)) (x val : Int) : List (List Int) := if okFrc P T x val = true then P.set x.toNat [] else []
def frcT (P T : List (List Int)) (x val : Int) : List (List Int) := if okFrc P T x val = true then T.set x.toNat [16 * val] else []
def frcE (P T : List (List Int)) (x val : Int) : Int := if okFrc P T x val = true then 0 else 2
theorem frc_no {P T : List (List Int)} {x val : Int} (h : okFrc P T x val = false) : frcP P T x val = [] ∧ frcT P T x val = [] ∧ frcE P T x val = 2 := by
  unfold frcP frcT frcE; rw [h]; exact ⟨rfl, rfl, rfl⟩
theorem frc_yes {P T : List (List Int)} {x val : Int} (h : okFrc P T x val = true) : frcP P T x val = P.set x.toNat [] ∧ frcT P T x val = T.set x.toNat [16 * val] ∧ frcE P T x val = 0 := by
  unfold frcP frcT frcE; rw [h]; exact ⟨rfl, rfl, rfl⟩

/-- What Force answers. -/
def ForceSays (P T : List (List Int)) (x val : Int) (w : World) (e : Ending) (w' : World) : Prop :=
  ∃ v1 v2, e = .returned (.tuple #[.agg #[v1, v2], .int .i64 (frcE P T x val)]) ∧ NewRows w.heap.size w' v1 (frcP P T x val) ∧ NewRows w.heap.size w' v2 (frcT P T x val) ∧ Below w.heap.size w w'

theorem force_refused {P T : List (List Int)} {x val : Int} {w w' : World} (h : okFrc P T x val = false) (hb : Below w.heap.size w w') :
    ForceSays P T x val w (.returned (.tuple #[.agg #[.slice none 0 0, .slice none 0 0], .int .i64 2])) w' := by
  obtain ⟨h1, h2, h3⟩ := frc_no h
  refine ⟨.slice none 0 0, .slice none 0 0, by rw [h3], ?_, ?_, hb⟩
  · rw [h1]; exact NewRows.nil _ _
  · rw [h2]; exact NewRows.nil _ _

set_option maxHeartbeats 4000000 in
set_option maxRecDepth 100000 in
theorem force_any (P T : List (List Int)) (v : Value) (x val : Int) (w : World) (h : NetAt w v P T) :
    Calls Try.prog 33 #[v, .int .i64 x, .int .i64 val] w (ForceSays P T x val w) := by
  have HNet := Lib.hid h
  obtain ⟨pa, b, o, pc, A, B, O, C, ta, b', o', tc, A', B', O', C', rfl, hP, hT⟩ := h.ex
  have W0b : Below w.heap.size w ((w.alloc (.cells #[.slice pa P.length pc, .slice ta T.length tc] 24)).alloc (.cells #[.slice none 0 0, .slice none 0 0] 24)) := ((Below.refl _ _).alloc (Nat.le_refl _) _).alloc (by simp) _
  have HW0b := Lib.hid W0b
  have hv1 := fun w => isVariable_any x P.length w
  have hv2 := fun w => isValue_any val w
  have HV1 := Lib.hid hv1
  have HV2 := Lib.hid hv2
  clear h hP hT W0b hv1 hv2
  obtain ⟨ok, hok⟩ : ∃ ok, isNet P T = ok := ⟨_, rfl⟩
  have HOK := Lib.hid hok
  clear hok
  go_enter Try.func33, Try.ntmps33
  go_wp2_with fail
  refine (isNetwork_any P T _ _ ((HNet.out.alloc _).alloc _)).mono ?_
  rw [HOK.out]
  rintro e w1 ⟨rfl, hb1⟩
  have HB1 : Hid (Below (w.heap.size + 2) _ w1) := hb1.mono (by simp)
  have HBW := Lib.hid (HW0b.out.trans (HB1.out.mono (by omega)))
  obtain ⟨k0, k1⟩ := two2 HB1.out (Nat.le_refl _)
  obtain ⟨c0, c1, -, -⟩ := cells_of2 k0
  have K1 := Lib.hid k1
  clear k0 k1 hb1
  have hone : (#[Value.slice none 0 0, Value.slice none 0 0] : Array Value).all (·.oneCell') = true := by simp [Value.oneCell']
  have HONE := Lib.hid hone
  clear hone
  cases ok
  · have HNO := Lib.hid (show okFrc P T x val = false by unfold okFrc; rw [HOK.out]; rfl)
    go_wp2_with (refine wpList_store_row rfl 24 (.tmp 6) (.tmp 24) rfl (w.heap.size + 1) _ rfl rfl 24 _ K1.out (by kernel_rfl) rfl HONE.out ?_)
    refine bodyPost_ret (v := .tuple #[.agg #[.slice none 0 0, .slice none 0 0], .int .i64 2]) ?_ rfl (force_refused HNO.out (below_setRow HBW.out (by omega) _))
    exact results_cell_row2 (ty := 24) (p := 6) (u := 7) rfl _ _ (w.heap.size + 1) 24 _ (0, 0) _ rfl (setRow_heap _ _ _ _ _ _ K1.out) Try.underlying24 rfl (by kernel_rfl)
  · have HN := Lib.hid (of_decide_eq_true HOK.out : IsNet P T)
    have h10 := HN.out.le
    cases e1 : isVar x P.length
    · have HNO := Lib.hid (show okFrc P T x val = false by unfold okFrc; rw [e1]; simp)
      have HC := HV1.out w1
      rw [e1] at HC
      replace HC := Lib.hid HC
      clear e1
      go_wp2_with (first
        | (go_at_call 58; with_reducible refine HC.out.mono ?_; rintro e w' ⟨rfl, rfl⟩)
        | (refine wpList_store_row rfl 24 (.tmp 6) (.tmp 24) rfl (w.heap.size + 1) _ rfl rfl 24 _ K1.out (by kernel_rfl) rfl HONE.out ?_))
      refine bodyPost_ret (v := .tuple #[.agg #[.slice none 0 0, .slice none 0 0], .int .i64 2]) ?_ rfl (force_refused HNO.out (below_setRow HBW.out (by omega) _))
      exact results_cell_row2 (ty := 24) (p := 6) (u := 7) rfl _ _ (w.heap.size + 1) 24 _ (0, 0) _ rfl (setRow_heap _ _ _ _ _ _ K1.out) Try.underlying24 rfl (by kernel_rfl)
    · have hx := of_decide_eq_true e1
      have E1 := Lib.hid e1
      have HC := HV1.out w1
      rw [e1] at HC
      replace HC := Lib.hid HC
      clear e1
      cases e2 : isVal val
      · have HNO := Lib.hid (show okFrc P T x val = false by unfold okFrc; rw [e2]; simp)
        have HC2 := HV2.out w1
        rw [e2] at HC2
        replace HC2 := Lib.hid HC2
        clear e2 hx
        go_wp2_with (first
          | (go_at_call 58; with_reducible refine HC.out.mono ?_; rintro e w' ⟨rfl, rfl⟩)
          | (go_at_call 66; with_reducible refine HC2.out.mono ?_; rintro e w' ⟨rfl, rfl⟩)
          | (refine wpList_store_row rfl 24 (.tmp 6) (.tmp 24) rfl (w.heap.size + 1) _ rfl rfl 24 _ K1.out (by kernel_rfl) rfl HONE.out ?_))
        refine bodyPost_ret (v := .tuple #[.agg #[.slice none 0 0, .slice none 0 0], .int .i64 2]) ?_ rfl (force_refused HNO.out (below_setRow HBW.out (by omega) _))
        exact results_cell_row2 (ty := 24) (p := 6) (u := 7) rfl _ _ (w.heap.size + 1) 24 _ (0, 0) _ rfl (setRow_heap _ _ _ _ _ _ K1.out) Try.underlying24 rfl (by kernel_rfl)
      · have HYES := Lib.hid (frc_yes (show okFrc P T x val = true by unfold okFrc; rw [HOK.out, E1.out, e2]; rfl))
        have hval := of_decide_eq_true e2
        have HVAL := Lib.hid hval
        have HC2 := HV2.out w1
        rw [e2] at HC2
        replace HC2 := Lib.hid HC2
        obtain ⟨x, rfl⟩ := Int.eq_ofNat_of_zero_le hx.1
        have hxP : x < P.length := by omega
        clear e2 hval
        go_wp2_with (first
          | (go_at_call 58; with_reducible refine HC.out.mono ?_; rintro e w' ⟨rfl, rfl⟩)
          | (go_at_call 66; with_reducible refine HC2.out.mono ?_; rintro e w' ⟨rfl, rfl⟩))
        refine (forced_any P T _ x val _ (((HNet.out.alloc _).alloc _).below HB1.out (by simp)) HN.out hxP HVAL.out).mono ?_
        rintro e w2 ⟨⟨v1, v2, rfl, n1, n2⟩, hb2⟩
        have HB2 := Lib.hid (HBW.out.trans (hb2.mono HBW.out.size))
        have K2 := Lib.hid ((hb2.block _ (lt_of_block K1.out)).trans K1.out)
        have HN1 := Lib.hid n1
        have HN2 := Lib.hid n2
        have s1 := HBW.out.size
        have s2 := lt_of_block K1.out
        have hone2 : (#[v1, v2] : Array Value).all (·.oneCell') = true := by simp [n1.oneCell, n2.oneCell]
        have HONE2 := Lib.hid hone2
        clear n1 n2 hb2 hone2 c0 c1
        go_wp2_with (refine wpList_store_row rfl 24 (.tmp 6) (.tmp 28) rfl (w.heap.size + 1) _ rfl rfl 24 _ K2.out (by kernel_rfl) rfl HONE2.out ?_)
        refine bodyPost_ret (v := .tuple #[.agg #[v1, v2], .int .i64 0]) ?_ rfl ⟨v1, v2, by rw [HYES.out.2.2], ?_, ?_, below_setRow HB2.out (by omega) _⟩
        · exact results_cell_row2 (ty := 24) (p := 6) (u := 7) rfl _ _ (w.heap.size + 1) 24 _ (0, 0) _ rfl (setRow_heap _ _ _ _ _ _ K2.out) Try.underlying24 rfl (by kernel_rfl)
        · rw [HYES.out.1]; exact (HN1.out.blocks (fun g h1 h2 => Go.setRow_other _ _ _ _ (by omega))).mono s1
        · rw [HYES.out.2.1]; exact (HN2.out.blocks (fun g h1 h2 => Go.setRow_other _ _ _ _ (by omega))).mono s1

end Go.Proofs.Ytaphmjccdokiiaa
