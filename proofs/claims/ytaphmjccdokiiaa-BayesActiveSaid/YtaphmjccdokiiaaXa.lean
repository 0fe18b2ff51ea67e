/- The reference's Trail. -/
import Derived.Test.YtaphmjccdokiiaaWa
namespace Go.Proofs.Ytaphmjccdokiiaa
open Go.RowKit

/-- The place in the list, as a variable. -/
def at' (xs : List Int) (i : Nat) : Nat := (nth xs i).toNat
/-- Two variables side by side. -/
def edge (P : List (List Int)) (a b : Nat) : Bool := hasI (row P a) (b : Int) || hasI (row P b) (a : Int)
/-- The list is a trail. -/
def okTrail (P : List (List Int)) (xs : List Int) : Bool := okSet xs P.length && decide (∀ i, i < xs.length - 1 → edge P (at' xs i) (at' xs (i + 1)) = true)

theorem RowsAt.drewN {w : World} {ao : Option Addr} {b o : Nat} {xs : List (List Int)} {A : Nat → Option Addr} {B O C : Nat → Nat} (h : RowsAt w ao b o xs A B O C) (n : Nat) : RowsAt (w.drewN n) ao b o xs A B O C :=
  h.below (below_drewN (Below.refl _ _) n) (Nat.le_refl _)

theorem okSet_at {xs : List Int} {n i : Nat} (h : okSet xs n = true) (hi : i < xs.length) : nth xs i = ((at' xs i : Nat) : Int) ∧ at' xs i < n := by
  have := (of_decide_eq_true h i hi).1
  unfold at'
  omega

set_option maxHeartbeats 2000000 in
set_option maxRecDepth 100000 in
theorem trail_any (P T : List (List Int)) (v : Value) (xs : List Int) (ao : Option Addr) (xb xo xc : Nat) (w : World) (h : NetAt w v P T) (hX : IntsAt w ao xb xo xs) (hcap : xs.length ≤ xc) :
    Calls Try.prog 30 #[v, .slice ao xs.length xc] w fun e w' => e = .returned (.bool (okTrail P xs)) ∧ Below w.heap.size w w' := by
  have HNet := Lib.hid h
  have hl := hX.len
  obtain ⟨pa, b, o, pc, A, B, O, C, ta, b', o', tc, A', B', O', C', rfl, hP, hT⟩ := h.ex
  obtain ⟨W0, hW0⟩ : ∃ W0, w.alloc (.cells #[.slice pa P.length pc, .slice ta T.length tc] 24) = W0 := ⟨_, rfl⟩
  have HW0 := Lib.hid hW0
  have hB0 : Below w.heap.size w W0 := by rw [← hW0]; exact (Below.refl _ _).alloc (Nat.le_refl _) _
  have HB0 := Lib.hid hB0
  have HX := Lib.hid (hX.below hB0 (Nat.le_refl _))
  have HP := Lib.hid (hP.below hB0 (Nat.le_refl _))
  have hb0 := heap_alloc_new w (.cells #[.slice pa P.length pc, .slice ta T.length tc] 24)
  rw [hW0] at hb0
  obtain ⟨c0, c1, -, -⟩ := cells_of2 hb0
  have hlP := hP.len
  clear h hP hT hX hW0 hB0 hb0
  have hd := different_any xs P.length ao xb xo xc W0 HX.out hcap
  go_enter Try.func30, Try.ntmps30
  go_wp2_with fail
  rw [HW0.out]
  cases e1 : okSet xs P.length
  · rw [e1] at hd
    have HF := Lib.hid (show okTrail P xs = false by unfold okTrail; rw [e1]; rfl)
    have HD := Lib.hid hd
    clear hd e1
    go_wp2_with fail
    refine HD.out.mono ?_
    rintro e w1 ⟨rfl, m, rfl⟩
    go_wp2
    go_ret
    exact ⟨ret_bool HF.out.symm, below_drewN HB0.out _⟩
  · rw [e1] at hd
    have HOK := Lib.hid e1
    have HD := Lib.hid hd
    clear hd e1
    go_wp2_with fail
    refine HD.out.mono ?_
    rintro e w1 ⟨rfl, m0, rfl⟩
    go_wp2
    go_loopw [5] (fun i wr => ∃ k : Nat, k ≤ xs.length ∧ i = .int .i64 k ∧ (∀ i, i < k → edge P (at' xs i) (at' xs (i + 1)) = true) ∧ ∃ m, wr = W0.drewN m) (fun i _ => xs.length - (intOf i).toNat)
    case atStart => exact ⟨0, by omega, rfl, fun j hj => absurd hj (by omega), m0, rfl⟩
    case round =>
      obtain ⟨k, hk, rfl, ha, m, rfl⟩ := hrel
      have HA := Lib.hid ha
      clear ha
      by_cases hlt : k + 1 < xs.length
      · obtain ⟨rfl, -⟩ := HX.out.ptr (by omega)
        have d0 := HX.out.cell k (by omega)
        have d1 := HX.out.cell (k + 1) hlt
        obtain ⟨ea, ha⟩ := okSet_at HOK.out (show k < xs.length by omega)
        obtain ⟨eb, hb⟩ := okSet_at HOK.out hlt
        obtain ⟨qa, hqa⟩ : ∃ qa, at' xs k = qa := ⟨_, rfl⟩
        obtain ⟨qb, hqb⟩ : ∃ qb, at' xs (k + 1) = qb := ⟨_, rfl⟩
        rw [hqa] at ea ha
        rw [hqb] at eb hb
        rw [ea] at d0
        rw [eb] at d1
        obtain ⟨rfl, -⟩ := HP.out.ptr (by omega)
        have r0 := HP.out.cell qa ha
        have r1 := HP.out.cell qb hb
        have HC1 := Lib.hid (fun q => has_any (row P qa) (qb : Int) (A qa) (B qa) (O qa) (C qa) (W0.drewN (m + q)) ((HP.out.rows qa ha).drewN _))
        have HC2 := Lib.hid (fun q => has_any (row P qb) (qa : Int) (A qb) (B qb) (O qb) (C qb) (W0.drewN (m + q)) ((HP.out.rows qb hb).drewN _))
        have HE := Lib.hid (show edge P (at' xs k) (at' xs (k + 1)) = (hasI (row P qa) (qb : Int) || hasI (row P qb) (qa : Int)) by rw [hqa, hqb]; rfl)
        have hk1 : ((k : Int) + 1) < (xs.length : Int) := by omega
        have hk2 : ((k : Int) + 1).toNat = k + 1 := by omega
        have HK2 := Lib.hid hk2
        clear hk2 ea eb hqa hqb
        cases e1 : hasI (row P qa) (qb : Int)
        · cases e2 : hasI (row P qb) (qa : Int)
          · rw [e1] at HC1
            rw [e2] at HC2
            have HF := Lib.hid (show okTrail P xs = false by
              unfold okTrail
              rw [HOK.out, Bool.true_and]
              exact decide_eq_false (fun q => by have := q k (by omega); rw [HE.out, e1, e2] at this; cases this))
            clear e1 e2
            go_wp2
            go_quiet ((first | (go_at_call 62; with_reducible exact quietM (HC1.out _)) | (go_at_call 62; with_reducible exact quietM (HC2.out _))))
            go_wp2
            go_ret
            exact ⟨ret_bool HF.out.symm, by first | exact below_drewN HB0.out _ | exact below_drewN (below_drewN HB0.out _) _⟩
          · have HT := Lib.hid (show edge P (at' xs k) (at' xs (k + 1)) = true by rw [HE.out, e1, e2]; rfl)
            rw [e1] at HC1
            rw [e2] at HC2
            clear e1 e2
            go_wp2
            go_quiet ((first | (go_at_call 62; with_reducible exact quietM (HC1.out _)) | (go_at_call 62; with_reducible exact quietM (HC2.out _))))
            go_wp2
            go_roundw
            case rel => exact ⟨k + 1, by omega, by go_num, fun i hi => by
              by_cases e : i = k
              · subst e; exact HT.out
              · exact HA.out i (by omega), by first | exact ⟨_, rfl⟩ | exact ⟨_, World.drewN_drewN _ _ _⟩⟩
            case measure => simp [intOf]; omega
        · have HT := Lib.hid (show edge P (at' xs k) (at' xs (k + 1)) = true by rw [HE.out, e1]; rfl)
          rw [e1] at HC1
          clear e1 HC2
          go_wp2
          go_quiet ((go_at_call 62; with_reducible exact quietM (HC1.out _)))
          go_wp2
          go_roundw
          case rel => exact ⟨k + 1, by omega, by go_num, fun i hi => by
            by_cases e : i = k
            · subst e; exact HT.out
            · exact HA.out i (by omega), by first | exact ⟨_, rfl⟩ | exact ⟨_, World.drewN_drewN _ _ _⟩⟩
          case measure => simp [intOf]; omega
      · have HT := Lib.hid (show okTrail P xs = true by
          unfold okTrail
          rw [HOK.out, Bool.true_and]
          exact decide_eq_true (fun i hi => HA.out i (by omega)))
        go_wp2
        go_ret
        exact ⟨ret_bool HT.out.symm, below_drewN HB0.out _⟩

end Go.Proofs.Ytaphmjccdokiiaa
