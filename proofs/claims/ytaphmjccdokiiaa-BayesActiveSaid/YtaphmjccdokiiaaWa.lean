/- The reference's opened. -/
import Derived.Test.YtaphmjccdokiiaaVa
import Derived.Deep.RegionHeld3
namespace Go.Proofs.Ytaphmjccdokiiaa
open Go.RowKit

theorem below_drew' {B : Nat} {w0 w : World} (h : Below B w0 w) : Below B w0 w.drew := h.trans ⟨rfl, rfl, rfl, Nat.le_refl _, fun _ _ => rfl⟩

/-- The variable or one of its descendants is in the list. -/
def opnd (P : List (List Int)) (v : Nat) (xs : List Int) : Bool := decide (∃ i, i < xs.length ∧ (nth xs i = (v : Int) ∨ desc P v (nth xs i).toNat = true))

set_option maxHeartbeats 2000000 in
set_option maxRecDepth 100000 in
theorem opened_any (P T : List (List Int)) (v : Value) (u : Nat) (xs : List Int) (ao : Option Addr) (xb xo xc : Nat) (w : World) (h : NetAt w v P T) (hn : IsNet P T) (hu : u < P.length) (hX : IntsAt w ao xb xo xs) (hok : okSet xs P.length = true) :
    Calls Try.prog 63 #[v, .int .i64 u, .slice ao xs.length xc] w fun e w' => e = .returned (.bool (opnd P u xs)) ∧ Below w.heap.size w w' := by
  have HNet := Lib.hid h
  have HX := Lib.hid hX
  have HN := Lib.hid hn
  have HOK := Lib.hid (of_decide_eq_true hok)
  have hl := hX.len
  obtain ⟨pa, b, o, pc, A, B, O, C, ta, b', o', tc, A', B', O', C', rfl, hP, hT⟩ := h.ex
  have h10 := hn.le
  clear h hP hT hn hX hok
  go_enter Try.func63, Try.ntmps63
  go_wp2
  go_loopw [7] (fun i wr => ∃ k : Nat, k ≤ xs.length ∧ i = .int .i64 k ∧ (∀ i, i < k → nth xs i ≠ (u : Int) ∧ desc P u (nth xs i).toNat = false) ∧ Below (w.heap.size + 1) (w.alloc (.cells #[.slice pa P.length pc, .slice ta T.length tc] 24)) wr) (fun i _ => xs.length - (intOf i).toNat)
  case atStart => exact ⟨0, by omega, rfl, fun j hj => absurd hj (by omega), Below.refl _ _⟩
  case round =>
    obtain ⟨k, hk, rfl, ha, hb⟩ := hrel
    have HA := Lib.hid ha
    have HB := Lib.hid hb
    have s0 := hb.size
    simp only [World.size_alloc] at s0
    clear ha hb
    by_cases hlt : k < xs.length
    · have hX' := (HX.out.alloc (.cells #[.slice pa P.length pc, .slice ta T.length tc] 24)).below HB.out (by simp)
      obtain ⟨rfl, hxb⟩ := hX'.ptr (by omega)
      have hc := hX'.cell k hlt
      have hr := (HOK.out k hlt).1
      obtain ⟨q, hq⟩ : ∃ q : Nat, nth xs k = (q : Int) := ⟨(nth xs k).toNat, by omega⟩
      rw [hq] at hc
      have hqP : q < P.length := by omega
      have HQ := Lib.hid hq
      have HC0 := Lib.hid hc
      clear hX' hr hq
      by_cases e1 : q = u
      · have t1 : ((q : Int) == (u : Int)) = true := by rw [beq_iff_eq]; omega
        have HF := Lib.hid (show opnd P u xs = true from decide_eq_true ⟨k, hlt, .inl (by rw [HQ.out, e1])⟩)
        clear e1
        go_wp2
        go_quiet (fail)
        go_wp2
        go_ret
        exact ⟨ret_bool HF.out.symm, below_drewN (((Below.refl _ _).alloc (Nat.le_refl _) _).trans (HB.out.mono (by omega))) _⟩
      · have t1 : ((q : Int) == (u : Int)) = false := by rw [beq_eq_false_iff_ne]; omega
        have HE := Lib.hid e1
        have HT2 := Lib.hid (show ∀ w', Below wr.heap.size wr w' → w'.cell? ⟨w.heap.size, 0, none⟩ = some (.slice pa P.length pc) ∧ w'.cell? ⟨w.heap.size, 1, none⟩ = some (.slice ta T.length tc) ∧ w'.cell? ⟨xb, xo + k, none⟩ = some (.int .i64 (q : Int)) from
          fun w' h => by
            obtain ⟨x0, x1⟩ := box2 (HB.out.trans (h.mono s0))
            exact ⟨x0, x1, (h.cell (p := ⟨xb, xo + k, none⟩) hxb).trans HC0.out⟩)
        have HD := Lib.hid (below_drew' (Below.refl wr.heap.size wr))
        have HCL := Lib.hid (show ∀ W, Below wr.heap.size wr W → Calls Try.prog 44 #[.agg #[.slice pa P.length pc, .slice ta T.length tc], .int .i64 u, .int .i64 q] W fun e w' => e = .returned (.bool (desc P u q)) ∧ Below wr.heap.size wr w' from
          fun W hW => (descendant_any P T _ u q W ((HNet.out.alloc _).below (HB.out.trans (hW.mono s0)) (by simp)) HN.out hu hqP).mono fun e w' h => ⟨h.1, hW.trans (h.2.mono hW.size)⟩)
        clear e1 hc
        cases e2 : desc P u q
        · rw [e2] at HCL
          have HE2 := Lib.hid e2
          clear e2
          go_wp2
          go_region_held3 (fun w' => w'.cell? ⟨w.heap.size, 0, none⟩ = some (.slice pa P.length pc) ∧ w'.cell? ⟨w.heap.size, 1, none⟩ = some (.slice ta T.length tc) ∧ w'.cell? ⟨xb, xo + k, none⟩ = some (.int .i64 (q : Int)))
            (first | exact HT2.out _ HB1.out | exact HT2.out _ HD.out)
            ((go_simp; go_at_call 44; with_reducible refine (HCL.out _ HD.out).mono ?_; rintro e w1 ⟨rfl, hb1⟩; have HB1 := Lib.hid hb1; clear hb1))
          all_goals go_wp2
          all_goals go_roundw
          case rel => exact ⟨k + 1, by omega, by go_num, fun i hi => by
            by_cases e : i = k
            · subst e; rw [HQ.out]; exact ⟨by have := HE.out; omega, by simpa using HE2.out⟩
            · exact HA.out i (by omega), HB.out.trans (HB1.out.mono (by omega))⟩
          case measure => simp [intOf]; omega
        · rw [e2] at HCL
          have HF := Lib.hid (show opnd P u xs = true from decide_eq_true ⟨k, hlt, .inr (by rw [HQ.out]; simpa using e2)⟩)
          clear e2
          go_wp2
          go_region_held3 (fun w' => w'.cell? ⟨w.heap.size, 0, none⟩ = some (.slice pa P.length pc) ∧ w'.cell? ⟨w.heap.size, 1, none⟩ = some (.slice ta T.length tc) ∧ w'.cell? ⟨xb, xo + k, none⟩ = some (.int .i64 (q : Int)))
            (first | exact HT2.out _ HB1.out | exact HT2.out _ HD.out)
            ((go_simp; go_at_call 44; with_reducible refine (HCL.out _ HD.out).mono ?_; rintro e w1 ⟨rfl, hb1⟩; have HB1 := Lib.hid hb1; clear hb1))
          all_goals go_wp2
          all_goals go_ret
          all_goals exact ⟨ret_bool HF.out.symm, ((Below.refl _ _).alloc (Nat.le_refl _) _).trans ((HB.out.mono (by omega)).trans (HB1.out.mono (by omega)))⟩
    · have HF := Lib.hid (show opnd P u xs = false from decide_eq_false (fun ⟨i, hi, q⟩ => by
        have := HA.out i (by omega)
        rcases q with q | q
        · exact this.1 q
        · rw [this.2] at q; cases q))
      go_wp2
      go_ret
      exact ⟨ret_bool HF.out.symm, ((Below.refl _ _).alloc (Nat.le_refl _) _).trans (HB.out.mono (by omega))⟩

end Go.Proofs.Ytaphmjccdokiiaa
