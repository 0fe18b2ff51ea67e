/- The reference's facts: valid, and in agreement with a list of values. -/
import Derived.Test.YtaphmjccdokiiaaQ
namespace Go.Proofs.Ytaphmjccdokiiaa
open Go.RowKit Go.Maps

set_option maxHeartbeats 2000000 in
set_option maxRecDepth 100000 in
theorem refFacts_any (ps : List (Int × Int)) (n : Nat) (ao : Option Addr) (b o cap : Nat) (w : World) (h : PairsAt w ao b o ps) (hn : n ≤ 10) (hlen : ps.length ≤ 1000) :
    Calls Try.prog 54 #[.int .i64 n, .slice ao ps.length cap] w fun e w' => e = .returned (.bool (okFacts ps n)) ∧ Below w.heap.size w w' := by
  have H := Lib.hid h
  clear h
  go_enter Try.func54, Try.ntmps54
  go_wp2
  go_loopw [5] (fun i wr => ∃ k : Nat, k ≤ ps.length ∧ i = .int .i64 k ∧ (∀ i, i < k → goodPair ps n i) ∧ Below w.heap.size w wr) (fun i _ => ps.length - (intOf i).toNat)
  case atStart => exact ⟨0, by omega, rfl, fun i hi => absurd hi (by omega), Below.refl _ _⟩
  case round =>
    obtain ⟨k, hk, rfl, hg, hb⟩ := hrel
    have HG := Lib.hid hg
    have HB := Lib.hid hb
    clear hg hb
    by_cases hlt : k < ps.length
    · have hp := H.out.below HB.out (Nat.le_refl _)
      obtain ⟨rfl, -⟩ := hp.ptr (by omega)
      have c0 := hp.cell0 k hlt
      have c1 := hp.cell1 k hlt
      clear hp
      by_cases e1 : pf ps k < 0
      · have HF := Lib.hid (show okFacts ps n = false from decide_eq_false (fun q => by have := (q k hlt).1; omega))
        have t1 : decide (pf ps k < 0) = true := decide_eq_true e1
        clear e1
        go_wp2
        go_ret
        exact ⟨congrArg (fun b => Ending.returned (.bool b)) HF.out.symm, HB.out⟩
      · have t1 : decide (pf ps k < 0) = false := decide_eq_false e1
        by_cases e2 : (n : Int) ≤ pf ps k
        · have HF := Lib.hid (show okFacts ps n = false from decide_eq_false (fun q => by have := (q k hlt).1; omega))
          have t2 : decide ((n : Int) ≤ pf ps k) = true := decide_eq_true e2
          clear e1 e2
          go_wp2
          go_ret
          exact ⟨congrArg (fun b => Ending.returned (.bool b)) HF.out.symm, HB.out⟩
        · have t2 : decide ((n : Int) ≤ pf ps k) = false := decide_eq_false e2
          by_cases e3 : pv ps k < 0
          · have HF := Lib.hid (show okFacts ps n = false from decide_eq_false (fun q => by have := (q k hlt).2.1; omega))
            have t3 : decide (pv ps k < 0) = true := decide_eq_true e3
            clear e1 e2 e3
            go_wp2
            go_ret
            exact ⟨congrArg (fun b => Ending.returned (.bool b)) HF.out.symm, HB.out⟩
          · have t3 : decide (pv ps k < 0) = false := decide_eq_false e3
            by_cases e4 : 1 < pv ps k
            · have HF := Lib.hid (show okFacts ps n = false from decide_eq_false (fun q => by have := (q k hlt).2.1; omega))
              have t4 : decide (1 < pv ps k) = true := decide_eq_true e4
              clear e1 e2 e3 e4
              go_wp2
              go_ret
              exact ⟨congrArg (fun b => Ending.returned (.bool b)) HF.out.symm, HB.out⟩
            · have t4 : decide (1 < pv ps k) = false := decide_eq_false e4
              have HR := Lib.hid (show (0 ≤ pf ps k ∧ pf ps k < n) ∧ (pv ps k = 0 ∨ pv ps k = 1) from ⟨by omega, by omega⟩)
              clear e1 e2 e3 e4
              go_wp2
              go_loopw [6] (fun i wr => ∃ j : Nat, j ≤ k ∧ i = .int .i64 j ∧ (∀ i, i < j → pf ps i ≠ pf ps k) ∧ Below w.heap.size w wr) (fun i _ => k - (intOf i).toNat)
              case atStart => exact ⟨0, by omega, rfl, fun i hi => absurd hi (by omega), HB.out⟩
              case round =>
                clear HB c0 c1
                obtain ⟨j, hj, rfl, hd, hb⟩ := hrel
                have HD := Lib.hid hd
                have HB := Lib.hid hb
                clear hd hb
                by_cases hjk : j < k
                · have hp := H.out.below HB.out (Nat.le_refl _)
                  have d0 := hp.cell0 j (by omega)
                  have d1 := hp.cell0 k hlt
                  clear hp
                  by_cases e : pf ps j = pf ps k
                  · have HF := Lib.hid (show okFacts ps n = false from decide_eq_false (fun q => (q k hlt).2.2 j hjk e))
                    have t5 : (pf ps j == pf ps k) = true := by simpa using e
                    clear e
                    go_wp2
                    go_quiet (fail)
                    go_wp2
                    go_ret
                    exact ⟨congrArg (fun b => Ending.returned (.bool b)) HF.out.symm, below_drewN HB.out _⟩
                  · have HE := Lib.hid e
                    have t5 : (pf ps j == pf ps k) = false := by simpa using e
                    clear e
                    go_wp2
                    go_quiet (fail)
                    go_wp2
                    go_roundw
                    case rel => exact ⟨j + 1, by omega, by go_num, fun i hi => by
                      by_cases e : i = j
                      · subst e; exact HE.out
                      · exact HD.out i (by omega), below_drewN HB.out _⟩
                    case measure => simp [intOf]; omega
                · have ejk : j = k := by omega
                  subst ejk
                  go_wp2
                  go_roundw
                  case rel => exact ⟨j + 1, by omega, by go_num, fun i hi => by
                    by_cases e : i = j
                    · subst e; exact ⟨HR.out.1, HR.out.2, HD.out⟩
                    · exact HG.out i (by omega), HB.out⟩
                  case measure => simp [intOf]; omega
    · have HT := Lib.hid (show okFacts ps n = true from decide_eq_true (fun i hi => HG.out i (by omega)))
      go_wp2
      go_ret
      exact ⟨congrArg (fun b => Ending.returned (.bool b)) HT.out.symm, HB.out⟩

/-- The values are those of the pairs. -/
def agL (ps : List (Int × Int)) (a : Nat → Int) : Bool := decide (∀ i, i < ps.length → a (pf ps i).toNat = pv ps i)

set_option maxHeartbeats 2000000 in
set_option maxRecDepth 100000 in
theorem agrees_any (xs : List Int) (ps : List (Int × Int)) (xo : Option Addr) (xb xoff xc : Nat) (ao : Option Addr) (b o cap : Nat) (w : World) (hX : IntsAt w xo xb xoff xs) (h : PairsAt w ao b o ps) (hok : okFacts ps xs.length = true) (hlen : ps.length ≤ 1000) :
    Calls Try.prog 57 #[.slice xo xs.length xc, .slice ao ps.length cap] w fun e w' => e = .returned (.bool (agL ps (nth xs))) ∧ Below w.heap.size w w' := by
  have H := Lib.hid h
  have HX := Lib.hid hX
  have hxl := hX.len
  have HOK := Lib.hid (of_decide_eq_true hok)
  clear h hX hok
  go_enter Try.func57, Try.ntmps57
  go_wp2
  go_loopw [5] (fun i wr => ∃ k : Nat, k ≤ ps.length ∧ i = .int .i64 k ∧ (∀ i, i < k → nth xs (pf ps i).toNat = pv ps i) ∧ Below w.heap.size w wr) (fun i _ => ps.length - (intOf i).toNat)
  case atStart => exact ⟨0, by omega, rfl, fun i hi => absurd hi (by omega), Below.refl _ _⟩
  case round =>
    obtain ⟨k, hk, rfl, hg, hb⟩ := hrel
    have HG := Lib.hid hg
    have HB := Lib.hid hb
    clear hg hb
    by_cases hlt : k < ps.length
    · have hp := H.out.below HB.out (Nat.le_refl _)
      obtain ⟨rfl, -⟩ := hp.ptr (by omega)
      have c0 := hp.cell0 k hlt
      have c1 := hp.cell1 k hlt
      have hin := (HOK.out k hlt).1
      obtain ⟨q, hq⟩ : ∃ q : Nat, pf ps k = (q : Int) := ⟨(pf ps k).toNat, by omega⟩
      rw [hq] at c0
      have hql : q < xs.length := by omega
      have hx := HX.out.below HB.out (Nat.le_refl _)
      obtain ⟨rfl, -⟩ := hx.ptr (by omega)
      have d0 := hx.cell q hql
      have HQ := Lib.hid (show (pf ps k).toNat = q by omega)
      clear hp hx hin hq
      by_cases e : nth xs q = pv ps k
      · have HE := Lib.hid e
        have t : (nth xs q != pv ps k) = false := by rw [e]; simp
        clear e
        go_wp2
        go_quiet (fail)
        go_wp2
        go_roundw
        case rel => exact ⟨k + 1, by omega, by go_num, fun i hi => by
          by_cases e : i = k
          · subst e; rw [HQ.out]; exact HE.out
          · exact HG.out i (by omega), below_drewN HB.out _⟩
        case measure => simp [intOf]; omega
      · have HF := Lib.hid (show agL ps (nth xs) = false from decide_eq_false (fun q' => e (by have := q' k hlt; rw [HQ.out] at this; exact this)))
        have t : (nth xs q != pv ps k) = true := by simpa using e
        clear e
        go_wp2
        go_quiet (fail)
        go_wp2
        go_ret
        exact ⟨congrArg (fun b => Ending.returned (.bool b)) HF.out.symm, below_drewN HB.out _⟩
    · have HT := Lib.hid (show agL ps (nth xs) = true from decide_eq_true (fun i hi => HG.out i (by omega)))
      go_wp2
      go_ret
      exact ⟨congrArg (fun b => Ending.returned (.bool b)) HT.out.symm, HB.out⟩

end Go.Proofs.Ytaphmjccdokiiaa
