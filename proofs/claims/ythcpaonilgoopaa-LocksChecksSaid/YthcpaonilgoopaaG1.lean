/- The reference's cuts. -/
import Derived.Test.YthcpaonilgoopaaE4
import Derived.Test.YthcpaonilgoopaaD1
namespace Go.Proofs.Ythcpaonilgoopaa
open Go.RowKit

set_option maxHeartbeats 4000000 in
set_option maxRecDepth 100000 in
theorem refCuts_any (k : Nat) (a : List (List Int)) (d : Int) (ao : Option Addr) (b o cap : Nat) (A : Nat → Option Addr) (B O C : Nat → Nat) (w : World) (H : RowsAt w ao b o a A B O C) (hk1 : 1 ≤ k) (hk6 : k ≤ 6) :
    Calls Try.prog 17 #[.int .i64 k, .slice ao a.length cap, .int .i64 d] w fun e w' => e = .returned (.bool (decide (OkCuts k a d))) ∧ Below w.heap.size w w' := by
  have hla := H.len
  have HA := Lib.hid H
  clear H
  have NO := Lib.hid (show ¬ OkCuts k a d → Ending.returned (.bool false) = .returned (.bool (decide (OkCuts k a d))) from fun h => by rw [decide_eq_false h])
  have YES := Lib.hid (show OkCuts k a d → Ending.returned (.bool true) = .returned (.bool (decide (OkCuts k a d))) from fun h => by rw [decide_eq_true h])
  by_cases h1 : a.length = k
  · have HK := Lib.hid h1
    have t1 : ((a.length : Int) != (k : Int)) = false := by rw [h1]; simp
    have hk0 : (0 : Int) < (k : Int) := by omega
    have ha0 : (0 : Int) < (a.length : Int) := by omega
    obtain ⟨l, hl⟩ : ∃ l, (row a 0).length = l := ⟨_, rfl⟩
    have HL := Lib.hid hl
    have ha1 : 1 ≤ a.length := by omega
    obtain ⟨rfl, -⟩ := HA.out.ptr (by omega)
    clear h1
    go_enter Try.func17, Try.ntmps17
    go_wp2
    go_loopw [7, 8] (fun x _ wr => ∃ i : Nat, i ≤ k ∧ x = .int .i64 i ∧ Below w.heap.size w wr ∧ ∀ q, q < i → ((1 ≤ l ∧ l ≤ 4) ∧ (row a q).length = l) ∧ ∀ j, j < (row a q).length → 1 ≤ nth (row a q) j ∧ nth (row a q) j ≤ d) (fun x _ _ => k - (intOf x).toNat)
    case atStart => exact ⟨0, by omega, rfl, Below.refl _ _, fun q hq => absurd hq (by omega)⟩
    case round =>
      obtain ⟨i, hi, rfl, hb, hg⟩ := hrel
      have HB := Lib.hid hb
      have HG := Lib.hid hg
      clear hb hg
      by_cases hlt : i < k
      · have hat := HA.out.below HB.out (Nat.le_refl _)
        have hla2 : i < a.length := by rw [HK.out]; exact hlt
        have ci := hat.cell i hla2
        have c0 : wr.cell? ⟨b, o, none⟩ = some (.slice (A 0) l (C 0)) := by rw [← hl]; exact hat.cell 0 (by omega)
        have HRI := Lib.hid (HA.out.rows i hla2)
        obtain ⟨r, hr⟩ : ∃ r, row a i = r := ⟨_, rfl⟩
        rw [hr] at ci HRI
        have HR := Lib.hid hr
        clear hat hr
        have hcs : (decide ((r.length : Int) < 1) = true ∧ r.length < 1) ∨ (decide ((r.length : Int) < 1) = false ∧ decide (4 < (r.length : Int)) = true ∧ 4 < r.length) ∨ (decide ((r.length : Int) < 1) = false ∧ decide (4 < (r.length : Int)) = false ∧ ((r.length : Int) != (l : Int)) = true ∧ r.length ≠ l) ∨
            (decide ((r.length : Int) < 1) = false ∧ decide (4 < (r.length : Int)) = false ∧ ((r.length : Int) != (l : Int)) = false ∧ (1 ≤ l ∧ l ≤ 4) ∧ r.length = l) := by
          simp only [decide_eq_true_eq, decide_eq_false_iff_not, bne_iff_ne, bne_eq_false_iff_eq]
          omega
        rcases hcs with ⟨e1, hbad⟩ | ⟨e1, e2, hbad⟩ | ⟨e1, e2, e3, hbad⟩ | ⟨e1, e2, e3, hok⟩
        · have HF := Lib.hid (NO.out fun q => by have := q.len i hlt; have := q.pos; rw [HR.out] at *; omega)
          clear hbad
          go_wp2
          go_quiet (fail)
          go_wp2
          go_ret
          exact ⟨HF.out, below_drewN HB.out _⟩
        · have HF := Lib.hid (NO.out fun q => by have := q.len i hlt; have := q.le; rw [HR.out] at *; omega)
          clear hbad
          go_wp2
          go_quiet (fail)
          go_wp2
          go_ret
          exact ⟨HF.out, below_drewN HB.out _⟩
        · have HF := Lib.hid (NO.out fun q => by have := q.len i hlt; rw [HR.out, HL.out] at this; exact hbad this)
          clear hbad
          go_wp2
          go_quiet (fail)
          go_wp2
          go_ret
          exact ⟨HF.out, below_drewN HB.out _⟩
        · have HOK := Lib.hid hok
          have hr6 : r.length ≤ 6 := by omega
          clear hok
          go_wp2
          go_quiet (fail)
          go_wp2
          have HBX := Lib.hid (below_drewN HB.out nq)
          clear ci c0
          go_loopw [8] (fun x wr => ∃ j : Nat, j ≤ r.length ∧ x = .int .i64 j ∧ Below w.heap.size w wr ∧ ∀ q, q < j → 1 ≤ nth r q ∧ nth r q ≤ d) (fun x _ => r.length - (intOf x).toNat)
          case atStart => exact ⟨0, by omega, rfl, HBX.out, fun q hq => absurd hq (by omega)⟩
          case round =>
            obtain ⟨j, hj, rfl, hb, hg⟩ := hrel
            have HBJ := Lib.hid hb
            have HGJ := Lib.hid hg
            clear hb hg HB HBX
            have hat := HA.out.below HBJ.out (Nat.le_refl _)
            have ci := hat.cell i hla2
            rw [HR.out] at ci
            clear hat
            by_cases hlj : j < r.length
            · have hri := HRI.out.below HBJ.out (Nat.le_refl _)
              obtain ⟨hA, -⟩ := hri.ptr (by omega)
              have q0 := hri.cell j hlj
              rw [hA] at ci
              obtain ⟨x, hx⟩ : ∃ x, nth r j = x := ⟨_, rfl⟩
              rw [hx] at q0
              have HX := Lib.hid hx
              clear hri hA hx
              have hxc : (decide (x < 1) = true ∧ x < 1) ∨ (decide (x < 1) = false ∧ decide (d < x) = true ∧ d < x) ∨ (decide (x < 1) = false ∧ decide (d < x) = false ∧ (1 ≤ x ∧ x ≤ d)) := by
                simp only [decide_eq_true_eq, decide_eq_false_iff_not]
                omega
              rcases hxc with ⟨g1, hbad⟩ | ⟨g1, g2, hbad⟩ | ⟨g1, g2, hok⟩
              · have HF := Lib.hid (NO.out fun q => by have := q.dep i hlt j (by rw [HR.out]; exact hlj); rw [HR.out, HX.out] at this; omega)
                clear hbad
                go_wp2
                try go_quiet (fail)
                try go_wp2
                go_ret
                exact ⟨HF.out, by first | exact HBJ.out | exact below_drewN HBJ.out _⟩
              · have HF := Lib.hid (NO.out fun q => by have := q.dep i hlt j (by rw [HR.out]; exact hlj); rw [HR.out, HX.out] at this; omega)
                clear hbad
                go_wp2
                try go_quiet (fail)
                try go_wp2
                go_ret
                exact ⟨HF.out, by first | exact HBJ.out | exact below_drewN HBJ.out _⟩
              · have HOK2 := Lib.hid hok
                clear hok
                go_wp2
                try go_quiet (fail)
                try go_wp2
                go_roundw
                case rel => exact ⟨j + 1, by omega, by go_num, by first | exact HBJ.out | exact below_drewN HBJ.out _, fun q hq => by
                  by_cases e : q = j
                  · rw [e, HX.out]; exact HOK2.out
                  · exact HGJ.out q (by omega)⟩
                case measure => simp [intOf]; omega
            · go_wp2
              go_roundw
              case rel => exact ⟨i + 1, by omega, by go_num, HBJ.out, fun q hq => by
                by_cases e : q = i
                · rw [e, HR.out]; exact ⟨HOK.out, fun t ht => HGJ.out t (by omega)⟩
                · exact HG.out q (by omega)⟩
              case measure => simp [intOf]; omega
      · have hia : i = k := by omega
        have HT := Lib.hid (YES.out ⟨HK.out, by rw [HL.out]; exact (HG.out 0 (by omega)).1.1.1, by rw [HL.out]; exact (HG.out 0 (by omega)).1.1.2, fun q hq => by rw [HL.out]; exact (HG.out q (by omega)).1.2, fun q hq => (HG.out q (by omega)).2⟩)
        go_wp2
        go_ret
        exact ⟨HT.out, HB.out⟩
  · have t1 : ((a.length : Int) != (k : Int)) = true := by simp; omega
    have HF := Lib.hid (NO.out fun q => h1 q.keys)
    clear h1
    go_enter Try.func17, Try.ntmps17
    go_wp2
    go_ret
    exact ⟨HF.out, Below.refl _ _⟩

end Go.Proofs.Ythcpaonilgoopaa
