/- The reference's access plans. -/
import Derived.Test.YtjibdolhipddbaaE3
namespace Go.Proofs.Ytjibdolhipddbaa
open Go.RowKit

set_option maxHeartbeats 4000000 in
set_option maxRecDepth 100000 in
theorem access_any (a : List (List Int)) (ao : Option Addr) (b o cap : Nat) (A : Nat → Option Addr) (B O C : Nat → Nat) (w : World) (H : RowsAt w ao b o a A B O C) :
    Calls Try.prog 14 #[.slice ao a.length cap] w fun e w' => e = .returned (.bool (isPlan a)) ∧ Below w.heap.size w w' := by
  have hla := H.len
  have HA := Lib.hid H
  clear H
  have NO := Lib.hid (show ¬ IsPlan a → Ending.returned (.bool false) = .returned (.bool (isPlan a)) from fun h => by rw [not_plan h])
  have YES := Lib.hid (show IsPlan a → Ending.returned (.bool true) = .returned (.bool (isPlan a)) from fun h => ret_bool (decide_eq_true h).symm)
  by_cases h1 : a.length < 1
  · have t1 : decide ((a.length : Int) < 1) = true := decide_eq_true (by omega)
    have HF := Lib.hid (NO.out fun q => by have := q.pos; omega)
    clear h1
    go_enter Try.func14, Try.ntmps14
    go_wp2
    go_ret
    exact ⟨HF.out, Below.refl _ _⟩
  · have t1 : decide ((a.length : Int) < 1) = false := decide_eq_false (by omega)
    by_cases h2 : 6 < a.length
    · have t2 : decide (6 < (a.length : Int)) = true := decide_eq_true (by omega)
      have HF := Lib.hid (NO.out fun q => by have := q.le; omega)
      clear h1 h2
      go_enter Try.func14, Try.ntmps14
      go_wp2
      go_ret
      exact ⟨HF.out, Below.refl _ _⟩
    · have t2 : decide (6 < (a.length : Int)) = false := decide_eq_false (by omega)
      have ha1 : 1 ≤ a.length := by omega
      have ha6 : a.length ≤ 6 := by omega
      have ha0 : (0 : Int) < (a.length : Int) := by omega
      obtain ⟨l, hl⟩ : ∃ l, (row a 0).length = l := ⟨_, rfl⟩
      have HL := Lib.hid hl
      clear h1 h2
      go_enter Try.func14, Try.ntmps14
      go_wp2
      go_loopw [3, 4] (fun x _ wr => ∃ i : Nat, i ≤ a.length ∧ x = .int .i64 i ∧ Below w.heap.size w wr ∧ ∀ q, q < i → ((1 ≤ l ∧ l ≤ 6) ∧ (row a q).length = l) ∧ ∀ j, j < (row a q).length → nth (row a q) j = 0 ∨ nth (row a q) j = 1) (fun x _ _ => a.length - (intOf x).toNat)
      case atStart => exact ⟨0, by omega, rfl, Below.refl _ _, fun q hq => absurd hq (by omega)⟩
      case round =>
        obtain ⟨i, hi, rfl, hb, hg⟩ := hrel
        have HB := Lib.hid hb
        have HG := Lib.hid hg
        clear hb hg
        by_cases hlt : i < a.length
        · have hat := HA.out.below HB.out (Nat.le_refl _)
          obtain ⟨rfl, -⟩ := hat.ptr (by omega)
          have ci := hat.cell i hlt
          have c0 : wr.cell? ⟨b, o, none⟩ = some (.slice (A 0) l (C 0)) := by rw [← hl]; exact hat.cell 0 (by omega)
          have HRI := Lib.hid (HA.out.rows i hlt)
          obtain ⟨r, hr⟩ : ∃ r, row a i = r := ⟨_, rfl⟩
          rw [hr] at ci HRI
          have HR := Lib.hid hr
          clear hat hr
          have hcs : (decide ((r.length : Int) < 1) = true ∧ r.length < 1) ∨ (decide ((r.length : Int) < 1) = false ∧ decide (6 < (r.length : Int)) = true ∧ 6 < r.length) ∨ (decide ((r.length : Int) < 1) = false ∧ decide (6 < (r.length : Int)) = false ∧ ((r.length : Int) != (l : Int)) = true ∧ r.length ≠ l) ∨
              (decide ((r.length : Int) < 1) = false ∧ decide (6 < (r.length : Int)) = false ∧ ((r.length : Int) != (l : Int)) = false ∧ (1 ≤ l ∧ l ≤ 6) ∧ r.length = l) := by
            simp only [decide_eq_true_eq, decide_eq_false_iff_not, bne_iff_ne, bne_eq_false_iff_eq]
            omega
          rcases hcs with ⟨e1, hbad⟩ | ⟨e1, e2, hbad⟩ | ⟨e1, e2, e3, hbad⟩ | ⟨e1, e2, e3, hok⟩
          · have HF := Lib.hid (NO.out fun q => by have := q.len i hlt; have := q.pos0; rw [HR.out] at *; omega)
            clear hbad
            go_wp2
            go_quiet (fail)
            go_wp2
            go_ret
            exact ⟨HF.out, below_drewN HB.out _⟩
          · have HF := Lib.hid (NO.out fun q => by have := q.len i hlt; have := q.le0; rw [HR.out] at *; omega)
            clear hbad
            go_wp2
            go_quiet (fail)
            go_wp2
            go_ret
            exact ⟨HF.out, below_drewN HB.out _⟩
          · have HF := Lib.hid (NO.out fun q => by have := q.len i hlt; rw [HR.out, HL.out] at this; exact hbad this)
            clear hbad
            go_wp2
            go_quiet (fail)
            go_wp2
            go_ret
            exact ⟨HF.out, below_drewN HB.out _⟩
          · have HOK := Lib.hid hok
            have hr6 : r.length ≤ 6 := by omega
            clear hok
            go_wp2
            go_quiet (fail)
            go_wp2
            have HBX := Lib.hid (below_drewN HB.out nq)
            clear ci c0
            go_loopw [4] (fun x wr => ∃ j : Nat, j ≤ r.length ∧ x = .int .i64 j ∧ Below w.heap.size w wr ∧ ∀ q, q < j → nth r q = 0 ∨ nth r q = 1) (fun x _ => r.length - (intOf x).toNat)
            case atStart => exact ⟨0, by omega, rfl, HBX.out, fun q hq => absurd hq (by omega)⟩
            case round =>
              obtain ⟨j, hj, rfl, hb, hg⟩ := hrel
              have HBJ := Lib.hid hb
              have HGJ := Lib.hid hg
              clear hb hg HB HBX
              have hat := HA.out.below HBJ.out (Nat.le_refl _)
              have ci := hat.cell i hlt
              rw [HR.out] at ci
              clear hat
              by_cases hlj : j < r.length
              · have hri := HRI.out.below HBJ.out (Nat.le_refl _)
                obtain ⟨hA, -⟩ := hri.ptr (by omega)
                have q0 := hri.cell j hlj
                rw [hA] at ci
                obtain ⟨x, hx⟩ : ∃ x, nth r j = x := ⟨_, rfl⟩
                rw [hx] at q0
                have HX := Lib.hid hx
                clear hri hA hx
                have hxc : (decide (x < 0) = true ∧ x < 0) ∨ (decide (x < 0) = false ∧ decide (1 < x) = true ∧ 1 < x) ∨ (decide (x < 0) = false ∧ decide (1 < x) = false ∧ (x = 0 ∨ x = 1)) := by
                  simp only [decide_eq_true_eq, decide_eq_false_iff_not]
                  omega
                rcases hxc with ⟨g1, hbad⟩ | ⟨g1, g2, hbad⟩ | ⟨g1, g2, hok⟩
                · have HF := Lib.hid (NO.out fun q => by have := q.bit i hlt j (by rw [HR.out]; exact hlj); rw [HR.out, HX.out] at this; omega)
                  clear hbad
                  go_wp2
                  try go_quiet (fail)
                  try go_wp2
                  go_ret
                  exact ⟨HF.out, by first | exact HBJ.out | exact below_drewN HBJ.out _⟩
                · have HF := Lib.hid (NO.out fun q => by have := q.bit i hlt j (by rw [HR.out]; exact hlj); rw [HR.out, HX.out] at this; omega)
                  clear hbad
                  go_wp2
                  try go_quiet (fail)
                  try go_wp2
                  go_ret
                  exact ⟨HF.out, by first | exact HBJ.out | exact below_drewN HBJ.out _⟩
                · have HOK2 := Lib.hid hok
                  clear hok
                  go_wp2
                  try go_quiet (fail)
                  try go_wp2
                  go_roundw
                  case rel => exact ⟨j + 1, by omega, by go_num, by first | exact HBJ.out | exact below_drewN HBJ.out _, fun q hq => by
                    by_cases e : q = j
                    · rw [e, HX.out]; exact HOK2.out
                    · exact HGJ.out q (by omega)⟩
                  case measure => simp [intOf]; omega
              · go_wp2
                go_roundw
                case rel => exact ⟨i + 1, by omega, by go_num, HBJ.out, fun q hq => by
                  by_cases e : q = i
                  · rw [e, HR.out]; exact ⟨HOK.out, fun t ht => HGJ.out t (by omega)⟩
                  · exact HG.out q (by omega)⟩
                case measure => simp [intOf]; omega
        · have hia : i = a.length := by omega
          have HT := Lib.hid (YES.out ⟨ha1, ha6, by rw [HL.out]; exact (HG.out 0 (by omega)).1.1.1, by rw [HL.out]; exact (HG.out 0 (by omega)).1.1.2, fun q hq => by rw [HL.out]; exact (HG.out q (by omega)).1.2, fun q hq => (HG.out q (by omega)).2⟩)
          go_wp2
          go_ret
          exact ⟨HT.out, HB.out⟩

end Go.Proofs.Ytjibdolhipddbaa
