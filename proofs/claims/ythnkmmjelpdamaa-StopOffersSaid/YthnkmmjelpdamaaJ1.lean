/- The reference's offers: which of them are valid. -/
import Derived.Test.YthnkmmjelpdamaaD1
namespace Go.Proofs.Ythnkmmjelpdamaa
open Go.RowKit

set_option maxHeartbeats 4000000 in
set_option maxRecDepth 100000 in
theorem refOffers_any (L : List (List (Int × Int))) (ao : Option Addr) (b o cap : Nat) (A : Nat → Option Addr) (B O C : Nat → Nat) (w : World) (h : OffsAt w ao b o L A B O C) :
    Calls Try.prog 36 #[.slice ao L.length cap] w fun e w' => e = .returned (.bool (okOffs L)) ∧ w' = w := by
  have H := Lib.hid h
  have hlen := h.len
  clear h
  go_enter Try.func36, Try.ntmps36
  go_wp2
  go_loop [3, 4, 5] (fun y _ _ => ∃ k : Nat, k ≤ L.length ∧ y = .int .i64 k ∧ (∀ i, i < k → okOff (rowP L i) = true)) (fun y _ _ => L.length - (intOf y).toNat)
  case atStart => exact ⟨0, by omega, rfl, fun i hi => absurd hi (by omega)⟩
  case round =>
    obtain ⟨k, hk, rfl, hg⟩ := hrel
    have HG := Lib.hid hg
    clear hg
    by_cases hlt : k < L.length
    · obtain ⟨rfl, -⟩ := H.out.ptr (by omega)
      have c0 := H.out.cell k hlt
      have HP := Lib.hid (H.out.rows k hlt)
      have HNO := Lib.hid (show okOff (rowP L k) = false → okOffs L = false from fun q => decide_eq_false (fun r => by rw [r.2 k hlt] at q; cases q))
      have HYE := Lib.hid (show okOff (rowP L k) = true → ∀ i, i < k + 1 → okOff (rowP L i) = true from fun q i hi => by
        by_cases e : i = k
        · rw [e]; exact q
        · exact HG.out i (by omega))
      obtain ⟨r, hr⟩ : ∃ r, rowP L k = r := ⟨_, rfl⟩
      rw [hr] at c0 HP HNO HYE
      have hrl := HP.out.len
      clear hr
      go_wp2
      go_loop [4, 5] (fun s y => ∃ j : Nat, j ≤ r.length ∧ y = .int .i64 j ∧ s = .int .i64 (wsTo r j) ∧ (∀ i, i < j → goodP r i)) (fun _ y => r.length - (intOf y).toNat)
      case atStart => exact ⟨0, by omega, rfl, rfl, fun i hi => absurd hi (by omega)⟩
      case round =>
        obtain ⟨j, hj, rfl, rfl, hg⟩ := hrel
        have hbd := wsTo_bd hg
        have HG1 := Lib.hid hg
        clear hg
        by_cases hlr : j < r.length
        · obtain ⟨hA, -⟩ := HP.out.ptr (by omega)
          have q0 := HP.out.cell0 j hlr
          have q1 := HP.out.cell1 j hlr
          rw [hA] at c0
          have HST := Lib.hid (show wsTo r (j + 1) = wsTo r j + qv r j from rfl)
          obtain ⟨x, hx⟩ : ∃ x, qf r j = x := ⟨_, rfl⟩
          obtain ⟨y, hy⟩ : ∃ y, qv r j = y := ⟨_, rfl⟩
          have HOK := Lib.hid (show goodP r j ↔ ((0 ≤ x ∧ x ≤ 1000) ∧ 1 ≤ y ∧ y ≤ 16) by rw [← hx, ← hy]; rfl)
          have HBAD := Lib.hid (show ¬ goodP r j → okOffs L = false from fun q => HNO.out (decide_eq_false (fun t => q (t.2.1 j hlr))))
          rw [hx] at q0
          rw [hy] at q1 HST
          clear hx hy hA
          have hcs : (decide (x < 0) = true ∧ ¬ goodP r j) ∨ (decide (x < 0) = false ∧ decide (1000 < x) = true ∧ ¬ goodP r j) ∨ (decide (x < 0) = false ∧ decide (1000 < x) = false ∧ decide (y < 1) = true ∧ ¬ goodP r j) ∨
              (decide (x < 0) = false ∧ decide (1000 < x) = false ∧ decide (y < 1) = false ∧ decide (16 < y) = true ∧ ¬ goodP r j) ∨ (decide (x < 0) = false ∧ decide (1000 < x) = false ∧ decide (y < 1) = false ∧ decide (16 < y) = false ∧ goodP r j) := by
            rw [HOK.out]
            simp only [decide_eq_true_eq, decide_eq_false_iff_not]
            omega
          rcases hcs with ⟨e1, hb⟩ | ⟨e1, e2, hb⟩ | ⟨e1, e2, e3, hb⟩ | ⟨e1, e2, e3, e4, hb⟩ | ⟨e1, e2, e3, e4, hb⟩
          case inr.inr.inr.inr =>
            have hg2 := HOK.out.1 hb
            have HG2 := Lib.hid (show ∀ i, i < j + 1 → goodP r i from fun i hi => by
              by_cases e : i = j
              · rw [e]; exact hb
              · exact HG1.out i (by omega))
            have hws : wrap64 (wsTo r j + y) = wsTo r j + y := IntWalk.wrap64_in _ ⟨by omega, by omega⟩
            clear hb
            go_wp2
            go_round
            case rel => exact ⟨j + 1, by omega, by go_num, by rw [HST.out], HG2.out⟩
            case measure => simp [intOf]; omega
          all_goals
            have HF := Lib.hid (HBAD.out hb)
            clear hb
            go_wp2
            go_ret
            exact ⟨ret_bool HF.out.symm, rfl⟩
        · obtain rfl : j = r.length := by omega
          by_cases h8 : 8 < r.length
          · have e1 : decide (8 < (r.length : Int)) = true := decide_eq_true (by omega)
            have HF := Lib.hid (HNO.out (decide_eq_false (fun t => by have := t.1; omega)))
            go_wp2
            go_ret
            exact ⟨ret_bool HF.out.symm, rfl⟩
          · have e1 : decide (8 < (r.length : Int)) = false := decide_eq_false (by omega)
            by_cases h16 : wsTo r r.length = 16
            · have e2 : (wsTo r r.length != 16) = false := by rw [h16]; rfl
              have HT := Lib.hid (HYE.out (decide_eq_true ⟨by omega, HG1.out, h16⟩))
              clear h16
              go_wp2
              go_round
              case rel => exact ⟨k + 1, by omega, by go_num, HT.out⟩
              case measure => simp [intOf]; omega
            · have e2 : (wsTo r r.length != 16) = true := by rw [bne_iff_ne]; exact h16
              have HF := Lib.hid (HNO.out (decide_eq_false (fun t => h16 t.2.2)))
              clear h16
              go_wp2
              go_ret
              exact ⟨ret_bool HF.out.symm, rfl⟩
    · obtain rfl : k = L.length := by omega
      have HF := Lib.hid (show okOffs L = decide ((L.length : Int) ≤ 6) by
        unfold okOffs
        rw [decide_eq_decide]
        exact ⟨fun q => by have := q.1; omega, fun q => ⟨by omega, HG.out⟩⟩)
      obtain ⟨bb, hbb⟩ : ∃ bb, decide ((L.length : Int) ≤ 6) = bb := ⟨_, rfl⟩
      rw [hbb] at HF
      go_wp2
      go_ret
      exact ⟨ret_bool HF.out.symm, rfl⟩

end Go.Proofs.Ythnkmmjelpdamaa
