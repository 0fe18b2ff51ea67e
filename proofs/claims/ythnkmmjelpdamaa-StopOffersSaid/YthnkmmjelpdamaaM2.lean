/- The reference's expected maximum. -/
import Derived.Test.YthnkmmjelpdamaaJ1
import Derived.Test.YthnkmmjelpdamaaD8
import Derived.Test.YthnkmmjelpdamaaM1
namespace Go.Proofs.Ythnkmmjelpdamaa
open Go.RowKit

theorem addTo_bd' {f : Nat → Int} {M : Int} {k : Nat} (h : ∀ v, v < k → 0 ≤ f v ∧ f v ≤ M) : 0 ≤ addTo f k ∧ addTo f k ≤ (k : Int) * M := by
  induction k with
  | zero => simp [addTo]
  | succ k ih =>
    have h1 := ih fun v hv => h v (by omega)
    have h2 := h k (by omega)
    simp only [addTo]
    rw [show ((k + 1 : Nat) : Int) * M = (k : Int) * M + M by rw [Int.natCast_add, Int.add_mul]; simp]
    omega

set_option maxHeartbeats 4000000 in
set_option maxRecDepth 100000 in
theorem refGreatest_any (L : List (List (Int × Int))) (ao : Option Addr) (b o cap : Nat) (A : Nat → Option Addr) (B O C : Nat → Nat) (w : World) (h : OffsAt w ao b o L A B O C) (hok : okOffs L = true) :
    Calls Try.prog 37 #[.slice ao L.length cap] w fun e w' => e = .returned (fracV (cmb L 0 1) (16 ^ L.length)) ∧ Below w.heap.size w w' := by
  have hok' : L.length ≤ 6 ∧ ∀ i, i < L.length → okOff (rowP L i) = true := of_decide_eq_true hok
  have hl6 := hok'.1
  have hA : AreOff L := hok'.2
  have HA := Lib.hid hA
  have HOK := Lib.hid hok'.2
  have hpw := pow16_nat hl6
  have HRD : Hid (∀ W, Calls Try.prog 60 #[.int .i64 (cmb L 0 1), .int .i64 (16 ^ L.length)] W fun e w' => e = .returned (fracV (cmb L 0 1) (16 ^ L.length)) ∧ Below W.heap.size W w') := fun W => by
    have h1 := cmb_bd L hok'.2 0 1 (by omega) (by omega) (by omega)
    rw [Int.one_mul] at h1
    exact reduced_any _ _ W (by omega) (by omega) (by omega) (by omega)
  obtain ⟨fa, fb, hf⟩ : ∃ a b, fracV (cmb L 0 1) (16 ^ L.length) = .agg #[.int .i64 a, .int .i64 b] := ⟨_, _, rfl⟩
  rw [hf] at HRD ⊢
  have HSA := Lib.hid (sum_all hA)
  have HBLK := Lib.hid (heap_alloc_new w (.cells #[.int .i64 0, .int .i64 0] 47))
  obtain ⟨w0, hw0⟩ : ∃ w0, w.alloc (.cells #[.int .i64 0, .int .i64 0] 47) = w0 := ⟨_, rfl⟩
  have HX := Lib.hid (show OffsAt w0 ao b o L A B O C by rw [← hw0]; exact h.alloc _)
  have HB0 : Hid (Below w.heap.size w w0) := by rw [← hw0]; exact (Below.refl _ _).alloc (Nat.le_refl _) _
  have hs0 : w0.heap.size = w.heap.size + 1 := by rw [← hw0]; simp
  have HW0 := Lib.hid hw0
  rw [hw0] at HBLK
  obtain ⟨F, hF⟩ : ∃ F : Nat → Int, F = fun j : Nat => 16 ^ L.length - qR ((j : Int) + 1) L := ⟨_, rfl⟩
  have HSB := Lib.hid (show ∀ X, 0 ≤ addTo F X ∧ addTo F X ≤ (X : Int) * 16 ^ L.length from fun X => addTo_bd' (fun j _ => by rw [hF]; have := qR_bd hA ((j : Int) + 1); show 0 ≤ 16 ^ L.length - qR ((j : Int) + 1) L ∧ 16 ^ L.length - qR ((j : Int) + 1) L ≤ 16 ^ L.length; omega))
  have HFX := Lib.hid (fun j => congrFun hF j)
  rw [show (fun j : Nat => (16 : Int) ^ L.length - qR ((j : Int) + 1) L) = F from hF.symm] at HSA
  clear hok hok' hf h hA hw0 hF
  go_enter Try.func37, Try.ntmps37
  go_wp2
  rw [HW0.out]
  go_loop [3, 4] (fun x y => ∃ k : Nat, k ≤ L.length ∧ y = .int .i64 k ∧ x = .int .i64 (16 ^ k)) (fun _ y => L.length - (intOf y).toNat)
  case atStart => exact ⟨0, by omega, rfl, rfl⟩
  case round =>
    obtain ⟨k, hk, rfl, rfl⟩ := hrel
    by_cases hlt : k < L.length
    · have hp := pow16_nat (show k ≤ 6 by omega)
      have HPW := Lib.hid (show (16 : Int) ^ (k + 1) = 16 * 16 ^ k by rw [Int.pow_succ, Int.mul_comm])
      have hw1 : wrap64 (16 * (16 : Int) ^ k) = 16 * 16 ^ k := IntWalk.wrap64_in _ ⟨by omega, by omega⟩
      go_wp2
      go_round
      case rel => exact ⟨k + 1, by omega, by go_num, by rw [HPW.out]⟩
      case measure => simp [intOf]; omega
    · obtain rfl : k = L.length := by omega
      obtain ⟨wh, hwh⟩ : ∃ wh : Int, 16 ^ L.length = wh := ⟨_, rfl⟩
      rw [hwh] at hpw HRD HSB ⊢
      have HWH := Lib.hid hwh
      clear hwh
      go_wp2
      go_loop [5, 6, 7, 8, 9, 10] (fun s x _ _ _ _ => ∃ X : Nat, X ≤ 1000 ∧ x = .int .i64 ((X : Int) + 1) ∧ s = .int .i64 (addTo F X)) (fun _ x _ _ _ _ => (1001 - intOf x).toNat)
      case atStart => exact ⟨0, by omega, rfl, rfl⟩
      case round =>
        obtain ⟨X, hX, rfl, rfl⟩ := hrel
        obtain ⟨sb0, sb1⟩ := HSB.out X
        have hx1 : (X : Int) * wh ≤ 1000 * wh := Int.mul_le_mul_of_nonneg_right (by omega) (by omega)
        by_cases hlt : X < 1000
        · have e1 : decide ((X : Int) + 1 ≤ 1000) = true := decide_eq_true (by omega)
          have hwx : wrap64 ((X : Int) + 1 + 1) = (X : Int) + 1 + 1 := IntWalk.wrap64_in _ ⟨by omega, by omega⟩
          have HFN := Lib.hid (show addTo F (X + 1) = addTo F X + (wh - qR ((X : Int) + 1) L) by show addTo F X + F X = _; rw [HFX.out X, HWH.out])
          obtain ⟨T, hT⟩ : ∃ T : Int, (X : Int) + 1 = T := ⟨_, rfl⟩
          have HTX := Lib.hid (show T + 1 = ((X + 1 : Nat) : Int) + 1 by rw [← hT]; simp)
          rw [hT] at e1 hwx HFN ⊢
          obtain ⟨S, hS⟩ : ∃ S, addTo F X = S := ⟨_, rfl⟩
          rw [hS] at sb0 sb1 HFN ⊢
          have HQA := Lib.hid (qTo_all T L)
          have hqb := qTo_bd HA.out T L.length (Nat.le_refl _)
          rw [HWH.out] at hqb
          have hTl : T ≤ 1000 := by omega
          clear hT hS
          go_wp2
          go_loop [7, 8, 9, 10] (fun l y _ _ => ∃ k : Nat, k ≤ L.length ∧ y = .int .i64 k ∧ l = .int .i64 (qTo T L k)) (fun _ y _ _ => L.length - (intOf y).toNat)
          case atStart => exact ⟨0, by omega, rfl, rfl⟩
          case round =>
            obtain ⟨k, hk, rfl, rfl⟩ := hrel
            by_cases hkl : k < L.length
            · obtain ⟨q0, q1⟩ := qTo_bd HA.out T k (by omega)
              have hp16 := pow16_nat (show k ≤ 6 by omega)
              obtain ⟨hAo, -⟩ := HX.out.ptr (by omega)
              have ck := HX.out.cell k hkl
              have HPX := Lib.hid (HX.out.rows k hkl)
              have hr : (rowP L k).length ≤ 8 ∧ (∀ i, i < (rowP L k).length → goodP (rowP L k) i) ∧ wsTo (rowP L k) (rowP L k).length = 16 := of_decide_eq_true (HOK.out k hkl)
              have hpt := pT_bd T hr.2
              have HQN := Lib.hid (show qTo T L (k + 1) = qTo T L k * pT T (rowP L k) from rfl)
              have HPT := Lib.hid (show pT T (rowP L k) = addTo (fun i => if T ≤ qf (rowP L k) i then 0 else qv (rowP L k) i) (rowP L k).length from rfl)
              obtain ⟨r, hrr⟩ : ∃ r, rowP L k = r := ⟨_, rfl⟩
              rw [hrr] at ck HPX hr hpt HQN HPT
              obtain ⟨Q, hQ⟩ : ∃ Q, qTo T L k = Q := ⟨_, rfl⟩
              rw [hQ] at q0 q1 HQN ⊢
              rw [hAo]
              have HRG := Lib.hid hr.2.1
              have hr8 := hr.1
              clear hrr hQ hr
              go_wp2
              go_loop [9, 10] (fun s y => ∃ j : Nat, j ≤ r.length ∧ y = .int .i64 j ∧ s = .int .i64 (addTo (fun i => if T ≤ qf r i then 0 else qv r i) j)) (fun _ y => r.length - (intOf y).toNat)
              case atStart => exact ⟨0, by omega, rfl, rfl⟩
              case round =>
                obtain ⟨j, hj, rfl, rfl⟩ := hrel
                have hbj := addTo_bd' (f := fun i => if T ≤ qf r i then 0 else qv r i) (M := 16) (k := j) (fun i hi => by
                  have := (HRG.out i (by omega)).2
                  split <;> omega)
                have HAN := Lib.hid (show addTo (fun i => if T ≤ qf r i then 0 else qv r i) (j + 1) = addTo (fun i => if T ≤ qf r i then 0 else qv r i) j + (if T ≤ qf r j then 0 else qv r j) from rfl)
                by_cases hjl : j < r.length
                · obtain ⟨hAk, -⟩ := HPX.out.ptr (by omega)
                  have c0 := HPX.out.cell0 j hjl
                  have c1 := HPX.out.cell1 j hjl
                  have ck' := ck
                  rw [hAk] at ck'
                  have hgj := HRG.out j hjl
                  obtain ⟨s, hs⟩ : ∃ s, addTo (fun i => if T ≤ qf r i then 0 else qv r i) j = s := ⟨_, rfl⟩
                  obtain ⟨x, hx⟩ : ∃ x, qf r j = x := ⟨_, rfl⟩
                  obtain ⟨y, hy⟩ : ∃ y, qv r j = y := ⟨_, rfl⟩
                  have hgy : 1 ≤ y ∧ y ≤ 16 := by rw [← hy]; exact hgj.2
                  rw [hs] at hbj HAN ⊢
                  rw [hx] at c0 HAN
                  rw [hy] at c1 HAN
                  have hws : wrap64 (s + y) = s + y := IntWalk.wrap64_in _ ⟨by omega, by omega⟩
                  clear ck hAk hgj hs hx hy
                  by_cases hT : x < T
                  · have e2 : decide (x < T) = true := decide_eq_true hT
                    have HAN2 := Lib.hid (show addTo (fun i => if T ≤ qf r i then 0 else qv r i) (j + 1) = s + y by rw [HAN.out, if_neg (by omega)])
                    clear hT
                    go_wp2
                    go_round
                    case rel => exact ⟨j + 1, by omega, by go_num, by rw [HAN2.out]⟩
                    case measure => simp [intOf]; omega
                  · have e2 : decide (x < T) = false := decide_eq_false hT
                    have HAN2 := Lib.hid (show addTo (fun i => if T ≤ qf r i then 0 else qv r i) (j + 1) = s by rw [HAN.out, if_pos (by omega), Int.add_zero])
                    clear hT
                    go_wp2
                    go_round
                    case rel => exact ⟨j + 1, by omega, by go_num, by rw [HAN2.out]⟩
                    case measure => simp [intOf]; omega
                · obtain rfl : j = r.length := by omega
                  rw [← HPT.out]
                  obtain ⟨P, hP⟩ : ∃ P, pT T r = P := ⟨_, rfl⟩
                  rw [hP] at hpt HQN ⊢
                  have hqp : 0 ≤ Q * P ∧ Q * P ≤ 16777216 * 16 := ⟨Int.mul_nonneg q0 hpt.1, Int.mul_le_mul (by omega) hpt.2 hpt.1 (by omega)⟩
                  have hws : wrap64 (Q * P) = Q * P := IntWalk.wrap64_in _ ⟨by omega, by omega⟩
                  clear hP HAN hbj
                  go_wp2
                  go_round
                  case rel => exact ⟨k + 1, by omega, by go_num, by rw [HQN.out]⟩
                  case measure => simp [intOf]; omega
            · obtain rfl : k = L.length := by omega
              rw [HQA.out] at hqb ⊢
              obtain ⟨Q, hQ⟩ : ∃ Q, qR T L = Q := ⟨_, rfl⟩
              rw [hQ] at hqb HFN ⊢
              have hw2 : wrap64 (S + wh) = S + wh := IntWalk.wrap64_in _ ⟨by omega, by omega⟩
              have hw3 : wrap64 (S + wh - Q) = S + wh - Q := IntWalk.wrap64_in _ ⟨by omega, by omega⟩
              clear hQ
              go_wp2
              go_round
              case rel => exact ⟨X + 1, by omega, by first | rw [hwx, HTX.out] | rw [HTX.out], by rw [HFN.out, Int.add_sub_assoc]⟩
              case measure => simp [intOf, hwx]; omega
        · obtain rfl : X = 1000 := by omega
          rw [HSA.out]
          go_wp2_with fail
          refine (HRD.out _).mono ?_
          rintro e w6 ⟨rfl, hb6⟩
          have hblk := (hb6.block w.heap.size (by omega)).trans HBLK.out
          obtain ⟨c0, c1, f0, f1⟩ := block_of_cells hblk
          have HB6 := Lib.hid (HB0.out.trans (hb6.mono (by omega)))
          clear hblk hb6
          go_wp2
          refine bodyPost_ret (v := .agg #[.int .i64 fa, .int .i64 fb]) ?_ rfl ⟨rfl, (HB6.out.setCell (p := ⟨_, 0, none⟩) (Nat.le_refl _) _).setCell (p := ⟨_, 1, none⟩) (Nat.le_refl _) _⟩
          obtain ⟨g0, g1⟩ := set2_cells (x := .int .i64 fa) (y := .int .i64 fb) c0 c1
          simp [results, Try.results37, go_sem, g0, g1]

end Go.Proofs.Ythnkmmjelpdamaa
