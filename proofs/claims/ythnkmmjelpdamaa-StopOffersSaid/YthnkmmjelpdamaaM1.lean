/- The expected maximum as a sum over the numbers that it reaches. -/
import Derived.Test.YthnkmmjelpdamaaK2
namespace Go.Proofs.Ythnkmmjelpdamaa

theorem cmb_diff {L : List (List (Int × Int))} (m : Int) : cmb L (m + 1) 1 - cmb L m 1 = qR (m + 1) L := by
  induction L with
  | nil => simp only [cmb, qR]; omega
  | cons r R ih =>
    rw [cmb_cons, cmb_cons]
    show _ = pT (m + 1) r * qR (m + 1) R
    unfold pT
    have key : ∀ k, addTo (fun i => qv r i * cmb R (max (m + 1) (qf r i)) 1) k - addTo (fun i => qv r i * cmb R (max m (qf r i)) 1) k = addTo (fun i => if m + 1 ≤ qf r i then 0 else qv r i) k * qR (m + 1) R := by
      intro k
      induction k with
      | zero => simp [addTo]
      | succ k ihk =>
        simp only [addTo]
        by_cases hx : m + 1 ≤ qf r k
        · rw [if_pos hx, show max (m + 1) (qf r k) = qf r k by omega, show max m (qf r k) = qf r k by omega, Int.add_zero]
          omega
        · rw [if_neg hx, show max (m + 1) (qf r k) = m + 1 by omega, show max m (qf r k) = m by omega, Int.add_mul, ← ihk, ← ih, Int.mul_sub]
          omega
    exact key _
theorem cmb_top {L : List (List (Int × Int))} (h : AreOff L) : cmb L 1000 1 = 1000 * 16 ^ L.length := by
  have h1 := cmb_ge h 1000
  have h2 := (cmb_bd L h 1000 1 (by omega) (by omega) (by omega)).2
  rw [Int.one_mul] at h2
  omega

/-- The sum over the first X numbers. -/
theorem sum_closed (L : List (List (Int × Int))) (X : Nat) : addTo (fun j => 16 ^ L.length - qR ((j : Int) + 1) L) X = (X : Int) * 16 ^ L.length - (cmb L X 1 - cmb L 0 1) := by
  induction X with
  | zero => simp [addTo]
  | succ X ih =>
    have := cmb_diff (L := L) (X : Int)
    simp only [addTo, ih]
    rw [show ((X + 1 : Nat) : Int) = (X : Int) + 1 by simp, Int.add_mul]
    omega
theorem sum_all {L : List (List (Int × Int))} (h : AreOff L) : addTo (fun j => 16 ^ L.length - qR ((j : Int) + 1) L) 1000 = cmb L 0 1 := by
  rw [sum_closed]
  have := cmb_top h
  show (1000 : Int) * _ - (cmb L 1000 1 - _) = _
  omega

/-- The product over the first k offers is the product over all of them. -/
def qTo (T : Int) (L : List (List (Int × Int))) : Nat → Int
  | 0 => 1
  | k + 1 => qTo T L k * pT T (rowP L k)
theorem qTo_cons (T : Int) (r : List (Int × Int)) (R : List (List (Int × Int))) (k : Nat) : qTo T (r :: R) (k + 1) = pT T r * qTo T R k := by
  induction k with
  | zero => show 1 * pT T r = pT T r * 1; omega
  | succ k ih =>
    show qTo T (r :: R) (k + 1) * pT T (rowP (r :: R) (k + 1)) = _
    rw [ih, Int.mul_assoc]
    rfl
theorem qTo_all (T : Int) (L : List (List (Int × Int))) : qTo T L L.length = qR T L := by
  induction L with
  | nil => rfl
  | cons r R ih => rw [List.length_cons, qTo_cons, ih]; rfl
theorem qTo_bd {L : List (List (Int × Int))} (h : AreOff L) (T : Int) : ∀ k, k ≤ L.length → 0 ≤ qTo T L k ∧ qTo T L k ≤ 16 ^ k := by
  intro k
  induction k with
  | zero => intro _; simp [qTo]
  | succ k ih =>
    intro hk
    obtain ⟨a, b⟩ := ih (by omega)
    have hr : (rowP L k).length ≤ 8 ∧ (∀ i, i < (rowP L k).length → goodP (rowP L k) i) ∧ wsTo (rowP L k) (rowP L k).length = 16 := of_decide_eq_true (h k (by omega))
    obtain ⟨c, d⟩ := pT_bd T hr.2
    refine ⟨Int.mul_nonneg a c, ?_⟩
    show qTo T L k * pT T (rowP L k) ≤ _
    rw [Int.pow_succ]
    exact Int.mul_le_mul b d c (by have := pow16_pos k; omega)

end Go.Proofs.Ythnkmmjelpdamaa
