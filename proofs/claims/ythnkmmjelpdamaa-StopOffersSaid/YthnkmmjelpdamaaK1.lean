/- The prophet's bounds, in plain numbers. -/
import Derived.Test.YthnkmmjelpdamaaD5
namespace Go.Proofs.Ythnkmmjelpdamaa

/-- The gain of a rule, from the first offer on. -/
def gR (acc : Int → Int → Int → Bool) : List (List (Int × Int)) → Int × Int
  | [] => (0, 1)
  | r :: R => (offS acc r (gR acc R).1 (gR acc R).2 r.length, (gR acc R).2 * 16)

theorem gL_cons (acc : Int → Int → Int → Bool) (r : List (Int × Int)) (R : List (List (Int × Int))) (n : Nat) (hn : R.length = n) : ∀ k, k ≤ n → gL acc (r :: R) (dn (n + 1) k) = gL acc R (dn n k) := by
  intro k
  induction k with
  | zero => intro _; rfl
  | succ k ih =>
    intro hk
    rw [dn_succ, dn_succ, gL_snoc, gL_snoc, ih (by omega)]
    have : rowP (r :: R) (n + 1 - 1 - k) = rowP R (n - 1 - k) := by
      unfold rowP
      rw [show n + 1 - 1 - k = n - 1 - k + 1 by omega]
      rfl
    unfold gStep
    rw [this]
theorem gL_all (acc : Int → Int → Int → Bool) (L : List (List (Int × Int))) : gL acc L (dn L.length L.length) = gR acc L := by
  induction L with
  | nil => rfl
  | cons r R ih =>
    rw [List.length_cons, dn_succ, gL_snoc, gL_cons acc r R R.length rfl R.length (Nat.le_refl _), ih]
    have : rowP (r :: R) (R.length + 1 - 1 - R.length) = r := by rw [show R.length + 1 - 1 - R.length = 0 by omega]; rfl
    unfold gStep
    rw [this]
    rfl
theorem gR_two (acc : Int → Int → Int → Bool) (L : List (List (Int × Int))) : (gR acc L).2 = 16 ^ L.length := by
  induction L with
  | nil => rfl
  | cons r R ih => show (gR acc R).2 * 16 = _; rw [ih, List.length_cons, Int.pow_succ]

/-- Sums over the first pairs. -/
theorem addTo_le {f g : Nat → Int} {k : Nat} (h : ∀ i, i < k → f i ≤ g i) : addTo f k ≤ addTo g k := by
  induction k with
  | zero => exact Int.le_refl _
  | succ k ih => have := ih fun i hi => h i (by omega); have := h k (by omega); simp only [addTo]; omega
theorem addTo_add (f g : Nat → Int) (k : Nat) : addTo (fun i => f i + g i) k = addTo f k + addTo g k := by
  induction k with
  | zero => rfl
  | succ k ih => simp only [addTo, ih]; omega
theorem addTo_mul (f : Nat → Int) (c : Int) (k : Nat) : addTo (fun i => f i * c) k = addTo f k * c := by
  induction k with
  | zero => simp [addTo]
  | succ k ih => simp only [addTo, ih, Int.add_mul]
theorem addTo_congr {f g : Nat → Int} {k : Nat} (h : ∀ i, i < k → f i = g i) : addTo f k = addTo g k := by
  induction k with
  | zero => rfl
  | succ k ih => simp only [addTo]; rw [ih fun i hi => h i (by omega), h k (by omega)]
theorem addTo_ws (r : List (Int × Int)) (k : Nat) : addTo (fun i => qv r i) k = wsTo r k := by
  induction k with
  | zero => rfl
  | succ k ih => simp only [addTo, wsTo, ih]
theorem offS_add (acc : Int → Int → Int → Bool) (r : List (Int × Int)) (l h : Int) (k : Nat) : offS acc r l h k = addTo (fun i => if acc (qf r i) l h = true then qv r i * qf r i * h else qv r i * l) k := by
  induction k with
  | zero => rfl
  | succ k ih => simp only [offS, addTo, ih]

theorem cmb_lin (R : List (List (Int × Int))) : ∀ m g, cmb R m g = cmb R m 1 * g := by
  induction R with
  | nil => intro m g; simp [cmb]
  | cons r R ih =>
    intro m g
    simp only [cmb]
    rw [← addTo_mul]
    refine addTo_congr fun i _ => ?_
    rw [ih, ih _ (1 * qv r i), Int.one_mul, Int.mul_assoc, Int.mul_comm g]
theorem cmb_cons (r : List (Int × Int)) (R : List (List (Int × Int))) (m : Int) : cmb (r :: R) m 1 = addTo (fun i => qv r i * cmb R (max m (qf r i)) 1) r.length := by
  simp only [cmb]
  refine addTo_congr fun i _ => ?_
  rw [cmb_lin, Int.one_mul, Int.mul_comm]

/-- The rows are offers. -/
def AreOff (L : List (List (Int × Int))) : Prop := ∀ i, i < L.length → okOff (rowP L i) = true
theorem AreOff.head {r : List (Int × Int)} {R : List (List (Int × Int))} (h : AreOff (r :: R)) : (∀ i, i < r.length → goodP r i) ∧ wsTo r r.length = 16 := by
  have hr : r.length ≤ 8 ∧ (∀ i, i < r.length → goodP r i) ∧ wsTo r r.length = 16 := of_decide_eq_true (h 0 (by simp))
  exact hr.2
theorem AreOff.tail {r : List (Int × Int)} {R : List (List (Int × Int))} (h : AreOff (r :: R)) : AreOff R := fun i hi => h (i + 1) (by simp; omega)

theorem cmb_mono {R : List (List (Int × Int))} (h : AreOff R) : ∀ {m m' : Int}, m ≤ m' → cmb R m 1 ≤ cmb R m' 1 := by
  induction R with
  | nil => intro m m' hm; simp only [cmb]; omega
  | cons r R ih =>
    intro m m' hm
    rw [cmb_cons, cmb_cons]
    refine addTo_le fun i hi => Int.mul_le_mul_of_nonneg_left (ih h.tail (by omega)) ?_
    have := (h.head.1 i hi).2; omega
theorem cmb_ge {R : List (List (Int × Int))} (h : AreOff R) : ∀ m : Int, m * 16 ^ R.length ≤ cmb R m 1 := by
  induction R with
  | nil => intro m; simp [cmb]
  | cons r R ih =>
    intro m
    rw [cmb_cons]
    have h1 : addTo (fun i => qv r i * (m * 16 ^ R.length)) r.length ≤ addTo (fun i => qv r i * cmb R (max m (qf r i)) 1) r.length := by
      refine addTo_le fun i hi => Int.mul_le_mul_of_nonneg_left (Int.le_trans (ih h.tail m) (cmb_mono h.tail (by omega))) ?_
      have := (h.head.1 i hi).2; omega
    rw [addTo_mul, addTo_ws, h.head.2] at h1
    rw [List.length_cons, Int.pow_succ, ← Int.mul_assoc, Int.mul_comm (m * 16 ^ R.length)]
    exact h1

/-- No rule gains more than the greatest number. -/
theorem wise_le {L : List (List (Int × Int))} (h : AreOff L) : (gR accP L).1 ≤ cmb L 0 1 := by
  induction L with
  | nil => simp [gR, cmb]
  | cons r R ih =>
    have ih' := ih h.tail
    show offS accP r (gR accP R).1 (gR accP R).2 r.length ≤ _
    rw [offS_add, cmb_cons, gR_two]
    refine addTo_le fun i hi => ?_
    obtain ⟨⟨a, b⟩, c, d⟩ := h.head.1 i hi
    have e1 := cmb_ge h.tail (qf r i)
    have e2 : cmb R 0 1 ≤ cmb R (max 0 (qf r i)) 1 := cmb_mono h.tail (by omega)
    rw [show max 0 (qf r i) = qf r i by omega] at e2 ⊢
    split
    · rw [Int.mul_assoc]; exact Int.mul_le_mul_of_nonneg_left e1 (by omega)
    · exact Int.mul_le_mul_of_nonneg_left (by omega) (by omega)
/-- No threshold gains more than the best rule. -/
theorem thres_le {L : List (List (Int × Int))} (h : AreOff L) (T : Int) : (gR (accT T) L).1 ≤ (gR accP L).1 := by
  induction L with
  | nil => simp [gR]
  | cons r R ih =>
    have ih' := ih h.tail
    show offS (accT T) r (gR (accT T) R).1 (gR (accT T) R).2 r.length ≤ offS accP r (gR accP R).1 (gR accP R).2 r.length
    rw [offS_add, offS_add, gR_two, gR_two]
    refine addTo_le fun i hi => ?_
    obtain ⟨⟨a, b⟩, c, d⟩ := h.head.1 i hi
    by_cases hp : accP (qf r i) (gR accP R).1 (16 ^ R.length) = true
    · rw [if_pos hp]
      have hp' : (gR accP R).1 ≤ qf r i * 16 ^ R.length := of_decide_eq_true hp
      split
      · exact Int.le_refl _
      · rw [Int.mul_assoc]; exact Int.mul_le_mul_of_nonneg_left (by omega) (by omega)
    · rw [if_neg hp]
      have hp' : ¬ (gR accP R).1 ≤ qf r i * 16 ^ R.length := fun q => hp (decide_eq_true q)
      split
      · rw [Int.mul_assoc]; exact Int.mul_le_mul_of_nonneg_left (by omega) (by omega)
      · exact Int.mul_le_mul_of_nonneg_left ih' (by omega)

end Go.Proofs.Ythnkmmjelpdamaa
