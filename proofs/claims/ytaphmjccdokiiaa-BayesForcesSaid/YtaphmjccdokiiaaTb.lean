/- All weights together; the chance of one variable's value 1: plain numbers. -/
import Derived.Test.YtaphmjccdokiiaaOb
import Derived.Test.YtaphmjccdokiiaaS
namespace Go.Proofs.Ytaphmjccdokiiaa
open Go.RowKit

/-- The sum of the first m numbers. -/
def sumTo (f : Nat → Int) : Nat → Int
  | 0 => 0
  | m + 1 => sumTo f m + f m
theorem sumTo_congr {f g : Nat → Int} {m : Nat} (h : ∀ k, k < m → f k = g k) : sumTo f m = sumTo g m := by
  induction m with
  | zero => rfl
  | succ m ih => rw [sumTo, sumTo, ih (fun k hk => h k (by omega)), h m (by omega)]
theorem sumTo_mul (c : Int) (f : Nat → Int) (m : Nat) : sumTo (fun k => f k * c) m = sumTo f m * c := by
  induction m with
  | zero => simp [sumTo]
  | succ m ih => rw [sumTo, sumTo, ih, Int.add_mul]
theorem sumTo_two (f : Nat → Int) (m : Nat) : sumTo f (2 * m) = sumTo (fun k => f (2 * k) + f (2 * k + 1)) m := by
  induction m with
  | zero => rfl
  | succ m ih =>
    rw [show 2 * (m + 1) = 2 * m + 1 + 1 by omega, sumTo, sumTo, sumTo, ih]
    omega

theorem bitv_step {k q b v : Nat} (hb : b < 2) : bitv (k + 1) (2 * q + b) v = if v < k then bitv k q v else if v = k then (b : Int) else 0 := by
  unfold bitv
  by_cases h : v < k
  · rw [if_pos (by omega), if_pos h, if_pos h]
    have e : k + 1 - 1 - v = (k - 1 - v) + 1 := by omega
    rw [e, Nat.pow_succ, Nat.mul_comm (2 ^ (k - 1 - v)) 2, ← Nat.div_div_eq_div_mul]
    have e2 : (2 * q + b) / 2 = q := by omega
    rw [e2]
  · rw [if_neg h]
    by_cases h2 : v = k
    · rw [if_pos (by omega), if_pos h2]
      have e : k + 1 - 1 - v = 0 := by omega
      rw [e]
      simp
      omega
    · rw [if_neg (by omega), if_neg h2]

/-- The weights of the first k variables' assignments. -/
theorem sum_wt {P T : List (List Int)} (hn : IsNet P T) (k : Nat) (hk : k ≤ P.length) : sumTo (fun pos => wt P T (bitv k pos) k) (2 ^ k) = 16 ^ k := by
  induction k with
  | zero => rfl
  | succ k ih =>
    rw [Nat.pow_succ, Nat.mul_comm, sumTo_two]
    rw [Int.pow_succ, ← ih (by omega), ← sumTo_mul]
    refine sumTo_congr fun q _ => ?_
    have s0 : ∀ b, b < 2 → ∀ i, i < k → bitv (k + 1) (2 * q + b) i = bitv k q i := fun b hb i hi => by rw [bitv_step hb, if_pos hi]
    have s1 : ∀ b, b < 2 → bitv (k + 1) (2 * q + b) k = (b : Int) := fun b hb => by rw [bitv_step hb, if_neg (by omega), if_pos rfl]
    have w0 : ∀ b, b < 2 → wt P T (bitv (k + 1) (2 * q + b)) k = wt P T (bitv k q) k := fun b hb => wt_congr hn k (by omega) (s0 b hb)
    have i0 : ∀ b, b < 2 → idx (row P k) (bitv (k + 1) (2 * q + b)) (row P k).length = idx (row P k) (bitv k q) (row P k).length := fun b hb => idx_congr (hn.par k (by omega)) (s0 b hb) _ (Nat.le_refl _)
    show wt P T (bitv (k + 1) (2 * q + 0)) (k + 1) + wt P T (bitv (k + 1) (2 * q + 1)) (k + 1) = _
    simp only [wt, fac]
    rw [s1 0 (by omega), s1 1 (by omega), w0 0 (by omega), w0 1 (by omega), i0 0 (by omega), i0 1 (by omega), if_neg (by simp), if_pos (by simp), ← Int.mul_add]
    congr 1
    omega

theorem fwTo_none (P T : List (List Int)) (m : Nat) : fwTo P T (fun _ => none) m = sumTo (fun k => wt P T (bitv P.length k) P.length) m := by
  induction m with
  | zero => rfl
  | succ m ih => rw [fwTo, sumTo, ih, if_pos (by unfold agr; simp)]
theorem fw_none {P T : List (List Int)} (hn : IsNet P T) : fw P T (fun _ => none) = 16 ^ P.length := by
  unfold fw; rw [fwTo_none]; exact sum_wt hn _ (Nat.le_refl _)

theorem look_nil : look [] = fun _ => none := rfl
theorem look_one (y : Nat) : look [((y : Int), (1 : Int))] = oneF y := by
  funext z
  simp [look, lookTo, oneF, pf, pv]

theorem ch_one {P T : List (List Int)} (hn : IsNet P T) {y : Nat} (hy : y < P.length) : chV P T [((y : Int), (1 : Int))] [] = fracV (fw P T (oneF y)) (16 ^ P.length) ∧ chE P T [((y : Int), (1 : Int))] [] = 0 := by
  have h1 : okFacts [((y : Int), (1 : Int))] P.length = true := decide_eq_true fun i hi => by
    have : i = 0 := by simp at hi; exact hi
    subst this
    exact ⟨by simp [pf]; omega, .inr (by simp [pv]), fun j hj => absurd hj (by omega)⟩
  have h2 : okFacts [] P.length = true := decide_eq_true fun i hi => absurd hi (by simp)
  have h3 : fw P T (look []) = 16 ^ P.length := by rw [look_nil]; exact fw_none hn
  have h4 : ¬ (16 : Int) ^ P.length = 0 := by have := Int.pow_pos (n := 16) (m := P.length) (by omega); omega
  have h5 : cmp (look [((y : Int), (1 : Int))]) (look []) = true := decide_eq_true fun v _ => .inr (.inl (by rw [look_nil]))
  have h6 : union (look [((y : Int), (1 : Int))]) (look []) = oneF y := by rw [look_one, look_nil]; rfl
  constructor
  · unfold chV
    rw [if_pos ⟨h1, h2⟩, h3, if_neg h4, if_pos h5, h6]
  · unfold chE
    rw [if_pos ⟨h1, h2⟩, h3, if_neg h4]

end Go.Proofs.Ytaphmjccdokiiaa
