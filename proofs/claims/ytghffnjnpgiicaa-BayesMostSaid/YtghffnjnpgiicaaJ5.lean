/- The most probable assignment: plain numbers. -/
import Derived.Test.YtghffnjnpgiicaaJ3
import Derived.Test.YtghffnjnpgiicaaH2
namespace Go.Proofs.Ytghffnjnpgiicaa
open Go.RowKit

theorem digit_ext (n : Nat) : ∀ m k : Nat, m < 2 ^ n → k < 2 ^ n → (∀ j, j < n → m / 2 ^ j % 2 = k / 2 ^ j % 2) → m = k := by
  induction n with
  | zero => intro m k hm hk _; simp at hm hk; omega
  | succ n ih =>
    intro m k hm hk h
    have h0 := h 0 (by omega)
    simp at h0
    have h1 : m / 2 = k / 2 := by
      refine ih (m / 2) (k / 2) (by rw [Nat.pow_succ] at hm; omega) (by rw [Nat.pow_succ] at hk; omega) fun j hj => ?_
      have := h (j + 1) (by omega)
      rw [Nat.pow_succ, Nat.mul_comm (2 ^ j) 2, ← Nat.div_div_eq_div_mul, ← Nat.div_div_eq_div_mul] at this
      exact this
    omega

theorem vals_inj {n m k : Nat} (hm : m < 2 ^ n) (hk : k < 2 ^ n) (h : vals n m = vals n k) : m = k := by
  refine digit_ext n m k hm hk fun j hj => ?_
  have h1 : nth (vals n m) (n - 1 - j) = nth (vals n k) (n - 1 - j) := by rw [h]
  rw [nth_vals, nth_vals] at h1
  unfold bitv at h1
  rw [if_pos (by omega), if_pos (by omega), show n - 1 - (n - 1 - j) = j by omega] at h1
  omega

/-- Two fractions of one whole. -/
theorem frac_cmp {u d t v e s D W H : Int} (h1 : u * t = W) (h2 : d * t = D) (h3 : v * s = H) (h4 : e * s = D) (ht : 1 ≤ t) (hs : 1 ≤ s) (hD : 1 ≤ D) :
    (W ≤ H → u * e ≤ v * d) ∧ (W < H → u * e < v * d) := by
  have k1 : u * e * (t * s) = W * D := by
    rw [← h1, ← h4, Int.mul_assoc u e, Int.mul_left_comm e t s, ← Int.mul_assoc u t]
  have k2 : v * d * (t * s) = H * D := by
    rw [← h3, ← h2, Int.mul_comm t s, Int.mul_assoc v d, Int.mul_left_comm d s t, ← Int.mul_assoc v s]
  have hts : 0 < t * s := Int.mul_pos (by omega) (by omega)
  constructor
  · intro h
    refine Int.le_of_mul_le_mul_right (a := t * s) ?_ hts
    rw [k1, k2]
    exact Int.mul_le_mul_of_nonneg_right h (by omega)
  · intro h
    refine Int.lt_of_mul_lt_mul_right (a := t * s) ?_ (by omega)
    rw [k1, k2]
    exact Int.mul_lt_mul_of_pos_right h (by omega)

theorem hvW_zero {P T : List (List Int)} {g : List (Int × Int)} (hn : IsNet P T) (hg : okFacts g P.length = true) (h : hvW P T (agL g) = 0) : fw P T (look g) = 0 := by
  have h10 := hn.le
  have hl := (hv_look (P := P) (T := T) hg h10).2
  rw [h] at hl
  have key : ∀ m, m ≤ 2 ^ P.length → fwTo P T (look g) m = 0 := by
    intro m
    induction m with
    | zero => intro _; rfl
    | succ m ih =>
      intro hm
      rw [fwTo, ih (by omega)]
      split
      · rename_i ha
        have h1 := (hvTo_max (P := P) (T := T) (ag := agr (look g)) (2 ^ P.length) m (by omega) ha).1
        have h2 := wt_le hn (bitv_Bits P.length m) P.length (Nat.le_refl _)
        unfold hvW at hl
        omega
      · rfl
  exact key _ (Nat.le_refl _)

/-- The heaviest assignment, where there is one. -/
theorem hv_facts {P T : List (List Int)} {g : List (Int × Int)} (hg : okFacts g P.length = true) (h10 : P.length ≤ 10) (h : ¬ hvW P T (agL g) = 0) :
    wt P T (bitv P.length (hvI P T (agL g))) P.length = hvW P T (agL g) ∧ agr (look g) (bitv P.length (hvI P T (agL g))) = true ∧ hvI P T (agL g) < 2 ^ P.length ∧
      ∀ j, j < 2 ^ P.length → agr (look g) (bitv P.length j) = true → wt P T (bitv P.length j) P.length ≤ hvW P T (agL g) ∧ (j < hvI P T (agL g) → wt P T (bitv P.length j) P.length < hvW P T (agL g)) := by
  obtain ⟨e1, e2⟩ := hv_look (P := P) (T := T) hg h10
  rw [← e1, ← e2]
  rw [← e2] at h
  rcases hvTo_val (P := P) (T := T) (ag := agr (look g)) (2 ^ P.length) with hv | hv
  · exact absurd hv.1 h
  · exact ⟨hv.1.symm, hv.2.1, hv.2.2, fun j hj ha => hvTo_max (P := P) (T := T) (ag := agr (look g)) (2 ^ P.length) j hj ha⟩

end Go.Proofs.Ytghffnjnpgiicaa
