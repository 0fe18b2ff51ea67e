/- The law's access plans. -/
import Derived.Test.YtjibdolhipddbaaK1
import Derived.Test.YtjibdolhipddbaaC1
import Derived.Test.YtjibdolhipddbaaE2
import Derived.Test.YtjibdolhipddbaaE3
namespace Go.Proofs.Ytjibdolhipddbaa
open Go.RowKit

def tmK (a : List (List Int)) (m : Int) : Nat := (1 + modI ((a.length : Int) - 1) m).toNat
def tmL (a : List (List Int)) : Nat := if 0 < a.length then (1 + modI (((row a 0).length : Int) - 1) 6).toNat else 6
def tmR (a : List (List Int)) (l i : Nat) : List Int := (List.range l).map fun j => modI (nth (row a i) j) 2
/-- The plan that is made of rows. -/
def tm (a : List (List Int)) (m : Int) : List (List Int) := (List.range (tmK a m)).map (tmR a (tmL a))
theorem tmK_bd (a : List (List Int)) {m : Int} (h : 1 ≤ m) : 1 ≤ tmK a m ∧ (tmK a m : Int) ≤ m ∧ ((tmK a m : Nat) : Int) = 1 + modI ((a.length : Int) - 1) m := by
  have := modI_bd (x := (a.length : Int) - 1) h
  unfold tmK
  omega
theorem tmL_bd (a : List (List Int)) : 1 ≤ tmL a ∧ tmL a ≤ 6 := by
  have := modI_bd (x := ((row a 0).length : Int) - 1) (n := 6) (by omega)
  unfold tmL
  split <;> omega
theorem tmR_len (a : List (List Int)) (l i : Nat) : (tmR a l i).length = l := by simp [tmR]
theorem tmR_nth (a : List (List Int)) {l i j : Nat} (h : j < l) : nth (tmR a l i) j = modI (nth (row a i) j) 2 := by
  simp [tmR, nth, List.getD_eq_getElem?_getD, h]
theorem tm_len (a : List (List Int)) (m : Int) : (tm a m).length = tmK a m := by simp [tm]
theorem tm_row (a : List (List Int)) (m : Int) {i : Nat} (h : i < tmK a m) : row (tm a m) i = tmR a (tmL a) i := by
  simp [tm, row, List.getD_eq_getElem?_getD, h]
theorem tm_plan (a : List (List Int)) : IsPlan (tm a 6) := by
  have hk := tmK_bd a (m := 6) (by omega)
  have hl := tmL_bd a
  refine ⟨by rw [tm_len]; omega, by rw [tm_len]; omega, ?_, ?_, fun i hi => ?_, fun i hi j hj => ?_⟩
  · rw [tm_row a 6 (by omega), tmR_len]; omega
  · rw [tm_row a 6 (by omega), tmR_len]; omega
  · rw [tm_len] at hi
    rw [tm_row a 6 hi, tm_row a 6 (by omega), tmR_len, tmR_len]
  · rw [tm_len] at hi
    rw [tm_row a 6 hi] at hj ⊢
    rw [tmR_len] at hj
    rw [tmR_nth a hj]
    have := modI_bd (x := nth (row a i) j) (n := 2) (by omega)
    omega

/-- A row of which the first j numbers are laid. -/
def tz (a : List (List Int)) (l i j : Nat) : List Int := (List.range l).map fun t => if t < j then modI (nth (row a i) t) 2 else 0
theorem tz_len (a : List (List Int)) (l i j : Nat) : (tz a l i j).length = l := by simp [tz]
theorem tz_nth (a : List (List Int)) {l i j t : Nat} (h : t < l) : nth (tz a l i j) t = if t < j then modI (nth (row a i) t) 2 else 0 := by
  simp [tz, nth, List.getD_eq_getElem?_getD, h]
theorem tz_zero (a : List (List Int)) (l i : Nat) : tz a l i 0 = List.replicate l 0 := by
  refine nth_eq (by simp [tz]) fun t ht => ?_
  rw [tz_len] at ht
  rw [tz_nth a ht, if_neg (by omega)]
  simp [nth, List.getD_eq_getElem?_getD, ht]
theorem tz_set (a : List (List Int)) {l i j : Nat} (h : j < l) : (tz a l i j).set j (modI (nth (row a i) j) 2) = tz a l i (j + 1) := by
  refine nth_eq (by simp [tz]) fun t ht => ?_
  rw [List.length_set, tz_len] at ht
  rw [nth_set _ _ _ _ (by rw [tz_len]; exact h), tz_nth a ht, tz_nth a ht]
  by_cases e : t = j
  · rw [if_pos e, if_pos (by omega), e]
  · rw [if_neg e]
    by_cases e2 : t < j
    · rw [if_pos e2, if_pos (by omega)]
    · rw [if_neg e2, if_neg (by omega)]
theorem tz_end (a : List (List Int)) {l i j : Nat} (h : ∀ t, j ≤ t → t < l → nth (row a i) t = 0) : tz a l i j = tmR a l i := by
  refine nth_eq (by rw [tz_len, tmR_len]) fun t ht => ?_
  rw [tz_len] at ht
  rw [tz_nth a ht, tmR_nth a ht]
  by_cases e : t < j
  · rw [if_pos e]
  · rw [if_neg e, h t (by omega) ht]; rfl
theorem row_out {a : List (List Int)} {i : Nat} (h : a.length ≤ i) : row a i = [] := by
  simp [row, List.getD_eq_getElem?_getD, h]

end Go.Proofs.Ytjibdolhipddbaa
