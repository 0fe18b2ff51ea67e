/- The reference's Connected, as a plain function. -/
import Derived.Test.YtaphmjccdokiiaaYa
import Derived.Test.YtaphmjccdokiiaaX
namespace Go.Proofs.Ytaphmjccdokiiaa
open Go.RowKit

/-- May the reference's trail go on to this variable? -/
def cond (P : List (List Int)) (set : List Int) (tr : List Nat) (k : Nat) : Bool := !decide (k ∈ tr) && okTrail P (ints (tr ++ [k])) && actv P (ints (tr ++ [k])) set

mutual
def conn (P : List (List Int)) (set : List Int) (y : Nat) : Nat → List Nat → Bool
  | 0, _ => false
  | f + 1, tr => if tr.getD (tr.length - 1) 0 = y then true else connTo P set y f tr P.length
def connTo (P : List (List Int)) (set : List Int) (y : Nat) (f : Nat) (tr : List Nat) : Nat → Bool
  | 0 => false
  | k + 1 => connTo P set y f tr k || (cond P set tr k && conn P set y f (tr ++ [k]))
end

theorem connTo_le {P : List (List Int)} {set : List Int} {y f : Nat} {tr : List Nat} {k m : Nat} (h : connTo P set y f tr k = true) (hk : k ≤ m) : connTo P set y f tr m = true := by
  induction m with
  | zero => have : k = 0 := by omega
            subst this; exact h
  | succ m ih =>
    by_cases e : k = m + 1
    · subst e; exact h
    · simp only [connTo, ih (by omega), Bool.true_or]
theorem connTo_yes {P : List (List Int)} {set : List Int} {y f : Nat} {tr : List Nat} {k : Nat} (h1 : cond P set tr k = true) (h2 : conn P set y f (tr ++ [k]) = true) (hk : k < P.length) (hl : tr.getD (tr.length - 1) 0 ≠ y) : conn P set y (f + 1) tr = true := by
  have h3 : connTo P set y f tr (k + 1) = true := by simp only [connTo, h1, h2, Bool.and_true, Bool.or_true]
  simp only [conn]
  rw [if_neg hl]; exact connTo_le h3 (by omega)
theorem connTo_skip {P : List (List Int)} {set : List Int} {y f : Nat} {tr : List Nat} {k : Nat} (h0 : connTo P set y f tr k = false) (h1 : cond P set tr k = false) : connTo P set y f tr (k + 1) = false := by
  simp only [connTo, h0, h1, Bool.false_and, Bool.or_false]
theorem connTo_no {P : List (List Int)} {set : List Int} {y f : Nat} {tr : List Nat} {k : Nat} (h0 : connTo P set y f tr k = false) (h1 : conn P set y f (tr ++ [k]) = false) : connTo P set y f tr (k + 1) = false := by
  simp only [connTo, h0, h1, Bool.and_false, Bool.or_false]
theorem conn_end {P : List (List Int)} {set : List Int} {y f : Nat} {tr : List Nat} (h0 : connTo P set y f tr P.length = false) (hl : tr.getD (tr.length - 1) 0 ≠ y) : conn P set y (f + 1) tr = false := by
  simp only [conn]; rw [if_neg hl]; exact h0
theorem conn_here {P : List (List Int)} {set : List Int} {y f : Nat} {tr : List Nat} (hl : tr.getD (tr.length - 1) 0 = y) : conn P set y (f + 1) tr = true := by
  simp only [conn]; rw [if_pos hl]

/-- A list of different variables. -/
def NoTwo (n : Nat) (tr : List Nat) : Prop := tr.Nodup ∧ ∀ x ∈ tr, x < n
theorem okSet_ints {tr : List Nat} {n : Nat} (h : NoTwo n tr) : okSet (ints tr) n = true := by
  refine decide_eq_true (fun i hi => ?_)
  rw [ints_length] at hi
  simp only [nth_ints]
  have hm : tr.getD i 0 ∈ tr := by simp [List.getD_eq_getElem?_getD, hi]
  have := h.2 _ hm
  refine ⟨by omega, fun j hj e => ?_⟩
  have e2 : tr.getD j 0 = tr.getD i 0 := by omega
  simp only [List.getD_eq_getElem?_getD, List.getElem?_eq_getElem hi, List.getElem?_eq_getElem (show j < tr.length by omega), Option.getD_some] at e2
  have := (List.getElem_inj h.1).1 e2
  omega
theorem NoTwo.snoc {n k : Nat} {tr : List Nat} (h : NoTwo n tr) (hk : k < n) (hm : ¬ k ∈ tr) : NoTwo n (tr ++ [k]) := by
  refine ⟨?_, fun x hx => ?_⟩
  · rw [List.nodup_append]
    exact ⟨h.1, by simp, fun a ha b hb e => by simp at hb; subst hb; exact hm (e ▸ ha)⟩
  · rcases List.mem_append.1 hx with h1 | h1
    · exact h.2 x h1
    · simp at h1; omega
theorem NoTwo.le {n : Nat} {tr : List Nat} (h : NoTwo n tr) : tr.length ≤ n := nodup_le n tr h.1 h.2

end Go.Proofs.Ytaphmjccdokiiaa
