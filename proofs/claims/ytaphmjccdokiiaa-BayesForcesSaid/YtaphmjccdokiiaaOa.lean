/- The heaviest assignment: plain numbers. -/
import Derived.Test.YtaphmjccdokiiaaP
namespace Go.Proofs.Ytaphmjccdokiiaa
open Go.RowKit Go.Maps

/-- The position of the first heaviest one of the first k assignments that agree, and its weight. -/
def hvTo (P T : List (List Int)) (ag : (Nat → Int) → Bool) : Nat → Nat × Int
  | 0 => (0, 0)
  | k + 1 => if ag (bitv P.length k) = true ∧ (hvTo P T ag k).2 < wt P T (bitv P.length k) P.length then (k, wt P T (bitv P.length k) P.length) else hvTo P T ag k
def hvI (P T : List (List Int)) (ag : (Nat → Int) → Bool) : Nat := (hvTo P T ag (2 ^ P.length)).1
def hvW (P T : List (List Int)) (ag : (Nat → Int) → Bool) : Int := (hvTo P T ag (2 ^ P.length)).2

theorem hv_yes {P T : List (List Int)} {ag : (Nat → Int) → Bool} {k : Nat} (h : ag (bitv P.length k) = true) (h2 : (hvTo P T ag k).2 < wt P T (bitv P.length k) P.length) :
    hvTo P T ag (k + 1) = (k, wt P T (bitv P.length k) P.length) := if_pos ⟨h, h2⟩
theorem hv_ag {P T : List (List Int)} {ag : (Nat → Int) → Bool} {k : Nat} (h : ag (bitv P.length k) = false) : hvTo P T ag (k + 1) = hvTo P T ag k :=
  if_neg (fun q => by rw [q.1] at h; cases h)
theorem hv_no {P T : List (List Int)} {ag : (Nat → Int) → Bool} {k : Nat} (h2 : ¬ (hvTo P T ag k).2 < wt P T (bitv P.length k) P.length) : hvTo P T ag (k + 1) = hvTo P T ag k :=
  if_neg (fun q => h2 q.2)

theorem hvTo_bd {P T : List (List Int)} {ag : (Nat → Int) → Bool} (h : IsNet P T) (k : Nat) : 0 ≤ (hvTo P T ag k).2 ∧ (hvTo P T ag k).2 ≤ 1099511627776 ∧ (hvTo P T ag k).1 ≤ k := by
  induction k with
  | zero => simp [hvTo]
  | succ k ih =>
    have := wt_le h (bitv_Bits P.length k) P.length (Nat.le_refl _)
    simp only [hvTo]
    split
    · exact ⟨this.1, this.2, by omega⟩
    · exact ⟨ih.1, ih.2.1, by omega⟩

/-- The weight is that of the position, or nothing was found. -/
theorem hvTo_val {P T : List (List Int)} {ag : (Nat → Int) → Bool} (k : Nat) :
    ((hvTo P T ag k).2 = 0 ∧ (hvTo P T ag k).1 = 0) ∨ ((hvTo P T ag k).2 = wt P T (bitv P.length (hvTo P T ag k).1) P.length ∧ ag (bitv P.length (hvTo P T ag k).1) = true ∧ (hvTo P T ag k).1 < k) := by
  induction k with
  | zero => exact .inl ⟨rfl, rfl⟩
  | succ k ih =>
    simp only [hvTo]
    split
    · rename_i h; exact .inr ⟨rfl, h.1, by omega⟩
    · rcases ih with h | h
      · exact .inl h
      · exact .inr ⟨h.1, h.2.1, by omega⟩

/-- Nothing that agrees is heavier, and nothing before is as heavy. -/
theorem hvTo_max {P T : List (List Int)} {ag : (Nat → Int) → Bool} (k : Nat) :
    ∀ j, j < k → ag (bitv P.length j) = true → wt P T (bitv P.length j) P.length ≤ (hvTo P T ag k).2 ∧ (j < (hvTo P T ag k).1 → wt P T (bitv P.length j) P.length < (hvTo P T ag k).2) := by
  induction k with
  | zero => intro j hj; omega
  | succ k ih =>
    intro j hj ha
    simp only [hvTo]
    by_cases hjk : j = k
    · subst hjk
      split
      · exact ⟨Int.le_refl _, fun h => absurd h (Nat.lt_irrefl _)⟩
      · rename_i h
        have h2 : ¬ (hvTo P T ag j).2 < wt P T (bitv P.length j) P.length := fun q => h ⟨ha, q⟩
        refine ⟨by omega, fun h3 => ?_⟩
        rcases hvTo_val (P := P) (T := T) (ag := ag) j with h4 | h4 <;> omega
    · have := ih j (by omega) ha
      split
      · rename_i h; exact ⟨by omega, fun _ => by omega⟩
      · exact this

theorem hvTo_congr {P T : List (List Int)} {ag ag' : (Nat → Int) → Bool} (h : ∀ a, ag a = ag' a) (k : Nat) : hvTo P T ag k = hvTo P T ag' k := by
  induction k with
  | zero => rfl
  | succ k ih => simp only [hvTo, ih, h]

end Go.Proofs.Ytaphmjccdokiiaa
