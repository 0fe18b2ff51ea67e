/- Sums over assignments, and what a chance is of a variable that the facts leave open: plain numbers. -/
import Derived.Test.YtghffnjnpgiicaaJ1
import Derived.Test.YtghffnjnpgiicaaI2
namespace Go.Proofs.Ytghffnjnpgiicaa
open Go.RowKit

/-- The weight of those of the first k assignments that agree with the facts and have the value 1 at v. -/
def askTo (P T : List (List Int)) (φ : Int → Option Int) (v : Nat) : Nat → Int
  | 0 => 0
  | k + 1 => askTo P T φ v k + if agr φ (bitv P.length k) = true then wt P T (bitv P.length k) P.length * bitv P.length k v else 0

theorem agr_one {φ : Int → Option Int} {a : Nat → Int} {v : Nat} (hv : v < 10) (h : φ (v : Int) = none) : agr (union (oneF v) φ) a = (agr φ a && decide (a v = 1)) := by
  rw [Bool.eq_iff_iff]
  unfold agr
  simp only [Bool.and_eq_true, decide_eq_true_eq]
  constructor
  · intro q
    refine ⟨fun u hu => ?_, ?_⟩
    · have := q u hu
      unfold union at this
      cases e : φ (u : Int) with
      | none => exact .inl rfl
      | some c => rw [e] at this; simpa using this
    · have := q v hv
      unfold union oneF at this
      rw [h] at this
      simp at this
      exact this.symm
  · intro ⟨q1, q2⟩ u hu
    unfold union oneF
    cases e : φ (u : Int) with
    | some c => have := q1 u hu; rw [e] at this; simpa using this
    | none =>
      by_cases e2 : u = v
      · subst e2; right; simp [q2]
      · left; simp; omega

theorem askTo_fw {P T : List (List Int)} {φ : Int → Option Int} {v : Nat} (hv : v < 10) (h : φ (v : Int) = none) (m : Nat) : askTo P T φ v m = fwTo P T (union (oneF v) φ) m := by
  induction m with
  | zero => rfl
  | succ m ih =>
    rw [askTo, fwTo, ih, agr_one hv h]
    rcases bitv_Bits P.length m v with e | e <;> rw [e] <;> cases agr φ (bitv P.length m) <;> simp

theorem askTo_bd {P T : List (List Int)} {φ : Int → Option Int} {v : Nat} (h : IsNet P T) (k : Nat) : 0 ≤ askTo P T φ v k ∧ askTo P T φ v k ≤ fwTo P T φ k := by
  induction k with
  | zero => simp [askTo, fwTo]
  | succ k ih =>
    have := wt_le h (bitv_Bits P.length k) P.length (Nat.le_refl _)
    simp only [askTo, fwTo]
    rcases bitv_Bits P.length k v with e | e <;> rw [e] <;> split <;> omega

/-- The first m weights. -/
def wsum (P T : List (List Int)) (m : Nat) : Int := sumTo (fun k => wt P T (bitv P.length k) P.length) m
theorem wsum_all {P T : List (List Int)} (h : IsNet P T) : wsum P T (2 ^ P.length) = 16 ^ P.length := sum_wt h _ (Nat.le_refl _)
theorem wsum_bd {P T : List (List Int)} (h : IsNet P T) (k : Nat) : 0 ≤ wsum P T k ∧ wsum P T k ≤ k * 1099511627776 := by
  have := fwTo_bd (φ := fun _ => none) h k
  rw [fwTo_none] at this
  exact this

theorem look_avoid {g : List (Int × Int)} {x y : Int} (h : Avoids g x y) : look g x = none ∧ look g y = none :=
  ⟨lookTo_none.2 fun j hj => (h j hj).1, lookTo_none.2 fun j hj => (h j hj).2⟩

theorem okFacts_one {v n : Nat} (hv : v < n) : okFacts [((v : Int), (1 : Int))] n = true := decide_eq_true fun i hi => by
  have : i = 0 := by simp at hi; exact hi
  subst this
  exact ⟨by simp [pf]; omega, .inr (by simp [pv]), fun j hj => absurd hj (by omega)⟩

/-- The chance of the value 1 at a variable that the facts leave open. -/
theorem ch_ask {P T : List (List Int)} {g : List (Int × Int)} {v : Nat} (hn : IsNet P T) (hv : v < P.length) (hg : okFacts g P.length = true) (ha : look g (v : Int) = none) :
    (fw P T (look g) = 0 → chV P T [((v : Int), (1 : Int))] g = zeroF ∧ chE P T [((v : Int), (1 : Int))] g = 6) ∧
    (¬ fw P T (look g) = 0 → chV P T [((v : Int), (1 : Int))] g = fracV (askTo P T (look g) v (2 ^ P.length)) (fw P T (look g)) ∧ chE P T [((v : Int), (1 : Int))] g = 0) := by
  have h10 := hn.le
  refine ⟨fun hz => ch_zero (okFacts_one hv) hg hz, fun hz => ?_⟩
  have hc : cmp (look [((v : Int), (1 : Int))]) (look g) = true := decide_eq_true fun u _ => by
    by_cases e : u = v
    · subst e; exact .inr (.inl ha)
    · left; rw [look_one]; unfold oneF; rw [if_neg (by omega)]
  obtain ⟨h1, h2⟩ := ch_yes (P := P) (T := T) (okFacts_one hv) hg hz hc
  refine ⟨?_, h2⟩
  rw [h1, askTo_fw (by omega) ha, look_one]
  rfl

end Go.Proofs.Ytghffnjnpgiicaa
