/- Weights of assignments: plain numbers. -/
import Derived.Test.YtaphmjccdokiiaaM
namespace Go.Proofs.Ytaphmjccdokiiaa
open Go.RowKit

/-- The list is one of parents of the variable v. -/
def OkPar (xs : List Int) (v : Int) : Prop :=
  xs.length ≤ 3 ∧ (∀ j, j < xs.length → 0 ≤ nth xs j ∧ nth xs j < v) ∧ (∀ j, j < xs.length → 0 < j → nth xs (j - 1) < nth xs j)
def OkTab (t : List Int) (n : Nat) : Prop := t.length = 2 ^ n ∧ ∀ j, j < t.length → 0 ≤ nth t j ∧ nth t j ≤ 16
instance (xs : List Int) (v : Int) : Decidable (OkPar xs v) := by unfold OkPar; infer_instance
instance (t : List Int) (n : Nat) : Decidable (OkTab t n) := by unfold OkTab; infer_instance
def okPar (xs : List Int) (v : Int) : Bool := decide (OkPar xs v)
def okTab (t : List Int) (n : Nat) : Bool := decide (OkTab t n)

/-- The lists are a network's. -/
structure IsNet (P T : List (List Int)) : Prop where
  pos : 1 ≤ P.length
  le : P.length ≤ 10
  tab : T.length = P.length
  par : ∀ v, v < P.length → OkPar (row P v) v
  ok : ∀ v, v < P.length → OkTab (row T v) (row P v).length

instance (P T : List (List Int)) : Decidable (IsNet P T) :=
  decidable_of_iff (1 ≤ P.length ∧ P.length ≤ 10 ∧ T.length = P.length ∧ (∀ v, v < P.length → OkPar (row P v) v) ∧ (∀ v, v < P.length → OkTab (row T v) (row P v).length))
    ⟨fun ⟨a, b, c, d, e⟩ => ⟨a, b, c, d, e⟩, fun ⟨a, b, c, d, e⟩ => ⟨a, b, c, d, e⟩⟩
def isNet (P T : List (List Int)) : Bool := decide (IsNet P T)

/-- Every value is 0 or 1. -/
def Bits (a : Nat → Int) : Prop := ∀ v, a v = 0 ∨ a v = 1

/-- The table's index by the first j parents. -/
def idx (ps : List Int) (a : Nat → Int) : Nat → Int
  | 0 => 0
  | j + 1 => idx ps a j + a (nth ps j).toNat * 2 ^ j

theorem idx_bd (ps : List Int) {a : Nat → Int} (ha : Bits a) (j : Nat) : 0 ≤ idx ps a j ∧ idx ps a j < 2 ^ j := by
  induction j with
  | zero => simp [idx]
  | succ j ih =>
    have h2 : (0 : Int) < 2 ^ j := Int.pow_pos (by omega)
    simp only [idx, Int.pow_succ]
    rcases ha (nth ps j).toNat with e | e <;> rw [e] <;> constructor <;> omega

/-- The factor of a variable. -/
def fac (P T : List (List Int)) (a : Nat → Int) (v : Nat) : Int :=
  if a v = 1 then nth (row T v) (idx (row P v) a (row P v).length).toNat else 16 - nth (row T v) (idx (row P v) a (row P v).length).toNat

/-- The weight of an assignment, of the first k variables. -/
def wt (P T : List (List Int)) (a : Nat → Int) : Nat → Int
  | 0 => 1
  | k + 1 => wt P T a k * fac P T a k

theorem pow2_int (n : Nat) : ((2 ^ n : Nat) : Int) = (2 : Int) ^ n := by simp

theorem idx_lt {P T : List (List Int)} {a : Nat → Int} (h : IsNet P T) (ha : Bits a) {v : Nat} (hv : v < P.length) :
    (idx (row P v) a (row P v).length).toNat < (row T v).length := by
  have := idx_bd (row P v) ha (row P v).length
  rw [(h.ok v hv).1]
  have e := pow2_int (row P v).length
  omega

theorem fac_bd {P T : List (List Int)} {a : Nat → Int} (h : IsNet P T) (ha : Bits a) {v : Nat} (hv : v < P.length) : 0 ≤ fac P T a v ∧ fac P T a v ≤ 16 := by
  have h1 := (h.ok v hv).2 _ (idx_lt h ha hv)
  unfold fac
  split <;> omega

theorem wt_bd {P T : List (List Int)} {a : Nat → Int} (h : IsNet P T) (ha : Bits a) (k : Nat) (hk : k ≤ P.length) : 0 ≤ wt P T a k ∧ wt P T a k ≤ 16 ^ k := by
  induction k with
  | zero => simp [wt]
  | succ k ih =>
    have ⟨i1, i2⟩ := ih (by omega)
    have ⟨f1, f2⟩ := fac_bd h ha (v := k) (by omega)
    simp only [wt, Int.pow_succ]
    exact ⟨Int.mul_nonneg i1 f1, Int.mul_le_mul i2 f2 f1 (by have := Int.pow_pos (n := 16) (m := k) (by omega); omega)⟩

theorem pow16_le {k : Nat} (h : k ≤ 10) : (16 : Int) ^ k ≤ 1099511627776 := by
  have h1 : 16 ^ k ≤ 16 ^ 10 := Nat.pow_le_pow_right (by omega) h
  have h2 : ((16 ^ k : Nat) : Int) = (16 : Int) ^ k := by simp
  omega

theorem wt_le {P T : List (List Int)} {a : Nat → Int} (h : IsNet P T) (ha : Bits a) (k : Nat) (hk : k ≤ P.length) : 0 ≤ wt P T a k ∧ wt P T a k ≤ 1099511627776 := by
  have := wt_bd h ha k hk
  have := pow16_le (k := k) (by have := h.le; omega)
  omega

/-- The same values on the network's variables: the same weight. -/
theorem idx_congr {ps : List Int} {a b : Nat → Int} {v : Nat} (hp : OkPar ps v) (h : ∀ i, i < v → a i = b i) (j : Nat) (hj : j ≤ ps.length) : idx ps a j = idx ps b j := by
  induction j with
  | zero => rfl
  | succ j ih =>
    have := hp.2.1 j (by omega)
    simp only [idx, ih (by omega)]
    rw [h (nth ps j).toNat (by omega)]

theorem wt_congr {P T : List (List Int)} {a b : Nat → Int} (hn : IsNet P T) (k : Nat) (hk : k ≤ P.length) (h : ∀ i, i < k → a i = b i) : wt P T a k = wt P T b k := by
  induction k with
  | zero => rfl
  | succ k ih =>
    simp only [wt, fac, ih (by omega) (fun i hi => h i (by omega)), h k (by omega)]
    rw [idx_congr (hn.par k (by omega)) (fun i hi => h i (by omega)) _ (Nat.le_refl _)]

end Go.Proofs.Ytaphmjccdokiiaa
