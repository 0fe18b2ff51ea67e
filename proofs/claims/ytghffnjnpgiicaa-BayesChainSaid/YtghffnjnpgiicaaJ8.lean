/- What a forced value changes: plain numbers. -/
import Derived.Test.YtghffnjnpgiicaaJ2
import Derived.Test.YtghffnjnpgiicaaH5
namespace Go.Proofs.Ytghffnjnpgiicaa
open Go.RowKit

theorem idx_eq {ps : List Int} {a b : Nat → Int} (h : ∀ j, j < ps.length → a (nth ps j).toNat = b (nth ps j).toNat) (j : Nat) (hj : j ≤ ps.length) : idx ps a j = idx ps b j := by
  induction j with
  | zero => rfl
  | succ j ih => simp only [idx]; rw [ih (by omega), h j (by omega)]

theorem fac_eq {P T : List (List Int)} {a b : Nat → Int} {u : Nat} (h0 : a u = b u) (h : ∀ j, j < (row P u).length → a (nth (row P u) j).toNat = b (nth (row P u) j).toNat) : fac P T a u = fac P T b u := by
  unfold fac
  rw [h0, idx_eq h _ (Nat.le_refl _)]

/-- The factors of a part of the variables; 8 for each of the others. -/
def wS (P T : List (List Int)) (S : Nat → Bool) (a : Nat → Int) : Nat → Int
  | 0 => 1
  | k + 1 => wS P T S a k * if S k = true then fac P T a k else 8

theorem sumTo_add (f g : Nat → Int) (m : Nat) : sumTo (fun k => f k + g k) m = sumTo f m + sumTo g m := by
  induction m with
  | zero => rfl
  | succ m ih => rw [sumTo, sumTo, sumTo, ih]; omega

/-- A value put in. -/
def put (a : Nat → Int) (k : Nat) (b : Int) : Nat → Int := fun u => if u = k then b else a u

/-- What does not depend on a variable, nor on anything that comes of it: that variable is summed out. -/
theorem marg {P T : List (List Int)} {S : Nat → Bool} (hn : IsNet P T) (hS : ∀ u, u < P.length → S u = true → ∀ j, j < (row P u).length → S (nth (row P u) j).toNat = true) (k : Nat) (hk : k ≤ P.length) :
    ∀ h : (Nat → Int) → Int, (∀ a b : Nat → Int, (∀ u, u < k → S u = true → a u = b u) → h a = h b) →
      sumTo (fun q => h (bitv k q) * wt P T (bitv k q) k) (2 ^ k) = sumTo (fun q => h (bitv k q) * wS P T S (bitv k q) k) (2 ^ k) := by
  induction k with
  | zero => intro h _; rfl
  | succ k ih =>
    intro h hd
    have ih := ih (by omega)
    have b0 : ∀ q b u, b < 2 → u < k → bitv (k + 1) (2 * q + b) u = bitv k q u := fun q b u hb hu => by rw [bitv_step hb, if_pos hu]
    have b1 : ∀ q b, b < 2 → bitv (k + 1) (2 * q + b) k = (b : Int) := fun q b hb => by rw [bitv_step hb, if_neg (by omega), if_pos rfl]
    have w0 : ∀ q b, b < 2 → wt P T (bitv (k + 1) (2 * q + b)) k = wt P T (bitv k q) k := fun q b hb => wt_congr hn k (by omega) fun i hi => b0 q b i hb hi
    have s0 : ∀ (a b : Nat → Int) (m : Nat), m ≤ k → (∀ u, u < k → a u = b u) → wS P T S a m = wS P T S b m := by
      intro a b m hm hab
      induction m with
      | zero => rfl
      | succ m ihm =>
        simp only [wS]
        rw [ihm (by omega)]
        rw [fac_eq (hab m (by omega)) fun j hj => hab _ (by have := (hn.par m (by omega)).2.1 j hj; omega)]
    have f0 : ∀ q b, b < 2 → fac P T (bitv (k + 1) (2 * q + b)) k = fac P T (put (bitv k q) k (b : Int)) k := fun q b hb =>
      fac_eq (by rw [b1 q b hb]; unfold put; rw [if_pos rfl]) fun j hj => by
        have hp := (hn.par k (by omega)).2.1 j hj
        unfold put
        rw [b0 q b _ hb (by omega), if_neg (by omega)]
    rw [Nat.pow_succ, Nat.mul_comm, sumTo_two, sumTo_two]
    cases hs : S k
    · -- the variable is summed out
      have hh : ∀ q b, b < 2 → h (bitv (k + 1) (2 * q + b)) = h (bitv k q) := fun q b hb => hd _ _ fun u hu hsu => by
        by_cases e : u = k
        · rw [e, hs] at hsu; cases hsu
        · exact b0 q b u hb (by omega)
      have i0 : ∀ q b, b < 2 → idx (row P k) (bitv (k + 1) (2 * q + b)) (row P k).length = idx (row P k) (bitv k q) (row P k).length := fun q b hb => idx_congr (hn.par k (by omega)) (fun i hi => b0 q b i hb hi) _ (Nat.le_refl _)
      have e1 := ih h (fun a b hab => hd a b fun u hu hsu => by
        by_cases e : u = k
        · rw [e, hs] at hsu; cases hsu
        · exact hab u (by omega) hsu)
      have g1 : ∀ q, h (bitv (k + 1) (2 * q)) * wt P T (bitv (k + 1) (2 * q)) (k + 1) + h (bitv (k + 1) (2 * q + 1)) * wt P T (bitv (k + 1) (2 * q + 1)) (k + 1) = h (bitv k q) * wt P T (bitv k q) k * 16 := by
        intro q
        have h0 := hh q 0 (by omega); have h1 := hh q 1 (by omega); have k0 := w0 q 0 (by omega); have k1 := w0 q 1 (by omega)
        have j0 := i0 q 0 (by omega); have j1 := i0 q 1 (by omega); have c0 := b1 q 0 (by omega); have c1 := b1 q 1 (by omega)
        simp only [Nat.add_zero] at h0 k0 j0 c0
        simp only [wt, fac]
        rw [h0, h1, k0, k1, c0, c1, j0, j1, if_neg (by simp), if_pos (by simp), ← Int.mul_add, ← Int.mul_add, Int.mul_assoc]
        congr 2
        omega
      have g2 : ∀ q, h (bitv (k + 1) (2 * q)) * wS P T S (bitv (k + 1) (2 * q)) (k + 1) + h (bitv (k + 1) (2 * q + 1)) * wS P T S (bitv (k + 1) (2 * q + 1)) (k + 1) = h (bitv k q) * wS P T S (bitv k q) k * 16 := by
        intro q
        have h0 := hh q 0 (by omega); have h1 := hh q 1 (by omega)
        have k0 := s0 (bitv (k + 1) (2 * q)) (bitv k q) k (Nat.le_refl _) fun u hu => by have := b0 q 0 u (by omega) hu; simp only [Nat.add_zero] at this; exact this
        have k1 := s0 (bitv (k + 1) (2 * q + 1)) (bitv k q) k (Nat.le_refl _) fun u hu => b0 q 1 u (by omega) hu
        simp only [Nat.add_zero] at h0
        simp only [wS]
        rw [h0, h1, k0, k1, if_neg (by rw [hs]; simp), if_neg (by rw [hs]; simp), ← Int.mul_assoc]
        omega
      rw [sumTo_congr fun q _ => g1 q, sumTo_congr fun q _ => g2 q, sumTo_mul, sumTo_mul, e1]
    · -- the variable stays: once with 0, once with 1
      have hh : ∀ q b, b < 2 → h (bitv (k + 1) (2 * q + b)) = h (put (bitv k q) k (b : Int)) := fun q b hb => hd _ _ fun u hu _ => by
        unfold put
        by_cases e : u = k
        · rw [if_pos e, e]; exact b1 q b hb
        · rw [if_neg e]; exact b0 q b u hb (by omega)
      have e1 : ∀ b : Nat, b < 2 → sumTo (fun q => h (bitv (k + 1) (2 * q + b)) * wt P T (bitv (k + 1) (2 * q + b)) (k + 1)) (2 ^ k) = sumTo (fun q => h (bitv (k + 1) (2 * q + b)) * wS P T S (bitv (k + 1) (2 * q + b)) (k + 1)) (2 ^ k) := by
        intro b hb
        have e2 := ih (fun a => h (put a k (b : Int)) * fac P T (put a k (b : Int)) k) fun a a' haa => by
          have p1 : h (put a k (b : Int)) = h (put a' k (b : Int)) := hd _ _ fun u hu hsu => by
            unfold put
            by_cases e : u = k
            · rw [if_pos e, if_pos e]
            · rw [if_neg e, if_neg e]; exact haa u (by omega) hsu
          have p2 : fac P T (put a k (b : Int)) k = fac P T (put a' k (b : Int)) k := fac_eq (by unfold put; rw [if_pos rfl, if_pos rfl]) fun j hj => by
            have hp := (hn.par k (by omega)).2.1 j hj
            unfold put
            rw [if_neg (by omega), if_neg (by omega)]
            exact haa _ (by omega) (hS k (by omega) hs j hj)
          show _ * _ = _ * _
          rw [p1, p2]
        have g1 : ∀ q, h (bitv (k + 1) (2 * q + b)) * wt P T (bitv (k + 1) (2 * q + b)) (k + 1) = h (put (bitv k q) k (b : Int)) * fac P T (put (bitv k q) k (b : Int)) k * wt P T (bitv k q) k := by
          intro q
          simp only [wt]
          rw [hh q b hb, w0 q b hb, f0 q b hb, Int.mul_assoc, Int.mul_comm (wt P T (bitv k q) k)]
        have g2 : ∀ q, h (bitv (k + 1) (2 * q + b)) * wS P T S (bitv (k + 1) (2 * q + b)) (k + 1) = h (put (bitv k q) k (b : Int)) * fac P T (put (bitv k q) k (b : Int)) k * wS P T S (bitv k q) k := by
          intro q
          simp only [wS]
          rw [if_pos hs, hh q b hb, s0 _ (bitv k q) k (Nat.le_refl _) (fun u hu => b0 q b u hb hu), f0 q b hb, Int.mul_assoc, Int.mul_comm (wS P T S (bitv k q) k)]
        rw [sumTo_congr fun q _ => g1 q, sumTo_congr fun q _ => g2 q]
        exact e2
      have x0 := e1 0 (by omega)
      have x1 := e1 1 (by omega)
      simp only [Nat.add_zero] at x0
      rw [sumTo_add (fun q => h (bitv (k + 1) (2 * q)) * wt P T (bitv (k + 1) (2 * q)) (k + 1)) (fun q => h (bitv (k + 1) (2 * q + 1)) * wt P T (bitv (k + 1) (2 * q + 1)) (k + 1)),
        sumTo_add (fun q => h (bitv (k + 1) (2 * q)) * wS P T S (bitv (k + 1) (2 * q)) (k + 1)) (fun q => h (bitv (k + 1) (2 * q + 1)) * wS P T S (bitv (k + 1) (2 * q + 1)) (k + 1)), x0, x1]

/-- The value 1 at y, as a number. -/
def isOne (y : Nat) (a : Nat → Int) : Int := if a y = 1 then 1 else 0

theorem agr_oneF {y : Nat} (hy : y < 10) (a : Nat → Int) : (agr (oneF y) a = true) ↔ a y = 1 := by
  unfold agr
  rw [decide_eq_true_eq]
  constructor
  · intro h
    have := h y hy
    unfold oneF at this
    simp at this
    exact this.symm
  · intro h u _
    unfold oneF
    by_cases e : u = y
    · subst e; right; simp [h]
    · left; simp; omega

theorem fwTo_one {P T : List (List Int)} {y : Nat} (hy : y < 10) (m : Nat) : fwTo P T (oneF y) m = sumTo (fun q => isOne y (bitv P.length q) * wt P T (bitv P.length q) P.length) m := by
  induction m with
  | zero => rfl
  | succ m ih =>
    rw [fwTo, sumTo, ih]
    unfold isOne
    by_cases e : bitv P.length m y = 1
    · rw [if_pos ((agr_oneF hy _).2 e), if_pos e, Int.one_mul]
    · rw [if_neg (fun q => e ((agr_oneF hy _).1 q)), if_neg e, Int.zero_mul]

/-- A variable has no effect on one that does not come of it. -/
theorem eff_none {P T : List (List Int)} (hn : IsNet P T) {x y : Nat} (hx : x < P.length) (hy : y < P.length) (hxy : y ≠ x) (hd : desc P x y = false) : effW P T x y 0 = effW P T x y 1 := by
  have h10 := hn.le
  have n0 := isNet_forced hn hx (val := 0) (.inl rfl)
  have n1 := isNet_forced hn hx (val := 1) (.inr rfl)
  obtain ⟨S, hSd⟩ : ∃ S : Nat → Bool, S = fun u => decide (u ≠ x) && !desc P x u := ⟨_, rfl⟩
  have hlen : (P.set x []).length = P.length := List.length_set ..
  have hSx : ∀ u, S u = true → u ≠ x ∧ desc P x u = false := fun u hu => by rw [hSd] at hu; simpa using hu
  have hcl : ∀ u, u < (P.set x []).length → S u = true → ∀ j, j < (row (P.set x []) u).length → S (nth (row (P.set x []) u) j).toNat = true := by
    intro u hu hs j hj
    obtain ⟨e1, e2⟩ := hSx u hs
    rw [row_set hx, if_neg e1] at hj ⊢
    rw [hlen] at hu
    have hp := (hn.par u hu).2.1 j hj
    obtain ⟨q, hq⟩ : ∃ q : Nat, nth (row P u) j = (q : Int) := ⟨(nth (row P u) j).toNat, by omega⟩
    rw [hq, Int.toNat_natCast]
    have hqu : q < u := by omega
    have hI := hasI_mk hj hq
    have hnd : ¬ (q = x ∨ desc P x q = true) := fun hc => by
      have hxu : x < u := by
        rcases hc with rfl | hc
        · exact hqu
        · have := ((desc_iff hn (show q < P.length by omega)).1 hc).1; omega
      have := (desc_iff hn hu).2 ⟨hxu, q, hI, hc⟩
      rw [e2] at this; cases this
    rw [hSd]
    simp only [Bool.and_eq_true, decide_eq_true_eq, Bool.not_eq_true']
    refine ⟨fun q' => hnd (.inl q'), ?_⟩
    cases hdq : desc P x q
    · rfl
    · exact absurd (.inr hdq) hnd
  have hSy : S y = true := by rw [hSd]; simp [hxy, hd]
  have hdep : ∀ a b : Nat → Int, (∀ u, u < P.length → S u = true → a u = b u) → isOne y a = isOne y b := fun a b h => by unfold isOne; rw [h y hy hSy]
  have hwS : ∀ (a : Nat → Int) (k : Nat), wS (P.set x []) (T.set x [16 * 0]) S a k = wS (P.set x []) (T.set x [16 * 1]) S a k := by
    intro a k
    induction k with
    | zero => rfl
    | succ k ih =>
      simp only [wS]
      rw [ih]
      congr 1
      split
      · rename_i hs
        obtain ⟨e1, -⟩ := hSx k hs
        have hxT : x < T.length := by rw [hn.tab]; exact hx
        unfold fac
        rw [row_set hxT, row_set hxT, if_neg e1, if_neg e1]
      · rfl
  unfold effW fw
  rw [hlen]
  have m0 := marg n0 hcl P.length (by rw [hlen]; exact Nat.le_refl _) (isOne y) hdep
  have m1 := marg n1 hcl P.length (by rw [hlen]; exact Nat.le_refl _) (isOne y) hdep
  have f0 := fwTo_one (P := P.set x []) (T := T.set x [16 * 0]) (y := y) (by omega) (2 ^ P.length)
  have f1 := fwTo_one (P := P.set x []) (T := T.set x [16 * 1]) (y := y) (by omega) (2 ^ P.length)
  rw [hlen] at f0 f1
  rw [f0, f1, m0, m1]
  exact sumTo_congr fun q _ => by rw [hwS]

end Go.Proofs.Ytghffnjnpgiicaa
