/- A variable without parents: forcing it and being given it. -/
import Derived.Test.YtghffnjnpgiicaaJ8
namespace Go.Proofs.Ytghffnjnpgiicaa
open Go.RowKit

theorem fac_other {P T : List (List Int)} {x : Nat} (hx : x < P.length) (hT : T.length = P.length) (val : Int) (a : Nat → Int) {u : Nat} (hu : u ≠ x) : fac (P.set x []) (T.set x [16 * val]) a u = fac P T a u := by
  have hxT : x < T.length := by omega
  unfold fac
  rw [row_set hx, row_set hxT, if_neg hu, if_neg hu]
theorem fac_self {P T : List (List Int)} {x : Nat} (hx : x < P.length) (hT : T.length = P.length) {val : Int} (hv : val = 0 ∨ val = 1) (a : Nat → Int) (ha : Bits a) : fac (P.set x []) (T.set x [16 * val]) a x = if a x = val then 16 else 0 := by
  have hxT : x < T.length := by omega
  unfold fac
  rw [row_set hx, row_set hxT, if_pos rfl, if_pos rfl]
  have h0 : nth [16 * val] (idx [] a ([] : List Int).length).toNat = 16 * val := rfl
  rw [h0]
  rcases hv with rfl | rfl <;> rcases ha x with e | e <;> rw [e] <;> simp

theorem wt_forced {P T : List (List Int)} {x : Nat} (hx : x < P.length) (hT : T.length = P.length) (val : Int) (a : Nat → Int) (k : Nat) :
    (k ≤ x → wt (P.set x []) (T.set x [16 * val]) a k = wt P T a k) ∧
    (x < k → wt (P.set x []) (T.set x [16 * val]) a k * fac P T a x = wt P T a k * fac (P.set x []) (T.set x [16 * val]) a x) := by
  induction k with
  | zero => exact ⟨fun _ => rfl, fun h => absurd h (by omega)⟩
  | succ k ih =>
    refine ⟨fun h => ?_, fun h => ?_⟩
    · simp only [wt]
      rw [ih.1 (by omega), fac_other hx hT val a (by omega)]
    · simp only [wt]
      by_cases e : k = x
      · subst e
        rw [ih.1 (Nat.le_refl _), Int.mul_assoc, Int.mul_assoc, Int.mul_comm (fac P T a k)]
      · rw [fac_other hx hT val a e, Int.mul_assoc, Int.mul_comm (fac P T a k), ← Int.mul_assoc, ih.2 (by omega), Int.mul_assoc, Int.mul_assoc, Int.mul_comm (fac P T a k)]
theorem wt_zero {P T : List (List Int)} {x : Nat} (hx : x < P.length) (hT : T.length = P.length) {val : Int} (hv : val = 0 ∨ val = 1) (a : Nat → Int) (ha : Bits a) (hne : ¬ a x = val) (k : Nat) (hk : x < k) : wt (P.set x []) (T.set x [16 * val]) a k = 0 := by
  induction k with
  | zero => omega
  | succ k ih =>
    simp only [wt]
    by_cases e : k = x
    · subst e; rw [fac_self hx hT hv a ha, if_neg hne, Int.mul_zero]
    · rw [ih (by omega), Int.zero_mul]

/-- The factor of a variable without parents that has a value. -/
def rootP (T : List (List Int)) (x : Nat) (val : Int) : Int := if val = 1 then nth (row T x) 0 else 16 - nth (row T x) 0
theorem fac_root {P T : List (List Int)} {x : Nat} (h : (row P x).length = 0) (a : Nat → Int) (val : Int) (he : a x = val) : fac P T a x = rootP T x val := by
  unfold fac rootP
  rw [h, he]
  rfl

theorem fwTo_sum (P T : List (List Int)) (φ : Int → Option Int) (m : Nat) : fwTo P T φ m = sumTo (fun q => if agr φ (bitv P.length q) = true then wt P T (bitv P.length q) P.length else 0) m := by
  induction m with
  | zero => rfl
  | succ m ih => rw [fwTo, sumTo, ih]

theorem sumTo_two_mul {f g : Nat → Int} {p c : Int} {m : Nat} (h : ∀ q, q < m → f q * p = g q * c) : sumTo f m * p = sumTo g m * c := by
  rw [← sumTo_mul, ← sumTo_mul]
  exact sumTo_congr h

/-- A fact of one variable. -/
def isF (x : Nat) (val : Int) (z : Int) : Option Int := if z = (x : Int) then some val else none
theorem look_pair (x : Nat) (val : Int) : look [((x : Int), val)] = isF x val := by
  funext z
  simp [look, lookTo, isF, pf, pv]
theorem agr_isF {x : Nat} (hx : x < 10) (val : Int) (a : Nat → Int) : (agr (isF x val) a = true) ↔ a x = val := by
  unfold agr
  rw [decide_eq_true_eq]
  constructor
  · intro h
    have := h x hx
    unfold isF at this
    simp at this
    exact this.symm
  · intro h u _
    unfold isF
    by_cases e : u = x
    · subst e; right; simp [h]
    · left; simp; omega
theorem agr_both {x y : Nat} (hx : x < 10) (hy : y < 10) (hxy : y ≠ x) (val : Int) (a : Nat → Int) : (agr (union (oneF y) (isF x val)) a = true) ↔ (a y = 1 ∧ a x = val) := by
  rw [agr_one hy (by unfold isF; rw [if_neg (by omega)]), Bool.and_eq_true, agr_isF hx, decide_eq_true_eq]
  exact And.comm

theorem eff_cross {P T : List (List Int)} (hn : IsNet P T) {x y : Nat} (hx : x < P.length) (hy : y < P.length) (hxy : y ≠ x) (h0 : (row P x).length = 0) {val : Int} (hv : val = 0 ∨ val = 1) :
    effW P T x y val * fw P T (isF x val) = fw P T (union (oneF y) (isF x val)) * 16 ^ P.length := by
  have h10 := hn.le
  have hlen : (P.set x []).length = P.length := List.length_set ..
  have n2 := isNet_forced hn hx hv
  have A : effW P T x y val * rootP T x val = fw P T (union (oneF y) (isF x val)) * 16 := by
    unfold effW fw
    rw [hlen, fwTo_sum, fwTo_sum, hlen]
    refine sumTo_two_mul fun q _ => ?_
    have hb := bitv_Bits P.length q
    by_cases e1 : bitv P.length q y = 1
    · rw [if_pos ((agr_oneF (by omega) _).2 e1)]
      by_cases e2 : bitv P.length q x = val
      · rw [if_pos ((agr_both (by omega) (by omega) hxy val _).2 ⟨e1, e2⟩), ← fac_root (T := T) h0 _ val e2, (wt_forced hx hn.tab val _ P.length).2 hx, fac_self hx hn.tab hv _ hb, if_pos e2]
      · rw [if_neg (fun h => e2 ((agr_both (by omega) (by omega) hxy val _).1 h).2), wt_zero hx hn.tab hv _ hb e2 _ hx, Int.zero_mul, Int.zero_mul]
    · rw [if_neg (fun h => e1 ((agr_oneF (by omega) _).1 h)), if_neg (fun h => e1 ((agr_both (by omega) (by omega) hxy val _).1 h).1), Int.zero_mul, Int.zero_mul]
  have B : 16 ^ P.length * rootP T x val = fw P T (isF x val) * 16 := by
    have h1 := fw_none n2
    rw [hlen] at h1
    rw [← h1]
    unfold fw
    rw [hlen, fwTo_sum, fwTo_sum, hlen]
    refine sumTo_two_mul fun q _ => ?_
    have hb := bitv_Bits P.length q
    rw [if_pos (by unfold agr; simp)]
    by_cases e2 : bitv P.length q x = val
    · rw [if_pos ((agr_isF (by omega) val _).2 e2), ← fac_root (T := T) h0 _ val e2, (wt_forced hx hn.tab val _ P.length).2 hx, fac_self hx hn.tab hv _ hb, if_pos e2]
    · rw [if_neg (fun h => e2 ((agr_isF (by omega) val _).1 h)), wt_zero hx hn.tab hv _ hb e2 _ hx, Int.zero_mul, Int.zero_mul]
  refine Int.eq_of_mul_eq_mul_right (a := 16) (by omega) ?_
  rw [Int.mul_assoc, ← B, Int.mul_comm (16 ^ P.length) (rootP T x val), ← Int.mul_assoc, A, Int.mul_assoc, Int.mul_assoc, Int.mul_comm 16 (16 ^ P.length)]

theorem frac_scale {n D k : Int} (hk : 1 ≤ k) (hD : 1 ≤ D) : fracV (n * k) (D * k) = fracV n D := by
  have hg := gcd_pos (num := n) hD
  have e : (Int.gcd (n * k) (D * k) : Int) = (Int.gcd n D : Int) * k := by
    rw [Int.gcd_mul_right]
    simp
    have : (k.natAbs : Int) = k := by omega
    rw [this]
  unfold fracV fracC
  rw [e, Int.mul_ediv_mul_of_pos_left _ _ (by omega), Int.mul_ediv_mul_of_pos_left _ _ (by omega)]
theorem frac_cross {n D m E : Int} (h : n * E = m * D) (hD : 1 ≤ D) (hE : 1 ≤ E) : fracV n D = fracV m E := by
  rw [← frac_scale (n := n) (D := D) hE hD, h, Int.mul_comm D E, frac_scale (n := m) (D := E) hD hE]
theorem frac_zero {D : Int} (hD : 1 ≤ D) : fracV 0 D = .agg #[.int .i64 0, .int .i64 1] := by
  have h := frac_scale (n := 0) (D := 1) hD (by omega)
  rw [Int.zero_mul, Int.one_mul] at h
  rw [h]; rfl
theorem frac_one {D : Int} (hD : 1 ≤ D) : fracV D D = .agg #[.int .i64 1, .int .i64 1] := by
  have h := frac_scale (n := 1) (D := 1) hD (by omega)
  rw [Int.one_mul] at h
  rw [h]; rfl

theorem pow16_pos (n : Nat) : 1 ≤ (16 : Int) ^ n := by have := Int.pow_pos (n := 16) (m := n) (by omega); omega

/-- The effects on itself. -/
theorem eff_self {P T : List (List Int)} (hn : IsNet P T) {x : Nat} (hx : x < P.length) : effW P T x x 0 = 0 ∧ effW P T x x 1 = 16 ^ P.length := by
  have h10 := hn.le
  have hlen : (P.set x []).length = P.length := List.length_set ..
  constructor
  · unfold effW fw
    rw [hlen, fwTo_sum, hlen]
    have h : ∀ m, sumTo (fun q => if agr (oneF x) (bitv P.length q) = true then wt (P.set x []) (T.set x [16 * 0]) (bitv P.length q) P.length else 0) m = 0 := by
      intro m
      induction m with
      | zero => rfl
      | succ m ih =>
        rw [sumTo, ih]
        split
        · rename_i h
          have e := (agr_oneF (by omega) _).1 h
          rw [wt_zero hx hn.tab (.inl rfl) _ (bitv_Bits _ _) (by omega) _ hx]
          rfl
        · rfl
    exact h _
  · have n1 := isNet_forced hn hx (val := 1) (.inr rfl)
    have h1 := fw_none n1
    rw [hlen] at h1
    rw [← h1]
    unfold effW fw
    rw [hlen, fwTo_sum, fwTo_sum, hlen]
    refine sumTo_congr fun q _ => ?_
    rw [if_pos (show agr (fun _ => none) (bitv P.length q) = true by unfold agr; simp)]
    split
    · rfl
    · rename_i h
      rw [wt_zero hx hn.tab (.inr rfl) _ (bitv_Bits _ _) (fun e => h ((agr_oneF (by omega) _).2 e)) _ hx]

/-- What is given of a variable without parents, and what is forced. -/
theorem ch_given {P T : List (List Int)} (hn : IsNet P T) {x y : Nat} (hx : x < P.length) (hy : y < P.length) (hxy : y ≠ x) (h0 : (row P x).length = 0) {val : Int} (hv : val = 0 ∨ val = 1) :
    (chV P T [((y : Int), (1 : Int))] [((x : Int), val)] = zeroF ∧ chE P T [((y : Int), (1 : Int))] [((x : Int), val)] = 6) ∨
    (chV P T [((y : Int), (1 : Int))] [((x : Int), val)] = fracV (effW P T x y val) (16 ^ P.length) ∧ chE P T [((y : Int), (1 : Int))] [((x : Int), val)] = 0) := by
  have h10 := hn.le
  have hok : okFacts [((x : Int), val)] P.length = true := decide_eq_true fun i hi => by
    have : i = 0 := by simp at hi; exact hi
    subst this
    exact ⟨by simp [pf]; omega, by simpa [pv] using hv, fun j hj => absurd hj (by omega)⟩
  by_cases hz : fw P T (look [((x : Int), val)]) = 0
  · exact .inl (ch_zero (okFacts_one hy) hok hz)
  · right
    have hc : cmp (look [((y : Int), (1 : Int))]) (look [((x : Int), val)]) = true := decide_eq_true fun u _ => by
      rw [look_one, look_pair]
      unfold oneF isF
      by_cases e : u = y
      · subst e; right; left; rw [if_neg (by omega)]
      · left; rw [if_neg (by omega)]
    obtain ⟨e1, e2⟩ := ch_yes (P := P) (T := T) (okFacts_one hy) hok hz hc
    refine ⟨?_, e2⟩
    rw [e1]
    have hb := fw_bd (φ := look [((x : Int), val)]) hn
    rw [look_pair] at hz hb
    rw [look_one, look_pair x val]
    exact frac_cross (eff_cross hn hx hy hxy h0 hv).symm (by omega) (pow16_pos _)

end Go.Proofs.Ytghffnjnpgiicaa
