/- Two depths of a chamber exchanged, and two chambers, in plain words. -/
import Derived.Test.YtjibdolhipddbaaQr
namespace Go.Proofs.Ytjibdolhipddbaa
open Go.RowKit

def swZ (x y z : Int) : Int := if z = x then y else if z = y then x else z
theorem swZ_swZ (x y z : Int) : swZ x y (swZ x y z) = z := by
  unfold swZ
  by_cases h1 : z = x
  · subst h1
    rw [if_pos rfl]
    by_cases h2 : y = z
    · rw [if_pos h2]; exact h2
    · rw [if_neg h2, if_pos rfl]
  · rw [if_neg h1]
    by_cases h2 : z = y
    · subst h2; rw [if_pos rfl, if_pos rfl]
    · rw [if_neg h2, if_neg h1, if_neg h2]
theorem swZ_bd {x y z d : Int} (hx : 1 ≤ x ∧ x ≤ d) (hy : 1 ≤ y ∧ y ≤ d) (hz : 1 ≤ z ∧ z ≤ d) : 1 ≤ swZ x y z ∧ swZ x y z ≤ d := by
  unfold swZ; split
  · exact hy
  · split
    · exact hx
    · exact hz
theorem swZ_inj {x y z t : Int} : swZ x y z = swZ x y t ↔ z = t :=
  ⟨fun h => by rw [← swZ_swZ x y z, h, swZ_swZ], fun h => by rw [h]⟩
def sgT (u v t : Nat) : Nat := if t = v then u else if t = u then v else t
theorem sgT_sgT (u v t : Nat) : sgT u v (sgT u v t) = t := by
  unfold sgT
  by_cases h1 : t = v
  · subst h1
    rw [if_pos rfl]
    by_cases h2 : u = t
    · rw [if_pos h2]; exact h2
    · rw [if_neg h2, if_pos rfl]
  · rw [if_neg h1]
    by_cases h2 : t = u
    · subst h2; rw [if_pos rfl, if_pos rfl]
    · rw [if_neg h2, if_neg h1, if_neg h2]
theorem sgT_lt {u v t c : Nat} (hu : u < c) (hv : v < c) (ht : t < c) : sgT u v t < c := by
  unfold sgT; split
  · exact hu
  · split <;> omega
/-- What happens to the depth that comes to the place t. -/
def ggT (u v : Nat) (x y : Int) (t : Nat) (z : Int) : Int := if sgT u v t = u then swZ x y z else z
theorem ggT_ggT (u v : Nat) (x y : Int) (t : Nat) (z : Int) : ggT u v x y t (ggT u v x y t z) = z := by
  unfold ggT; split
  · exact swZ_swZ x y z
  · rfl
theorem ggT_iff (u v : Nat) (x y : Int) (t : Nat) (z q : Int) : ggT u v x y t z = q ↔ z = ggT u v x y t q :=
  ⟨fun h => by rw [← h, ggT_ggT], fun h => by rw [h, ggT_ggT]⟩

/-- A key's row, with the depths x and y exchanged at u, and then the places u and v. -/
def swD (u : Nat) (x y : Int) (r : List Int) : List Int := r.set u (swZ x y (nth r u))
def swR (u v : Nat) (x y : Int) (r : List Int) : List Int := ((swD u x y r).set u (nth (swD u x y r) v)).set v (nth (swD u x y r) u)
theorem swD_len (u : Nat) (x y : Int) (r : List Int) : (swD u x y r).length = r.length := by simp [swD]
theorem swR_len (u v : Nat) (x y : Int) (r : List Int) : (swR u v x y r).length = r.length := by simp [swR, swD]
theorem nthS (r : List Int) (i : Nat) (z : Int) (t : Nat) (h : i < r.length) : nth (r.set i z) t = if t = i then z else nth r t := by
  unfold nth
  rw [List.getD_eq_getElem?_getD, List.getD_eq_getElem?_getD, List.getElem?_set]
  by_cases e : i = t
  · subst e; simp [h]
  · rw [if_neg e, if_neg (fun q => e q.symm)]
theorem swR_nth {u v : Nat} {x y : Int} {r : List Int} (hu : u < r.length) (hv : v < r.length) (t : Nat) : nth (swR u v x y r) t = ggT u v x y t (nth r (sgT u v t)) := by
  unfold swR
  rw [nthS _ _ _ _ (by simp [swD_len]; exact hv), nthS _ _ _ _ (by rw [swD_len]; exact hu)]
  unfold swD
  rw [nthS _ _ _ _ hu, nthS _ _ _ _ hu, nthS _ _ _ _ hu, if_pos rfl]
  unfold ggT sgT
  by_cases h1 : t = v
  · rw [if_pos h1, if_pos h1, if_pos rfl]
  · rw [if_neg h1, if_neg h1]
    by_cases h2 : t = u
    · rw [if_pos h2, if_pos h2]
      by_cases h3 : v = u
      · rw [if_pos h3, if_pos h3, h3]
      · rw [if_neg h3, if_neg h3]
    · rw [if_neg h2, if_neg h2, if_neg h2, if_neg h2]

def swP (u v : Nat) (x y : Int) (P : List (List Int)) : List (List Int) := P.map (swR u v x y)
theorem swP_len (u v : Nat) (x y : Int) (P : List (List Int)) : (swP u v x y P).length = P.length := by simp [swP]
theorem swP_row {u v : Nat} {x y : Int} {P : List (List Int)} {i : Nat} (h : i < P.length) : row (swP u v x y P) i = swR u v x y (row P i) := by
  simp [swP, row, List.getD_eq_getElem?_getD, h]
theorem swP_succ {u v : Nat} {x y : Int} {P : List (List Int)} {i : Nat} (h : i < P.length) : swP u v x y (P.take (i + 1)) = swP u v x y (P.take i) ++ [swR u v x y (row P i)] := by
  unfold swP
  rw [List.take_succ_eq_append_getElem h, List.map_append]
  simp [row, List.getD_eq_getElem?_getD, h]

section
variable {a P : List (List Int)} {d : Int} {u v : Nat} {x y : Int}

theorem swP_cuts {k : Nat} (hk : OkCuts k P d) (hk1 : 1 ≤ k) (hu : u < (row P 0).length) (hv : v < (row P 0).length) (hx : 1 ≤ x ∧ x ≤ d) (hy : 1 ≤ y ∧ y ≤ d) : OkCuts k (swP u v x y P) d := by
  have hl : ∀ i, i < k → (row (swP u v x y P) i).length = (row P 0).length := fun i hi => by rw [swP_row (by rw [hk.keys]; exact hi), swR_len, hk.len i hi]
  refine ⟨by rw [swP_len, hk.keys], by rw [hl 0 (by omega)]; exact hk.pos, by rw [hl 0 (by omega)]; exact hk.le, fun i hi => by rw [hl i hi, hl 0 (by omega)], fun i hi j hj => ?_⟩
  rw [hl i hi] at hj
  rw [swP_row (by rw [hk.keys]; exact hi), swR_nth (by rw [hk.len i hi]; exact hu) (by rw [hk.len i hi]; exact hv)]
  have hz := hk.dep i hi (sgT u v j) (by rw [hk.len i hi]; exact sgT_lt hu hv hj)
  unfold ggT; split
  · exact swZ_bd hx hy hz
  · exact hz

theorem swP_pin (hk : OkCuts a.length P d) (hu : u < (row P 0).length) (hv : v < (row P 0).length) (j n : Nat) (z : Int) :
    PinR a (swP u v x y P) j n z ↔ PinR a P j (sgT u v n) (ggT u v x y n z) := by
  constructor
  · rintro ⟨i, hi, h1, h2⟩
    rw [swP_row (by rw [hk.keys]; exact hi), swR_nth (by rw [hk.len i hi]; exact hu) (by rw [hk.len i hi]; exact hv), ggT_iff] at h2
    exact ⟨i, hi, h1, h2⟩
  · rintro ⟨i, hi, h1, h2⟩
    refine ⟨i, hi, h1, ?_⟩
    rw [swP_row (by rw [hk.keys]; exact hi), swR_nth (by rw [hk.len i hi]; exact hu) (by rw [hk.len i hi]; exact hv), ggT_iff]
    exact h2

theorem swP_open (hk : OkCuts a.length P d) (hu : u < (row P 0).length) (hv : v < (row P 0).length) (j i : Nat) (hi : i < a.length) :
    OpenR a (swP u v x y P) (row (swP u v x y P) i) j ↔ OpenR a P (row P i) j := by
  have hl : (row (swP u v x y P) i).length = (row P 0).length := by rw [swP_row (by rw [hk.keys]; exact hi), swR_len, hk.len i hi]
  have hn : ∀ c, nth (row (swP u v x y P) i) c = ggT u v x y c (nth (row P i) (sgT u v c)) := fun c => by
    rw [swP_row (by rw [hk.keys]; exact hi), swR_nth (by rw [hk.len i hi]; exact hu) (by rw [hk.len i hi]; exact hv)]
  constructor
  · intro h c hc
    rw [hk.len i hi] at hc
    have := h (sgT u v c) (by rw [hl]; exact sgT_lt hu hv hc)
    rw [swP_pin hk hu hv, hn, sgT_sgT, ggT_ggT] at this
    exact this
  · intro h c hc
    rw [hl] at hc
    rw [swP_pin hk hu hv, hn, ggT_ggT]
    exact h _ (by rw [hk.len i hi]; exact sgT_lt hu hv hc)

theorem swP_wrong (hk : OkCuts a.length P d) (hu : u < (row P 0).length) (hv : v < (row P 0).length) (t : Nat) : wrF a (swP u v x y P) t = wrF a P t := by
  unfold wrF
  by_cases hi : t / 6 < a.length
  · rw [show decide (OpenR a (swP u v x y P) (row (swP u v x y P) (t / 6)) (t % 6)) = decide (OpenR a P (row P (t / 6)) (t % 6)) from by
      rw [decide_eq_decide]; exact swP_open hk hu hv _ _ hi]
  · rw [decide_eq_false hi]; simp

theorem count_swap {x y : Int} (hx : 1 ≤ x ∧ x ≤ 4) (hy : 1 ≤ y ∧ y ≤ 4) (p : Int → Bool) : (List.range 5).countP (fun v : Nat => p (swZ x y (v : Int))) = (List.range 5).countP fun v : Nat => p (v : Int) := by
  have e5 : List.range 5 = [0, 1, 2, 3, 4] := by decide
  obtain rfl | rfl | rfl | rfl : x = 1 ∨ x = 2 ∨ x = 3 ∨ x = 4 := by omega
  all_goals
    obtain rfl | rfl | rfl | rfl : y = 1 ∨ y = 2 ∨ y = 3 ∨ y = 4 := by omega
    all_goals
      rw [e5]
      simp [List.countP_cons, swZ]
      try (generalize (if p 0 = true then 1 else 0) = q0; generalize (if p 1 = true then 1 else 0) = q1; generalize (if p 2 = true then 1 else 0) = q2; generalize (if p 3 = true then 1 else 0) = q3; generalize (if p 4 = true then 1 else 0) = q4; omega)

theorem swP_pinC (ha : a.length ≤ 6) (hk : OkCuts a.length P d) (hu : u < (row P 0).length) (hv : v < (row P 0).length) (hx : 1 ≤ x ∧ x ≤ 4) (hy : 1 ≤ y ∧ y ≤ 4) {j n : Nat} (hj : j < 6) (hn : n < (row P 0).length) :
    pinC a.length (mt a) (nth (row (chs (swP u v x y P) a.length (row P 0).length) n)) j = pinC a.length (mt a) (nth (row (chs P a.length (row P 0).length) (sgT u v n))) j := by
  unfold pinC
  have h1 : (fun z : Nat => decide (PinF a.length (mt a) (nth (row (chs (swP u v x y P) a.length (row P 0).length) n)) j (z : Int))) = fun z : Nat => decide (PinR a P j (sgT u v n) (ggT u v x y n (z : Int))) := funext fun z => by
    rw [decide_eq_decide, ← pinR_iff a (swP u v x y P) j n z hj ha _ hn, swP_pin hk hu hv]
  have h2 : (fun z : Nat => decide (PinF a.length (mt a) (nth (row (chs P a.length (row P 0).length) (sgT u v n))) j (z : Int))) = fun z : Nat => decide (PinR a P j (sgT u v n) (z : Int)) := funext fun z => by
    rw [decide_eq_decide, ← pinR_iff a P j (sgT u v n) z hj ha _ (sgT_lt hu hv hn)]
  rw [h1, h2]
  unfold ggT
  by_cases e : sgT u v n = u
  · simp only [e, if_true]
    exact count_swap hx hy fun z => decide (PinR a P j u z)
  · simp only [e, if_false]

/-- A product of numbers, one for each chamber. -/
def prF (h : Nat → Nat) : Nat → Nat
  | 0 => 1
  | n + 1 => prF h n * h n
theorem prodC_pr (X : List (List Int)) (k : Nat) (f : Nat → Bool) (j : Nat) : ∀ n, prodC X k f j n = prF (fun n => pinC k f (nth (row X n)) j) n
  | 0 => rfl
  | n + 1 => by rw [prodC, prF, prodC_pr X k f j n]
theorem prF_congr {g h : Nat → Nat} : ∀ n, (∀ t, t < n → g t = h t) → prF g n = prF h n
  | 0, _ => rfl
  | n + 1, e => by rw [prF, prF, prF_congr n fun t ht => e t (by omega), e n (by omega)]
theorem prF_swap (h : Nat → Nat) {c : Nat} (hc : c ≤ 4) {u v : Nat} (hu : u < c) (hv : v < c) : prF (fun n => h (sgT u v n)) c = prF h c := by
  obtain rfl | rfl | rfl | rfl | rfl : c = 0 ∨ c = 1 ∨ c = 2 ∨ c = 3 ∨ c = 4 := by omega
  · omega
  all_goals
    obtain rfl | rfl | rfl | rfl : u = 0 ∨ u = 1 ∨ u = 2 ∨ u = 3 := by omega
    all_goals (try (exfalso; omega))
    all_goals
      obtain rfl | rfl | rfl | rfl : v = 0 ∨ v = 1 ∨ v = 2 ∨ v = 3 := by omega
      all_goals (try (exfalso; omega))
      all_goals
        simp only [prF, sgT]
        simp
        try ac_rfl

theorem swP_prod (ha : a.length ≤ 6) (h1 : 1 ≤ a.length) (hk : OkCuts a.length P d) (hu : u < (row P 0).length) (hv : v < (row P 0).length) (hx : 1 ≤ x ∧ x ≤ 4) (hy : 1 ≤ y ∧ y ≤ 4) {j : Nat} (hj : j < 6) :
    prodC (chs (swP u v x y P) a.length (row (swP u v x y P) 0).length) a.length (mt a) j (row (swP u v x y P) 0).length = prodC (chs P a.length (row P 0).length) a.length (mt a) j (row P 0).length := by
  rw [show (row (swP u v x y P) 0).length = (row P 0).length by rw [swP_row (by rw [hk.keys]; omega), swR_len]]
  rw [prodC_pr, prodC_pr]
  refine Eq.trans (prF_congr _ fun t ht => swP_pinC ha hk hu hv hx hy hj ht) ?_
  exact prF_swap (fun n => pinC a.length (mt a) (nth (row (chs P a.length (row P 0).length) n)) j) hk.le hu hv
end

end Go.Proofs.Ytjibdolhipddbaa
