/- L1 L2 -/
import Derived.Test.YtjibdolhipddbaaQf
import Derived.Test.YtjibdolhipddbaaQh
/- What the search finds out, in plain words: some c depths for each key that stop every forbidden pair. -/
namespace Go.Proofs.Ytjibdolhipddbaa

def mxL (y : List Int) : Nat := (y.map Int.toNat).foldl max 0
def refB (k : Nat) (y z : List Int) : Bool := (List.range k).all fun i => (List.range i).all fun j => !decide (nth z i = nth z j) || decide (nth y i = nth y j)
def domB (k d : Nat) : Bool := (cls d k).all fun y => (clsL k d).any fun z => refB k y z
def rngB (k d : Nat) : Bool := (cls d k).all fun y => decide (mxL y ≤ d) && decide (y.length = 6) && ((List.range k).all fun i => decide (1 ≤ nth y i) && decide (nth y i ≤ (mxL y : Int))) && ((List.range (mxL y)).all fun e => (List.range k).any fun i => decide (nth y i = ((e + 1 : Nat) : Int)))
def stepB (k d : Nat) : Bool := (cls d k).all fun y => (List.range (min (mxL y + 1) d)).all fun e => (cls d (k + 1)).contains (y.set k ((e + 1 : Nat) : Int))

set_option maxRecDepth 100000 in
theorem dom_all : (List.range 7).all (fun k => (List.range 4).all fun d => domB k (d + 1)) = true := by decide +kernel
set_option maxRecDepth 100000 in
theorem rng_all : (List.range 7).all (fun k => (List.range 4).all fun d => rngB k (d + 1)) = true := by decide +kernel
set_option maxRecDepth 100000 in
theorem step_all : (List.range 6).all (fun k => (List.range 4).all fun d => stepB k (d + 1)) = true := by decide +kernel

theorem all_two {n : Nat} {g : Nat → Nat → Bool} (h : (List.range n).all (fun k => (List.range 4).all fun d => g k (d + 1)) = true) {k d : Nat} (hk : k < n) (hd : 1 ≤ d) (hd4 : d ≤ 4) : g k d = true := by
  rw [List.all_eq_true] at h
  have h := h k (List.mem_range.2 hk)
  rw [List.all_eq_true] at h
  have h := h (d - 1) (List.mem_range.2 (by omega))
  rwa [show d - 1 + 1 = d by omega] at h

theorem dom_of {k d : Nat} (hk : k ≤ 6) (hd : 1 ≤ d) (hd4 : d ≤ 4) {y : List Int} (hy : y ∈ cls d k) : ∃ z ∈ clsL k d, ∀ i, i < k → ∀ j, j < k → nth z i = nth z j → nth y i = nth y j := by
  have h := all_two dom_all (k := k) (by omega) hd hd4
  rw [domB, List.all_eq_true] at h
  have h := h y hy
  rw [List.any_eq_true] at h
  obtain ⟨z, hz, h⟩ := h
  rw [refB, List.all_eq_true] at h
  have key : ∀ i, i < k → ∀ j, j < i → nth z i = nth z j → nth y i = nth y j := fun i hi j hj e => by
    have h := h i (List.mem_range.2 hi)
    rw [List.all_eq_true] at h
    have h := h j (List.mem_range.2 hj)
    simpa [e] using h
  refine ⟨z, hz, fun i hi j hj e => ?_⟩
  rcases Nat.lt_trichotomy i j with q | q | q
  · exact (key j hj i q e.symm).symm
  · rw [q]
  · exact key i hi j q e

theorem rng_of {k d : Nat} (hk : k ≤ 6) (hd : 1 ≤ d) (hd4 : d ≤ 4) {y : List Int} (hy : y ∈ cls d k) : mxL y ≤ d ∧ y.length = 6 ∧ (∀ i, i < k → 1 ≤ nth y i ∧ nth y i ≤ (mxL y : Int)) ∧ ∀ e, e < mxL y → ∃ i, i < k ∧ nth y i = ((e + 1 : Nat) : Int) := by
  have h := all_two rng_all (k := k) (by omega) hd hd4
  rw [rngB, List.all_eq_true] at h
  have h := h y hy
  simp only [Bool.and_eq_true, decide_eq_true_eq, List.all_eq_true, List.mem_range, List.any_eq_true] at h
  exact ⟨h.1.1.1, h.1.1.2, h.1.2, h.2⟩

theorem step_of {k d : Nat} (hk : k < 6) (hd : 1 ≤ d) (hd4 : d ≤ 4) {y : List Int} (hy : y ∈ cls d k) {e : Nat} (he : e < mxL y + 1) (hed : e < d) : y.set k ((e + 1 : Nat) : Int) ∈ cls d (k + 1) := by
  have h := all_two step_all (k := k) hk hd hd4
  rw [stepB, List.all_eq_true] at h
  have h := h y hy
  rw [List.all_eq_true] at h
  have h := h e (List.mem_range.2 (by omega))
  exact List.contains_iff_mem.1 h

theorem nthSet (y : List Int) (k : Nat) (e : Int) (i : Nat) : nth (y.set k e) i = if i = k ∧ k < y.length then e else nth y i := by
  unfold nth
  rw [List.getD_eq_getElem?_getD, List.getD_eq_getElem?_getD, List.getElem?_set]
  by_cases h : k = i
  · subst h
    by_cases h2 : k < y.length
    · simp [h2]
    · simp [h2]
  · rw [if_neg h, if_neg (fun q => h q.1.symm)]

/-- Every colouring is alike, key for key, to one that the program makes. -/
theorem same_kernel {d : Nat} (hd : 1 ≤ d) (hd4 : d ≤ 4) (x : Nat → Int) : ∀ k, k ≤ 6 → (∀ i, i < k → 1 ≤ x i ∧ x i ≤ d) → ∃ y ∈ cls d k, ∀ i, i < k → ∀ j, j < k → (nth y i = nth y j ↔ x i = x j)
  | 0, _, _ => ⟨_, List.mem_singleton.2 rfl, fun i hi => absurd hi (by omega)⟩
  | k + 1, hk, hx => by
    obtain ⟨y, hy, hs⟩ := same_kernel hd hd4 x k (by omega) fun i hi => hx i (by omega)
    obtain ⟨h1, h2, h3, h4⟩ := rng_of (by omega) hd hd4 hy
    by_cases hold : ∃ i, i < k ∧ x i = x k
    · obtain ⟨i, hi, e⟩ := hold
      obtain ⟨hy1, hy2⟩ := h3 i hi
      have hE : nth y i = (((nth y i).toNat - 1 + 1 : Nat) : Int) := by omega
      refine ⟨_, step_of (e := (nth y i).toNat - 1) (by omega) hd hd4 hy (by omega) (by omega), ?_⟩
      rw [← hE]
      intro p hp q hq
      rw [nthSet, nthSet, h2]
      by_cases hpk : p = k
      · by_cases hqk : q = k
        · subst hpk; subst hqk; simp
        · rw [if_pos ⟨hpk, by omega⟩, if_neg (fun z => hqk z.1), hpk, ← e]
          exact hs i hi q (by omega)
      · by_cases hqk : q = k
        · rw [if_neg (fun z => hpk z.1), if_pos ⟨hqk, by omega⟩, hqk, ← e]
          exact hs p (by omega) i hi
        · rw [if_neg (fun z => hpk z.1), if_neg (fun z => hqk z.1)]
          exact hs p (by omega) q (by omega)
    · have hne : ∀ i, i < k → x i ≠ x k := fun i hi e => hold ⟨i, hi, e⟩
      have hlt : mxL y < d := by
        by_cases hq : mxL y < d
        · exact hq
        · exfalso
          have hm : mxL y = d := by omega
          rw [hm] at h4
          have hxk := hx k (by omega)
          have two : ∀ e f, e < d → f < d → e ≠ f → ∀ i j, i < k → j < k → nth y i = ((e + 1 : Nat) : Int) → nth y j = ((f + 1 : Nat) : Int) → x i ≠ x j := fun e f _ _ hef i j hi hj h5 h6 h7 => by
            have := (hs i hi j hj).2 h7
            omega
          obtain rfl | rfl | rfl | rfl : d = 1 ∨ d = 2 ∨ d = 3 ∨ d = 4 := by omega
          · obtain ⟨i0, g0, e0⟩ := h4 0 (by omega)
            have a0 := hne i0 g0
            have b0 := hx i0 (by omega)
            omega
          · obtain ⟨i0, g0, e0⟩ := h4 0 (by omega)
            obtain ⟨i1, g1, e1⟩ := h4 1 (by omega)
            have a0 := hne i0 g0
            have a1 := hne i1 g1
            have b0 := hx i0 (by omega)
            have b1 := hx i1 (by omega)
            have c01 := two 0 1 (by omega) (by omega) (by omega) i0 i1 g0 g1 e0 e1
            omega
          · obtain ⟨i0, g0, e0⟩ := h4 0 (by omega)
            obtain ⟨i1, g1, e1⟩ := h4 1 (by omega)
            obtain ⟨i2, g2, e2⟩ := h4 2 (by omega)
            have a0 := hne i0 g0
            have a1 := hne i1 g1
            have a2 := hne i2 g2
            have b0 := hx i0 (by omega)
            have b1 := hx i1 (by omega)
            have b2 := hx i2 (by omega)
            have c01 := two 0 1 (by omega) (by omega) (by omega) i0 i1 g0 g1 e0 e1
            have c02 := two 0 2 (by omega) (by omega) (by omega) i0 i2 g0 g2 e0 e2
            have c12 := two 1 2 (by omega) (by omega) (by omega) i1 i2 g1 g2 e1 e2
            omega
          · obtain ⟨i0, g0, e0⟩ := h4 0 (by omega)
            obtain ⟨i1, g1, e1⟩ := h4 1 (by omega)
            obtain ⟨i2, g2, e2⟩ := h4 2 (by omega)
            obtain ⟨i3, g3, e3⟩ := h4 3 (by omega)
            have a0 := hne i0 g0
            have a1 := hne i1 g1
            have a2 := hne i2 g2
            have a3 := hne i3 g3
            have b0 := hx i0 (by omega)
            have b1 := hx i1 (by omega)
            have b2 := hx i2 (by omega)
            have b3 := hx i3 (by omega)
            have c01 := two 0 1 (by omega) (by omega) (by omega) i0 i1 g0 g1 e0 e1
            have c02 := two 0 2 (by omega) (by omega) (by omega) i0 i2 g0 g2 e0 e2
            have c03 := two 0 3 (by omega) (by omega) (by omega) i0 i3 g0 g3 e0 e3
            have c12 := two 1 2 (by omega) (by omega) (by omega) i1 i2 g1 g2 e1 e2
            have c13 := two 1 3 (by omega) (by omega) (by omega) i1 i3 g1 g3 e1 e3
            have c23 := two 2 3 (by omega) (by omega) (by omega) i2 i3 g2 g3 e2 e3
            omega
      refine ⟨_, step_of (e := mxL y) (by omega) hd hd4 hy (by omega) hlt, ?_⟩
      intro p hp q hq
      rw [nthSet, nthSet, h2]
      by_cases hpk : p = k
      · by_cases hqk : q = k
        · subst hpk; subst hqk; simp
        · rw [if_pos ⟨hpk, by omega⟩, if_neg (fun z => hqk z.1), hpk]
          have := (h3 q (by omega)).2
          constructor
          · intro e; omega
          · intro e; exact absurd e.symm (hne q (by omega))
      · by_cases hqk : q = k
        · rw [if_neg (fun z => hpk z.1), if_pos ⟨hqk, by omega⟩, hqk]
          have := (h3 p (by omega)).2
          constructor
          · intro e; omega
          · intro e; exact absurd e (hne p (by omega))
        · rw [if_neg (fun z => hpk z.1), if_neg (fun z => hqk z.1)]
          exact hs p (by omega) q (by omega)

/-- There are c chambers with depths from 1 to d in which each forbidden pair is stopped. -/
def Pos (k l : Nat) (f : Nat → Bool) (d c : Nat) : Prop :=
  ∃ Z : Nat → Nat → Int, (∀ q, q < c → ∀ i, i < k → 1 ≤ Z q i ∧ Z q i ≤ d) ∧ ∀ i, i < k → ∀ j, j < l → f (6 * i + j) = false → ∃ q, q < c ∧ ∀ o, o < k → f (6 * o + j) = true → Z q o ≠ Z q i

theorem stF_at {k l : Nat} {f : Nat → Bool} {c : Nat → Int} {i j : Nat} (hi : i < k) (hj : j < l) (hl : l ≤ 6) : stF k l f c (6 * i + j) = true ↔ ∀ o, o < k → f (6 * o + j) = true → c o ≠ c i := by
  unfold stF
  rw [show (6 * i + j) / 6 = i by omega, show (6 * i + j) % 6 = j by omega, decide_eq_true hi, decide_eq_true hj]
  simp only [Bool.true_and, Bool.not_eq_true', decide_eq_false_iff_not]
  unfold PinF
  constructor
  · intro h o ho h1 h2; exact h ⟨o, ho, h1, h2⟩
  · rintro h ⟨o, ho, h1, h2⟩; exact h o ho h1 h2

theorem cov_iff {k l d c : Nat} {f : Nat → Bool} (hk : k ≤ 6) (hl : l ≤ 6) (hd : 1 ≤ d) (hd4 : d ≤ 4) : (∃ Y, Cov k l f (clsL k d) (fbF k l f) c Y) ↔ Pos k l f d c := by
  have hsub : ∀ y ∈ clsL k d, y ∈ cls d k := fun y hy => by
    unfold clsL flt at hy
    exact List.mem_of_mem_take (List.mem_filter.1 hy).1
  constructor
  · rintro ⟨Y, h1, h2, h3⟩
    refine ⟨fun q i => if q < Y.length then nth (row Y q) i else 1, fun q hq i hi => ?_, fun i hi j hj hf => ?_⟩
    · by_cases hqY : q < Y.length
      · simp only [hqY, if_true]
        have hm : row Y q ∈ Y := by unfold row; rw [List.getD_eq_getElem?_getD, List.getElem?_eq_getElem hqY]; exact List.getElem_mem hqY
        obtain ⟨r1, r2, r3, r4⟩ := rng_of hk hd hd4 (hsub _ (h2 _ hm))
        have := r3 i hi
        omega
      · simp only [hqY, if_false]; omega
    · obtain ⟨y, hy, hs⟩ := h3 (6 * i + j) (by omega) (by unfold fbF; rw [show (6 * i + j) / 6 = i by omega, show (6 * i + j) % 6 = j by omega, hf, decide_eq_true hi, decide_eq_true hj]; rfl)
      obtain ⟨q, hq, e⟩ := List.getElem_of_mem hy
      have hr : row Y q = y := by unfold row; rw [List.getD_eq_getElem?_getD, List.getElem?_eq_getElem hq]; exact e
      refine ⟨q, by omega, ?_⟩
      simp only [hq, if_true, hr]
      exact (stF_at hi hj hl).1 hs
  · rintro ⟨Z, h1, h2⟩
    have hz : ∀ q, ∃ z, q < c → z ∈ clsL k d ∧ ∀ i, i < k → ∀ j, j < k → nth z i = nth z j → Z q i = Z q j := fun q => by
      by_cases hq : q < c
      · obtain ⟨y, hy, hs⟩ := same_kernel hd hd4 (Z q) k hk (h1 q hq)
        obtain ⟨z, hz, hr⟩ := dom_of hk hd hd4 hy
        exact ⟨z, fun _ => ⟨hz, fun i hi j hj e => (hs i hi j hj).1 (hr i hi j hj e)⟩⟩
      · exact ⟨[], fun q => absurd q hq⟩
    refine ⟨(List.range c).map fun q => (hz q).choose, by simp, fun y hy => ?_, fun p hp hg => ?_⟩
    · obtain ⟨q, hq, rfl⟩ := List.mem_map.1 hy
      exact ((hz q).choose_spec (List.mem_range.1 hq)).1
    · unfold fbF at hg
      simp only [Bool.and_eq_true, decide_eq_true_eq, Bool.not_eq_true'] at hg
      obtain ⟨⟨g1, g2⟩, g3⟩ := hg
      have hp6 : 6 * (p / 6) + p % 6 = p := by omega
      obtain ⟨q, hq, hs⟩ := h2 (p / 6) g1 (p % 6) g2 (by rw [hp6]; exact g3)
      refine ⟨_, List.mem_map.2 ⟨q, List.mem_range.2 hq, rfl⟩, ?_⟩
      rw [← hp6, stF_at g1 g2 hl]
      intro o ho hf e
      exact hs o ho hf (((hz q).choose_spec hq).2 o ho _ g1 e)

end Go.Proofs.Ytjibdolhipddbaa

/- Plan and Least, in plain words; what one depth allows; what more of a kind allows. -/
namespace Go.Proofs.Ytjibdolhipddbaa
open Go.RowKit

def PosA (a : List (List Int)) (d c : Nat) : Prop := Pos a.length (row a 0).length (mt a) d c
/-- The same, without sets of bits. -/
theorem posA_iff {a : List (List Int)} (ha : IsPlan a) {d c : Nat} : PosA a d c ↔ ∃ Z : Nat → Nat → Int, (∀ q, q < c → ∀ i, i < a.length → 1 ≤ Z q i ∧ Z q i ≤ d) ∧
    ∀ i, i < a.length → ∀ j, j < (row a 0).length → nth (row a i) j ≠ 1 → ∃ q, q < c ∧ ∀ o, o < a.length → nth (row a o) j = 1 → Z q o ≠ Z q i := by
  have hl := ha.le0
  unfold PosA Pos
  constructor
  · rintro ⟨Z, h1, h2⟩
    refine ⟨Z, h1, fun i hi j hj hn => ?_⟩
    obtain ⟨q, hq, h⟩ := h2 i hi j hj (by rw [mt_at _ _ _ (by omega)]; exact decide_eq_false hn)
    exact ⟨q, hq, fun o ho h1 => h o ho (by rw [mt_at _ _ _ (by omega)]; exact decide_eq_true h1)⟩
  · rintro ⟨Z, h1, h2⟩
    refine ⟨Z, h1, fun i hi j hj hn => ?_⟩
    rw [mt_at _ _ _ (by omega)] at hn
    obtain ⟨q, hq, h⟩ := h2 i hi j hj (of_decide_eq_false hn)
    refine ⟨q, hq, fun o ho h1 => h o ho ?_⟩
    rw [mt_at _ _ _ (by omega)] at h1
    exact of_decide_eq_true h1

/-- n is the least number of chambers, up to 4, or 0. -/
def LeastIs (a : List (List Int)) (d n : Nat) : Prop := (n = 0 ∧ ∀ c, 1 ≤ c → c ≤ 4 → ¬ PosA a d c) ∨ (1 ≤ n ∧ n ≤ 4 ∧ PosA a d n ∧ ∀ c, 1 ≤ c → c < n → ¬ PosA a d c)

theorem covA_iff {a : List (List Int)} (ha : IsPlan a) {d c : Nat} (hd : 1 ≤ d) (hd4 : d ≤ 4) : (∃ Y, CovA a d c Y) ↔ PosA a d c := cov_iff ha.le ha.le0 hd hd4

theorem least_pos (a : List (List Int)) (d : Nat) (ao : Option Addr) (b o cap : Nat) (A : Nat → Option Addr) (B O C : Nat → Nat) (w : World) (H : RowsAt w ao b o a A B O C) (hp : IsPlan a) (hd : 1 ≤ d ∧ d ≤ 4) :
    Calls Try.prog 13 #[.slice ao a.length cap, .int .i64 d] w fun e w' =>
      (∃ n : Nat, e = .returned (.tuple #[.int .i64 n, .int .i64 0]) ∧ LeastIs a d n) ∧ Below w.heap.size w w' := by
  refine (least_ok a d ao b o cap A B O C w H hp hd).mono ?_
  rintro e w' ⟨⟨n, h1, h2⟩, h3⟩
  refine ⟨⟨n, h1, ?_⟩, h3⟩
  simp only [covA_iff hp hd.1 hd.2] at h2
  exact h2

theorem plan_pos (a : List (List Int)) (c d : Nat) (ao : Option Addr) (b o cap : Nat) (A : Nat → Option Addr) (B O C : Nat → Nat) (w : World) (H : RowsAt w ao b o a A B O C) (hp : IsPlan a) (hc : 1 ≤ c ∧ c ≤ 4) (hd : 1 ≤ d ∧ d ≤ 4) :
    Calls Try.prog 12 #[.slice ao a.length cap, .int .i64 c, .int .i64 d] w fun e w' =>
      (∃ v k, e = .returned (.tuple #[v, .int .i64 k]) ∧ ((k = 6 ∧ v = .slice none 0 0 ∧ ¬ PosA a d c) ∨ (k = 0 ∧ PosA a d c ∧ ∃ Y, CovA a d c Y ∧ NewRows w.heap.size w' v (cutsL Y c a.length)))) ∧ Below w.heap.size w w' := by
  refine (plan_ok a c d ao b o cap A B O C w H hp hc hd).mono ?_
  rintro e w' ⟨h | ⟨v, Y, h1, h2, h3⟩, hb⟩
  · refine ⟨⟨_, _, h.1, .inl ⟨rfl, rfl, ?_⟩⟩, hb⟩
    rw [← covA_iff hp hd.1 hd.2]; exact h.2
  · refine ⟨⟨_, _, h1, .inr ⟨rfl, ?_, Y, h2, h3⟩⟩, hb⟩
    rw [← covA_iff hp hd.1 hd.2]; exact ⟨Y, h2⟩

/-- With one depth. -/
theorem pos_one {a : List (List Int)} (ha : IsPlan a) {c : Nat} (hc : 1 ≤ c) : PosA a 1 c ↔ ∀ i j k, i < a.length → j < (row a 0).length → k < a.length → nth (row a i) j = 1 ∨ nth (row a k) j = 0 := by
  rw [posA_iff ha]
  constructor
  · rintro ⟨Z, h1, h2⟩ i j k hi hj hk
    by_cases h : nth (row a i) j = 1
    · exact .inl h
    · obtain ⟨q, hq, hs⟩ := h2 i hi j hj h
      rcases ha.bit k hk j (by rw [ha.len k hk]; exact hj) with e | e
      · exact .inr e
      · have := hs k hk e
        have b1 := h1 q hq k hk
        have b2 := h1 q hq i hi
        omega
  · intro h
    refine ⟨fun _ _ => 1, fun _ _ _ _ => ⟨by show (1 : Int) ≤ 1; omega, by show (1 : Int) ≤ _; omega⟩, fun i hi j hj hn => ⟨0, by omega, fun o ho h1 => ?_⟩⟩
    rcases h i j o hi hj ho with e | e
    · exact absurd e hn
    · omega

theorem pos_equal {a : List (List Int)} (ha : IsPlan a) {d c : Nat} (hd : 1 ≤ d) (hc : 1 ≤ c) (h : ∀ i j k, i < a.length → j < (row a 0).length → k < a.length → nth (row a i) j = nth (row a k) j) : PosA a d c := by
  rw [posA_iff ha]
  refine ⟨fun _ _ => 1, fun _ _ _ _ => ⟨by show (1 : Int) ≤ 1; omega, by show (1 : Int) ≤ _; omega⟩, fun i hi j hj hn => ⟨0, by omega, fun o ho h1 => ?_⟩⟩
  rw [h i j o hi hj ho] at hn
  exact absurd h1 hn

theorem least_one {a : List (List Int)} (ha : IsPlan a) {n : Nat} (h : LeastIs a 1 n) : n ≤ 1 ∧ (n = 1 ↔ ∀ i j k, i < a.length → j < (row a 0).length → k < a.length → nth (row a i) j = 1 ∨ nth (row a k) j = 0) := by
  rcases h with ⟨rfl, h⟩ | ⟨h1, h2, h3, h4⟩
  · refine ⟨by omega, fun q => by omega, fun q => absurd ((pos_one ha (Nat.le_refl 1)).2 q) (h 1 (by omega) (by omega))⟩
  · have hf := (pos_one ha h1).1 h3
    have h5 : n ≤ 1 := by
      by_cases q : n ≤ 1
      · exact q
      · exact absurd ((pos_one ha (Nat.le_refl 1)).2 hf) (h4 1 (by omega) (by omega))
    exact ⟨h5, fun _ => hf, fun _ => by omega⟩

theorem least_equal {a : List (List Int)} (ha : IsPlan a) {d n : Nat} (hd : 1 ≤ d) (h : LeastIs a d n) (he : ∀ i j k, i < a.length → j < (row a 0).length → k < a.length → nth (row a i) j = nth (row a k) j) : n = 1 := by
  have h1 := pos_equal ha hd (Nat.le_refl 1) he
  rcases h with ⟨rfl, h⟩ | ⟨h2, h3, h4, h5⟩
  · exact absurd h1 (h 1 (by omega) (by omega))
  · by_cases q : n = 1
    · exact q
    · exact absurd h1 (h5 1 (by omega) (by omega))

/-- One chamber, or one depth, more. -/
theorem pos_chamber {a : List (List Int)} {d c c' : Nat} (hd : 1 ≤ d) (hc : c ≤ c') (h : PosA a d c) : PosA a d c' := by
  obtain ⟨Z, h1, h2⟩ := h
  refine ⟨fun q i => if q < c then Z q i else 1, fun q hq i hi => ?_, fun i hi j hj hn => ?_⟩
  · by_cases e : q < c
    · simp only [e, if_true]; exact h1 q e i hi
    · simp only [e, if_false]; omega
  · obtain ⟨q, hq, hs⟩ := h2 i hi j hj hn
    refine ⟨q, by omega, fun o ho hm => ?_⟩
    simp only [hq, if_true]
    exact hs o ho hm
theorem pos_depth {a : List (List Int)} {d d' c : Nat} (hd : d ≤ d') (h : PosA a d c) : PosA a d' c := by
  obtain ⟨Z, h1, h2⟩ := h
  exact ⟨Z, fun q hq i hi => by have := h1 q hq i hi; omega, h2⟩

/-- What is possible of one plan is possible of another one, whose keys are among its keys and locks among its locks. -/
theorem pos_part {a m : List (List Int)} (ha : IsPlan a) (hm : IsPlan m) {d c : Nat} (g p : Nat → Nat) (hg : ∀ i, i < m.length → g i < a.length) (hp : ∀ j, j < (row m 0).length → p j < (row a 0).length)
    (hr : ∀ i, i < m.length → ∀ j, j < (row m 0).length → nth (row m i) j = nth (row a (g i)) (p j)) (h : PosA a d c) : PosA m d c := by
  rw [posA_iff ha] at h
  rw [posA_iff hm]
  obtain ⟨Z, h1, h2⟩ := h
  refine ⟨fun q i => Z q (g i), fun q hq i hi => h1 q hq _ (hg i hi), fun i hi j hj hn => ?_⟩
  rw [hr i hi j hj] at hn
  obtain ⟨q, hq, hs⟩ := h2 _ (hg i hi) _ (hp j hj) hn
  exact ⟨q, hq, fun o ho h1 => hs _ (hg o ho) (by rw [← hr o ho j hj]; exact h1)⟩

theorem least_part {a m : List (List Int)} (ha : IsPlan a) (hm : IsPlan m) {d n k : Nat} (g p : Nat → Nat) (hg : ∀ i, i < m.length → g i < a.length) (hp : ∀ j, j < (row m 0).length → p j < (row a 0).length)
    (hr : ∀ i, i < m.length → ∀ j, j < (row m 0).length → nth (row m i) j = nth (row a (g i)) (p j)) (h : LeastIs a d n) (hn : 1 ≤ n) (hk : LeastIs m d k) : 1 ≤ k ∧ k ≤ n := by
  rcases h with ⟨h1, _⟩ | ⟨h1, h2, h3, h4⟩
  · omega
  · have hP := pos_part ha hm g p hg hp hr h3
    rcases hk with ⟨rfl, h5⟩ | ⟨h5, h6, h7, h8⟩
    · exact absurd hP (h5 n h1 h2)
    · refine ⟨h5, ?_⟩
      by_cases q : k ≤ n
      · exact q
      · exact absurd hP (h8 n h1 (by omega))

theorem least_inj {a m : List (List Int)} {d n k : Nat} (hpm : ∀ c, PosA a d c ↔ PosA m d c) (h : LeastIs a d n) (hk : LeastIs m d k) : k = n := by
  rcases h with ⟨rfl, h⟩ | ⟨h1, h2, h3, h4⟩
  · rcases hk with ⟨rfl, _⟩ | ⟨h5, h6, h7, h8⟩
    · rfl
    · exact absurd ((hpm k).2 h7) (h k h5 h6)
  · rcases hk with ⟨rfl, h5⟩ | ⟨h5, h6, h7, h8⟩
    · exact absurd ((hpm n).1 h3) (h5 n h1 h2)
    · by_cases e : k < n
      · exact absurd ((hpm k).2 h7) (h4 k h5 e)
      · by_cases e2 : n < k
        · exact absurd ((hpm n).1 h3) (h8 n h1 e2)
        · omega

theorem least_depth {a : List (List Int)} {d n k : Nat} (h : LeastIs a d n) (hn : 1 ≤ n) (hk : LeastIs a (d + 1) k) : 1 ≤ k ∧ k ≤ n := by
  rcases h with ⟨h1, _⟩ | ⟨h1, h2, h3, h4⟩
  · omega
  · have hP := pos_depth (Nat.le_succ d) h3
    rcases hk with ⟨rfl, h5⟩ | ⟨h5, h6, h7, h8⟩
    · exact absurd hP (h5 n h1 h2)
    · refine ⟨h5, ?_⟩
      by_cases q : k ≤ n
      · exact q
      · exact absurd hP (h8 n h1 (by omega))

theorem least_from {a : List (List Int)} {d n : Nat} (hd : 1 ≤ d) (h : LeastIs a d n) (hn : 1 ≤ n) {c : Nat} (hc : 1 ≤ c) : PosA a d c ↔ n ≤ c := by
  rcases h with ⟨h1, _⟩ | ⟨h1, h2, h3, h4⟩
  · omega
  · constructor
    · intro hp
      by_cases q : n ≤ c
      · exact q
      · exact absurd hp (h4 c hc (by omega))
    · exact fun q => pos_chamber hd q h3

end Go.Proofs.Ytjibdolhipddbaa
