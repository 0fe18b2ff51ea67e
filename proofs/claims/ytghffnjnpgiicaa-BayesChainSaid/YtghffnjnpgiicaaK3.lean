/- The chance of two values together: plain numbers. -/
import Derived.Test.YtghffnjnpgiicaaJ9
import Derived.Test.YtghffnjnpgiicaaJ3
namespace Go.Proofs.Ytghffnjnpgiicaa
open Go.RowKit

theorem agr_congr {φ ψ : Int → Option Int} (h : ∀ v : Nat, v < 10 → φ (v : Int) = ψ (v : Int)) (a : Nat → Int) : agr φ a = agr ψ a := by
  unfold agr
  rw [Bool.eq_iff_iff, decide_eq_true_eq, decide_eq_true_eq]
  constructor
  · intro q v hv; rw [← h v hv]; exact q v hv
  · intro q v hv; rw [h v hv]; exact q v hv
theorem fw_congr {P T : List (List Int)} {φ ψ : Int → Option Int} (h : ∀ v : Nat, v < 10 → φ (v : Int) = ψ (v : Int)) : fw P T φ = fw P T ψ := by
  unfold fw
  rw [fwTo_sum, fwTo_sum]
  exact sumTo_congr fun q _ => by rw [agr_congr h]
theorem fw_anti {P T : List (List Int)} {φ ψ : Int → Option Int} (hn : IsNet P T) (h : ∀ v : Nat, v < 10 → φ (v : Int) = none ∨ φ (v : Int) = ψ (v : Int)) : fw P T ψ ≤ fw P T φ := by
  unfold fw
  generalize 2 ^ P.length = m
  induction m with
  | zero => exact Int.le_refl _
  | succ m ih =>
    rw [fwTo, fwTo]
    have hw := wt_le hn (bitv_Bits P.length m) P.length (Nat.le_refl _)
    by_cases e : agr ψ (bitv P.length m) = true
    · have e2 : agr φ (bitv P.length m) = true := by
        unfold agr at e ⊢
        rw [decide_eq_true_eq] at e ⊢
        intro v hv
        rcases h v hv with q | q
        · exact .inl q
        · rw [q]; exact e v hv
      rw [if_pos e, if_pos e2]; omega
    · rw [if_neg e]
      split <;> omega
theorem fw_top {P T : List (List Int)} (hn : IsNet P T) (φ : Int → Option Int) : fw P T φ ≤ 16 ^ P.length := by
  rw [← fw_none hn]
  exact fw_anti hn fun _ _ => .inl rfl

theorem look_snoc (g : List (Int × Int)) (p : Int × Int) (z : Int) : look (g ++ [p]) z = if z = p.1 then some p.2 else look g z := by
  have h : ∀ k, k ≤ g.length → lookTo (g ++ [p]) k z = lookTo g k z := by
    intro k
    induction k with
    | zero => intro _; rfl
    | succ k ih =>
      intro hk
      simp only [lookTo]
      rw [pf_snoc, pv_snoc, if_neg (show ¬ k = g.length by omega), if_neg (show ¬ k = g.length by omega), ih (by omega)]
  unfold look
  rw [List.length_append]
  show lookTo (g ++ [p]) (g.length + 1) z = _
  simp only [lookTo]
  rw [pf_snoc, pv_snoc, if_pos rfl, if_pos rfl, h _ (Nat.le_refl _)]

theorem look_two (x y : Nat) (a c : Int) (z : Int) : look [((x : Int), a), ((y : Int), c)] z = if z = (y : Int) then some c else if z = (x : Int) then some a else none := by
  simp [look, lookTo, pf, pv]

theorem goodPair_one {n v : Nat} {c : Int} (hv : v < n) (hc : c = 0 ∨ c = 1) : okFacts [((v : Int), c)] n = true := decide_eq_true fun i hi => by
  have : i = 0 := by simp at hi; exact hi
  subst this
  exact ⟨by simp [pf]; omega, by simpa [pv] using hc, fun j hj => absurd hj (by omega)⟩
theorem goodPair_two {n x y : Nat} {c : Int} (hx : x < n) (hy : y < n) (hxy : x ≠ y) (hc : c = 0 ∨ c = 1) : okFacts [((x : Int), (1 : Int)), ((y : Int), c)] n = true := decide_eq_true fun i hi => by
  have hi2 : i = 0 ∨ i = 1 := by simp at hi; omega
  rcases hi2 with rfl | rfl
  · exact ⟨by simp [pf]; omega, .inr (by simp [pv]), fun j hj => absurd hj (by omega)⟩
  · refine ⟨by simp [pf]; omega, by simpa [pv] using hc, fun j hj => ?_⟩
    have : j = 0 := by omega
    subst this
    simp [pf]
    omega
theorem okFacts_snoc {g : List (Int × Int)} {n x : Nat} {c : Int} (h : okFacts g n = true) (hx : x < n) (hc : c = 0 ∨ c = 1) (ha : ∀ i, i < g.length → pf g i ≠ (x : Int)) : okFacts (g ++ [((x : Int), c)]) n = true := decide_eq_true fun i hi => by
  have hg := okFacts_good h
  rw [List.length_append] at hi
  simp at hi
  by_cases e : i = g.length
  · subst e
    refine ⟨by rw [pf_snoc, if_pos rfl]; simp; omega, by rw [pv_snoc, if_pos rfl]; exact hc, fun j hj => ?_⟩
    rw [pf_snoc, pf_snoc, if_neg (by omega), if_pos rfl]
    exact ha j hj
  · have hi2 : i < g.length := by omega
    obtain ⟨q1, q2, q3⟩ := hg i hi2
    refine ⟨by rw [pf_snoc, if_neg e]; exact q1, by rw [pv_snoc, if_neg e]; exact q2, fun j hj => ?_⟩
    rw [pf_snoc, pf_snoc, if_neg (by omega), if_neg e]
    exact q3 j hj

/-- What the three chances are. -/
structure ChainSays (P T : List (List Int)) (g : List (Int × Int)) (x y : Nat) (c N Nx Nxy : Int) : Prop where
  bd : (0 ≤ Nxy ∧ Nxy ≤ Nx) ∧ Nx ≤ N ∧ N ≤ 16 ^ P.length
  none : N = 0 → (chV P T [((x : Int), (1 : Int)), ((y : Int), c)] g = zeroF ∧ chE P T [((x : Int), (1 : Int)), ((y : Int), c)] g = 6) ∧ (chV P T [((x : Int), (1 : Int))] g = zeroF ∧ chE P T [((x : Int), (1 : Int))] g = 6)
  some : ¬ N = 0 → (chV P T [((x : Int), (1 : Int)), ((y : Int), c)] g = fracV Nxy N ∧ chE P T [((x : Int), (1 : Int)), ((y : Int), c)] g = 0) ∧ (chV P T [((x : Int), (1 : Int))] g = fracV Nx N ∧ chE P T [((x : Int), (1 : Int))] g = 0)
  none2 : Nx = 0 → chV P T [((y : Int), c)] (g ++ [((x : Int), (1 : Int))]) = zeroF ∧ chE P T [((y : Int), c)] (g ++ [((x : Int), (1 : Int))]) = 6
  some2 : ¬ Nx = 0 → chV P T [((y : Int), c)] (g ++ [((x : Int), (1 : Int))]) = fracV Nxy Nx ∧ chE P T [((y : Int), c)] (g ++ [((x : Int), (1 : Int))]) = 0

theorem chain_says {P T : List (List Int)} {g : List (Int × Int)} {x y : Nat} {c : Int} (hn : IsNet P T) (hg : okFacts g P.length = true) (ha : Avoids g (x : Int) (y : Int)) (hx : x < P.length) (hy : y < P.length) (hxy : x ≠ y) (hc : c = 0 ∨ c = 1) :
    ∃ N Nx Nxy, ChainSays P T g x y c N Nx Nxy := by
  have h10 := hn.le
  obtain ⟨lx, ly⟩ := look_avoid ha
  have okx := goodPair_one hx (c := 1) (.inr rfl)
  have oky := goodPair_one hy hc
  have oka := goodPair_two hx hy hxy hc
  have oks := okFacts_snoc hg hx (c := 1) (.inr rfl) (fun i hi => (ha i hi).1)
  have ex : ∀ v : Nat, v < 10 → union (look [((x : Int), (1 : Int))]) (look g) (v : Int) = look (g ++ [((x : Int), (1 : Int))]) (v : Int) := by
    intro v _
    rw [look_snoc, look_pair]
    unfold union isF
    by_cases e : v = x
    · subst e; rw [lx]
    · have hne : ¬ (v : Int) = (x : Int) := by omega
      cases look g (v : Int) <;> simp [hne]
  have exy : ∀ v : Nat, v < 10 → union (look [((x : Int), (1 : Int)), ((y : Int), c)]) (look g) (v : Int) = union (look [((y : Int), c)]) (look (g ++ [((x : Int), (1 : Int))])) (v : Int) := by
    intro v _
    unfold union
    rw [look_snoc, look_pair, look_two]
    unfold isF
    by_cases e : v = x
    · have hne : ¬ (v : Int) = (y : Int) := by omega
      subst e; rw [lx]; simp [hne]
    · have hne : ¬ (v : Int) = (x : Int) := by omega
      cases look g (v : Int) <;> simp [hne]
  have c1 : cmp (look [((x : Int), (1 : Int))]) (look g) = true := decide_eq_true fun v _ => by
    rw [look_pair]; unfold isF
    by_cases e : v = x
    · subst e; exact .inr (.inl lx)
    · left; rw [if_neg (by omega)]
  have c2 : cmp (look [((x : Int), (1 : Int)), ((y : Int), c)]) (look g) = true := decide_eq_true fun v _ => by
    rw [look_two]
    by_cases e : v = x
    · subst e; exact .inr (.inl lx)
    · by_cases e2 : v = y
      · subst e2; exact .inr (.inl ly)
      · left; rw [if_neg (by omega), if_neg (by omega)]
  have c3 : cmp (look [((y : Int), c)]) (look (g ++ [((x : Int), (1 : Int))])) = true := decide_eq_true fun v _ => by
    rw [look_pair, look_snoc]; unfold isF
    by_cases e : v = y
    · subst e; right; left; rw [if_neg (by simp; omega)]; exact ly
    · left; rw [if_neg (by omega)]
  refine ⟨fw P T (look g), fw P T (look (g ++ [((x : Int), (1 : Int))])), fw P T (union (look [((y : Int), c)]) (look (g ++ [((x : Int), (1 : Int))]))), ⟨⟨(fw_bd hn).1, ?_⟩, ?_, fw_top hn _⟩, ?_, ?_, ?_, ?_⟩
  · refine fw_anti hn fun v _ => ?_
    unfold union
    cases look (g ++ [((x : Int), (1 : Int))]) (v : Int) with
    | none => exact .inl rfl
    | some c => exact .inr rfl
  · refine fw_anti hn fun v _ => ?_
    rw [look_snoc]
    by_cases e : v = x
    · subst e; exact .inl lx
    · right; rw [if_neg (by simp; omega)]
  · exact fun h => ⟨ch_zero oka hg h, ch_zero okx hg h⟩
  · intro h
    obtain ⟨a1, a2⟩ := ch_yes (P := P) (T := T) oka hg h c2
    obtain ⟨b1, b2⟩ := ch_yes (P := P) (T := T) okx hg h c1
    rw [fw_congr exy] at a1
    rw [fw_congr ex] at b1
    exact ⟨⟨a1, a2⟩, b1, b2⟩
  · exact fun h => ch_zero oky oks h
  · exact fun h => ch_yes oky oks h c3

/-- The product of the two reduced fractions. -/
theorem chain_times {N Nx Nxy a b d e t s : Int} (h1 : a * t = Nx) (h2 : b * t = N) (h3 : d * s = Nxy) (h4 : e * s = Nx) (ht : 1 ≤ t) (hs : 1 ≤ s) (hb : 1 ≤ b) (he : 1 ≤ e) (hN : 1 ≤ N) : fracV (a * d) (b * e) = fracV Nxy N := by
  refine frac_cross ?_ (Int.mul_pos (by omega) (by omega)) hN
  refine Int.eq_of_mul_eq_mul_right (a := t * s) (by have := Int.mul_pos (a := t) (b := s) (by omega) (by omega); omega) ?_
  have k1 : a * d * N * (t * s) = (a * t) * (d * s) * N := by
    rw [Int.mul_right_comm (a * d) N, Int.mul_assoc a d, Int.mul_left_comm d t s, ← Int.mul_assoc a t]
  have k2 : Nxy * (b * e) * (t * s) = Nxy * ((b * t) * (e * s)) := by
    rw [Int.mul_assoc, Int.mul_assoc b e, Int.mul_left_comm e t s, ← Int.mul_assoc b t]
  rw [k1, k2, h1, h2, h3, h4, Int.mul_comm Nx Nxy, Int.mul_assoc, Int.mul_comm Nx N]

end Go.Proofs.Ytghffnjnpgiicaa
