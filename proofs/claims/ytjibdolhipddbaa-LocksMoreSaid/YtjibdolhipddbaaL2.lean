/- Plan and Least, in plain words; what one depth allows; what more of a kind allows. -/
import Derived.Test.YtjibdolhipddbaaL1
import Derived.Test.YtjibdolhipddbaaC4
namespace Go.Proofs.Ytjibdolhipddbaa
open Go.RowKit

def PosA (a : List (List Int)) (d c : Nat) : Prop := Pos a.length (row a 0).length (mt a) d c
/-- The same, without sets of bits. -/
theorem posA_iff {a : List (List Int)} (ha : IsPlan a) {d c : Nat} : PosA a d c ↔ ∃ Z : Nat → Nat → Int, (∀ q, q < c → ∀ i, i < a.length → 1 ≤ Z q i ∧ Z q i ≤ d) ∧
    ∀ i, i < a.length → ∀ j, j < (row a 0).length → nth (row a i) j ≠ 1 → ∃ q, q < c ∧ ∀ o, o < a.length → nth (row a o) j = 1 → Z q o ≠ Z q i := by
  have hl := ha.le0
  unfold PosA Pos
  constructor
  · rintro ⟨Z, h1, h2⟩
    refine ⟨Z, h1, fun i hi j hj hn => ?_⟩
    obtain ⟨q, hq, h⟩ := h2 i hi j hj (by rw [mt_at _ _ _ (by omega)]; exact decide_eq_false hn)
    exact ⟨q, hq, fun o ho h1 => h o ho (by rw [mt_at _ _ _ (by omega)]; exact decide_eq_true h1)⟩
  · rintro ⟨Z, h1, h2⟩
    refine ⟨Z, h1, fun i hi j hj hn => ?_⟩
    rw [mt_at _ _ _ (by omega)] at hn
    obtain ⟨q, hq, h⟩ := h2 i hi j hj (of_decide_eq_false hn)
    refine ⟨q, hq, fun o ho h1 => h o ho ?_⟩
    rw [mt_at _ _ _ (by omega)] at h1
    exact of_decide_eq_true h1

/-- n is the least number of chambers, up to 4, or 0. -/
def LeastIs (a : List (List Int)) (d n : Nat) : Prop := (n = 0 ∧ ∀ c, 1 ≤ c → c ≤ 4 → ¬ PosA a d c) ∨ (1 ≤ n ∧ n ≤ 4 ∧ PosA a d n ∧ ∀ c, 1 ≤ c → c < n → ¬ PosA a d c)

theorem covA_iff {a : List (List Int)} (ha : IsPlan a) {d c : Nat} (hd : 1 ≤ d) (hd4 : d ≤ 4) : (∃ Y, CovA a d c Y) ↔ PosA a d c := cov_iff ha.le ha.le0 hd hd4

theorem least_pos (a : List (List Int)) (d : Nat) (ao : Option Addr) (b o cap : Nat) (A : Nat → Option Addr) (B O C : Nat → Nat) (w : World) (H : RowsAt w ao b o a A B O C) (hp : IsPlan a) (hd : 1 ≤ d ∧ d ≤ 4) :
    Calls Try.prog 13 #[.slice ao a.length cap, .int .i64 d] w fun e w' =>
      (∃ n : Nat, e = .returned (.tuple #[.int .i64 n, .int .i64 0]) ∧ LeastIs a d n) ∧ Below w.heap.size w w' := by
  refine (least_ok a d ao b o cap A B O C w H hp hd).mono ?_
  rintro e w' ⟨⟨n, h1, h2⟩, h3⟩
  refine ⟨⟨n, h1, ?_⟩, h3⟩
  simp only [covA_iff hp hd.1 hd.2] at h2
  exact h2

theorem plan_pos (a : List (List Int)) (c d : Nat) (ao : Option Addr) (b o cap : Nat) (A : Nat → Option Addr) (B O C : Nat → Nat) (w : World) (H : RowsAt w ao b o a A B O C) (hp : IsPlan a) (hc : 1 ≤ c ∧ c ≤ 4) (hd : 1 ≤ d ∧ d ≤ 4) :
    Calls Try.prog 12 #[.slice ao a.length cap, .int .i64 c, .int .i64 d] w fun e w' =>
      (∃ v k, e = .returned (.tuple #[v, .int .i64 k]) ∧ ((k = 6 ∧ v = .slice none 0 0 ∧ ¬ PosA a d c) ∨ (k = 0 ∧ PosA a d c ∧ ∃ Y, CovA a d c Y ∧ NewRows w.heap.size w' v (cutsL Y c a.length)))) ∧ Below w.heap.size w w' := by
  refine (plan_ok a c d ao b o cap A B O C w H hp hc hd).mono ?_
  rintro e w' ⟨h | ⟨v, Y, h1, h2, h3⟩, hb⟩
  · refine ⟨⟨_, _, h.1, .inl ⟨rfl, rfl, ?_⟩⟩, hb⟩
    rw [← covA_iff hp hd.1 hd.2]; exact h.2
  · refine ⟨⟨_, _, h1, .inr ⟨rfl, ?_, Y, h2, h3⟩⟩, hb⟩
    rw [← covA_iff hp hd.1 hd.2]; exact ⟨Y, h2⟩

/-- With one depth. -/
theorem pos_one {a : List (List Int)} (ha : IsPlan a) {c : Nat} (hc : 1 ≤ c) : PosA a 1 c ↔ ∀ i j k, i < a.length → j < (row a 0).length → k < a.length → nth (row a i) j = 1 ∨ nth (row a k) j = 0 := by
  rw [posA_iff ha]
  constructor
  · rintro ⟨Z, h1, h2⟩ i j k hi hj hk
    by_cases h : nth (row a i) j = 1
    · exact .inl h
    · obtain ⟨q, hq, hs⟩ := h2 i hi j hj h
      rcases ha.bit k hk j (by rw [ha.len k hk]; exact hj) with e | e
      · exact .inr e
      · have := hs k hk e
        have b1 := h1 q hq k hk
        have b2 := h1 q hq i hi
        omega
  · intro h
    refine ⟨fun _ _ => 1, fun _ _ _ _ => ⟨by show (1 : Int) ≤ 1; omega, by show (1 : Int) ≤ _; omega⟩, fun i hi j hj hn => ⟨0, by omega, fun o ho h1 => ?_⟩⟩
    rcases h i j o hi hj ho with e | e
    · exact absurd e hn
    · omega

theorem pos_equal {a : List (List Int)} (ha : IsPlan a) {d c : Nat} (hd : 1 ≤ d) (hc : 1 ≤ c) (h : ∀ i j k, i < a.length → j < (row a 0).length → k < a.length → nth (row a i) j = nth (row a k) j) : PosA a d c := by
  rw [posA_iff ha]
  refine ⟨fun _ _ => 1, fun _ _ _ _ => ⟨by show (1 : Int) ≤ 1; omega, by show (1 : Int) ≤ _; omega⟩, fun i hi j hj hn => ⟨0, by omega, fun o ho h1 => ?_⟩⟩
  rw [h i j o hi hj ho] at hn
  exact absurd h1 hn

theorem least_one {a : List (List Int)} (ha : IsPlan a) {n : Nat} (h : LeastIs a 1 n) : n ≤ 1 ∧ (n = 1 ↔ ∀ i j k, i < a.length → j < (row a 0).length → k < a.length → nth (row a i) j = 1 ∨ nth (row a k) j = 0) := by
  rcases h with ⟨rfl, h⟩ | ⟨h1, h2, h3, h4⟩
  · refine ⟨by omega, fun q => by omega, fun q => absurd ((pos_one ha (Nat.le_refl 1)).2 q) (h 1 (by omega) (by omega))⟩
  · have hf := (pos_one ha h1).1 h3
    have h5 : n ≤ 1 := by
      by_cases q : n ≤ 1
      · exact q
      · exact absurd ((pos_one ha (Nat.le_refl 1)).2 hf) (h4 1 (by omega) (by omega))
    exact ⟨h5, fun _ => hf, fun _ => by omega⟩

theorem least_equal {a : List (List Int)} (ha : IsPlan a) {d n : Nat} (hd : 1 ≤ d) (h : LeastIs a d n) (he : ∀ i j k, i < a.length → j < (row a 0).length → k < a.length → nth (row a i) j = nth (row a k) j) : n = 1 := by
  have h1 := pos_equal ha hd (Nat.le_refl 1) he
  rcases h with ⟨rfl, h⟩ | ⟨h2, h3, h4, h5⟩
  · exact absurd h1 (h 1 (by omega) (by omega))
  · by_cases q : n = 1
    · exact q
    · exact absurd h1 (h5 1 (by omega) (by omega))

/-- One chamber, or one depth, more. -/
theorem pos_chamber {a : List (List Int)} {d c c' : Nat} (hd : 1 ≤ d) (hc : c ≤ c') (h : PosA a d c) : PosA a d c' := by
  obtain ⟨Z, h1, h2⟩ := h
  refine ⟨fun q i => if q < c then Z q i else 1, fun q hq i hi => ?_, fun i hi j hj hn => ?_⟩
  · by_cases e : q < c
    · simp only [e, if_true]; exact h1 q e i hi
    · simp only [e, if_false]; omega
  · obtain ⟨q, hq, hs⟩ := h2 i hi j hj hn
    refine ⟨q, by omega, fun o ho hm => ?_⟩
    simp only [hq, if_true]
    exact hs o ho hm
theorem pos_depth {a : List (List Int)} {d d' c : Nat} (hd : d ≤ d') (h : PosA a d c) : PosA a d' c := by
  obtain ⟨Z, h1, h2⟩ := h
  exact ⟨Z, fun q hq i hi => by have := h1 q hq i hi; omega, h2⟩

/-- What is possible of one plan is possible of another one, whose keys are among its keys and locks among its locks. -/
theorem pos_part {a m : List (List Int)} (ha : IsPlan a) (hm : IsPlan m) {d c : Nat} (g p : Nat → Nat) (hg : ∀ i, i < m.length → g i < a.length) (hp : ∀ j, j < (row m 0).length → p j < (row a 0).length)
    (hr : ∀ i, i < m.length → ∀ j, j < (row m 0).length → nth (row m i) j = nth (row a (g i)) (p j)) (h : PosA a d c) : PosA m d c := by
  rw [posA_iff ha] at h
  rw [posA_iff hm]
  obtain ⟨Z, h1, h2⟩ := h
  refine ⟨fun q i => Z q (g i), fun q hq i hi => h1 q hq _ (hg i hi), fun i hi j hj hn => ?_⟩
  rw [hr i hi j hj] at hn
  obtain ⟨q, hq, hs⟩ := h2 _ (hg i hi) _ (hp j hj) hn
  exact ⟨q, hq, fun o ho h1 => hs _ (hg o ho) (by rw [← hr o ho j hj]; exact h1)⟩

theorem least_part {a m : List (List Int)} (ha : IsPlan a) (hm : IsPlan m) {d n k : Nat} (g p : Nat → Nat) (hg : ∀ i, i < m.length → g i < a.length) (hp : ∀ j, j < (row m 0).length → p j < (row a 0).length)
    (hr : ∀ i, i < m.length → ∀ j, j < (row m 0).length → nth (row m i) j = nth (row a (g i)) (p j)) (h : LeastIs a d n) (hn : 1 ≤ n) (hk : LeastIs m d k) : 1 ≤ k ∧ k ≤ n := by
  rcases h with ⟨h1, _⟩ | ⟨h1, h2, h3, h4⟩
  · omega
  · have hP := pos_part ha hm g p hg hp hr h3
    rcases hk with ⟨rfl, h5⟩ | ⟨h5, h6, h7, h8⟩
    · exact absurd hP (h5 n h1 h2)
    · refine ⟨h5, ?_⟩
      by_cases q : k ≤ n
      · exact q
      · exact absurd hP (h8 n h1 (by omega))

theorem least_inj {a m : List (List Int)} {d n k : Nat} (hpm : ∀ c, PosA a d c ↔ PosA m d c) (h : LeastIs a d n) (hk : LeastIs m d k) : k = n := by
  rcases h with ⟨rfl, h⟩ | ⟨h1, h2, h3, h4⟩
  · rcases hk with ⟨rfl, _⟩ | ⟨h5, h6, h7, h8⟩
    · rfl
    · exact absurd ((hpm k).2 h7) (h k h5 h6)
  · rcases hk with ⟨rfl, h5⟩ | ⟨h5, h6, h7, h8⟩
    · exact absurd ((hpm n).1 h3) (h5 n h1 h2)
    · by_cases e : k < n
      · exact absurd ((hpm k).2 h7) (h4 k h5 e)
      · by_cases e2 : n < k
        · exact absurd ((hpm n).1 h3) (h8 n h1 e2)
        · omega

theorem least_depth {a : List (List Int)} {d n k : Nat} (h : LeastIs a d n) (hn : 1 ≤ n) (hk : LeastIs a (d + 1) k) : 1 ≤ k ∧ k ≤ n := by
  rcases h with ⟨h1, _⟩ | ⟨h1, h2, h3, h4⟩
  · omega
  · have hP := pos_depth (Nat.le_succ d) h3
    rcases hk with ⟨rfl, h5⟩ | ⟨h5, h6, h7, h8⟩
    · exact absurd hP (h5 n h1 h2)
    · refine ⟨h5, ?_⟩
      by_cases q : k ≤ n
      · exact q
      · exact absurd hP (h8 n h1 (by omega))

theorem least_from {a : List (List Int)} {d n : Nat} (hd : 1 ≤ d) (h : LeastIs a d n) (hn : 1 ≤ n) {c : Nat} (hc : 1 ≤ c) : PosA a d c ↔ n ≤ c := by
  rcases h with ⟨h1, _⟩ | ⟨h1, h2, h3, h4⟩
  · omega
  · constructor
    · intro hp
      by_cases q : n ≤ c
      · exact q
      · exact absurd hp (h4 c hc (by omega))
    · exact fun q => pos_chamber hd q h3

end Go.Proofs.Ytjibdolhipddbaa
