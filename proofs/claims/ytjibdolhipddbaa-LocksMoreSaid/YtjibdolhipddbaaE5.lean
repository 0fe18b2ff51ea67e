/- Merging, plain; the rows kept and the numbers, side by side in new memory. -/
import Derived.Test.YtjibdolhipddbaaE4
import Derived.Test.YtjibdolhipddbaaE2
namespace Go.Proofs.Ytjibdolhipddbaa
open Go.RowKit Go.Maps

/-- The rows that are kept of the first i. -/
def mgK (a : List (List Int)) : Nat → List (List Int)
  | 0 => []
  | i + 1 => if row a i ∈ mgK a i then mgK a i else mgK a i ++ [row a i]
/-- The number of a row among those kept (how many there are, if it is not). -/
def mgI (a : List (List Int)) (i : Nat) : Nat := (mgK a i).idxOf (row a i)
def mgN (a : List (List Int)) : Nat → List Int
  | 0 => []
  | i + 1 => mgN a i ++ [((mgI a i : Nat) : Int)]
theorem mgN_len (a : List (List Int)) : ∀ i, (mgN a i).length = i
  | 0 => rfl
  | i + 1 => by rw [mgN, List.length_append, mgN_len a i]; rfl
theorem mgK_len (a : List (List Int)) : ∀ i, (mgK a i).length ≤ i
  | 0 => Nat.le_refl _
  | i + 1 => by
    have := mgK_len a i
    rw [mgK]
    split
    · omega
    · rw [List.length_append]; simp; omega
theorem row_mem {X : List (List Int)} {q : Nat} (h : q < X.length) : row X q ∈ X := by
  unfold row; rw [List.getD_eq_getElem?_getD, List.getElem?_eq_getElem h]; exact List.getElem_mem h
theorem mem_row {X : List (List Int)} {x : List Int} (h : x ∈ X) : ∃ q, q < X.length ∧ row X q = x := by
  obtain ⟨q, hq, e⟩ := List.getElem_of_mem h
  exact ⟨q, hq, by rw [← e]; simp [row, List.getD_eq_getElem?_getD, hq]⟩
theorem idx_at : ∀ (X : List (List Int)) (x : List Int) (k : Nat), k < X.length → row X k = x → (∀ q, q < k → row X q ≠ x) → X.idxOf x = k
  | [], _, _, h, _, _ => by simp at h
  | y :: X, x, 0, _, e, _ => by
    have e' : y = x := e
    rw [e', List.idxOf_cons_self]
  | y :: X, x, k + 1, h, e, hq => by
    have hy : y ≠ x := hq 0 (by omega)
    have ih := idx_at X x k (by simpa using h) e fun q hk => hq (q + 1) (by omega)
    rw [List.idxOf_cons]
    rw [show (y == x) = false from beq_eq_false_iff_ne.2 hy]
    simp [ih]
theorem mg_at {a : List (List Int)} {i k : Nat} (hk : k < (mgK a i).length) (e : row (mgK a i) k = row a i) (hq : ∀ q, q < k → row (mgK a i) q ≠ row a i) : mgI a i = k ∧ mgK a (i + 1) = mgK a i :=
  ⟨idx_at _ _ _ hk e hq, by rw [mgK, if_pos (by rw [← e]; exact row_mem hk)]⟩
theorem mg_new {a : List (List Int)} {i : Nat} (hq : ∀ q, q < (mgK a i).length → row (mgK a i) q ≠ row a i) : mgI a i = (mgK a i).length ∧ mgK a (i + 1) = mgK a i ++ [row a i] := by
  have hn : row a i ∉ mgK a i := fun h => by
    obtain ⟨q, h1, h2⟩ := mem_row h
    exact hq q h1 h2
  exact ⟨List.idxOf_eq_length hn, by rw [mgK, if_neg hn]⟩
theorem mgK_rows {a : List (List Int)} : ∀ i, i ≤ a.length → ∀ x ∈ mgK a i, ∃ q, q < a.length ∧ row a q = x
  | 0, _, x, h => by simp [mgK] at h
  | i + 1, hi, x, h => by
    rw [mgK] at h
    split at h
    · exact mgK_rows i (by omega) x h
    · rcases List.mem_append.1 h with h | h
      · exact mgK_rows i (by omega) x h
      · exact ⟨i, by omega, (List.mem_singleton.1 h).symm⟩

/-- Rows kept and numbers in new memory, no row in the numbers' block. -/
structure Mg (B : Nat) (w : World) (v u : Value) (X : List (List Int)) (N : List Int) : Prop where
  ex : ∃ vs : List Value, w.ownsRow B 34 1 v X.length vs ∧ (∀ j, j < X.length → ∃ x, vs[j]? = some x ∧ NewInts B w x (row X j) ∧ (x.ownBlock = none ∨ x.ownBlock ≠ u.ownBlock)) ∧ ∀ x ∈ vs, x.oneCell' = true
  num : NewInts B w u N

theorem Mg.nil (B : Nat) (w : World) : Mg B w (.slice none 0 0) (.slice none 0 0) [] [] :=
  ⟨⟨[], World.ownsRow_nil _ _ _ _, fun j hj => absurd hj (by simp), fun u hu => by cases hu⟩, NewInts.nil _ _⟩
theorem Mg.rows {B : Nat} {w : World} {v u : Value} {X : List (List Int)} {N : List Int} (h : Mg B w v u X N) : NewRows B w v X :=
  let ⟨vs, h1, h2, h3⟩ := h.ex; ⟨vs, h1, fun j hj => let ⟨x, a, b, _⟩ := h2 j hj; ⟨x, a, b⟩, h3⟩
theorem Mg.below {B M : Nat} {w w' : World} {v u : Value} {X : List (List Int)} {N : List Int} (h : Mg B w v u X N) (hb : Below M w w') (hM : w.heap.size ≤ M) : Mg B w' v u X N := by
  obtain ⟨vs, h1, h2, h3⟩ := h.ex
  exact ⟨⟨vs, ownsRow_below h1 hb hM, fun j hj => let ⟨x, a, b, c⟩ := h2 j hj; ⟨x, a, b.below hb hM, c⟩, h3⟩, h.num.below hb hM⟩
/-- A number is added. -/
theorem Mg.number {B : Nat} {w w' : World} {v u u' : Value} {X : List (List Int)} {N : List Int} {n : Int} (h : Mg B w v u X N) (hw : w'.ownsRow B 3 1 u' (N.length + 1) (N.map (Value.int .i64) ++ [.int .i64 n])) (hg : w.grownBy w' u.ownBlock)
    (hloc : u'.ownBlock = u.ownBlock ∨ u'.ownBlock = some w.heap.size) (hn : -9223372036854775808 ≤ n ∧ n ≤ 9223372036854775807) (hl : N.length ≤ 100) : Mg B w' v u' X (N ++ [n]) := by
  obtain ⟨vs, h1, h2, h3⟩ := h.ex
  have hv : v.ownBlock = none ∨ v.ownBlock ≠ u.ownBlock := by
    rcases own_apart h.num h1 with e | e
    · by_cases q : v.ownBlock = none
      · exact .inl q
      · right; rw [e]; exact q
    · exact .inr fun q => e q.symm
  refine ⟨⟨vs, h1.kept hg hv, fun j hj => ?_, h3⟩, ⟨by simpa using hw, fun i => ?_, by simp; omega⟩⟩
  · obtain ⟨x, a, b, c⟩ := h2 j hj
    refine ⟨x, a, b.kept hg c, ?_⟩
    rcases hloc with e | e
    · rw [e]; exact c
    · rcases b.own.2 with ⟨rfl, -⟩ | ⟨g, cp, cur, rfl, -, hh, -⟩
      · exact .inl rfl
      · right
        rw [e]
        have := lt_of_block hh
        simp [Value.ownBlock]
        omega
  · by_cases e : i < N.length
    · rw [show nth (N ++ [n]) i = nth N i by simp [nth, List.getD_eq_getElem?_getD, List.getElem?_append, e]]; exact h.num.wf i
    · by_cases e2 : i = N.length
      · rw [e2, show nth (N ++ [n]) N.length = n by simp [nth, List.getD_eq_getElem?_getD]]; exact hn
      · rw [nth_out (by simp; omega)]; omega

end Go.Proofs.Ytjibdolhipddbaa
