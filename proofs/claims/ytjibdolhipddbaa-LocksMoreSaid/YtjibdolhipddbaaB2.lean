/- Lists of colourings in new memory; what a slice literal and a comparison of colourings do. -/
import Derived.Test.YtjibdolhipddbaaB1
import Derived.Laws.StructEq
namespace Go.Proofs.Ytjibdolhipddbaa
open Go.RowKit

theorem Try.info84 : (Try.prog.info? 84).map (fun i => (i.zero, i.size, i.bytes)) = some (some (.agg #[.int .i64 0, .int .i64 0, .int .i64 0, .int .i64 0, .int .i64 0, .int .i64 0]), 6, 48) := by kernel_rfl

theorem build_col (c : Nat → Int) (w : World) : (Instr.buildSlice 67 1 #[(0, .agg (colC c))]).run Try.prog w = .ok (.slice (some ⟨w.heap.size, 0, none⟩) 1 1) (w.alloc (.cells (colC c) 84)) := by
  obtain ⟨i0, hi, hz0, hz1, hz2⟩ := info_parts Try.info84
  refine run_buildSlice w _ 84 1 _ (colC c) i0 _ Try.underlying67 hi hz0 (by rw [hz1]; omega) (by rw [hz1]; omega) ?_
  rw [hz1]
  kernel_rfl

theorem part_col (c : Nat → Int) (i : Nat) (hi : i < 6) (w : World) : (part 3 (colC c) (i * Try.prog.cellsOf 3)).run Try.prog w = .ok (.int .i64 (c i)) w := by
  obtain rfl | rfl | rfl | rfl | rfl | rfl : i = 0 ∨ i = 1 ∨ i = 2 ∨ i = 3 ∨ i = 4 ∨ i = 5 := by omega
  · kernel_rfl
  · kernel_rfl
  · kernel_rfl
  · kernel_rfl
  · kernel_rfl
  · kernel_rfl
theorem items_col (c d : Nat → Int) (w : World) (n : Nat) : ∀ is : List Nat, (∀ i ∈ is, i < 6) → (Op.eqItems (n + 1) 3 (Try.prog.cellsOf 3) (colC c) (colC d) is).run Try.prog w = .ok (is.all fun i => c i == d i) w
  | [], _ => rfl
  | i :: is, h => by
    simp only [Op.eqItems, Sem.run_bind, part_col c i (h i (by simp)) w, part_col d i (h i (by simp)) w, Result.andThen_ok, run_equalIn_int w n 3 .i64 .i64 (c i) (d i) Try.underlying3]
    cases e : c i == d i
    · simp [e]
    · simp only [Bool.not_true, Bool.false_eq_true, if_false, List.all_cons, e, Bool.true_and]
      exact items_col c d w n is fun j hj => h j (by simp [hj])
/-- Whether two colourings are the same. -/
def sameB (c d : Nat → Int) : Bool := (List.range 6).all fun i => c i == d i
theorem sameB_iff (c d : Nat → Int) : sameB c d = true ↔ ∀ i, i < 6 → c i = d i := by simp [sameB]
theorem eq_col (c d : Nat → Int) (w : World) : (Go.binOp .eql 84 (Value.agg (colC c)) (Value.agg (colC d))).run Try.prog w = Result.ok (Value.bool (sameB c d)) w := by
  obtain ⟨i0, hi, -⟩ := info_parts Try.info3
  rw [run_eql_struct, run_equalIn_array w 9999 (colC c) (colC d) Try.underlying84 hi, items_col c d w 9998 _ (fun i hi => List.mem_range.1 hi)]
  rfl

/-- The cells of colourings, one behind the other. -/
def flatC (X : List (List Int)) : List Value := X.flatMap fun x => colL (nth x)
theorem flatC_len (X : List (List Int)) : (flatC X).length = X.length * 6 := by
  induction X with
  | nil => rfl
  | cons x X ih =>
    have : flatC (x :: X) = colL (nth x) ++ flatC X := rfl
    rw [this, List.length_append, ih, colL_len, List.length_cons]; omega
theorem flatC_snoc (X : List (List Int)) (x : List Int) : flatC (X ++ [x]) = flatC X ++ colL (nth x) := by simp [flatC]
theorem flatC_get : ∀ (X : List (List Int)) (i j : Nat), i < X.length → j < 6 → (flatC X)[i * 6 + j]? = (colL (nth (row X i)))[j]?
  | [], i, _, h, _ => by simp at h
  | x :: X, 0, j, _, hj => by
    have : flatC (x :: X) = colL (nth x) ++ flatC X := rfl
    rw [this, Nat.zero_mul, Nat.zero_add, List.getElem?_append_left (by rw [colL_len]; exact hj)]
    rfl
  | x :: X, i + 1, j, h, hj => by
    have : flatC (x :: X) = colL (nth x) ++ flatC X := rfl
    rw [this, List.getElem?_append_right (by rw [colL_len]; omega), colL_len, show (i + 1) * 6 + j - 6 = i * 6 + j by omega, flatC_get X i j (by simpa using h) hj]
    rfl
theorem flatC_one (X : List (List Int)) : ∀ u ∈ flatC X, u.oneCell' = true := by
  intro u hu
  obtain ⟨x, -, hx⟩ := List.mem_flatMap.1 hu
  obtain ⟨i, -, rfl⟩ := List.mem_map.1 hx
  rfl

/-- A slice of colourings in memory that is new since the heap had B blocks. -/
structure NewCols (B : Nat) (w : World) (v : Value) (X : List (List Int)) : Prop where
  own : w.ownsRow B 84 6 v X.length (flatC X)
  len : X.length ≤ 1048576

theorem NewCols.nil (B : Nat) (w : World) : NewCols B w (.slice none 0 0) [] := ⟨⟨rfl, .inl ⟨rfl, rfl⟩⟩, by simp⟩
theorem NewCols.at {B : Nat} {w : World} {v : Value} {X : List (List Int)} (h : NewCols B w v X) :
    ∃ ao b cap, v = .slice ao X.length cap ∧ ColsAt w ao b 0 X ∧ (0 < X.length → B ≤ b) ∧ X.length ≤ cap ∧ (∀ i, i < X.length → w.there b (i * 6) 6) := by
  obtain ⟨⟨hl, h1⟩, hlen⟩ := h
  rcases h1 with ⟨rfl, h0⟩ | ⟨g, cap, cur, rfl, hg, hh, hcap, hm, hcs, htk⟩
  · exact ⟨none, 0, 0, by rw [h0], ⟨fun h => absurd h (by omega), fun i hi => absurd hi (by omega), hlen⟩, fun h => absurd h (by omega), by omega, fun i hi => absurd hi (by omega)⟩
  · have hget : ∀ j, j < X.length * 6 → cur[j]? = (flatC X)[j]? := fun j hj => by
      rw [← htk, List.getElem?_take, if_pos (by omega)]; simp
    refine ⟨some ⟨g, 0, none⟩, g, cap, rfl, ⟨fun _ => ⟨rfl, lt_of_block hh⟩, fun i hi j v hv => ?_, hlen⟩, fun _ => hg, hcap, fun i hi j hj => ?_⟩
    · have hj : j < 6 := by have := (List.getElem?_eq_some_iff.1 hv).1; rwa [colL_len] at this
      rw [cell_of_row _ _ _ _ _ _ hh, Nat.zero_add, hget _ (by omega), flatC_get X i j hi hj, hv]
    · refine ⟨?_, frozen_of_row _ _ _ _ _ hh⟩
      rw [cell_of_row _ _ _ _ _ _ hh]
      have : i * 6 + j < cur.size := by rw [hcs]; have := Nat.mul_le_mul_right 6 hcap; omega
      simp [this]
theorem NewCols.kept {B : Nat} {w w' : World} {u : Value} {X : List (List Int)} (h : NewCols B w u X) {r : Option Nat} (hg : w.grownBy w' r) (hne : u.ownBlock = none ∨ u.ownBlock ≠ r) : NewCols B w' u X :=
  ⟨h.own.kept hg hne, h.len⟩
theorem NewCols.below {B M : Nat} {w w' : World} {u : Value} {X : List (List Int)} (h : NewCols B w u X) (hb : Below M w w') (hM : w.heap.size ≤ M) : NewCols B w' u X := by
  refine ⟨⟨h.own.1, ?_⟩, h.len⟩
  rcases h.own.2 with h2 | ⟨g, cap, cur, h1, h2, h3, h4⟩
  · exact .inl h2
  · exact .inr ⟨g, cap, cur, h1, h2, (hb.block _ (by have := lt_of_block h3; omega)).trans h3, h4⟩
theorem NewCols.mono {B B' : Nat} {w : World} {u : Value} {X : List (List Int)} (h : NewCols B w u X) (hB : B' ≤ B) : NewCols B' w u X := by
  refine ⟨⟨h.own.1, ?_⟩, h.len⟩
  rcases h.own.2 with h2 | ⟨g, cap, cur, h1, h2, h3⟩
  · exact .inl h2
  · exact .inr ⟨g, cap, cur, h1, by omega, h3⟩
theorem NewCols.blocks {B : Nat} {w w' : World} {v : Value} {X : List (List Int)} (h : NewCols B w v X) (hh : ∀ g, B ≤ g → g < w.heap.size → w'.heap[g]? = w.heap[g]?) : NewCols B w' v X := by
  refine ⟨⟨h.own.1, ?_⟩, h.len⟩
  rcases h.own.2 with h2 | ⟨g, cap, cur, h1, h2, h3, h4⟩
  · exact .inl h2
  · exact .inr ⟨g, cap, cur, h1, h2, (hh g h2 (lt_of_block h3)).trans h3, h4⟩
theorem NewCols.lt {B : Nat} {w : World} {v : Value} {X : List (List Int)} (h : NewCols B w v X) : ∀ g, v.ownBlock = some g → B ≤ g := by
  intro g hg
  rcases h.own.2 with ⟨rfl, -⟩ | ⟨g', cap, cur, rfl, h2, -⟩
  · cases hg
  · simp [Value.ownBlock] at hg; omega

end Go.Proofs.Ytjibdolhipddbaa
