/- Colourings as keys of a map. -/
import Derived.Test.YtjibdolhipddbaaB4
import Derived.DeepKeys4
import Derived.Maps.OwnOps
import Derived.Maps.OwnSet
import Derived.Maps.Views
namespace Go.Proofs.Ytjibdolhipddbaa
open Go.RowKit Go.Maps

theorem laidOut' : laidOutB Try.prog = true := by kernel_rfl
theorem rowCol : (84 : TypeId) < Try.prog.types.size := of_decide_eq_true (by kernel_rfl)
theorem wideCol : (match Try.prog.underlying 84 with | some (.array _ _) | some (.struct _) => true | _ => false) = true := by rw [Try.underlying84]
set_option maxRecDepth 100000 in
theorem typeAtCol : Try.prog.keyTypeAt 2 84 = true := by kernel_rfl
set_option maxRecDepth 100000 in
theorem keyTypeCol : Try.prog.keyType 84 = true := by kernel_rfl
set_option maxRecDepth 100000 in
theorem lawCol : Keyed Try.prog 84 := Keyed.of_law (deep_law_laid laidOut' (m := 2) (by omega) rowCol typeAtCol wideCol)
theorem cellsCol : Try.prog.cellsOf 84 = 6 := by kernel_rfl
theorem cells3 : Try.prog.cellsOf 3 = 1 := by kernel_rfl

/-- What a colouring reads as, as a key. -/
def kc (c : Nat → Int) : Lit := .string (keyBytes [.int .i64 (c 0), .int .i64 (c 1), .int .i64 (c 2), .int .i64 (c 3), .int .i64 (c 4), .int .i64 (c 5)])
theorem lits_int (d : Nat) {x : Int} (h : 0 ≤ x ∧ x ≤ 4) : Try.prog.keyLits (d + 1) 3 [.int .i64 x] = some [.int .i64 x] := by
  unfold Program.keyLits
  simp only [Try.underlying3]
  simp [WalkArith.wf_i64 (n := x) (by omega)]
theorem lits_col (d : Nat) (c : Nat → Int) (h : ∀ i, i < 6 → 0 ≤ c i ∧ c i ≤ 4) : Try.prog.keyLits (d + 2) 84 (colC c).toList = some [.int .i64 (c 0), .int .i64 (c 1), .int .i64 (c 2), .int .i64 (c 3), .int .i64 (c 4), .int .i64 (c 5)] := by
  unfold Program.keyLits
  simp only [Try.underlying84]
  rw [if_pos (by rw [cellsCol, colC_list, colL_len]), cells3]
  have e : (colC c).toList = [.int .i64 (c 0), .int .i64 (c 1), .int .i64 (c 2), .int .i64 (c 3), .int .i64 (c 4), .int .i64 (c 5)] := rfl
  rw [e, show List.range 6 = [0, 1, 2, 3, 4, 5] from rfl]
  simp [lits_int d (h 0 (by omega)), lits_int d (h 1 (by omega)), lits_int d (h 2 (by omega)), lits_int d (h 3 (by omega)), lits_int d (h 4 (by omega)), lits_int d (h 5 (by omega))]
theorem keyOf_col (c : Nat → Int) (h : ∀ i, i < 6 → 0 ≤ c i ∧ c i ≤ 4) : keyOf Try.prog 84 (.agg (colC c)) = some (kc c) := by
  unfold keyOf
  rw [Try.underlying84]
  simp only
  have hf : (Value.agg (colC c)).formed Try.prog 84 = true := by simp [Value.formed, Try.underlying84, cellsCol, colC_size]
  rw [keyTypeCol, hf]
  have hs : 0 < Try.prog.types.size := Nat.lt_of_le_of_lt (Nat.zero_le _) rowCol
  obtain ⟨m, hm⟩ : ∃ m, Try.prog.types.size + 1 = m + 2 := ⟨Try.prog.types.size - 1, by omega⟩
  rw [hm, show (Value.agg (colC c)).cells = colC c from rfl, lits_col m c h]
  rfl
theorem kc_inj {c d : Nat → Int} (hc : ∀ i, i < 6 → 0 ≤ c i ∧ c i ≤ 4) (hd : ∀ i, i < 6 → 0 ≤ d i ∧ d i ≤ 4) (h : kc c = kc d) : colC c = colC d := by
  have := lawCol.inj (keyOf_col c hc) (by rw [h]; exact keyOf_col d hd)
  injection this
theorem colC_inj {c d : Nat → Int} (h : colC c = colC d) {i : Nat} (hi : i < 6) : c i = d i := by
  have h1 : (colC c)[i]? = some (.int .i64 (c i)) := ofN_get _ hi
  rw [h] at h1
  have h2 : (colC d)[i]? = some (.int .i64 (d i)) := ofN_get _ hi
  rw [h2] at h1
  injection h1 with h1
  injection h1 with _ h1
  exact h1.symm

end Go.Proofs.Ytjibdolhipddbaa
