/- The fixed network: awake is true. -/
import Derived.Test.YtaphmjccdokiiaaBa
namespace Go.Proofs.Ytaphmjccdokiiaa
open Go.RowKit

/-- Several new blocks. -/
def allocs : World → List Obj → World
  | w, [] => w
  | w, o :: l => allocs (w.alloc o) l
theorem allocs_below : ∀ (l : List Obj) (w : World), Below w.heap.size w (allocs w l)
  | [], w => Below.refl _ w
  | o :: l, w => ((Below.refl w.heap.size w).alloc (Nat.le_refl _) o).trans ((allocs_below l (w.alloc o)).mono (by simp))
theorem allocs_size : ∀ (l : List Obj) (w : World), (allocs w l).heap.size = w.heap.size + l.length
  | [], w => rfl
  | o :: l, w => by rw [allocs, allocs_size l]; simp; omega
theorem allocs_at : ∀ (l : List Obj) (w : World) (i : Nat), i < l.length → (allocs w l).heap[w.heap.size + i]? = l[i]?
  | [], w, i, h => by simp at h
  | o :: l, w, 0, h => by
    have := (allocs_below l (w.alloc o)).block w.heap.size (by simp)
    rw [Nat.add_zero, allocs, this, heap_alloc_new]; rfl
  | o :: l, w, i + 1, h => by
    have := allocs_at l (w.alloc o) i (by simpa using h)
    rw [allocs, show w.heap.size + (i + 1) = (w.alloc o).heap.size + i by simp; omega, this]; rfl

/-- Ints written out in a block. -/
theorem intsAt_lit {w : World} {g : Nat} {xs : List Int} (h : w.heap[g]? = some (.cells (xs.map (Value.int .i64)).toArray 3 (0, 0))) (hl : xs.length ≤ 140737488351232) (hw : ∀ x ∈ xs, -9223372036854775808 ≤ x ∧ x ≤ 9223372036854775807) :
    IntsAt w (some ⟨g, 0, none⟩) g 0 xs := by
  refine ⟨fun _ => ⟨rfl, lt_of_block h⟩, fun i hi => ?_, hl, fun i => ?_⟩
  · rw [cell_of_row _ _ _ _ _ _ h, Nat.zero_add, List.getElem?_toArray, nth_map _ _ hi]
  · by_cases hi : i < xs.length
    · have := hw (nth xs i) (by simp [nth, List.getD_eq_getElem?_getD, hi])
      exact this
    · rw [show nth xs i = 0 by simp [nth, List.getD_eq_getElem?_getD, List.getElem?_eq_none (by omega : xs.length ≤ i)]]
      omega

def awP : List (List Int) := [[], [0]]
def awT : List (List Int) := [[8], [4, 12]]
def awV (N : Nat) : Value := .agg #[.slice (some ⟨N + 2, 0, none⟩) 2 2, .slice (some ⟨N + 5, 0, none⟩) 2 2]
def awO (N : Nat) : List Obj := [.cells #[] 3, .cells #[.int .i64 0] 3, .cells #[.slice (some ⟨N, 0, none⟩) 0 0, .slice (some ⟨N + 1, 0, none⟩) 1 1] 25, .cells #[.int .i64 8] 3,
  .cells #[.int .i64 4, .int .i64 12] 3, .cells #[.slice (some ⟨N + 3, 0, none⟩) 1 1, .slice (some ⟨N + 4, 0, none⟩) 2 2] 25, .cells #[.slice (some ⟨N + 2, 0, none⟩) 2 2, .slice (some ⟨N + 5, 0, none⟩) 2 2] 24, .cells #[.int .i64 0, .int .i64 1] 3]

theorem aw_net (w : World) : NetAt (allocs w (awO w.heap.size)) (awV w.heap.size) awP awT ∧ IntsAt (allocs w (awO w.heap.size)) (some ⟨w.heap.size + 7, 0, none⟩) (w.heap.size + 7) 0 [0, 1] ∧
    (allocs w (awO w.heap.size)).heap[w.heap.size + 6]? = some (.cells #[.slice (some ⟨w.heap.size + 2, 0, none⟩) 2 2, .slice (some ⟨w.heap.size + 5, 0, none⟩) 2 2] 24 (0, 0)) := by
  obtain ⟨W, hW⟩ : ∃ W, W = allocs w (awO w.heap.size) := ⟨_, rfl⟩
  have hs := allocs_size (awO w.heap.size) w
  have h0 := allocs_at (awO w.heap.size) w 0 (by simp [awO])
  have h1 := allocs_at (awO w.heap.size) w 1 (by simp [awO])
  have h2 := allocs_at (awO w.heap.size) w 2 (by simp [awO])
  have h3 := allocs_at (awO w.heap.size) w 3 (by simp [awO])
  have h4 := allocs_at (awO w.heap.size) w 4 (by simp [awO])
  have h5 := allocs_at (awO w.heap.size) w 5 (by simp [awO])
  have h6 := allocs_at (awO w.heap.size) w 6 (by simp [awO])
  have h7 := allocs_at (awO w.heap.size) w 7 (by simp [awO])
  rw [← hW] at h0 h1 h2 h3 h4 h5 h6 h7 hs ⊢
  have i0 := intsAt_lit (xs := []) h0 (by simp) (by simp)
  have i1 := intsAt_lit (xs := [0]) h1 (by simp) (by simp)
  have i3 := intsAt_lit (xs := [8]) h3 (by simp) (by simp)
  have i4 := intsAt_lit (xs := [4, 12]) h4 (by simp) (by simp)
  have i7 := intsAt_lit (xs := [0, 1]) h7 (by simp) (by simp)
  refine ⟨⟨some ⟨w.heap.size + 2, 0, none⟩, w.heap.size + 2, 0, 2, fun i => some ⟨w.heap.size + i, 0, none⟩, fun i => w.heap.size + i, fun _ => 0, fun i => i,
    some ⟨w.heap.size + 5, 0, none⟩, w.heap.size + 5, 0, 2, fun i => some ⟨w.heap.size + 3 + i, 0, none⟩, fun i => w.heap.size + 3 + i, fun _ => 0, fun i => i + 1, rfl, ⟨fun _ => ⟨rfl, lt_of_block h2⟩, ?_, ?_, by simp [awP]⟩, ⟨fun _ => ⟨rfl, lt_of_block h5⟩, ?_, ?_, by simp [awT]⟩⟩, i7, h6⟩
  · intro i hi
    rw [cell_of_row _ _ _ _ _ _ h2]
    rcases i with _ | _ | i
    · rfl
    · rfl
    · simp [awP] at hi; omega
  · intro i hi
    rcases i with _ | _ | i
    · exact i0
    · exact i1
    · simp [awP] at hi; omega
  · intro i hi
    rw [cell_of_row _ _ _ _ _ _ h5]
    rcases i with _ | _ | i
    · rfl
    · rfl
    · simp [awT] at hi; omega
  · intro i hi
    rcases i with _ | _ | i
    · exact i3
    · exact i4
    · simp [awT] at hi; omega

theorem aw_isNet : isNet awP awT = true := by decide
theorem aw_asg : okAsg [0, 1] awP.length = true := by decide
theorem aw_joint : fracV (wt awP awT (nth [0, 1]) awP.length) (16 ^ awP.length) = .agg #[.int .i64 1, .int .i64 8] := by kernel_rfl
theorem aw_chV : chV awP awT [(0, 1)] [(1, 1)] = .agg #[.int .i64 3, .int .i64 4] := by kernel_rfl
theorem aw_chE : chE awP awT [(0, 1)] [(1, 1)] = 0 := by kernel_rfl
theorem aw_set : okSet [] awP.length = true := by decide
theorem aw_sep : sepTrail awP [] 0 1 = some [0, 1] := by
  have h1 : okNext (webOf awP fun v => hasI [] (v : Int)) [0] 0 = false := by decide
  have h2 : okNext (webOf awP fun v => hasI [] (v : Int)) [0] 1 = true := by decide
  unfold sepTrail
  rw [show awP.length = 2 from rfl, dfs, if_neg (by decide), show (webOf awP fun v => hasI [] (v : Int)).count = 2 from rfl, dfsTo, dfsTo, dfsTo]
  simp only [h1, h2, Bool.false_eq_true, if_false, if_true]
  rw [show ([0] ++ [1] : List Nat) = [0, 1] from rfl, dfs, if_pos (by decide)]

end Go.Proofs.Ytaphmjccdokiiaa
