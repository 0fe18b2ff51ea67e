/- awake is true: the plain part. -/
import Derived.Test.YthnkmmjelpdamaaA8
import Derived.Test.YthnkmmjelpdamaaE2
namespace Go.Proofs.Ythnkmmjelpdamaa
open Go.RowKit

/-- Several new blocks. -/
def allocs : World → List Obj → World
  | w, [] => w
  | w, o :: l => allocs (w.alloc o) l
theorem allocs_below : ∀ (l : List Obj) (w : World), Below w.heap.size w (allocs w l)
  | [], w => Below.refl _ w
  | o :: l, w => ((Below.refl w.heap.size w).alloc (Nat.le_refl _) o).trans ((allocs_below l (w.alloc o)).mono (by simp))
theorem allocs_size : ∀ (l : List Obj) (w : World), (allocs w l).heap.size = w.heap.size + l.length
  | [], w => rfl
  | o :: l, w => by rw [allocs, allocs_size l]; simp; omega
theorem allocs_at : ∀ (l : List Obj) (w : World) (i : Nat), i < l.length → (allocs w l).heap[w.heap.size + i]? = l[i]?
  | [], w, i, h => by simp at h
  | o :: l, w, 0, h => by
    have := (allocs_below l (w.alloc o)).block w.heap.size (by simp)
    rw [Nat.add_zero, allocs, this, heap_alloc_new]; rfl
  | o :: l, w, i + 1, h => by
    have := allocs_at l (w.alloc o) i (by simpa using h)
    rw [allocs, show w.heap.size + (i + 1) = (w.alloc o).heap.size + i by simp; omega, this]; rfl
theorem lt_of_blk {w : World} {g : Nat} {o : Obj} (h : w.heap[g]? = some o) : g < w.heap.size := (Array.getElem?_eq_some_iff.1 h).1

theorem nth_mapI (xs : List Int) {i : Nat} (h : i < xs.length) : (xs.map (Value.int .i64))[i]? = some (.int .i64 (nth xs i)) := by
  simp [nth, List.getD_eq_getElem?_getD, h]
/-- Ints written out in a block. -/
theorem intsAt_lit {w : World} {g : Nat} {xs : List Int} (h : w.heap[g]? = some (.cells (xs.map (Value.int .i64)).toArray 3 (0, 0))) (hl : xs.length ≤ 140737488351232) (hw : ∀ x ∈ xs, -9223372036854775808 ≤ x ∧ x ≤ 9223372036854775807) :
    IntsAt w (some ⟨g, 0, none⟩) g 0 xs := by
  refine ⟨fun _ => ⟨rfl, lt_of_blk h⟩, fun i hi => ?_, hl, fun i => ?_⟩
  · rw [cell_of_row _ _ _ _ _ _ h, Nat.zero_add, List.getElem?_toArray, nth_mapI _ hi]
  · by_cases hi : i < xs.length
    · exact hw (nth xs i) (nth_mem hi)
    · rw [nth_out (by omega)]; omega

theorem own_intsAt {B : Nat} {w : World} {v : Value} {xs : List Int} (h : w.ownsRow B 3 1 v xs.length (xs.map (Value.int .i64))) (hwf : ∀ i, -9223372036854775808 ≤ nth xs i ∧ nth xs i ≤ 9223372036854775807) (hlen : xs.length ≤ 140737488351232) :
    ∃ ao b cap, v = .slice ao xs.length cap ∧ IntsAt w ao b 0 xs := by
  obtain ⟨hl, h1⟩ := h
  rcases h1 with ⟨rfl, h0⟩ | ⟨g, cap, cur, rfl, hg, hh, hcap, hm, hcs, htk⟩
  · have : xs = [] := List.length_eq_zero_iff.1 h0
    subst this
    exact ⟨none, 0, 0, rfl, IntsAt.nil _ _ _ _⟩
  · refine ⟨some ⟨g, 0, none⟩, g, cap, rfl, ⟨fun _ => ⟨rfl, lt_of_blk hh⟩, fun i hi => ?_, hlen, hwf⟩⟩
    have e : cur[i]? = some (.int .i64 (nth xs i)) := by
      rw [← nth_mapI xs hi, ← htk, List.getElem?_take]
      rw [if_pos (by omega)]; simp
    simp [World.cell?, hh, e]

/-- The cells of pairs. -/
def prC : List (Int × Int) → List Value
  | [] => []
  | p :: l => .int .i64 p.1 :: .int .i64 p.2 :: prC l
theorem prC_at : ∀ (l : List (Int × Int)) (i : Nat), i < l.length → (prC l)[i * 2]? = some (.int .i64 (qf l i)) ∧ (prC l)[i * 2 + 1]? = some (.int .i64 (qv l i))
  | [], i, h => by simp at h
  | p :: l, 0, h => ⟨rfl, rfl⟩
  | p :: l, i + 1, h => by
    obtain ⟨a, b⟩ := prC_at l i (by simpa using h)
    rw [show (i + 1) * 2 = i * 2 + 1 + 1 by omega, show i * 2 + 1 + 1 + 1 = i * 2 + 1 + 2 by omega]
    exact ⟨a, b⟩
theorem pairsAt_lit {w : World} {g : Nat} {ps : List (Int × Int)} {T : TypeId} (h : w.heap[g]? = some (.cells (prC ps).toArray T (0, 0))) (hl : ps.length ≤ 140737488351232)
    (hw : ∀ p ∈ ps, (-9223372036854775808 ≤ p.1 ∧ p.1 ≤ 9223372036854775807) ∧ -9223372036854775808 ≤ p.2 ∧ p.2 ≤ 9223372036854775807) : PairsAt w (some ⟨g, 0, none⟩) g 0 ps := by
  refine ⟨fun _ => ⟨rfl, lt_of_blk h⟩, fun i hi => ?_, fun i hi => ?_, hl, fun i => ?_⟩
  · rw [cell_of_row _ _ _ _ _ _ h, Nat.zero_add, List.getElem?_toArray]; exact (prC_at ps i hi).1
  · rw [cell_of_row _ _ _ _ _ _ h, Nat.zero_add, List.getElem?_toArray]; exact (prC_at ps i hi).2
  · by_cases hi : i < ps.length
    · have := hw ps[i] (List.getElem_mem hi)
      simpa [qf, qv, List.getD_eq_getElem?_getD, hi] using this
    · simp [qf, qv, List.getD_eq_getElem?_getD, List.getElem?_eq_none (by omega : ps.length ≤ i)]

def awV (N : Nat) : Value := .agg #[.slice (some ⟨N + 2, 0, none⟩) 2 2, .slice (some ⟨N + 3, 0, none⟩) 2 2, .slice (some ⟨N + 4, 0, none⟩) 2 2]
def awO (N : Nat) : List Obj := [.cells #[.int .i64 0, .int .i64 4] 3, .cells #[.int .i64 0, .int .i64 0] 3, .cells #[.slice (some ⟨N, 0, none⟩) 2 2, .slice (some ⟨N + 1, 0, none⟩) 2 2] 23, .cells #[.int .i64 1, .int .i64 5] 3, .cells #[.int .i64 2, .int .i64 0] 3]

theorem aw_at (w : World) : ChainAt (allocs w (awO w.heap.size)) (awV w.heap.size) awN awP awC := by
  obtain ⟨W, hW⟩ : ∃ W, W = allocs w (awO w.heap.size) := ⟨_, rfl⟩
  have h0 := allocs_at (awO w.heap.size) w 0 (by simp [awO])
  have h1 := allocs_at (awO w.heap.size) w 1 (by simp [awO])
  have h2 := allocs_at (awO w.heap.size) w 2 (by simp [awO])
  have h3 := allocs_at (awO w.heap.size) w 3 (by simp [awO])
  have h4 := allocs_at (awO w.heap.size) w 4 (by simp [awO])
  rw [← hW] at h0 h1 h2 h3 h4 ⊢
  have i0 := intsAt_lit (xs := [0, 4]) h0 (by simp) (by simp)
  have i1 := intsAt_lit (xs := [0, 0]) h1 (by simp) (by simp)
  have i3 := intsAt_lit (xs := [1, 5]) h3 (by simp) (by simp)
  have i4 := intsAt_lit (xs := [2, 0]) h4 (by simp) (by simp)
  refine ⟨some ⟨w.heap.size + 2, 0, none⟩, w.heap.size + 2, 0, 2, fun i => some ⟨w.heap.size + i, 0, none⟩, fun i => w.heap.size + i, fun _ => 0, fun _ => 2,
    some ⟨w.heap.size + 3, 0, none⟩, w.heap.size + 3, 0, 2, some ⟨w.heap.size + 4, 0, none⟩, w.heap.size + 4, 0, 2, rfl, ⟨fun _ => ⟨rfl, lt_of_blk h2⟩, ?_, ?_, by simp [awN]⟩, i3, i4⟩
  · intro i hi
    rw [cell_of_row _ _ _ _ _ _ h2]
    rcases i with _ | _ | i
    · rfl
    · rfl
    · simp [awN] at hi; omega
  · intro i hi
    rcases i with _ | _ | i
    · exact i0
    · exact i1
    · simp [awN] at hi; omega

def awL : List (List (Int × Int)) := [[(1, 16)], [(10, 8), (0, 8)]]
def awX (N : Nat) : List Obj := [.cells #[.int .i64 1, .int .i64 16] 69, .cells #[.int .i64 10, .int .i64 8, .int .i64 0, .int .i64 8] 69, .cells #[.slice (some ⟨N, 0, none⟩) 1 1, .slice (some ⟨N + 1, 0, none⟩) 2 2] 81]
theorem aw_offs (w : World) : OffsAt (allocs w (awX w.heap.size)) (some ⟨w.heap.size + 2, 0, none⟩) (w.heap.size + 2) 0 awL (fun i => some ⟨w.heap.size + i, 0, none⟩) (fun i => w.heap.size + i) (fun _ => 0) (fun i => i + 1) := by
  obtain ⟨W, hW⟩ : ∃ W, W = allocs w (awX w.heap.size) := ⟨_, rfl⟩
  have h0 := allocs_at (awX w.heap.size) w 0 (by simp [awX])
  have h1 := allocs_at (awX w.heap.size) w 1 (by simp [awX])
  have h2 := allocs_at (awX w.heap.size) w 2 (by simp [awX])
  rw [← hW] at h0 h1 h2 ⊢
  have i0 := pairsAt_lit (ps := [(1, 16)]) h0 (by simp) (by simp)
  have i1 := pairsAt_lit (ps := [(10, 8), (0, 8)]) h1 (by simp) (by simp)
  refine ⟨fun _ => ⟨rfl, lt_of_blk h2⟩, ?_, ?_, by simp [awL]⟩
  · intro i hi
    rw [cell_of_row _ _ _ _ _ _ h2]
    rcases i with _ | _ | i
    · rfl
    · rfl
    · simp [awL] at hi; omega
  · intro i hi
    rcases i with _ | _ | i
    · exact i0
    · exact i1
    · simp [awL] at hi; omega
theorem aw_ok2 : okOffs awL = true := by decide
theorem aw_most : fracV (cmb awL 0 1) (16 ^ awL.length) = .agg #[.int .i64 11, .int .i64 2] := by kernel_rfl
theorem aw_wise : fracV (gL accP awL (dn awL.length awL.length)).1 (16 ^ awL.length) = .agg #[.int .i64 5, .int .i64 1] := by kernel_rfl
theorem aw_sec : secTo 4 4 = 1 := by decide +kernel
theorem aw_pick : fracV (cw 4 1) ((4 : Nat) * 232792560) = .agg #[.int .i64 11, .int .i64 24] := by kernel_rfl
theorem aw_vals : ((vC (bestF awN awP awC)).toList.take (awN.length * 2)).toArray = (prC [(3, 1), (5, 1)]).toArray := by
  rw [vC_lit, aw_best0, aw_best1]
  rfl

end Go.Proofs.Ythnkmmjelpdamaa
