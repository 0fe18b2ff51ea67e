/- awake is true. -/
import Derived.Test.YtjibdolhipddbaaD3
namespace Go.Proofs.Ytjibdolhipddbaa
open Go.RowKit

def allocs : World → List Obj → World
  | w, [] => w
  | w, o :: l => allocs (w.alloc o) l
theorem allocs_below : ∀ (l : List Obj) (w : World), Below w.heap.size w (allocs w l)
  | [], w => Below.refl _ w
  | o :: l, w => ((Below.refl w.heap.size w).alloc (Nat.le_refl _) o).trans ((allocs_below l (w.alloc o)).mono (by simp))
theorem allocs_size : ∀ (l : List Obj) (w : World), (allocs w l).heap.size = w.heap.size + l.length
  | [], w => rfl
  | o :: l, w => by rw [allocs, allocs_size l]; simp; omega
theorem allocs_at : ∀ (l : List Obj) (w : World) (i : Nat), i < l.length → (allocs w l).heap[w.heap.size + i]? = l[i]?
  | [], w, i, h => by simp at h
  | o :: l, w, 0, h => by
    have := (allocs_below l (w.alloc o)).block w.heap.size (by simp)
    rw [Nat.add_zero, allocs, this, heap_alloc_new]; rfl
  | o :: l, w, i + 1, h => by
    have := allocs_at l (w.alloc o) i (by simpa using h)
    rw [allocs, show w.heap.size + (i + 1) = (w.alloc o).heap.size + i by simp; omega, this]; rfl
theorem lt_of_blk {w : World} {g : Nat} {o : Obj} (h : w.heap[g]? = some o) : g < w.heap.size := (Array.getElem?_eq_some_iff.1 h).1

theorem nth_mapI (xs : List Int) {i : Nat} (h : i < xs.length) : (xs.map (Value.int .i64))[i]? = some (.int .i64 (nth xs i)) := by
  simp [nth, List.getD_eq_getElem?_getD, h]
/-- Ints written out in a block. -/
theorem intsAt_lit {w : World} {g : Nat} {xs : List Int} (h : w.heap[g]? = some (.cells (xs.map (Value.int .i64)).toArray 3 (0, 0))) (hl : xs.length ≤ 140737488351232) (hw : ∀ x ∈ xs, -9223372036854775808 ≤ x ∧ x ≤ 9223372036854775807) :
    IntsAt w (some ⟨g, 0, none⟩) g 0 xs := by
  refine ⟨fun _ => ⟨rfl, lt_of_blk h⟩, fun i hi => ?_, hl, fun i => ?_⟩
  · rw [cell_of_row _ _ _ _ _ _ h, Nat.zero_add, List.getElem?_toArray, nth_mapI _ hi]
  · by_cases hi : i < xs.length
    · exact hw (nth xs i) (nth_mem hi)
    · rw [nth_out (by omega)]; omega


/-- The blocks of three rows of two numbers. -/
def triO (N : Nat) (r0 r1 r2 : List Int) : List Obj := [.cells (r0.map (Value.int .i64)).toArray 3, .cells (r1.map (Value.int .i64)).toArray 3, .cells (r2.map (Value.int .i64)).toArray 3,
  .cells #[.slice (some ⟨N, 0, none⟩) 2 2, .slice (some ⟨N + 1, 0, none⟩) 2 2, .slice (some ⟨N + 2, 0, none⟩) 2 2] 34]
theorem tri_at (w : World) (r0 r1 r2 : List Int) (h0 : r0.length = 2) (h1 : r1.length = 2) (h2 : r2.length = 2) (hw : ∀ r ∈ [r0, r1, r2], ∀ x ∈ r, 0 ≤ x ∧ x ≤ 4) :
    RowsAt (allocs w (triO w.heap.size r0 r1 r2)) (some ⟨w.heap.size + 3, 0, none⟩) (w.heap.size + 3) 0 [r0, r1, r2] (fun i => some ⟨w.heap.size + i, 0, none⟩) (fun i => w.heap.size + i) (fun _ => 0) (fun _ => 2) := by
  obtain ⟨W, hW⟩ : ∃ W, W = allocs w (triO w.heap.size r0 r1 r2) := ⟨_, rfl⟩
  have g0 := allocs_at (triO w.heap.size r0 r1 r2) w 0 (by simp [triO])
  have g1 := allocs_at (triO w.heap.size r0 r1 r2) w 1 (by simp [triO])
  have g2 := allocs_at (triO w.heap.size r0 r1 r2) w 2 (by simp [triO])
  have g3 := allocs_at (triO w.heap.size r0 r1 r2) w 3 (by simp [triO])
  rw [← hW] at g0 g1 g2 g3 ⊢
  have hi : ∀ (g : Nat) (r : List Int), r ∈ [r0, r1, r2] → r.length = 2 → W.heap[g]? = some (.cells (r.map (Value.int .i64)).toArray 3 (0, 0)) → IntsAt W (some ⟨g, 0, none⟩) g 0 r := fun g r hr hl h =>
    intsAt_lit h (by omega) fun x hx => by have := hw r hr x hx; omega
  refine ⟨fun _ => ⟨rfl, lt_of_blk g3⟩, fun i hi' => ?_, fun i hi' => ?_, by simp⟩
  · have hi3 : i < 3 := hi'
    rw [cell_of_row _ _ _ _ _ _ g3, Nat.zero_add]
    obtain rfl | rfl | rfl : i = 0 ∨ i = 1 ∨ i = 2 := by omega
    · simp [row, h0]
    · simp [row, h1]
    · simp [row, h2]
  · have hi3 : i < 3 := hi'
    obtain rfl | rfl | rfl : i = 0 ∨ i = 1 ∨ i = 2 := by omega
    · exact hi _ r0 (by simp) h0 g0
    · exact hi _ r1 (by simp) h1 g1
    · exact hi _ r2 (by simp) h2 g2

def awA : List (List Int) := [[1, 0], [0, 1], [1, 1]]
def awP : List (List Int) := [[1, 1], [2, 2], [1, 2]]
theorem aw_plan : IsPlan awA := by decide +kernel
theorem aw_cuts : OkCuts awA.length awP 2 := by decide +kernel
theorem aw_prod : prodC (chs awP awA.length (row awP 0).length) awA.length (mt awA) 0 (row awP 0).length = 2 := by decide +kernel
theorem aw_two : ((clsL 3 2).any fun x => (clsL 3 2).any fun y => (List.range 36).all fun p => !fbF 3 2 (mt awA) p || stF 3 2 (mt awA) (nth x) p || stF 3 2 (mt awA) (nth y) p) = true := by decide +kernel
theorem aw_one : ((List.range 36).any (fbF 3 2 (mt awA)) && (clsL 3 2).all fun x => (List.range 36).any fun p => fbF 3 2 (mt awA) p && !stF 3 2 (mt awA) (nth x) p) = true := by decide +kernel

end Go.Proofs.Ytjibdolhipddbaa
