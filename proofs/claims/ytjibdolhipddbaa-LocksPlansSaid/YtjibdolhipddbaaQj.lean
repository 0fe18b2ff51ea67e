/- D4 D5 -/
import Derived.Test.YtjibdolhipddbaaQi
/- awake is true. -/
namespace Go.Proofs.Ytjibdolhipddbaa
open Go.RowKit

def allocs : World → List Obj → World
  | w, [] => w
  | w, o :: l => allocs (w.alloc o) l
theorem allocs_below : ∀ (l : List Obj) (w : World), Below w.heap.size w (allocs w l)
  | [], w => Below.refl _ w
  | o :: l, w => ((Below.refl w.heap.size w).alloc (Nat.le_refl _) o).trans ((allocs_below l (w.alloc o)).mono (by simp))
theorem allocs_size : ∀ (l : List Obj) (w : World), (allocs w l).heap.size = w.heap.size + l.length
  | [], w => rfl
  | o :: l, w => by rw [allocs, allocs_size l]; simp; omega
theorem allocs_at : ∀ (l : List Obj) (w : World) (i : Nat), i < l.length → (allocs w l).heap[w.heap.size + i]? = l[i]?
  | [], w, i, h => by simp at h
  | o :: l, w, 0, h => by
    have := (allocs_below l (w.alloc o)).block w.heap.size (by simp)
    rw [Nat.add_zero, allocs, this, heap_alloc_new]; rfl
  | o :: l, w, i + 1, h => by
    have := allocs_at l (w.alloc o) i (by simpa using h)
    rw [allocs, show w.heap.size + (i + 1) = (w.alloc o).heap.size + i by simp; omega, this]; rfl
theorem lt_of_blk {w : World} {g : Nat} {o : Obj} (h : w.heap[g]? = some o) : g < w.heap.size := (Array.getElem?_eq_some_iff.1 h).1

theorem nth_mapI (xs : List Int) {i : Nat} (h : i < xs.length) : (xs.map (Value.int .i64))[i]? = some (.int .i64 (nth xs i)) := by
  simp [nth, List.getD_eq_getElem?_getD, h]
/-- Ints written out in a block. -/
theorem intsAt_lit {w : World} {g : Nat} {xs : List Int} (h : w.heap[g]? = some (.cells (xs.map (Value.int .i64)).toArray 3 (0, 0))) (hl : xs.length ≤ 140737488351232) (hw : ∀ x ∈ xs, -9223372036854775808 ≤ x ∧ x ≤ 9223372036854775807) :
    IntsAt w (some ⟨g, 0, none⟩) g 0 xs := by
  refine ⟨fun _ => ⟨rfl, lt_of_blk h⟩, fun i hi => ?_, hl, fun i => ?_⟩
  · rw [cell_of_row _ _ _ _ _ _ h, Nat.zero_add, List.getElem?_toArray, nth_mapI _ hi]
  · by_cases hi : i < xs.length
    · exact hw (nth xs i) (nth_mem hi)
    · rw [nth_out (by omega)]; omega


/-- The blocks of three rows of two numbers. -/
def triO (N : Nat) (r0 r1 r2 : List Int) : List Obj := [.cells (r0.map (Value.int .i64)).toArray 3, .cells (r1.map (Value.int .i64)).toArray 3, .cells (r2.map (Value.int .i64)).toArray 3,
  .cells #[.slice (some ⟨N, 0, none⟩) 2 2, .slice (some ⟨N + 1, 0, none⟩) 2 2, .slice (some ⟨N + 2, 0, none⟩) 2 2] 34]
theorem tri_at (w : World) (r0 r1 r2 : List Int) (h0 : r0.length = 2) (h1 : r1.length = 2) (h2 : r2.length = 2) (hw : ∀ r ∈ [r0, r1, r2], ∀ x ∈ r, 0 ≤ x ∧ x ≤ 4) :
    RowsAt (allocs w (triO w.heap.size r0 r1 r2)) (some ⟨w.heap.size + 3, 0, none⟩) (w.heap.size + 3) 0 [r0, r1, r2] (fun i => some ⟨w.heap.size + i, 0, none⟩) (fun i => w.heap.size + i) (fun _ => 0) (fun _ => 2) := by
  obtain ⟨W, hW⟩ : ∃ W, W = allocs w (triO w.heap.size r0 r1 r2) := ⟨_, rfl⟩
  have g0 := allocs_at (triO w.heap.size r0 r1 r2) w 0 (by simp [triO])
  have g1 := allocs_at (triO w.heap.size r0 r1 r2) w 1 (by simp [triO])
  have g2 := allocs_at (triO w.heap.size r0 r1 r2) w 2 (by simp [triO])
  have g3 := allocs_at (triO w.heap.size r0 r1 r2) w 3 (by simp [triO])
  rw [← hW] at g0 g1 g2 g3 ⊢
  have hi : ∀ (g : Nat) (r : List Int), r ∈ [r0, r1, r2] → r.length = 2 → W.heap[g]? = some (.cells (r.map (Value.int .i64)).toArray 3 (0, 0)) → IntsAt W (some ⟨g, 0, none⟩) g 0 r := fun g r hr hl h =>
    intsAt_lit h (by omega) fun x hx => by have := hw r hr x hx; omega
  refine ⟨fun _ => ⟨rfl, lt_of_blk g3⟩, fun i hi' => ?_, fun i hi' => ?_, by simp⟩
  · have hi3 : i < 3 := hi'
    rw [cell_of_row _ _ _ _ _ _ g3, Nat.zero_add]
    obtain rfl | rfl | rfl : i = 0 ∨ i = 1 ∨ i = 2 := by omega
    · simp [row, h0]
    · simp [row, h1]
    · simp [row, h2]
  · have hi3 : i < 3 := hi'
    obtain rfl | rfl | rfl : i = 0 ∨ i = 1 ∨ i = 2 := by omega
    · exact hi _ r0 (by simp) h0 g0
    · exact hi _ r1 (by simp) h1 g1
    · exact hi _ r2 (by simp) h2 g2

def awA : List (List Int) := [[1, 0], [0, 1], [1, 1]]
def awP : List (List Int) := [[1, 1], [2, 2], [1, 2]]
theorem aw_plan : IsPlan awA := by decide +kernel
theorem aw_cuts : OkCuts awA.length awP 2 := by decide +kernel
theorem aw_prod : prodC (chs awP awA.length (row awP 0).length) awA.length (mt awA) 0 (row awP 0).length = 2 := by decide +kernel
theorem aw_two : ((clsL 3 2).any fun x => (clsL 3 2).any fun y => (List.range 36).all fun p => !fbF 3 2 (mt awA) p || stF 3 2 (mt awA) (nth x) p || stF 3 2 (mt awA) (nth y) p) = true := by decide +kernel
theorem aw_one : ((List.range 36).any (fbF 3 2 (mt awA)) && (clsL 3 2).all fun x => (List.range 36).any fun p => fbF 3 2 (mt awA) p && !stF 3 2 (mt awA) (nth x) p) = true := by decide +kernel

end Go.Proofs.Ytjibdolhipddbaa

/- awake is true: the walk. -/
namespace Go.Proofs.Ytjibdolhipddbaa
open Go.RowKit

theorem aw_cov2 : ∃ Y, CovA awA 2 2 Y := by
  have h := aw_two
  rw [List.any_eq_true] at h
  obtain ⟨x, hx, h⟩ := h
  rw [List.any_eq_true] at h
  obtain ⟨y, hy, h⟩ := h
  rw [List.all_eq_true] at h
  refine ⟨[x, y], ⟨by simp, fun z hz => ?_, fun p hp hg => ?_⟩⟩
  · simp only [List.mem_cons, List.not_mem_nil, or_false] at hz
    rcases hz with rfl | rfl
    · exact hx
    · exact hy
  · have q := h p (List.mem_range.2 hp)
    have hg' : fbF 3 2 (mt awA) p = true := hg
    rw [hg'] at q
    simp only [Bool.not_true, Bool.false_or, Bool.or_eq_true] at q
    rcases q with q | q
    · exact ⟨x, by simp, q⟩
    · exact ⟨y, by simp, q⟩
theorem aw_cov1 : ¬ ∃ Y, CovA awA 2 1 Y := by
  rintro ⟨Y, h1, h2, h3⟩
  have h := aw_one
  rw [Bool.and_eq_true, List.any_eq_true, List.all_eq_true] at h
  obtain ⟨⟨p0, hp0, hg0⟩, h⟩ := h
  obtain ⟨y0, hy0, -⟩ := h3 p0 (List.mem_range.1 hp0) hg0
  have hq := h y0 (h2 y0 hy0)
  rw [List.any_eq_true] at hq
  obtain ⟨p, hp, hpp⟩ := hq
  rw [Bool.and_eq_true] at hpp
  obtain ⟨y, hy, hs⟩ := h3 p (List.mem_range.1 hp) hpp.1
  have e : y = y0 := by
    match Y, h1 with
    | [], _ => simp at hy
    | [z], _ => rw [List.mem_singleton.1 hy, List.mem_singleton.1 hy0]
    | _ :: _ :: _, h => simp at h
  have hs' : stF 3 2 (mt awA) (nth y) p = true := hs
  rw [e] at hs'
  rw [hs'] at hpp
  simp at hpp

set_option maxHeartbeats 4000000 in
set_option maxRecDepth 100000 in
theorem awake_any (w : World) :
    Calls Try.prog 15 #[] w fun e w' => e = .returned (.bool true) ∧ Below w.heap.size w w' := by
  have HN := Lib.hid (tri_at w [1, 0] [0, 1] [1, 1] rfl rfl rfl (by decide))
  have HBW := Lib.hid (allocs_below (triO w.heap.size [1, 0] [0, 1] [1, 1]) w)
  go_enter Try.func15, Try.ntmps15
  go_wp2_with fail
  have hl := least_ok awA 2 _ _ 0 3 _ _ _ _ _ HN.out aw_plan ⟨by omega, by omega⟩
  refine hl.mono ?_
  rintro e w1 ⟨⟨n, rfl, hn⟩, hb1⟩
  have hn2 : n = 2 := by
    rcases hn with ⟨-, h⟩ | ⟨h1, h2, h3, h4⟩
    · exact absurd aw_cov2 (h 2 (by omega) (by omega))
    · by_cases e : n = 1
      · rw [e] at h3; exact absurd h3 aw_cov1
      · by_cases e2 : 2 < n
        · exact absurd aw_cov2 (h4 2 (by omega) e2)
        · omega
  subst hn2
  have HB1 := Lib.hid (HBW.out.trans (hb1.mono HBW.out.size))
  have HN1 := Lib.hid (HN.out.below hb1 (Nat.le_refl _))
  clear hl hb1 hn
  go_wp2_with fail
  have hp := plan_ok awA 2 2 _ _ 0 3 _ _ _ _ _ HN1.out aw_plan ⟨by omega, by omega⟩ ⟨by omega, by omega⟩
  refine hp.mono ?_
  rintro e w2 ⟨hpl, hb2⟩
  obtain ⟨v, Y, rfl, -, hnr⟩ : ∃ v Y, e = .returned (.tuple #[v, .int .i64 0]) ∧ CovA awA 2 2 Y ∧ NewRows w1.heap.size w2 v (cutsL Y 2 awA.length) := by
    rcases hpl with ⟨-, h⟩ | h
    · exact absurd aw_cov2 h
    · exact h
  obtain ⟨va, vb, vc, vA, vB, vO, vC, rfl, -⟩ := hnr.at (by rw [cutsL_len]; decide)
  rw [cutsL_len, show awA.length = 3 from rfl]
  have HB2 := Lib.hid (HB1.out.trans (hb2.mono HB1.out.size))
  have HN2 := Lib.hid (HN1.out.below hb2 (Nat.le_refl _))
  have HT := Lib.hid (tri_at w2 [1, 1] [2, 2] [1, 2] rfl rfl rfl (by decide))
  have HBT := Lib.hid (allocs_below (triO w2.heap.size [1, 1] [2, 2] [1, 2]) w2)
  have HN3 := Lib.hid (HN2.out.below HBT.out (Nat.le_refl _))
  clear hp hb2 hpl hnr
  go_wp2_with fail
  have hs := strangers_ok awA awP 2 0 _ _ 0 3 _ _ _ _ _ _ 0 3 _ _ _ _ _ HN3.out HT.out aw_plan ⟨by omega, by omega⟩ aw_cuts (by decide)
  rw [aw_prod] at hs
  refine hs.mono ?_
  rintro e w3 ⟨rfl, hb3⟩
  have HB3 := Lib.hid (HB2.out.trans ((HBT.out.trans (hb3.mono HBT.out.size)).mono HB2.out.size))
  clear hs hb3
  go_wp2
  go_ret
  exact ⟨rfl, HB3.out⟩

end Go.Proofs.Ytjibdolhipddbaa
