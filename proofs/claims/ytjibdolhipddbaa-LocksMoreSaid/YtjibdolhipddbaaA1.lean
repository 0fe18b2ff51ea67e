/- How lists of numbers lie in memory; plain words on lists; small words on worlds. -/
import Derived.Test.YtjibdolhipddbaaRows
import Derived.WalkKit
import Derived.WalkSpells
import Derived.Deep.OwnRows
import Derived.Lib.Hide
import Derived.WalkLawsBesides
import Derived.Deep.LoopGhost
import Derived.Deep.QuietTactic
import Derived.BigQuiet
import Derived.RegionTactic
import Derived.ChangeAlike
import Derived.Deep.Cut
import Derived.Deep.CutRange
import Derived.Deep.CutBlock
import Derived.Deep.RegionHeld3
import Derived.Laws.BitsAllLaws
namespace Go.Proofs.Ytjibdolhipddbaa
open Go.RowKit

/-- The number at a place of a list (0 behind its end). -/
def nth (xs : List Int) (i : Nat) : Int := xs.getD i 0
/-- The row at a place of a list of rows. -/
def row (xs : List (List Int)) (i : Nat) : List Int := xs.getD i []

theorem nth_cons_zero (x : Int) (xs : List Int) : nth (x :: xs) 0 = x := rfl
theorem nth_cons_succ (x : Int) (xs : List Int) (i : Nat) : nth (x :: xs) (i + 1) = nth xs i := rfl
theorem nth_mem {xs : List Int} {i : Nat} (h : i < xs.length) : nth xs i ∈ xs := by
  unfold nth; simp [List.getD_eq_getElem?_getD, h]
theorem nth_out {xs : List Int} {i : Nat} (h : xs.length ≤ i) : nth xs i = 0 := by
  unfold nth; simp [List.getD_eq_getElem?_getD, h]

/-- The cells of a slice of ints. -/
structure IntsAt (w : World) (ao : Option Addr) (b o : Nat) (xs : List Int) : Prop where
  ptr : 0 < xs.length → ao = some ⟨b, o, none⟩ ∧ b < w.heap.size
  cell : ∀ i, i < xs.length → w.cell? ⟨b, o + i, none⟩ = some (.int .i64 (nth xs i))
  len : xs.length ≤ 140737488351232
  wf : ∀ i, -9223372036854775808 ≤ nth xs i ∧ nth xs i ≤ 9223372036854775807

theorem IntsAt.below {B : Nat} {w w' : World} {ao : Option Addr} {b o : Nat} {xs : List Int} (h : IntsAt w ao b o xs) (hb : Below B w w') (hB : w.heap.size ≤ B) : IntsAt w' ao b o xs := by
  refine ⟨fun hp => ⟨(h.ptr hp).1, Nat.lt_of_lt_of_le (h.ptr hp).2 hb.size⟩, fun i hi => ?_, h.len, h.wf⟩
  have hlt := (h.ptr (by omega)).2
  rw [hb.cell (p := ⟨b, o + i, none⟩) (by show b < B; omega)]
  exact h.cell i hi

theorem IntsAt.nil (w : World) (ao : Option Addr) (b o : Nat) : IntsAt w ao b o [] :=
  ⟨fun h => absurd h (by simp), fun i hi => absurd hi (by simp), by simp, fun i => by simp [nth]⟩

/-- The cells of a slice of slices of ints. -/
structure RowsAt (w : World) (ao : Option Addr) (b o : Nat) (xs : List (List Int)) (A : Nat → Option Addr) (B O C : Nat → Nat) : Prop where
  ptr : 0 < xs.length → ao = some ⟨b, o, none⟩ ∧ b < w.heap.size
  cell : ∀ i, i < xs.length → w.cell? ⟨b, o + i, none⟩ = some (.slice (A i) (row xs i).length (C i))
  rows : ∀ i, i < xs.length → IntsAt w (A i) (B i) (O i) (row xs i)
  len : xs.length ≤ 140737488351232

theorem RowsAt.below {N : Nat} {w w' : World} {ao : Option Addr} {b o : Nat} {xs : List (List Int)} {A : Nat → Option Addr} {B O C : Nat → Nat} (h : RowsAt w ao b o xs A B O C) (hb : Below N w w') (hB : w.heap.size ≤ N) : RowsAt w' ao b o xs A B O C := by
  refine ⟨fun hp => ⟨(h.ptr hp).1, Nat.lt_of_lt_of_le (h.ptr hp).2 hb.size⟩, fun i hi => ?_, fun i hi => (h.rows i hi).below hb hB, h.len⟩
  have hlt := (h.ptr (by omega)).2
  rw [hb.cell (p := ⟨b, o + i, none⟩) (by show b < N; omega)]
  exact h.cell i hi

theorem IntsAt.alloc {w : World} {ao : Option Addr} {b o : Nat} {xs : List Int} (h : IntsAt w ao b o xs) (x : Obj) : IntsAt (w.alloc x) ao b o xs :=
  h.below ((Below.refl _ _).alloc (Nat.le_refl _) x) (Nat.le_refl _)
theorem RowsAt.alloc {w : World} {ao : Option Addr} {b o : Nat} {xs : List (List Int)} {A : Nat → Option Addr} {B O C : Nat → Nat} (h : RowsAt w ao b o xs A B O C) (x : Obj) : RowsAt (w.alloc x) ao b o xs A B O C :=
  h.below ((Below.refl _ _).alloc (Nat.le_refl _) x) (Nat.le_refl _)

/-- A struct of two cells that has been boxed. -/
theorem box2 {w W : World} {a b : Value} {T : TypeId} (h : Below (w.heap.size + 1) (w.alloc (.cells #[a, b] T)) W) :
    W.cell? ⟨w.heap.size, 0, none⟩ = some a ∧ W.cell? ⟨w.heap.size, 1, none⟩ = some b := by
  have h0 := h.cell (p := ⟨w.heap.size, 0, none⟩) (by show w.heap.size < w.heap.size + 1; omega)
  have h1 := h.cell (p := ⟨w.heap.size, 1, none⟩) (by show w.heap.size < w.heap.size + 1; omega)
  rw [h0, h1]
  exact ⟨by simp, by simp⟩

/-- A struct of two cells that is stored whole. -/
theorem set2_cells {w : World} {N : Nat} {x y x0 y0 : Value} (h0 : w.cell? ⟨N, 0, none⟩ = some x0) (h1 : w.cell? ⟨N, 1, none⟩ = some y0) :
    (w.setCell ⟨N, 0, none⟩ x).cell? ⟨N, 0, none⟩ = some x ∧ ((w.setCell ⟨N, 0, none⟩ x).setCell ⟨N, 1, none⟩ y).cell? ⟨N, 1, none⟩ = some y := by
  refine ⟨World.cell?_setCell_same _ _ _ h0, World.cell?_setCell_same _ _ _ (u := y0) ?_⟩
  rw [World.cell?_setCell_other _ _ _ _ (by simp)]; exact h1

theorem gcd_step (m n : Int) (hm : 0 ≤ m) (hn : 0 ≤ n) : Int.gcd n (m % n) = Int.gcd m n := by
  obtain ⟨m, rfl⟩ := Int.eq_ofNat_of_zero_le hm
  obtain ⟨n, rfl⟩ := Int.eq_ofNat_of_zero_le hn
  rw [← Int.natCast_emod]
  show Nat.gcd n (m % n) = Nat.gcd m n
  rw [Nat.gcd_comm m n, Nat.gcd_rec n m, Nat.gcd_comm]

theorem ret_bool {a b : Bool} (h : a = b) : Ending.returned (.bool a) = .returned (.bool b) := by rw [h]
theorem ret_int {k : IntKind} {a b : Int} (h : a = b) : Ending.returned (.int k a) = .returned (.int k b) := by rw [h]
theorem below_drewN {B : Nat} {w0 w : World} (h : Below B w0 w) (n : Nat) : Below B w0 (w.drewN n) := h.trans ⟨rfl, rfl, rfl, Nat.le_refl _, fun _ _ => rfl⟩
theorem below_dr {B : Nat} {w0 w : World} (h : Below B w0 w) : Below B w0 w.drew := h.trans ⟨rfl, rfl, rfl, Nat.le_refl _, fun _ _ => rfl⟩

theorem cells_of3 {W : World} {g : Nat} {x y z : Value} {T : TypeId} (h : W.heap[g]? = some (.cells #[x, y, z] T (0, 0))) :
    W.cell? ⟨g, 0, none⟩ = some x ∧ W.cell? ⟨g, 1, none⟩ = some y ∧ W.cell? ⟨g, 2, none⟩ = some z :=
  ⟨by rw [cell_of_row _ _ _ _ _ _ h]; rfl, by rw [cell_of_row _ _ _ _ _ _ h]; rfl, by rw [cell_of_row _ _ _ _ _ _ h]; rfl⟩

end Go.Proofs.Ytjibdolhipddbaa
