/- A1 A2 A3 -/
import Derived.Test.YtjibdolhipddbaaRows
import Derived.WalkKit
import Derived.WalkSpells
import Derived.Deep.OwnRows
import Derived.Lib.Hide
import Derived.WalkLawsBesides
import Derived.Deep.LoopGhost
import Derived.Deep.QuietTactic
import Derived.BigQuiet
import Derived.RegionTactic
import Derived.ChangeAlike
import Derived.Deep.Cut
import Derived.Deep.CutRange
import Derived.Deep.CutBlock
import Derived.Deep.RegionHeld3
import Derived.Laws.BitsAllLaws
import Derived.Laws.AppendOwnNone
import Derived.Laws.CopyOwn
import Derived.Great.BuildSlice
/- How lists of numbers lie in memory; plain words on lists; small words on worlds. -/
namespace Go.Proofs.Ytjibdolhipddbaa
open Go.RowKit

/-- The number at a place of a list (0 behind its end). -/
def nth (xs : List Int) (i : Nat) : Int := xs.getD i 0
/-- The row at a place of a list of rows. -/
def row (xs : List (List Int)) (i : Nat) : List Int := xs.getD i []

theorem nth_cons_zero (x : Int) (xs : List Int) : nth (x :: xs) 0 = x := rfl
theorem nth_cons_succ (x : Int) (xs : List Int) (i : Nat) : nth (x :: xs) (i + 1) = nth xs i := rfl
theorem nth_mem {xs : List Int} {i : Nat} (h : i < xs.length) : nth xs i ∈ xs := by
  unfold nth; simp [List.getD_eq_getElem?_getD, h]
theorem nth_out {xs : List Int} {i : Nat} (h : xs.length ≤ i) : nth xs i = 0 := by
  unfold nth; simp [List.getD_eq_getElem?_getD, h]

/-- The cells of a slice of ints. -/
structure IntsAt (w : World) (ao : Option Addr) (b o : Nat) (xs : List Int) : Prop where
  ptr : 0 < xs.length → ao = some ⟨b, o, none⟩ ∧ b < w.heap.size
  cell : ∀ i, i < xs.length → w.cell? ⟨b, o + i, none⟩ = some (.int .i64 (nth xs i))
  len : xs.length ≤ 140737488351232
  wf : ∀ i, -9223372036854775808 ≤ nth xs i ∧ nth xs i ≤ 9223372036854775807

theorem IntsAt.below {B : Nat} {w w' : World} {ao : Option Addr} {b o : Nat} {xs : List Int} (h : IntsAt w ao b o xs) (hb : Below B w w') (hB : w.heap.size ≤ B) : IntsAt w' ao b o xs := by
  refine ⟨fun hp => ⟨(h.ptr hp).1, Nat.lt_of_lt_of_le (h.ptr hp).2 hb.size⟩, fun i hi => ?_, h.len, h.wf⟩
  have hlt := (h.ptr (by omega)).2
  rw [hb.cell (p := ⟨b, o + i, none⟩) (by show b < B; omega)]
  exact h.cell i hi

theorem IntsAt.nil (w : World) (ao : Option Addr) (b o : Nat) : IntsAt w ao b o [] :=
  ⟨fun h => absurd h (by simp), fun i hi => absurd hi (by simp), by simp, fun i => by simp [nth]⟩

/-- The cells of a slice of slices of ints. -/
structure RowsAt (w : World) (ao : Option Addr) (b o : Nat) (xs : List (List Int)) (A : Nat → Option Addr) (B O C : Nat → Nat) : Prop where
  ptr : 0 < xs.length → ao = some ⟨b, o, none⟩ ∧ b < w.heap.size
  cell : ∀ i, i < xs.length → w.cell? ⟨b, o + i, none⟩ = some (.slice (A i) (row xs i).length (C i))
  rows : ∀ i, i < xs.length → IntsAt w (A i) (B i) (O i) (row xs i)
  len : xs.length ≤ 140737488351232

theorem RowsAt.below {N : Nat} {w w' : World} {ao : Option Addr} {b o : Nat} {xs : List (List Int)} {A : Nat → Option Addr} {B O C : Nat → Nat} (h : RowsAt w ao b o xs A B O C) (hb : Below N w w') (hB : w.heap.size ≤ N) : RowsAt w' ao b o xs A B O C := by
  refine ⟨fun hp => ⟨(h.ptr hp).1, Nat.lt_of_lt_of_le (h.ptr hp).2 hb.size⟩, fun i hi => ?_, fun i hi => (h.rows i hi).below hb hB, h.len⟩
  have hlt := (h.ptr (by omega)).2
  rw [hb.cell (p := ⟨b, o + i, none⟩) (by show b < N; omega)]
  exact h.cell i hi

theorem IntsAt.alloc {w : World} {ao : Option Addr} {b o : Nat} {xs : List Int} (h : IntsAt w ao b o xs) (x : Obj) : IntsAt (w.alloc x) ao b o xs :=
  h.below ((Below.refl _ _).alloc (Nat.le_refl _) x) (Nat.le_refl _)
theorem RowsAt.alloc {w : World} {ao : Option Addr} {b o : Nat} {xs : List (List Int)} {A : Nat → Option Addr} {B O C : Nat → Nat} (h : RowsAt w ao b o xs A B O C) (x : Obj) : RowsAt (w.alloc x) ao b o xs A B O C :=
  h.below ((Below.refl _ _).alloc (Nat.le_refl _) x) (Nat.le_refl _)

/-- A struct of two cells that has been boxed. -/
theorem box2 {w W : World} {a b : Value} {T : TypeId} (h : Below (w.heap.size + 1) (w.alloc (.cells #[a, b] T)) W) :
    W.cell? ⟨w.heap.size, 0, none⟩ = some a ∧ W.cell? ⟨w.heap.size, 1, none⟩ = some b := by
  have h0 := h.cell (p := ⟨w.heap.size, 0, none⟩) (by show w.heap.size < w.heap.size + 1; omega)
  have h1 := h.cell (p := ⟨w.heap.size, 1, none⟩) (by show w.heap.size < w.heap.size + 1; omega)
  rw [h0, h1]
  exact ⟨by simp, by simp⟩

/-- A struct of two cells that is stored whole. -/
theorem set2_cells {w : World} {N : Nat} {x y x0 y0 : Value} (h0 : w.cell? ⟨N, 0, none⟩ = some x0) (h1 : w.cell? ⟨N, 1, none⟩ = some y0) :
    (w.setCell ⟨N, 0, none⟩ x).cell? ⟨N, 0, none⟩ = some x ∧ ((w.setCell ⟨N, 0, none⟩ x).setCell ⟨N, 1, none⟩ y).cell? ⟨N, 1, none⟩ = some y := by
  refine ⟨World.cell?_setCell_same _ _ _ h0, World.cell?_setCell_same _ _ _ (u := y0) ?_⟩
  rw [World.cell?_setCell_other _ _ _ _ (by simp)]; exact h1

theorem gcd_step (m n : Int) (hm : 0 ≤ m) (hn : 0 ≤ n) : Int.gcd n (m % n) = Int.gcd m n := by
  obtain ⟨m, rfl⟩ := Int.eq_ofNat_of_zero_le hm
  obtain ⟨n, rfl⟩ := Int.eq_ofNat_of_zero_le hn
  rw [← Int.natCast_emod]
  show Nat.gcd n (m % n) = Nat.gcd m n
  rw [Nat.gcd_comm m n, Nat.gcd_rec n m, Nat.gcd_comm]

theorem ret_bool {a b : Bool} (h : a = b) : Ending.returned (.bool a) = .returned (.bool b) := by rw [h]
theorem ret_int {k : IntKind} {a b : Int} (h : a = b) : Ending.returned (.int k a) = .returned (.int k b) := by rw [h]
theorem below_drewN {B : Nat} {w0 w : World} (h : Below B w0 w) (n : Nat) : Below B w0 (w.drewN n) := h.trans ⟨rfl, rfl, rfl, Nat.le_refl _, fun _ _ => rfl⟩
theorem below_dr {B : Nat} {w0 w : World} (h : Below B w0 w) : Below B w0 w.drew := h.trans ⟨rfl, rfl, rfl, Nat.le_refl _, fun _ _ => rfl⟩

theorem cells_of3 {W : World} {g : Nat} {x y z : Value} {T : TypeId} (h : W.heap[g]? = some (.cells #[x, y, z] T (0, 0))) :
    W.cell? ⟨g, 0, none⟩ = some x ∧ W.cell? ⟨g, 1, none⟩ = some y ∧ W.cell? ⟨g, 2, none⟩ = some z :=
  ⟨by rw [cell_of_row _ _ _ _ _ _ h]; rfl, by rw [cell_of_row _ _ _ _ _ _ h]; rfl, by rw [cell_of_row _ _ _ _ _ _ h]; rfl⟩

end Go.Proofs.Ytjibdolhipddbaa

/- Slices of ints, and of slices of ints, in memory that a call has made. -/
namespace Go.Proofs.Ytjibdolhipddbaa
open Go.RowKit

theorem Try.info3 : (Try.prog.info? 3).map (fun i => (i.zero, i.size, i.bytes)) = some (some (.int .i64 0), 1, 8) := by kernel_rfl
theorem Try.info34 : (Try.prog.info? 34).map (fun i => (i.zero, i.size, i.bytes)) = some (some (.slice none 0 0), 1, 24) := by kernel_rfl

/-- A slice of ints in memory that is new since the heap had B blocks. -/
structure NewInts (B : Nat) (w : World) (v : Value) (xs : List Int) : Prop where
  own : w.ownsRow B 3 1 v xs.length (xs.map (Value.int .i64))
  wf : ∀ i, -9223372036854775808 ≤ nth xs i ∧ nth xs i ≤ 9223372036854775807
  len : xs.length ≤ 140737488351232

theorem nth_map (xs : List Int) (i : Nat) (h : i < xs.length) : (xs.map (Value.int .i64))[i]? = some (.int .i64 (nth xs i)) := by
  simp [nth, List.getD_eq_getElem?_getD, h]

theorem NewInts.at {B : Nat} {w : World} {v : Value} {xs : List Int} (h : NewInts B w v xs) :
    ∃ ao b cap, v = .slice ao xs.length cap ∧ IntsAt w ao b 0 xs ∧ (0 < xs.length → B ≤ b) := by
  obtain ⟨⟨hl, h1⟩, hwf, hlen⟩ := h
  rcases h1 with ⟨rfl, h0⟩ | ⟨g, cap, cur, rfl, hg, hh, hcap, hm, hcs, htk⟩
  · have : xs = [] := List.length_eq_zero_iff.1 h0
    subst this
    exact ⟨none, 0, 0, rfl, IntsAt.nil _ _ _ _, fun h => absurd h (by simp)⟩
  · refine ⟨some ⟨g, 0, none⟩, g, cap, rfl, ⟨fun _ => ⟨rfl, lt_of_block hh⟩, fun i hi => ?_, hlen, hwf⟩, fun _ => hg⟩
    have e : cur[i]? = some (.int .i64 (nth xs i)) := by
      rw [← nth_map xs i hi, ← htk, List.getElem?_take]
      rw [if_pos (by omega)]; simp
    simp [World.cell?, hh, e]

theorem NewInts.nil (B : Nat) (w : World) : NewInts B w (.slice none 0 0) [] :=
  ⟨⟨rfl, .inl ⟨rfl, rfl⟩⟩, fun i => by simp [nth], by simp⟩

theorem nth_take {xs : List Int} {n i : Nat} (h : i < n) : nth (xs.take n) i = nth xs i := by
  simp [nth, List.getD_eq_getElem?_getD, h]
theorem wf_take {xs : List Int} {n : Nat} (h : ∀ i, -9223372036854775808 ≤ nth xs i ∧ nth xs i ≤ 9223372036854775807) : ∀ i, -9223372036854775808 ≤ nth (xs.take n) i ∧ nth (xs.take n) i ≤ 9223372036854775807 := by
  intro i
  by_cases hi : i < n
  · rw [nth_take hi]; exact h i
  · rw [nth_out (by simp; omega)]; omega

/-- The cells that an append copies. -/
theorem news_at {w : World} {ao : Option Addr} {b o : Nat} {xs : List Int} (h : IntsAt w ao b o xs) (ad : Addr) (had : ao = some ad) (n : Nat) :
    ∀ j u, ((xs.take n).map (Value.int .i64))[j]? = some u → w.cell? (ad.add j) = some u := by
  intro j u hj
  have hlt : j < ((xs.take n).map (Value.int .i64)).length := (List.getElem?_eq_some_iff.1 hj).1
  simp at hlt
  have h0 := (h.ptr (by omega)).1
  rw [had] at h0
  obtain rfl : ad = ⟨b, o, none⟩ := Option.some.inj h0
  rw [nth_map _ _ (by simp; omega), nth_take (by omega)] at hj
  rw [← hj]
  have := h.cell j (by omega)
  by_cases e : j = 0
  · subst e; simpa [Addr.add] using this
  · simpa [Addr.add, e] using this

theorem oneCell_ints (xs : List Int) : ∀ u ∈ xs.map (Value.int .i64), u.oneCell' = true := by
  intro u hu
  obtain ⟨x, _, rfl⟩ := List.mem_map.1 hu
  rfl

theorem own_nil (w : World) (B : Nat) : w.ownsRow B 3 1 (.slice none 0 0) 0 [] := ⟨rfl, .inl ⟨rfl, rfl⟩⟩

theorem row_append_lt {xss : List (List Int)} {xs : List Int} {j : Nat} (h : j < xss.length) : row (xss ++ [xs]) j = row xss j := by
  unfold row; simp [List.getD_eq_getElem?_getD, List.getElem?_append, h]
theorem row_append_eq {xss : List (List Int)} {xs : List Int} : row (xss ++ [xs]) xss.length = xs := by
  unfold row; simp [List.getD_eq_getElem?_getD]

/-- A slice of slices of ints, all of it new since the heap had B blocks. -/
structure NewRows (B : Nat) (w : World) (v : Value) (xss : List (List Int)) : Prop where
  ex : ∃ vs : List Value, w.ownsRow B 34 1 v xss.length vs ∧ (∀ j, j < xss.length → ∃ u, vs[j]? = some u ∧ NewInts B w u (row xss j)) ∧ ∀ u ∈ vs, u.oneCell' = true

theorem NewRows.nil (B : Nat) (w : World) : NewRows B w (.slice none 0 0) [] :=
  ⟨[], World.ownsRow_nil _ _ _ _, fun j hj => absurd hj (by simp), fun u hu => by cases hu⟩

theorem NewInts.kept {B : Nat} {w w' : World} {u : Value} {xs : List Int} (h : NewInts B w u xs) {r : Option Nat} (hg : w.grownBy w' r) (hne : u.ownBlock = none ∨ u.ownBlock ≠ r) : NewInts B w' u xs :=
  ⟨h.own.kept hg hne, h.wf, h.len⟩
theorem NewInts.below {B M : Nat} {w w' : World} {u : Value} {xs : List Int} (h : NewInts B w u xs) (hb : Below M w w') (hM : w.heap.size ≤ M) : NewInts B w' u xs := by
  refine ⟨⟨h.own.1, ?_⟩, h.wf, h.len⟩
  rcases h.own.2 with h2 | ⟨g, cap, cur, h1, h2, h3, h4⟩
  · exact .inl h2
  · exact .inr ⟨g, cap, cur, h1, h2, (hb.block _ (by have := lt_of_block h3; omega)).trans h3, h4⟩
theorem NewInts.mono {B B' : Nat} {w : World} {u : Value} {xs : List Int} (h : NewInts B w u xs) (hB : B' ≤ B) : NewInts B' w u xs := by
  refine ⟨⟨h.own.1, ?_⟩, h.wf, h.len⟩
  rcases h.own.2 with h2 | ⟨g, cap, cur, h1, h2, h3⟩
  · exact .inl h2
  · exact .inr ⟨g, cap, cur, h1, by omega, h3⟩
theorem ownsRow_below {B M : Nat} {w w' : World} {e : TypeId} {v : Value} {n : Nat} {vs : List Value} (h : w.ownsRow B e 1 v n vs) (hb : Below M w w') (hM : w.heap.size ≤ M) : w'.ownsRow B e 1 v n vs := by
  refine ⟨h.1, ?_⟩
  rcases h.2 with h2 | ⟨g, cap, cur, h1, h2, h3, h4⟩
  · exact .inl h2
  · exact .inr ⟨g, cap, cur, h1, h2, (hb.block _ (by have := lt_of_block h3; omega)).trans h3, h4⟩
theorem ownsRow_mono {B B' : Nat} {w : World} {e : TypeId} {v : Value} {n : Nat} {vs : List Value} (h : w.ownsRow B e 1 v n vs) (hB : B' ≤ B) : w.ownsRow B' e 1 v n vs := by
  refine ⟨h.1, ?_⟩
  rcases h.2 with h2 | ⟨g, cap, cur, h1, h2, h3⟩
  · exact .inl h2
  · exact .inr ⟨g, cap, cur, h1, by omega, h3⟩
theorem NewRows.below {B M : Nat} {w w' : World} {v : Value} {xss : List (List Int)} (h : NewRows B w v xss) (hb : Below M w w') (hM : w.heap.size ≤ M) : NewRows B w' v xss := by
  obtain ⟨vs, h1, h2, h3⟩ := h.ex
  exact ⟨vs, ownsRow_below h1 hb hM, fun j hj => let ⟨u, e, hu⟩ := h2 j hj; ⟨u, e, hu.below hb hM⟩, h3⟩
theorem NewRows.mono {B B' : Nat} {w : World} {v : Value} {xss : List (List Int)} (h : NewRows B w v xss) (hB : B' ≤ B) : NewRows B' w v xss := by
  obtain ⟨vs, h1, h2, h3⟩ := h.ex
  exact ⟨vs, ownsRow_mono h1 hB, fun j hj => let ⟨u, e, hu⟩ := h2 j hj; ⟨u, e, hu.mono hB⟩, h3⟩

theorem ownsRow_blocks {B : Nat} {w w' : World} {e : TypeId} {v : Value} {n : Nat} {vs : List Value} (h : w.ownsRow B e 1 v n vs) (hh : ∀ g, B ≤ g → g < w.heap.size → w'.heap[g]? = w.heap[g]?) : w'.ownsRow B e 1 v n vs := by
  refine ⟨h.1, ?_⟩
  rcases h.2 with h2 | ⟨g, cap, cur, h1, h2, h3, h4⟩
  · exact .inl h2
  · exact .inr ⟨g, cap, cur, h1, h2, (hh g h2 (lt_of_block h3)).trans h3, h4⟩
theorem NewInts.blocks {B : Nat} {w w' : World} {u : Value} {xs : List Int} (h : NewInts B w u xs) (hh : ∀ g, B ≤ g → g < w.heap.size → w'.heap[g]? = w.heap[g]?) : NewInts B w' u xs :=
  ⟨ownsRow_blocks h.own hh, h.wf, h.len⟩
theorem NewRows.blocks {B : Nat} {w w' : World} {v : Value} {xss : List (List Int)} (h : NewRows B w v xss) (hh : ∀ g, B ≤ g → g < w.heap.size → w'.heap[g]? = w.heap[g]?) : NewRows B w' v xss := by
  obtain ⟨vs, h1, h2, h3⟩ := h.ex
  exact ⟨vs, ownsRow_blocks h1 hh, fun j hj => let ⟨u, e, hu⟩ := h2 j hj; ⟨u, e, hu.blocks hh⟩, h3⟩
theorem NewRows.setCell {B : Nat} {w : World} {v : Value} {xss : List (List Int)} (h : NewRows B w v xss) {a : Addr} (ha : a.block < B) (x : Value) : NewRows B (w.setCell a x) v xss :=
  h.blocks fun g hg _ => heap_setCell_other _ _ _ _ (by omega)
theorem slice_of_own {B : Nat} {w : World} {e : TypeId} {v : Value} {n : Nat} {vs : List Value} (h : w.ownsRow B e 1 v (n + 1) vs) : ∃ g cap, v = .slice (some ⟨g, 0, none⟩) (n + 1) cap ∧ B ≤ g := by
  rcases h.2 with ⟨_, h2⟩ | ⟨g, cap, cur, h1, h2, h3⟩
  · omega
  · exact ⟨g, cap, h1, h2⟩

theorem NewRows.oneCell {B : Nat} {w : World} {v : Value} {xss : List (List Int)} (h : NewRows B w v xss) : v.oneCell' = true := by
  obtain ⟨vs, h1, _⟩ := h.ex
  rcases h1.2 with ⟨rfl, _⟩ | ⟨g, cap, cur, rfl, _⟩ <;> rfl
theorem NewInts.oneCell {B : Nat} {w : World} {v : Value} {xs : List Int} (h : NewInts B w v xs) : v.oneCell' = true := by
  rcases h.own.2 with ⟨rfl, _⟩ | ⟨g, cap, cur, rfl, _⟩ <;> rfl

/-- A slice of ints and a slice of slices are not one. -/
theorem own_apart {B B' : Nat} {w : World} {u v : Value} {xs : List Int} {n : Nat} {vs : List Value} (h : NewInts B w u xs) (h2 : w.ownsRow B' 34 1 v n vs) : u.ownBlock = none ∨ u.ownBlock ≠ v.ownBlock := by
  rcases h.own.2 with ⟨rfl, _⟩ | ⟨g, cap, cur, rfl, _, hg, _⟩
  · exact .inl rfl
  · right
    rcases h2.2 with ⟨rfl, _⟩ | ⟨g', cap', cur', rfl, _, hg', _⟩
    · simp [Value.ownBlock]
    · intro e
      simp [Value.ownBlock] at e
      subst e
      rw [hg] at hg'
      simp at hg'

theorem NewRows.snoc {B : Nat} {w w' : World} {v v' u : Value} {xss : List (List Int)} {xs : List Int} {vs : List Value} (h1 : w.ownsRow B 34 1 v xss.length vs)
    (h2 : ∀ j, j < xss.length → ∃ u, vs[j]? = some u ∧ NewInts B w u (row xss j)) (h3 : ∀ u ∈ vs, u.oneCell' = true) (hu : NewInts B w u xs) (hu1 : u.oneCell' = true)
    (hown : w'.ownsRow B 34 1 v' (xss.length + 1) (vs ++ [u])) (hg : w.grownBy w' v.ownBlock) : NewRows B w' v' (xss ++ [xs]) := by
  have hl : vs.length = xss.length := by have := h1.1; omega
  refine ⟨vs ++ [u], by simpa using hown, fun j hj => ?_, fun x hx => ?_⟩
  · by_cases e : j < xss.length
    · obtain ⟨u', e1, e2⟩ := h2 j e
      exact ⟨u', by rw [List.getElem?_append_left (by omega)]; exact e1, by rw [row_append_lt e]; exact e2.kept hg (own_apart e2 h1)⟩
    · have : j = xss.length := by simp at hj; omega
      subst this
      exact ⟨u, by rw [← hl]; simp, by rw [row_append_eq]; exact hu.kept hg (own_apart hu h1)⟩
  · rcases List.mem_append.1 hx with hx | hx
    · exact h3 x hx
    · rw [List.mem_singleton.1 hx]; exact hu1

theorem NewRows.at {B : Nat} {w : World} {v : Value} {xss : List (List Int)} (h : NewRows B w v xss) (hl : xss.length ≤ 140737488351232) :
    ∃ ao b cap A B' O C, v = .slice ao xss.length cap ∧ RowsAt w ao b 0 xss A B' O C := by
  obtain ⟨vs, h1, h2, _⟩ := h.ex
  have h2' : ∀ j : Nat, ∃ x : (Option Addr × Nat × Nat × Nat), j < xss.length → vs[j]? = some (.slice x.1 (row xss j).length x.2.2.2) ∧ IntsAt w x.1 x.2.1 x.2.2.1 (row xss j) := by
    intro j
    by_cases hj : j < xss.length
    · obtain ⟨u, e, hu⟩ := h2 j hj
      obtain ⟨ao, b, cap, rfl, hi, _⟩ := hu.at
      exact ⟨(ao, b, 0, cap), fun _ => ⟨e, hi⟩⟩
    · exact ⟨(none, 0, 0, 0), fun h => absurd h hj⟩
  obtain ⟨f, hf⟩ := Classical.axiomOfChoice h2'
  rcases h1.2 with ⟨rfl, h0⟩ | ⟨g, cap, cur, rfl, hg, hh, hcap, hm, hcs, htk⟩
  · exact ⟨none, 0, 0, fun j => (f j).1, fun j => (f j).2.1, fun j => (f j).2.2.1, fun j => (f j).2.2.2, by rw [h0], ⟨fun h => absurd h (by omega), fun i hi => absurd hi (by omega), fun i hi => absurd hi (by omega), hl⟩⟩
  · refine ⟨some ⟨g, 0, none⟩, g, cap, fun j => (f j).1, fun j => (f j).2.1, fun j => (f j).2.2.1, fun j => (f j).2.2.2, rfl, ⟨fun _ => ⟨rfl, lt_of_block hh⟩, fun i hi => ?_, fun i hi => (hf i hi).2, hl⟩⟩
    have e : cur[i]? = vs[i]? := by
      rw [← htk, List.getElem?_take, if_pos (by omega)]; simp
    have := (hf i hi).1
    simp [World.cell?, hh, e, this]

/-- What is known of the spare places of the rows of an argument. -/
def CapsOk (xss : List (List Int)) (A : Nat → Option Addr) (C : Nat → Nat) : Prop := ∀ i, i < xss.length → (row xss i).length ≤ C i ∧ (A i = none → C i = 0)

theorem oneCell_slice (ao : Option Addr) (n c : Nat) : (Value.slice ao n c).oneCell' = true := rfl


end Go.Proofs.Ytjibdolhipddbaa

/- Arrays whose cells are known by a function; sets of pairs as bits. -/
namespace Go.Proofs.Ytjibdolhipddbaa
open Go.RowKit

/-- The cells of an array. -/
def ofN (n : Nat) (f : Nat → Value) : Array Value := ((List.range n).map f).toArray
theorem ofN_size (n : Nat) (f : Nat → Value) : (ofN n f).size = n := by simp [ofN]
theorem ofN_get {n : Nat} (f : Nat → Value) {k : Nat} (h : k < n) : (ofN n f)[k]? = some (f k) := by simp [ofN, h]
theorem ofN_congr {n : Nat} {f g : Nat → Value} (h : ∀ k, k < n → f k = g k) : ofN n f = ofN n g := by
  unfold ofN
  rw [List.map_congr_left fun k hk => h k (List.mem_range.1 hk)]
theorem ofN_set {n : Nat} (f : Nat → Value) {k : Nat} (v : Value) (h : k < n) : (ofN n f).setIfInBounds k v = ofN n fun i => if i = k then v else f i := by
  refine Array.ext_getElem? fun i => ?_
  rw [Array.getElem?_setIfInBounds]
  by_cases hi : i < n
  · rw [ofN_get _ hi, ofN_get _ hi]
    by_cases e : k = i
    · subst e; rw [if_pos rfl, if_pos (by rw [ofN_size]; exact h), if_pos rfl]
    · rw [if_neg e, if_neg (fun q => e q.symm)]
  · rw [if_neg (by omega), Array.getElem?_eq_none (by rw [ofN_size]; omega), Array.getElem?_eq_none (by rw [ofN_size]; omega)]
theorem ofN_one {n : Nat} {f : Nat → Value} (h : ∀ k, (f k).oneCell' = true) : (ofN n f).all (·.oneCell') = true := by
  simp [ofN, h]

/-- A cell of a block that is such an array. -/
theorem cell_ofN {w : World} {g n : Nat} {f : Nat → Value} {T : TypeId} (h : w.heap[g]? = some (.cells (ofN n f) T (0, 0))) {k : Nat} (hk : k < n) : w.cell? ⟨g, k, none⟩ = some (f k) ∧ w.frozen? ⟨g, k, none⟩ = false :=
  ⟨by rw [cell_of_row _ _ _ _ _ _ h]; exact ofN_get f hk, frozen_of_row _ _ _ _ _ h⟩
theorem set_ofN {w : World} {g n : Nat} {f : Nat → Value} {T : TypeId} (h : w.heap[g]? = some (.cells (ofN n f) T (0, 0))) {k : Nat} (hk : k < n) (v : Value) : (w.setCell ⟨g, k, none⟩ v).heap[g]? = some (.cells (ofN n fun i => if i = k then v else f i) T (0, 0)) := by
  rw [heap_setCell_same _ _ _ _ _ _ h, ofN_set f v hk]


/-- The number whose bits below n are known by a function. -/
def bitsTo (f : Nat → Bool) : Nat → Nat
  | 0 => 0
  | n + 1 => bitsTo f n + if f n then 2 ^ n else 0
theorem bitsTo_lt (f : Nat → Bool) : ∀ n, bitsTo f n < 2 ^ n
  | 0 => by simp [bitsTo]
  | n + 1 => by
    have := bitsTo_lt f n
    simp only [bitsTo]
    split <;> omega
theorem bitsTo_bit (f : Nat → Bool) : ∀ n i, (bitsTo f n).testBit i = (decide (i < n) && f i)
  | 0, i => by simp [bitsTo]
  | n + 1, i => by
    have h := bitsTo_lt f n
    have ih := bitsTo_bit f n i
    simp only [bitsTo]
    by_cases hi : i < n
    · have e : (bitsTo f n + if f n = true then 2 ^ n else 0).testBit i = (bitsTo f n).testBit i := by
        split
        · rw [Nat.add_comm, Nat.testBit_two_pow_add_gt hi]
        · simp
      rw [e, ih]
      simp [hi, show i < n + 1 by omega]
    · by_cases e : i = n
      · subst e
        rw [show decide (i < i + 1) = true by simp, Bool.true_and]
        split
        · next q => rw [Nat.add_comm, Nat.testBit_two_pow_add_eq, Nat.testBit_lt_two_pow h, q]; rfl
        · next q => rw [Nat.add_zero, Nat.testBit_lt_two_pow h]; simpa using q
      · rw [show decide (i < n + 1) = false from decide_eq_false (by omega), Bool.false_and]
        refine Nat.testBit_lt_two_pow (Nat.lt_of_lt_of_le (m := 2 ^ (n + 1)) ?_ (Nat.pow_le_pow_right (by omega) (by omega)))
        split <;> omega
/-- A set of pairs: its 36 bits. -/
def S36 (f : Nat → Bool) : Nat := bitsTo f 36
theorem S36_lt (f : Nat → Bool) : S36 f < 68719476736 := bitsTo_lt f 36
theorem S36_bit (f : Nat → Bool) (i : Nat) : (S36 f).testBit i = (decide (i < 36) && f i) := bitsTo_bit f 36 i
theorem S36_of {m : Nat} {f : Nat → Bool} (h : ∀ i, m.testBit i = (decide (i < 36) && f i)) : m = S36 f :=
  Nat.eq_of_testBit_eq fun i => by rw [h, S36_bit]
theorem S36_congr {f g : Nat → Bool} (h : ∀ i, i < 36 → f i = g i) : S36 f = S36 g :=
  S36_of fun i => by
    rw [S36_bit]
    by_cases e : i < 36
    · rw [h i e]
    · simp [e]
theorem S36_inj {f g : Nat → Bool} (h : S36 f = S36 g) {i : Nat} (hi : i < 36) : f i = g i := by
  have := congrArg (fun m => Nat.testBit m i) h
  simpa [S36_bit, hi] using this
theorem S36_or (f g : Nat → Bool) : S36 f ||| S36 g = S36 fun i => f i || g i :=
  S36_of fun i => by rw [Nat.testBit_or, S36_bit, S36_bit, Bool.and_or_distrib_left]
theorem S36_and (f g : Nat → Bool) : S36 f &&& S36 g = S36 fun i => f i && g i :=
  S36_of fun i => by
    rw [Nat.testBit_and, S36_bit, S36_bit]
    cases decide (i < 36) <;> simp
theorem S36_not (f g : Nat → Bool) : S36 f &&& (18446744073709551615 - S36 g) = S36 fun i => f i && !g i :=
  S36_of fun i => by
    have h := S36_lt g
    rw [Nat.testBit_and, S36_bit, show (18446744073709551615 : Nat) - S36 g = 2 ^ 64 - (S36 g + 1) by omega, Nat.testBit_two_pow_sub_succ (by omega), S36_bit]
    by_cases e : i < 36
    · simp [e, show i < 64 by omega]
    · simp [e]
theorem S36_one {p : Nat} (h : p < 36) : 2 ^ p = S36 fun i => i == p :=
  S36_of fun i => by
    rw [Nat.testBit_two_pow]
    by_cases e : p = i
    · subst e; simp [h]
    · simp [e, Ne.symm e]
theorem S36_zero : (0 : Nat) = S36 fun _ => false := S36_of fun i => by simp
theorem S36_eq_zero {f : Nat → Bool} : S36 f = 0 ↔ ∀ i, i < 36 → f i = false := by
  constructor
  · intro h i hi
    have := S36_inj (h.trans S36_zero) hi
    exact this
  · intro h
    rw [S36_zero]
    exact S36_congr h

/-- A set of pairs as a value. -/
def sv (f : Nat → Bool) : Value := .int .u64 (S36 f : Nat)
theorem sv_congr {f g : Nat → Bool} (h : ∀ i, i < 36 → f i = g i) : sv f = sv g := by unfold sv; rw [S36_congr h]
theorem sv_or (f g : Nat → Bool) : bits .or .u64 (S36 f : Nat) (S36 g : Nat) = ((S36 fun i => f i || g i : Nat) : Int) := by
  have h1 := S36_lt f
  have h2 := S36_lt g
  rw [u64_or_nat _ _ (by omega) (by omega), S36_or]
theorem sv_and (f g : Nat → Bool) : bits .and .u64 (S36 f : Nat) (S36 g : Nat) = ((S36 fun i => f i && g i : Nat) : Int) := by
  have h1 := S36_lt f
  have h2 := S36_lt g
  rw [u64_and_nat _ _ (by omega) (by omega), S36_and]
theorem sv_not (f g : Nat → Bool) : bits .andNot .u64 (S36 f : Nat) (S36 g : Nat) = ((S36 fun i => f i && !g i : Nat) : Int) := by
  have h1 := S36_lt f
  have h2 := S36_lt g
  rw [u64_andNot_nat _ _ (by omega) (by omega), S36_not]

set_option maxHeartbeats 400000 in
theorem oneTo_any (n x : Int) (w : World) :
    Calls Try.prog 33 #[.int .i64 n, .int .i64 x] w fun e w' => e = .returned (.bool (decide (1 ≤ x ∧ x ≤ n))) ∧ w' = w := by
  by_cases h1 : 1 ≤ x
  · have t1 : decide (1 ≤ x) = true := decide_eq_true h1
    by_cases h2 : x ≤ n
    · have t2 : decide (x ≤ n) = true := decide_eq_true h2
      have HR := Lib.hid (show decide (1 ≤ x ∧ x ≤ n) = true from decide_eq_true ⟨h1, h2⟩)
      clear h1 h2
      go_enter Try.func33, Try.ntmps33
      go_wp2
      go_ret
      exact ⟨ret_bool HR.out.symm, rfl⟩
    · have t2 : decide (x ≤ n) = false := decide_eq_false h2
      have HR := Lib.hid (show decide (1 ≤ x ∧ x ≤ n) = false from decide_eq_false fun q => h2 q.2)
      clear h1 h2
      go_enter Try.func33, Try.ntmps33
      go_wp2
      go_ret
      exact ⟨ret_bool HR.out.symm, rfl⟩
  · have t1 : decide (1 ≤ x) = false := decide_eq_false h1
    have HR := Lib.hid (show decide (1 ≤ x ∧ x ≤ n) = false from decide_eq_false fun q => h1 q.1)
    clear h1
    go_enter Try.func33, Try.ntmps33
    go_wp2
    go_ret
    exact ⟨ret_bool HR.out.symm, rfl⟩

theorem wrap_two {n : Nat} (h : n < 36) : IntKind.u64.wrap ((2 : Int) ^ n) = ((2 ^ n : Nat) : Int) := by
  have : (2 : Nat) ^ n < 2 ^ 36 := Nat.pow_lt_pow_right (by omega) h
  rw [IntKind.wrap_u64, show (2 : Int) ^ n = ((2 ^ n : Nat) : Int) by simp]
  generalize (2 : Nat) ^ n = m at this ⊢
  omega

set_option maxHeartbeats 400000 in
theorem pair_any (k j : Nat) (w : World) (hk : k < 6) (hj : j < 6) :
    Calls Try.prog 49 #[.int .i64 k, .int .i64 j] w fun e w' => e = .returned (sv fun i => i == 6 * k + j) ∧ w' = w := by
  have HR := Lib.hid (show IntKind.u64.wrap ((2 : Int) ^ (k * 6 + j)) = ((S36 fun i => i == 6 * k + j : Nat) : Int) by rw [wrap_two (by omega), S36_one (show k * 6 + j < 36 by omega), Nat.mul_comm k 6])
  go_enter Try.func49, Try.ntmps49
  go_wp2
  go_ret
  refine ⟨?_, rfl⟩
  rw [sv, ← HR.out]
  simp only [Nat.zero_add]
  rfl

set_option maxHeartbeats 400000 in
theorem has_any (f : Nat → Bool) (k j : Nat) (w : World) (hk : k < 6) (hj : j < 6) :
    Calls Try.prog 55 #[sv f, .int .i64 k, .int .i64 j] w fun e w' => e = .returned (.bool (f (6 * k + j))) ∧ w' = w := by
  have HR := Lib.hid (show (bits .and .u64 (S36 f : Nat) ((S36 fun i => i == 6 * k + j : Nat) : Int) != 0) = f (6 * k + j) by
    rw [sv_and]
    cases e : f (6 * k + j)
    · rw [show (S36 fun i => f i && i == 6 * k + j) = 0 from S36_eq_zero.2 fun i _ => by
        by_cases q : i = 6 * k + j
        · rw [q, e]; rfl
        · simp [q]]
      rfl
    · rw [bne_iff_ne]
      intro q
      have := S36_eq_zero.1 (Int.ofNat.inj q) (6 * k + j) (by omega)
      simp [e] at this)
  have HP := Lib.hid (pair_any k j w hk hj)
  go_enter Try.func55, Try.ntmps55
  go_wp2_with fail
  refine HP.out.mono ?_
  rintro e w' ⟨rfl, rfl⟩
  rw [sv, sv]
  go_wp2
  go_ret
  exact ⟨ret_bool HR.out, rfl⟩

theorem low_split : ∀ m : Nat, 0 < m → ∃ p q, m = 2 ^ p * (2 * q + 1)
  | m, h => by
    by_cases e : m % 2 = 1
    · exact ⟨0, m / 2, by omega⟩
    · obtain ⟨p, q, hq⟩ := low_split (m / 2) (by omega)
      refine ⟨p + 1, q, ?_⟩
      rw [Nat.pow_succ, Nat.mul_assoc, Nat.mul_comm 2, ← Nat.mul_assoc, ← hq]
      omega
  termination_by m => m
/-- The lowest bit. -/
theorem low_bit (f : Nat → Bool) (h : S36 f ≠ 0) : ∃ p, p < 36 ∧ f p = true ∧ S36 f &&& (18446744073709551616 - S36 f) = S36 fun i => i == p := by
  obtain ⟨p, q, hq⟩ := low_split (S36 f) (by omega)
  have hlt := S36_lt f
  have h1 : ∀ i, (S36 f).testBit i = if i < p then false else if i = p then true else q.testBit (i - p - 1) := fun i => by
    rw [hq, Nat.testBit_two_pow_mul]
    by_cases e : i < p
    · simp [e, show ¬ p ≤ i by omega]
    · by_cases e2 : i = p
      · subst e2; simp
      · rw [if_neg e, if_neg e2, show i - p = (i - p - 1) + 1 by omega]
        simp [show p ≤ i by omega, Nat.testBit_succ, show (2 * q + 1) / 2 = q by omega]
  have hp0 : 0 < 2 ^ p := Nat.pow_pos (by omega)
  have h2 : ∀ i, (S36 f - 1).testBit i = if i < p then true else if i = p then false else q.testBit (i - p - 1) := fun i => by
    have e0 : S36 f - 1 = 2 ^ p * (2 * q) + (2 ^ p - 1) := by
      rw [hq, Nat.mul_add, Nat.mul_one]; omega
    rw [e0, Nat.testBit_two_pow_mul_add _ (by omega)]
    by_cases e : i < p
    · simp [e]
    · by_cases e2 : i = p
      · subst e2; simp
      · rw [if_neg e, if_neg e, if_neg e2, show i - p = (i - p - 1) + 1 by omega]
        simp [Nat.testBit_succ]
  have hpt : (S36 f).testBit p = true := by rw [h1]; simp
  have hp : p < 36 ∧ f p = true := by
    rw [S36_bit] at hpt
    simpa using hpt
  refine ⟨p, hp.1, hp.2, S36_of fun i => ?_⟩
  rw [Nat.testBit_and, show (18446744073709551616 : Nat) - S36 f = 2 ^ 64 - ((S36 f - 1) + 1) by omega, Nat.testBit_two_pow_sub_succ (by omega), h1, h2]
  by_cases e : i < p
  · simp [e, show i ≠ p by omega]
  · by_cases e2 : i = p
    · subst e2; simp [hp.1, show i < 64 by omega]
    · simp only [if_neg e, if_neg e2]
      cases q.testBit (i - p - 1) <;> simp [e2]

set_option maxHeartbeats 400000 in
theorem first_any (f : Nat → Bool) (w : World) (h : S36 f ≠ 0) :
    Calls Try.prog 52 #[sv f] w fun e w' => (∃ p, p < 36 ∧ f p = true ∧ e = .returned (sv fun i => i == p)) ∧ w' = w := by
  have HR := Lib.hid (show ∃ p, p < 36 ∧ f p = true ∧ bits .and .u64 (S36 f : Nat) (IntKind.u64.wrap (-(S36 f : Nat))) = ((S36 fun i => i == p : Nat) : Int) from by
    obtain ⟨p, h1, h2, h3⟩ := low_bit f h
    have hlt := S36_lt f
    refine ⟨p, h1, h2, ?_⟩
    rw [show IntKind.u64.wrap (-(S36 f : Nat)) = ((18446744073709551616 - S36 f : Nat) : Int) by rw [IntKind.wrap_u64]; omega, u64_and_nat _ _ (by omega) (by omega), h3])
  clear h
  go_enter Try.func52, Try.ntmps52
  rw [sv]
  go_wp2
  go_ret
  obtain ⟨p, h1, h2, h3⟩ := HR.out
  exact ⟨⟨p, h1, h2, by rw [sv, ← h3]; rfl⟩, rfl⟩

end Go.Proofs.Ytjibdolhipddbaa
