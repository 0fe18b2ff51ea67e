/- Two lists of rows that grow side by side. -/
import Derived.Test.YtaphmjccdokiiaaPb
import Derived.Maps.AppendAt
namespace Go.Proofs.Ytaphmjccdokiiaa
open Go.RowKit

/-- The two slices lie in two blocks. -/
def Apart (u v : Value) : Prop := ∀ g, u.ownBlock = some g → v.ownBlock ≠ some g
theorem Apart.symm {u v : Value} (h : Apart u v) : Apart v u := fun g h1 h2 => h g h2 h1
theorem Apart.nil (v : Value) : Apart (.slice none 0 0) v := fun g h => by simp [Value.ownBlock] at h

/-- A list of rows while another one grows. -/
theorem NewRows.while {B B' n : Nat} {w w' : World} {u v : Value} {xss : List (List Int)} {vs : List Value} (h : NewRows B w v xss) (hu : w.ownsRow B' 25 1 u n vs) (ha : Apart u v) (hg : w.grownBy w' u.ownBlock) : NewRows B w' v xss := by
  obtain ⟨ws, h1, h2, h3⟩ := h.ex
  refine ⟨ws, h1.kept hg ?_, fun j hj => let ⟨x, e, hx⟩ := h2 j hj; ⟨x, e, hx.kept hg (own_apart hx hu)⟩, h3⟩
  cases hv : v.ownBlock with
  | none => exact .inl rfl
  | some g => exact .inr (fun e => ha g e.symm hv)

theorem Apart.grow {B n : Nat} {w : World} {u u' v : Value} {vs : List Value} (ha : Apart u v) (hv : w.ownsRow B 25 1 v n vs) (hat : u'.ownBlock = u.ownBlock ∨ u'.ownBlock = some w.heap.size) : Apart u' v := by
  intro g h1 h2
  rcases hat with q | q
  · exact ha g (q ▸ h1) h2
  · rw [q] at h1
    have := (hv.lt g h2).2
    have := Option.some.inj h1
    omega

/-- Two lists of rows, under way. -/
structure Two (B : Nat) (w : World) (v1 v2 : Value) (A1 A2 : List (List Int)) : Prop where
  one : NewRows B w v1 A1
  two : NewRows B w v2 A2
  apart : Apart v1 v2

theorem Two.nil (B : Nat) (w : World) : Two B w (.slice none 0 0) (.slice none 0 0) [] [] := ⟨NewRows.nil _ _, NewRows.nil _ _, Apart.nil _⟩
theorem Two.below {B M : Nat} {w w' : World} {v1 v2 : Value} {A1 A2 : List (List Int)} (h : Two B w v1 v2 A1 A2) (hb : Below M w w') (hM : w.heap.size ≤ M) : Two B w' v1 v2 A1 A2 := ⟨h.one.below hb hM, h.two.below hb hM, h.apart⟩
theorem Two.blocks {B : Nat} {w w' : World} {v1 v2 : Value} {A1 A2 : List (List Int)} (h : Two B w v1 v2 A1 A2) (hh : ∀ g, B ≤ g → g < w.heap.size → w'.heap[g]? = w.heap[g]?) : Two B w' v1 v2 A1 A2 := ⟨h.one.blocks hh, h.two.blocks hh, h.apart⟩

/-- One row more in the first list. -/
theorem Two.first {B : Nat} {w w' : World} {v1 v2 v' u : Value} {A1 A2 : List (List Int)} {xs : List Int} {vs : List Value} (h : Two B w v1 v2 A1 A2) (h1 : w.ownsRow B 25 1 v1 A1.length vs)
    (h2 : ∀ j, j < A1.length → ∃ u, vs[j]? = some u ∧ NewInts B w u (row A1 j)) (h3 : ∀ u ∈ vs, u.oneCell' = true) (hu : NewInts B w u xs)
    (hown : w'.ownsRow B 25 1 v' (A1.length + 1) (vs ++ [u])) (hg : w.grownBy w' v1.ownBlock) (hat : v'.ownBlock = v1.ownBlock ∨ v'.ownBlock = some w.heap.size) : Two B w' v' v2 (A1 ++ [xs]) A2 := by
  obtain ⟨ws, k1, -, -⟩ := h.two.ex
  exact ⟨NewRows.snoc h1 h2 h3 hu hu.oneCell hown hg, h.two.while h1 h.apart hg, h.apart.grow k1 hat⟩
/-- One row more in the second list. -/
theorem Two.second {B : Nat} {w w' : World} {v1 v2 v' u : Value} {A1 A2 : List (List Int)} {xs : List Int} {vs : List Value} (h : Two B w v1 v2 A1 A2) (h1 : w.ownsRow B 25 1 v2 A2.length vs)
    (h2 : ∀ j, j < A2.length → ∃ u, vs[j]? = some u ∧ NewInts B w u (row A2 j)) (h3 : ∀ u ∈ vs, u.oneCell' = true) (hu : NewInts B w u xs)
    (hown : w'.ownsRow B 25 1 v' (A2.length + 1) (vs ++ [u])) (hg : w.grownBy w' v2.ownBlock) (hat : v'.ownBlock = v2.ownBlock ∨ v'.ownBlock = some w.heap.size) : Two B w' v1 v' A1 (A2 ++ [xs]) := by
  obtain ⟨ws, k1, -, -⟩ := h.one.ex
  exact ⟨h.one.while h1 h.apart.symm hg, NewRows.snoc h1 h2 h3 hu hu.oneCell hown hg, (h.apart.symm.grow k1 hat).symm⟩

theorem take_next {xss : List (List Int)} {k : Nat} (h : k < xss.length) : xss.take (k + 1) = xss.take k ++ [row xss k] := by
  rw [List.take_succ_eq_append_getElem h]
  simp [row, List.getD_eq_getElem?_getD, h]

end Go.Proofs.Ytaphmjccdokiiaa
