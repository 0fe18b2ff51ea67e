/- Slices of ints, and of slices of ints, in memory that a call has made. -/
import Derived.Test.YtjibdolhipddbaaA1
import Derived.Laws.AppendOwnNone
import Derived.Laws.CopyOwn
import Derived.Great.BuildSlice
namespace Go.Proofs.Ytjibdolhipddbaa
open Go.RowKit

theorem Try.info3 : (Try.prog.info? 3).map (fun i => (i.zero, i.size, i.bytes)) = some (some (.int .i64 0), 1, 8) := by kernel_rfl
theorem Try.info34 : (Try.prog.info? 34).map (fun i => (i.zero, i.size, i.bytes)) = some (some (.slice none 0 0), 1, 24) := by kernel_rfl

/-- A slice of ints in memory that is new since the heap had B blocks. -/
structure NewInts (B : Nat) (w : World) (v : Value) (xs : List Int) : Prop where
  own : w.ownsRow B 3 1 v xs.length (xs.map (Value.int .i64))
  wf : ∀ i, -9223372036854775808 ≤ nth xs i ∧ nth xs i ≤ 9223372036854775807
  len : xs.length ≤ 140737488351232

theorem nth_map (xs : List Int) (i : Nat) (h : i < xs.length) : (xs.map (Value.int .i64))[i]? = some (.int .i64 (nth xs i)) := by
  simp [nth, List.getD_eq_getElem?_getD, h]

theorem NewInts.at {B : Nat} {w : World} {v : Value} {xs : List Int} (h : NewInts B w v xs) :
    ∃ ao b cap, v = .slice ao xs.length cap ∧ IntsAt w ao b 0 xs ∧ (0 < xs.length → B ≤ b) := by
  obtain ⟨⟨hl, h1⟩, hwf, hlen⟩ := h
  rcases h1 with ⟨rfl, h0⟩ | ⟨g, cap, cur, rfl, hg, hh, hcap, hm, hcs, htk⟩
  · have : xs = [] := List.length_eq_zero_iff.1 h0
    subst this
    exact ⟨none, 0, 0, rfl, IntsAt.nil _ _ _ _, fun h => absurd h (by simp)⟩
  · refine ⟨some ⟨g, 0, none⟩, g, cap, rfl, ⟨fun _ => ⟨rfl, lt_of_block hh⟩, fun i hi => ?_, hlen, hwf⟩, fun _ => hg⟩
    have e : cur[i]? = some (.int .i64 (nth xs i)) := by
      rw [← nth_map xs i hi, ← htk, List.getElem?_take]
      rw [if_pos (by omega)]; simp
    simp [World.cell?, hh, e]

theorem NewInts.nil (B : Nat) (w : World) : NewInts B w (.slice none 0 0) [] :=
  ⟨⟨rfl, .inl ⟨rfl, rfl⟩⟩, fun i => by simp [nth], by simp⟩

theorem nth_take {xs : List Int} {n i : Nat} (h : i < n) : nth (xs.take n) i = nth xs i := by
  simp [nth, List.getD_eq_getElem?_getD, h]
theorem wf_take {xs : List Int} {n : Nat} (h : ∀ i, -9223372036854775808 ≤ nth xs i ∧ nth xs i ≤ 9223372036854775807) : ∀ i, -9223372036854775808 ≤ nth (xs.take n) i ∧ nth (xs.take n) i ≤ 9223372036854775807 := by
  intro i
  by_cases hi : i < n
  · rw [nth_take hi]; exact h i
  · rw [nth_out (by simp; omega)]; omega

/-- The cells that an append copies. -/
theorem news_at {w : World} {ao : Option Addr} {b o : Nat} {xs : List Int} (h : IntsAt w ao b o xs) (ad : Addr) (had : ao = some ad) (n : Nat) :
    ∀ j u, ((xs.take n).map (Value.int .i64))[j]? = some u → w.cell? (ad.add j) = some u := by
  intro j u hj
  have hlt : j < ((xs.take n).map (Value.int .i64)).length := (List.getElem?_eq_some_iff.1 hj).1
  simp at hlt
  have h0 := (h.ptr (by omega)).1
  rw [had] at h0
  obtain rfl : ad = ⟨b, o, none⟩ := Option.some.inj h0
  rw [nth_map _ _ (by simp; omega), nth_take (by omega)] at hj
  rw [← hj]
  have := h.cell j (by omega)
  by_cases e : j = 0
  · subst e; simpa [Addr.add] using this
  · simpa [Addr.add, e] using this

theorem oneCell_ints (xs : List Int) : ∀ u ∈ xs.map (Value.int .i64), u.oneCell' = true := by
  intro u hu
  obtain ⟨x, _, rfl⟩ := List.mem_map.1 hu
  rfl

theorem own_nil (w : World) (B : Nat) : w.ownsRow B 3 1 (.slice none 0 0) 0 [] := ⟨rfl, .inl ⟨rfl, rfl⟩⟩

theorem row_append_lt {xss : List (List Int)} {xs : List Int} {j : Nat} (h : j < xss.length) : row (xss ++ [xs]) j = row xss j := by
  unfold row; simp [List.getD_eq_getElem?_getD, List.getElem?_append, h]
theorem row_append_eq {xss : List (List Int)} {xs : List Int} : row (xss ++ [xs]) xss.length = xs := by
  unfold row; simp [List.getD_eq_getElem?_getD]

/-- A slice of slices of ints, all of it new since the heap had B blocks. -/
structure NewRows (B : Nat) (w : World) (v : Value) (xss : List (List Int)) : Prop where
  ex : ∃ vs : List Value, w.ownsRow B 34 1 v xss.length vs ∧ (∀ j, j < xss.length → ∃ u, vs[j]? = some u ∧ NewInts B w u (row xss j)) ∧ ∀ u ∈ vs, u.oneCell' = true

theorem NewRows.nil (B : Nat) (w : World) : NewRows B w (.slice none 0 0) [] :=
  ⟨[], World.ownsRow_nil _ _ _ _, fun j hj => absurd hj (by simp), fun u hu => by cases hu⟩

theorem NewInts.kept {B : Nat} {w w' : World} {u : Value} {xs : List Int} (h : NewInts B w u xs) {r : Option Nat} (hg : w.grownBy w' r) (hne : u.ownBlock = none ∨ u.ownBlock ≠ r) : NewInts B w' u xs :=
  ⟨h.own.kept hg hne, h.wf, h.len⟩
theorem NewInts.below {B M : Nat} {w w' : World} {u : Value} {xs : List Int} (h : NewInts B w u xs) (hb : Below M w w') (hM : w.heap.size ≤ M) : NewInts B w' u xs := by
  refine ⟨⟨h.own.1, ?_⟩, h.wf, h.len⟩
  rcases h.own.2 with h2 | ⟨g, cap, cur, h1, h2, h3, h4⟩
  · exact .inl h2
  · exact .inr ⟨g, cap, cur, h1, h2, (hb.block _ (by have := lt_of_block h3; omega)).trans h3, h4⟩
theorem NewInts.mono {B B' : Nat} {w : World} {u : Value} {xs : List Int} (h : NewInts B w u xs) (hB : B' ≤ B) : NewInts B' w u xs := by
  refine ⟨⟨h.own.1, ?_⟩, h.wf, h.len⟩
  rcases h.own.2 with h2 | ⟨g, cap, cur, h1, h2, h3⟩
  · exact .inl h2
  · exact .inr ⟨g, cap, cur, h1, by omega, h3⟩
theorem ownsRow_below {B M : Nat} {w w' : World} {e : TypeId} {v : Value} {n : Nat} {vs : List Value} (h : w.ownsRow B e 1 v n vs) (hb : Below M w w') (hM : w.heap.size ≤ M) : w'.ownsRow B e 1 v n vs := by
  refine ⟨h.1, ?_⟩
  rcases h.2 with h2 | ⟨g, cap, cur, h1, h2, h3, h4⟩
  · exact .inl h2
  · exact .inr ⟨g, cap, cur, h1, h2, (hb.block _ (by have := lt_of_block h3; omega)).trans h3, h4⟩
theorem ownsRow_mono {B B' : Nat} {w : World} {e : TypeId} {v : Value} {n : Nat} {vs : List Value} (h : w.ownsRow B e 1 v n vs) (hB : B' ≤ B) : w.ownsRow B' e 1 v n vs := by
  refine ⟨h.1, ?_⟩
  rcases h.2 with h2 | ⟨g, cap, cur, h1, h2, h3⟩
  · exact .inl h2
  · exact .inr ⟨g, cap, cur, h1, by omega, h3⟩
theorem NewRows.below {B M : Nat} {w w' : World} {v : Value} {xss : List (List Int)} (h : NewRows B w v xss) (hb : Below M w w') (hM : w.heap.size ≤ M) : NewRows B w' v xss := by
  obtain ⟨vs, h1, h2, h3⟩ := h.ex
  exact ⟨vs, ownsRow_below h1 hb hM, fun j hj => let ⟨u, e, hu⟩ := h2 j hj; ⟨u, e, hu.below hb hM⟩, h3⟩
theorem NewRows.mono {B B' : Nat} {w : World} {v : Value} {xss : List (List Int)} (h : NewRows B w v xss) (hB : B' ≤ B) : NewRows B' w v xss := by
  obtain ⟨vs, h1, h2, h3⟩ := h.ex
  exact ⟨vs, ownsRow_mono h1 hB, fun j hj => let ⟨u, e, hu⟩ := h2 j hj; ⟨u, e, hu.mono hB⟩, h3⟩

theorem ownsRow_blocks {B : Nat} {w w' : World} {e : TypeId} {v : Value} {n : Nat} {vs : List Value} (h : w.ownsRow B e 1 v n vs) (hh : ∀ g, B ≤ g → g < w.heap.size → w'.heap[g]? = w.heap[g]?) : w'.ownsRow B e 1 v n vs := by
  refine ⟨h.1, ?_⟩
  rcases h.2 with h2 | ⟨g, cap, cur, h1, h2, h3, h4⟩
  · exact .inl h2
  · exact .inr ⟨g, cap, cur, h1, h2, (hh g h2 (lt_of_block h3)).trans h3, h4⟩
theorem NewInts.blocks {B : Nat} {w w' : World} {u : Value} {xs : List Int} (h : NewInts B w u xs) (hh : ∀ g, B ≤ g → g < w.heap.size → w'.heap[g]? = w.heap[g]?) : NewInts B w' u xs :=
  ⟨ownsRow_blocks h.own hh, h.wf, h.len⟩
theorem NewRows.blocks {B : Nat} {w w' : World} {v : Value} {xss : List (List Int)} (h : NewRows B w v xss) (hh : ∀ g, B ≤ g → g < w.heap.size → w'.heap[g]? = w.heap[g]?) : NewRows B w' v xss := by
  obtain ⟨vs, h1, h2, h3⟩ := h.ex
  exact ⟨vs, ownsRow_blocks h1 hh, fun j hj => let ⟨u, e, hu⟩ := h2 j hj; ⟨u, e, hu.blocks hh⟩, h3⟩
theorem NewRows.setCell {B : Nat} {w : World} {v : Value} {xss : List (List Int)} (h : NewRows B w v xss) {a : Addr} (ha : a.block < B) (x : Value) : NewRows B (w.setCell a x) v xss :=
  h.blocks fun g hg _ => heap_setCell_other _ _ _ _ (by omega)
theorem slice_of_own {B : Nat} {w : World} {e : TypeId} {v : Value} {n : Nat} {vs : List Value} (h : w.ownsRow B e 1 v (n + 1) vs) : ∃ g cap, v = .slice (some ⟨g, 0, none⟩) (n + 1) cap ∧ B ≤ g := by
  rcases h.2 with ⟨_, h2⟩ | ⟨g, cap, cur, h1, h2, h3⟩
  · omega
  · exact ⟨g, cap, h1, h2⟩

theorem NewRows.oneCell {B : Nat} {w : World} {v : Value} {xss : List (List Int)} (h : NewRows B w v xss) : v.oneCell' = true := by
  obtain ⟨vs, h1, _⟩ := h.ex
  rcases h1.2 with ⟨rfl, _⟩ | ⟨g, cap, cur, rfl, _⟩ <;> rfl
theorem NewInts.oneCell {B : Nat} {w : World} {v : Value} {xs : List Int} (h : NewInts B w v xs) : v.oneCell' = true := by
  rcases h.own.2 with ⟨rfl, _⟩ | ⟨g, cap, cur, rfl, _⟩ <;> rfl

/-- A slice of ints and a slice of slices are not one. -/
theorem own_apart {B B' : Nat} {w : World} {u v : Value} {xs : List Int} {n : Nat} {vs : List Value} (h : NewInts B w u xs) (h2 : w.ownsRow B' 34 1 v n vs) : u.ownBlock = none ∨ u.ownBlock ≠ v.ownBlock := by
  rcases h.own.2 with ⟨rfl, _⟩ | ⟨g, cap, cur, rfl, _, hg, _⟩
  · exact .inl rfl
  · right
    rcases h2.2 with ⟨rfl, _⟩ | ⟨g', cap', cur', rfl, _, hg', _⟩
    · simp [Value.ownBlock]
    · intro e
      simp [Value.ownBlock] at e
      subst e
      rw [hg] at hg'
      simp at hg'

theorem NewRows.snoc {B : Nat} {w w' : World} {v v' u : Value} {xss : List (List Int)} {xs : List Int} {vs : List Value} (h1 : w.ownsRow B 34 1 v xss.length vs)
    (h2 : ∀ j, j < xss.length → ∃ u, vs[j]? = some u ∧ NewInts B w u (row xss j)) (h3 : ∀ u ∈ vs, u.oneCell' = true) (hu : NewInts B w u xs) (hu1 : u.oneCell' = true)
    (hown : w'.ownsRow B 34 1 v' (xss.length + 1) (vs ++ [u])) (hg : w.grownBy w' v.ownBlock) : NewRows B w' v' (xss ++ [xs]) := by
  have hl : vs.length = xss.length := by have := h1.1; omega
  refine ⟨vs ++ [u], by simpa using hown, fun j hj => ?_, fun x hx => ?_⟩
  · by_cases e : j < xss.length
    · obtain ⟨u', e1, e2⟩ := h2 j e
      exact ⟨u', by rw [List.getElem?_append_left (by omega)]; exact e1, by rw [row_append_lt e]; exact e2.kept hg (own_apart e2 h1)⟩
    · have : j = xss.length := by simp at hj; omega
      subst this
      exact ⟨u, by rw [← hl]; simp, by rw [row_append_eq]; exact hu.kept hg (own_apart hu h1)⟩
  · rcases List.mem_append.1 hx with hx | hx
    · exact h3 x hx
    · rw [List.mem_singleton.1 hx]; exact hu1

theorem NewRows.at {B : Nat} {w : World} {v : Value} {xss : List (List Int)} (h : NewRows B w v xss) (hl : xss.length ≤ 140737488351232) :
    ∃ ao b cap A B' O C, v = .slice ao xss.length cap ∧ RowsAt w ao b 0 xss A B' O C := by
  obtain ⟨vs, h1, h2, _⟩ := h.ex
  have h2' : ∀ j : Nat, ∃ x : (Option Addr × Nat × Nat × Nat), j < xss.length → vs[j]? = some (.slice x.1 (row xss j).length x.2.2.2) ∧ IntsAt w x.1 x.2.1 x.2.2.1 (row xss j) := by
    intro j
    by_cases hj : j < xss.length
    · obtain ⟨u, e, hu⟩ := h2 j hj
      obtain ⟨ao, b, cap, rfl, hi, _⟩ := hu.at
      exact ⟨(ao, b, 0, cap), fun _ => ⟨e, hi⟩⟩
    · exact ⟨(none, 0, 0, 0), fun h => absurd h hj⟩
  obtain ⟨f, hf⟩ := Classical.axiomOfChoice h2'
  rcases h1.2 with ⟨rfl, h0⟩ | ⟨g, cap, cur, rfl, hg, hh, hcap, hm, hcs, htk⟩
  · exact ⟨none, 0, 0, fun j => (f j).1, fun j => (f j).2.1, fun j => (f j).2.2.1, fun j => (f j).2.2.2, by rw [h0], ⟨fun h => absurd h (by omega), fun i hi => absurd hi (by omega), fun i hi => absurd hi (by omega), hl⟩⟩
  · refine ⟨some ⟨g, 0, none⟩, g, cap, fun j => (f j).1, fun j => (f j).2.1, fun j => (f j).2.2.1, fun j => (f j).2.2.2, rfl, ⟨fun _ => ⟨rfl, lt_of_block hh⟩, fun i hi => ?_, fun i hi => (hf i hi).2, hl⟩⟩
    have e : cur[i]? = vs[i]? := by
      rw [← htk, List.getElem?_take, if_pos (by omega)]; simp
    have := (hf i hi).1
    simp [World.cell?, hh, e, this]

/-- What is known of the spare places of the rows of an argument. -/
def CapsOk (xss : List (List Int)) (A : Nat → Option Addr) (C : Nat → Nat) : Prop := ∀ i, i < xss.length → (row xss i).length ≤ C i ∧ (A i = none → C i = 0)

theorem oneCell_slice (ao : Option Addr) (n c : Nat) : (Value.slice ao n c).oneCell' = true := rfl


end Go.Proofs.Ytjibdolhipddbaa
