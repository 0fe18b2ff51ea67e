/- Offers in new memory. -/
import Derived.Test.YthnkmmjelpdamaaD8
import Derived.Test.YthnkmmjelpdamaaE3
namespace Go.Proofs.Ythnkmmjelpdamaa
open Go.RowKit Go.Maps

theorem Try.info69 : (Try.prog.info? 69).map (fun i => (i.zero, i.size, i.bytes)) = some (some (.agg #[.int .i64 0, .int .i64 0]), 2, 16) := by kernel_rfl

/-- The cells of pairs, one behind the other. -/
def cells2 : List (Int × Int) → List Value
  | [] => []
  | p :: l => .int .i64 p.1 :: .int .i64 p.2 :: cells2 l
theorem cells2_length : ∀ ps : List (Int × Int), (cells2 ps).length = ps.length * 2
  | [] => rfl
  | p :: l => by simp [cells2, cells2_length l]; omega
theorem cells2_get : ∀ (ps : List (Int × Int)) (i : Nat), i < ps.length → (cells2 ps)[i * 2]? = some (.int .i64 (qf ps i)) ∧ (cells2 ps)[i * 2 + 1]? = some (.int .i64 (qv ps i))
  | [], i, h => by simp at h
  | p :: l, 0, h => ⟨rfl, rfl⟩
  | p :: l, i + 1, h => by
    have := cells2_get l i (by simpa using h)
    rw [show (i + 1) * 2 = i * 2 + 1 + 1 by omega]
    simpa [cells2, qf, qv] using this
theorem cells2_one : ∀ (ps : List (Int × Int)), ∀ u ∈ cells2 ps, u.oneCell' = true
  | [], u, h => by simp [cells2] at h
  | p :: l, u, h => by
    simp only [cells2, List.mem_cons] at h
    rcases h with rfl | rfl | h
    · rfl
    · rfl
    · exact cells2_one l u h

/-- A slice of pairs in memory that is new since the heap had B blocks. -/
structure NewPairs (B : Nat) (w : World) (v : Value) (ps : List (Int × Int)) : Prop where
  own : w.ownsRow B 69 2 v ps.length (cells2 ps)
  wf : ∀ i, (-9223372036854775808 ≤ qf ps i ∧ qf ps i ≤ 9223372036854775807) ∧ -9223372036854775808 ≤ qv ps i ∧ qv ps i ≤ 9223372036854775807
  len : ps.length ≤ 140737488351232

theorem NewPairs.at {B : Nat} {w : World} {v : Value} {ps : List (Int × Int)} (h : NewPairs B w v ps) : ∃ ao b cap, v = .slice ao ps.length cap ∧ PairsAt w ao b 0 ps := by
  obtain ⟨⟨hl, h1⟩, hwf, hlen⟩ := h
  rcases h1 with ⟨rfl, h0⟩ | ⟨g, cap, cur, rfl, hg, hh, hcap, hm, hcs, htk⟩
  · have : ps = [] := List.length_eq_zero_iff.1 h0
    subst this
    exact ⟨none, 0, 0, rfl, ⟨fun h => by simp at h, fun i hi => by simp at hi, fun i hi => by simp at hi, by simp, hwf⟩⟩
  · have hget : ∀ j, j < ps.length * 2 → cur[j]? = (cells2 ps)[j]? := fun j hj => by
      rw [← htk, List.getElem?_take, if_pos (by omega)]; simp
    refine ⟨some ⟨g, 0, none⟩, g, cap, rfl, ⟨fun _ => ⟨rfl, lt_of_blk hh⟩, fun i hi => ?_, fun i hi => ?_, hlen, hwf⟩⟩
    · rw [cell_of_row _ _ _ _ _ _ hh, Nat.zero_add, hget _ (by omega)]; exact (cells2_get ps i hi).1
    · rw [cell_of_row _ _ _ _ _ _ hh, Nat.zero_add, hget _ (by omega)]; exact (cells2_get ps i hi).2

theorem NewPairs.nil (B : Nat) (w : World) : NewPairs B w (.slice none 0 0) [] := ⟨⟨rfl, .inl ⟨rfl, rfl⟩⟩, fun i => by simp [qf, qv], by simp⟩

theorem qf_take {ps : List (Int × Int)} {n i : Nat} (h : i < n) : qf (ps.take n) i = qf ps i ∧ qv (ps.take n) i = qv ps i := by
  simp [qf, qv, List.getD_eq_getElem?_getD, h]
theorem qf_out {ps : List (Int × Int)} {i : Nat} (h : ps.length ≤ i) : qf ps i = 0 ∧ qv ps i = 0 := by
  simp [qf, qv, List.getD_eq_getElem?_getD, List.getElem?_eq_none h]
theorem pwf_take {ps : List (Int × Int)} {n : Nat} (h : ∀ i, (-9223372036854775808 ≤ qf ps i ∧ qf ps i ≤ 9223372036854775807) ∧ -9223372036854775808 ≤ qv ps i ∧ qv ps i ≤ 9223372036854775807) :
    ∀ i, (-9223372036854775808 ≤ qf (ps.take n) i ∧ qf (ps.take n) i ≤ 9223372036854775807) ∧ -9223372036854775808 ≤ qv (ps.take n) i ∧ qv (ps.take n) i ≤ 9223372036854775807 := by
  intro i
  by_cases hi : i < n
  · rw [(qf_take hi).1, (qf_take hi).2]; exact h i
  · have : (ps.take n).length ≤ i := by rw [List.length_take]; omega
    rw [(qf_out this).1, (qf_out this).2]; omega

theorem news2_at {w : World} {ao : Option Addr} {b o : Nat} {ps : List (Int × Int)} (h : PairsAt w ao b o ps) (ad : Addr) (had : ao = some ad) (n : Nat) :
    ∀ j u, (cells2 (ps.take n))[j]? = some u → w.cell? (ad.add j) = some u := by
  intro j u hj
  have hlt : j < (cells2 (ps.take n)).length := (List.getElem?_eq_some_iff.1 hj).1
  rw [cells2_length, List.length_take] at hlt
  have h0 := (h.ptr (by omega)).1
  rw [had] at h0
  obtain rfl : ad = ⟨b, o, none⟩ := Option.some.inj h0
  have hadd : (⟨b, o, none⟩ : Addr).add j = ⟨b, o + j, none⟩ := by unfold Addr.add; split <;> simp_all
  rw [hadd]
  have hi : j / 2 < (ps.take n).length := by rw [List.length_take]; omega
  have hg := cells2_get (ps.take n) (j / 2) hi
  rw [(qf_take (by omega)).1, (qf_take (by omega)).2] at hg
  rcases Nat.mod_two_eq_zero_or_one j with e | e
  · have ej : j = j / 2 * 2 := by omega
    rw [ej, hg.1] at hj
    rw [ej, ← hj]
    exact h.cell0 (j / 2) (by omega)
  · have ej : j = j / 2 * 2 + 1 := by omega
    rw [ej, hg.2] at hj
    rw [ej, ← hj]
    exact h.cell1 (j / 2) (by omega)

theorem own2_nil (w : World) (B : Nat) : w.ownsRow B 69 2 (.slice none 0 0) 0 [] := ⟨rfl, .inl ⟨rfl, rfl⟩⟩

theorem rowP_append_lt {xss : List (List (Int × Int))} {xs : List (Int × Int)} {j : Nat} (h : j < xss.length) : rowP (xss ++ [xs]) j = rowP xss j := by
  unfold rowP; simp [List.getD_eq_getElem?_getD, List.getElem?_append, h]
theorem rowP_append_eq {xss : List (List (Int × Int))} {xs : List (Int × Int)} : rowP (xss ++ [xs]) xss.length = xs := by
  unfold rowP; simp [List.getD_eq_getElem?_getD]

/-- A slice of slices of ints, all of it new since the heap had B blocks. -/
structure NewOffs (B : Nat) (w : World) (v : Value) (xss : List (List (Int × Int))) : Prop where
  ex : ∃ vs : List Value, w.ownsRow B 81 1 v xss.length vs ∧ (∀ j, j < xss.length → ∃ u, vs[j]? = some u ∧ NewPairs B w u (rowP xss j)) ∧ ∀ u ∈ vs, u.oneCell' = true

theorem NewOffs.nil (B : Nat) (w : World) : NewOffs B w (.slice none 0 0) [] :=
  ⟨[], World.ownsRow_nil _ _ _ _, fun j hj => absurd hj (by simp), fun u hu => by cases hu⟩

theorem NewPairs.kept {B : Nat} {w w' : World} {u : Value} {xs : List (Int × Int)} (h : NewPairs B w u xs) {r : Option Nat} (hg : w.grownBy w' r) (hne : u.ownBlock = none ∨ u.ownBlock ≠ r) : NewPairs B w' u xs :=
  ⟨h.own.kept hg hne, h.wf, h.len⟩
theorem NewPairs.below {B M : Nat} {w w' : World} {u : Value} {xs : List (Int × Int)} (h : NewPairs B w u xs) (hb : Below M w w') (hM : w.heap.size ≤ M) : NewPairs B w' u xs := by
  refine ⟨⟨h.own.1, ?_⟩, h.wf, h.len⟩
  rcases h.own.2 with h2 | ⟨g, cap, cur, h1, h2, h3, h4⟩
  · exact .inl h2
  · exact .inr ⟨g, cap, cur, h1, h2, (hb.block _ (by have := lt_of_blk h3; omega)).trans h3, h4⟩
theorem NewPairs.mono {B B' : Nat} {w : World} {u : Value} {xs : List (Int × Int)} (h : NewPairs B w u xs) (hB : B' ≤ B) : NewPairs B' w u xs := by
  refine ⟨⟨h.own.1, ?_⟩, h.wf, h.len⟩
  rcases h.own.2 with h2 | ⟨g, cap, cur, h1, h2, h3⟩
  · exact .inl h2
  · exact .inr ⟨g, cap, cur, h1, by omega, h3⟩
theorem ownsRow_below {B M : Nat} {w w' : World} {e : TypeId} {v : Value} {n sz : Nat} {vs : List Value} (h : w.ownsRow B e sz v n vs) (hb : Below M w w') (hM : w.heap.size ≤ M) : w'.ownsRow B e sz v n vs := by
  refine ⟨h.1, ?_⟩
  rcases h.2 with h2 | ⟨g, cap, cur, h1, h2, h3, h4⟩
  · exact .inl h2
  · exact .inr ⟨g, cap, cur, h1, h2, (hb.block _ (by have := lt_of_blk h3; omega)).trans h3, h4⟩
theorem ownsRow_mono {B B' : Nat} {w : World} {e : TypeId} {v : Value} {n sz : Nat} {vs : List Value} (h : w.ownsRow B e sz v n vs) (hB : B' ≤ B) : w.ownsRow B' e sz v n vs := by
  refine ⟨h.1, ?_⟩
  rcases h.2 with h2 | ⟨g, cap, cur, h1, h2, h3⟩
  · exact .inl h2
  · exact .inr ⟨g, cap, cur, h1, by omega, h3⟩
theorem NewOffs.below {B M : Nat} {w w' : World} {v : Value} {xss : List (List (Int × Int))} (h : NewOffs B w v xss) (hb : Below M w w') (hM : w.heap.size ≤ M) : NewOffs B w' v xss := by
  obtain ⟨vs, h1, h2, h3⟩ := h.ex
  exact ⟨vs, ownsRow_below h1 hb hM, fun j hj => let ⟨u, e, hu⟩ := h2 j hj; ⟨u, e, hu.below hb hM⟩, h3⟩
theorem NewOffs.mono {B B' : Nat} {w : World} {v : Value} {xss : List (List (Int × Int))} (h : NewOffs B w v xss) (hB : B' ≤ B) : NewOffs B' w v xss := by
  obtain ⟨vs, h1, h2, h3⟩ := h.ex
  exact ⟨vs, ownsRow_mono h1 hB, fun j hj => let ⟨u, e, hu⟩ := h2 j hj; ⟨u, e, hu.mono hB⟩, h3⟩

theorem ownsRow_blocks {B : Nat} {w w' : World} {e : TypeId} {v : Value} {n sz : Nat} {vs : List Value} (h : w.ownsRow B e sz v n vs) (hh : ∀ g, B ≤ g → g < w.heap.size → w'.heap[g]? = w.heap[g]?) : w'.ownsRow B e sz v n vs := by
  refine ⟨h.1, ?_⟩
  rcases h.2 with h2 | ⟨g, cap, cur, h1, h2, h3, h4⟩
  · exact .inl h2
  · exact .inr ⟨g, cap, cur, h1, h2, (hh g h2 (lt_of_blk h3)).trans h3, h4⟩
theorem NewPairs.blocks {B : Nat} {w w' : World} {u : Value} {xs : List (Int × Int)} (h : NewPairs B w u xs) (hh : ∀ g, B ≤ g → g < w.heap.size → w'.heap[g]? = w.heap[g]?) : NewPairs B w' u xs :=
  ⟨ownsRow_blocks h.own hh, h.wf, h.len⟩
theorem NewOffs.blocks {B : Nat} {w w' : World} {v : Value} {xss : List (List (Int × Int))} (h : NewOffs B w v xss) (hh : ∀ g, B ≤ g → g < w.heap.size → w'.heap[g]? = w.heap[g]?) : NewOffs B w' v xss := by
  obtain ⟨vs, h1, h2, h3⟩ := h.ex
  exact ⟨vs, ownsRow_blocks h1 hh, fun j hj => let ⟨u, e, hu⟩ := h2 j hj; ⟨u, e, hu.blocks hh⟩, h3⟩
theorem NewOffs.setCell {B : Nat} {w : World} {v : Value} {xss : List (List (Int × Int))} (h : NewOffs B w v xss) {a : Addr} (ha : a.block < B) (x : Value) : NewOffs B (w.setCell a x) v xss :=
  h.blocks fun g hg _ => heap_setCell_other _ _ _ _ (by omega)
theorem slice_of_own {B : Nat} {w : World} {e : TypeId} {v : Value} {n : Nat} {vs : List Value} (h : w.ownsRow B e 1 v (n + 1) vs) : ∃ g cap, v = .slice (some ⟨g, 0, none⟩) (n + 1) cap ∧ B ≤ g := by
  rcases h.2 with ⟨_, h2⟩ | ⟨g, cap, cur, h1, h2, h3⟩
  · omega
  · exact ⟨g, cap, h1, h2⟩

theorem NewOffs.oneCell {B : Nat} {w : World} {v : Value} {xss : List (List (Int × Int))} (h : NewOffs B w v xss) : v.oneCell' = true := by
  obtain ⟨vs, h1, _⟩ := h.ex
  rcases h1.2 with ⟨rfl, _⟩ | ⟨g, cap, cur, rfl, _⟩ <;> rfl
theorem NewPairs.oneCell {B : Nat} {w : World} {v : Value} {xs : List (Int × Int)} (h : NewPairs B w v xs) : v.oneCell' = true := by
  rcases h.own.2 with ⟨rfl, _⟩ | ⟨g, cap, cur, rfl, _⟩ <;> rfl

/-- A slice of ints and a slice of slices are not one. -/
theorem own_apart {B B' : Nat} {w : World} {u v : Value} {xs : List (Int × Int)} {n : Nat} {vs : List Value} (h : NewPairs B w u xs) (h2 : w.ownsRow B' 81 1 v n vs) : u.ownBlock = none ∨ u.ownBlock ≠ v.ownBlock := by
  rcases h.own.2 with ⟨rfl, _⟩ | ⟨g, cap, cur, rfl, _, hg, _⟩
  · exact .inl rfl
  · right
    rcases h2.2 with ⟨rfl, _⟩ | ⟨g', cap', cur', rfl, _, hg', _⟩
    · simp [Value.ownBlock]
    · intro e
      simp [Value.ownBlock] at e
      subst e
      rw [hg] at hg'
      simp at hg'

theorem NewOffs.snoc {B : Nat} {w w' : World} {v v' u : Value} {xss : List (List (Int × Int))} {xs : List (Int × Int)} {vs : List Value} (h1 : w.ownsRow B 81 1 v xss.length vs)
    (h2 : ∀ j, j < xss.length → ∃ u, vs[j]? = some u ∧ NewPairs B w u (rowP xss j)) (h3 : ∀ u ∈ vs, u.oneCell' = true) (hu : NewPairs B w u xs) (hu1 : u.oneCell' = true)
    (hown : w'.ownsRow B 81 1 v' (xss.length + 1) (vs ++ [u])) (hg : w.grownBy w' v.ownBlock) : NewOffs B w' v' (xss ++ [xs]) := by
  have hl : vs.length = xss.length := by have := h1.1; omega
  refine ⟨vs ++ [u], by simpa using hown, fun j hj => ?_, fun x hx => ?_⟩
  · by_cases e : j < xss.length
    · obtain ⟨u', e1, e2⟩ := h2 j e
      exact ⟨u', by rw [List.getElem?_append_left (by omega)]; exact e1, by rw [rowP_append_lt e]; exact e2.kept hg (own_apart e2 h1)⟩
    · have : j = xss.length := by simp at hj; omega
      subst this
      exact ⟨u, by rw [← hl]; simp, by rw [rowP_append_eq]; exact hu.kept hg (own_apart hu h1)⟩
  · rcases List.mem_append.1 hx with hx | hx
    · exact h3 x hx
    · rw [List.mem_singleton.1 hx]; exact hu1

/-- The first eight offers, nine pairs of each. -/
def trimO (xss : List (List (Int × Int))) : List (List (Int × Int)) := (xss.take 8).map (List.take 9)

theorem take_succ_row {xss : List (List (Int × Int))} {k : Nat} (h : k < xss.length) : (xss.take (k + 1)).map (List.take 9) = (xss.take k).map (List.take 9) ++ [(rowP xss k).take 9] := by
  rw [List.take_succ_eq_append_getElem h, List.map_append]
  simp [rowP, List.getD_eq_getElem?_getD, h]

theorem NewOffs.at {B : Nat} {w : World} {v : Value} {xss : List (List (Int × Int))} (h : NewOffs B w v xss) (hl : xss.length ≤ 140737488351232) :
    ∃ ao b cap A B' O C, v = .slice ao xss.length cap ∧ OffsAt w ao b 0 xss A B' O C := by
  obtain ⟨vs, h1, h2, _⟩ := h.ex
  have h2' : ∀ j : Nat, ∃ x : (Option Addr × Nat × Nat × Nat), j < xss.length → vs[j]? = some (.slice x.1 (rowP xss j).length x.2.2.2) ∧ PairsAt w x.1 x.2.1 x.2.2.1 (rowP xss j) := by
    intro j
    by_cases hj : j < xss.length
    · obtain ⟨u, e, hu⟩ := h2 j hj
      obtain ⟨ao, b, cap, rfl, hi⟩ := hu.at
      exact ⟨(ao, b, 0, cap), fun _ => ⟨e, hi⟩⟩
    · exact ⟨(none, 0, 0, 0), fun h => absurd h hj⟩
  obtain ⟨f, hf⟩ := Classical.axiomOfChoice h2'
  rcases h1.2 with ⟨rfl, h0⟩ | ⟨g, cap, cur, rfl, hg, hh, hcap, hm, hcs, htk⟩
  · exact ⟨none, 0, 0, fun j => (f j).1, fun j => (f j).2.1, fun j => (f j).2.2.1, fun j => (f j).2.2.2, by rw [h0], ⟨fun h => absurd h (by omega), fun i hi => absurd hi (by omega), fun i hi => absurd hi (by omega), hl⟩⟩
  · refine ⟨some ⟨g, 0, none⟩, g, cap, fun j => (f j).1, fun j => (f j).2.1, fun j => (f j).2.2.1, fun j => (f j).2.2.2, rfl, ⟨fun _ => ⟨rfl, lt_of_blk hh⟩, fun i hi => ?_, fun i hi => (hf i hi).2, hl⟩⟩
    have e : cur[i]? = vs[i]? := by
      rw [← htk, List.getElem?_take, if_pos (by omega)]; simp
    have := (hf i hi).1
    simp [World.cell?, hh, e, this]


end Go.Proofs.Ythnkmmjelpdamaa
