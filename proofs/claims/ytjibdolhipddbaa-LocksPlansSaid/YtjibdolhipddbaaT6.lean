/- The reference's Least. -/
import Derived.Test.YtjibdolhipddbaaT5
namespace Go.Proofs.Ytjibdolhipddbaa
open Go.RowKit Go.Maps

/-- S stands for all unions of c chambers. -/
structure Inv (a : List (List Int)) (d c : Nat) (S : List Nat) : Prop where
  mem : ∀ s ∈ S, InU a d c s
  all : ∀ s, InU a d c s → ∃ t ∈ S, subB s t = true
theorem Inv.start (a : List (List Int)) (d : Nat) : Inv a d 0 [0] :=
  ⟨fun s hs => by rw [List.mem_singleton.1 hs]; rfl, fun s hs => ⟨0, by simp, by have hs : s = 0 := hs; rw [hs]; exact subB_refl 0⟩⟩
/-- Unions of the first i sets with all, and of the next one with the first k. -/
def prT (S T : List Nat) (i k : Nat) : List Nat := ((S.take i).flatMap fun s => T.map fun t => s ||| t) ++ (T.take k).map fun t => ntN S i ||| t
theorem take_ntN {l : List Nat} {i : Nat} (h : i < l.length) : l.take (i + 1) = l.take i ++ [ntN l i] := by
  rw [List.take_succ_eq_append_getElem h]
  simp [ntN, List.getD_eq_getElem?_getD, h]
theorem prT_step {S T : List Nat} {i k : Nat} (hk : k < T.length) : prT S T i (k + 1) = prT S T i k ++ [ntN S i ||| ntN T k] := by
  unfold prT
  rw [take_ntN hk, List.map_append, ← List.append_assoc]
  rfl
theorem prT_row {S T : List Nat} {i : Nat} (hi : i < S.length) : prT S T (i + 1) 0 = prT S T i T.length := by
  unfold prT
  rw [take_ntN hi, List.flatMap_append, List.take_length]
  simp
theorem prT_len {S T : List Nat} : ∀ i k, i ≤ S.length → k ≤ T.length → (prT S T i k).length = i * T.length + k := by
  intro i k hi hk
  unfold prT
  rw [List.length_append, List.length_map, List.length_take, List.length_flatMap]
  have : ∀ l : List Nat, (l.map fun s => (T.map fun t => s ||| t).length).sum = l.length * T.length := fun l => by
    induction l with
    | nil => simp
    | cons x l ih => rw [List.map_cons, List.sum_cons, ih, List.length_cons, Nat.add_mul]; simp; omega
  rw [this, List.length_take, Nat.min_eq_left hi, Nat.min_eq_left hk]
theorem prT_all {S T : List Nat} {x : Nat} (h : x ∈ prT S T S.length 0) : ∃ s ∈ S, ∃ t ∈ T, x = s ||| t := by
  unfold prT at h
  rw [List.take_length, List.take_zero, List.map_nil, List.append_nil] at h
  obtain ⟨s, hs, h⟩ := List.mem_flatMap.1 h
  obtain ⟨t, ht, rfl⟩ := List.mem_map.1 h
  exact ⟨s, hs, t, ht, rfl⟩
theorem prT_has {S T : List Nat} {s t : Nat} (hs : s ∈ S) (ht : t ∈ T) : s ||| t ∈ prT S T S.length 0 := by
  unfold prT
  rw [List.take_length, List.take_zero, List.map_nil, List.append_nil]
  exact List.mem_flatMap.2 ⟨s, hs, List.mem_map.2 ⟨t, ht, rfl⟩⟩

section
variable {a : List (List Int)} {d : Nat}
theorem Inv.union {c : Nat} {S : List Nat} (h : Inv a d c S) {s t : Nat} (hs : s ∈ S) (ht : t ∈ mxS (chN a d)) : InU a d (c + 1) (s ||| t) :=
  ⟨s, t, h.mem s hs, mx_mem ht, rfl⟩
theorem Inv.next {c : Nat} {S : List Nat} (h : Inv a d c S) : Inv a d (c + 1) (mxS (prT S (mxS (chN a d)) S.length 0)) := by
  have hlt : ∀ x ∈ prT S (mxS (chN a d)) S.length 0, x < 68719476736 := fun x hx => by
    obtain ⟨s, hs, t, ht, rfl⟩ := prT_all hx
    exact (inU_at _ _ (h.union hs ht)).1
  refine ⟨fun x hx => ?_, fun x hx => ?_⟩
  · obtain ⟨s, hs, t, ht, rfl⟩ := prT_all (mx_mem hx)
    exact h.union hs ht
  · obtain ⟨s', t', h1, h2, rfl⟩ := hx
    obtain ⟨s, hs, k1⟩ := h.all s' h1
    obtain ⟨t, ht, k2⟩ := mx_sub (fun x hx => (chN_at hx).1) h2
    obtain ⟨z, hz, k3⟩ := mx_sub hlt (prT_has hs ht)
    exact ⟨z, hz, subB_trans (subB_or k1 k2) k3⟩
/-- If no union is all that must be blocked, c + 1 chambers are not enough. -/
theorem Inv.none {c : Nat} {S : List Nat} (h : Inv a d c S) (ha : IsPlan a) (hd : 1 ≤ d ∧ d ≤ 4) (hn : ∀ x ∈ prT S (mxS (chN a d)) S.length 0, x ≠ glN a) : ¬ PosA a d (c + 1) := by
  rw [← inU_iff ha hd]
  intro hU
  obtain ⟨s', t', h1, h2, e⟩ := hU
  obtain ⟨s, hs, k1⟩ := h.all s' h1
  obtain ⟨t, ht, k2⟩ := mx_sub (fun x hx => (chN_at hx).1) h2
  have h3 := (inU_at _ _ (h.union hs ht)).2
  have h4 : subB (glN a) (s ||| t) = true := by rw [e]; exact subB_or k1 k2
  exact hn _ (prT_has hs ht) (Nat.le_antisymm (subB_le h3) (subB_le h4))
theorem Inv.some {c : Nat} {S : List Nat} (h : Inv a d c S) (ha : IsPlan a) (hd : 1 ≤ d ∧ d ≤ 4) {s t : Nat} (hs : s ∈ S) (ht : t ∈ mxS (chN a d)) (e : s ||| t = glN a) : PosA a d (c + 1) := by
  rw [← inU_iff ha hd, ← e]; exact h.union hs ht
end

end Go.Proofs.Ytjibdolhipddbaa
