/- Plans without a key, or without a lock, and merged plans, in plain words; lists of rows, opened and appended. -/
import Derived.Test.YtjibdolhipddbaaQu
import Derived.Test.YtjibdolhipddbaaQl
namespace Go.Proofs.Ytjibdolhipddbaa
open Go.RowKit

theorem row_get {X : List (List Int)} {i : Nat} (h : i < X.length) : row X i = X[i] := by simp [row, List.getD_eq_getElem?_getD, h]

/-- Without the key i. -/
def noKey (X : List (List Int)) (i : Nat) : List (List Int) := X.take i ++ X.drop (i + 1)
theorem noKey_len {X : List (List Int)} {i : Nat} (h : i < X.length) : (noKey X i).length = X.length - 1 := by simp [noKey]; omega
theorem noKey_row {X : List (List Int)} {i q : Nat} (h : i < X.length) : row (noKey X i) q = row X (if q < i then q else q + 1) := by
  unfold noKey row
  rw [List.getD_eq_getElem?_getD, List.getD_eq_getElem?_getD]
  by_cases e : q < i
  · rw [if_pos e, List.getElem?_append_left (by simp; omega), List.getElem?_take, if_pos e]
  · rw [if_neg e, List.getElem?_append_right (by simp; omega), List.getElem?_drop]
    congr 2
    simp; omega
theorem noKey_plan {X : List (List Int)} {i : Nat} (hp : IsPlan X) (h : i < X.length) (h2 : 2 ≤ X.length) : IsPlan (noKey X i) := by
  have hl := noKey_len h
  have h6 := hp.le
  have key : ∀ q, q < X.length - 1 → (if q < i then q else q + 1) < X.length := fun q hq => by split <;> omega
  have h0 : (row (noKey X i) 0).length = (row X 0).length := by rw [noKey_row h]; exact hp.len _ (key 0 (by omega))
  refine ⟨by omega, by omega, by rw [h0]; exact hp.pos0, by rw [h0]; exact hp.le0, fun q hq => ?_, fun q hq j hj => ?_⟩
  · rw [h0, noKey_row h]; exact hp.len _ (key q (by omega))
  · rw [noKey_row h] at hj ⊢; exact hp.bit _ (key q (by omega)) j hj
theorem least_noKey {X : List (List Int)} {i d n k : Nat} (hp : IsPlan X) (h : i < X.length) (h2 : 2 ≤ X.length) (hn : LeastIs X d n) (h1 : 1 ≤ n) (hk : LeastIs (noKey X i) d k) : 1 ≤ k ∧ k ≤ n := by
  have hm := noKey_plan hp h h2
  have hl := noKey_len h
  have key : ∀ q, q < (noKey X i).length → (if q < i then q else q + 1) < X.length := fun q hq => by split <;> omega
  refine least_part hp hm (fun q => if q < i then q else q + 1) (fun j => j) key (fun j hj => ?_) (fun q hq j hj => ?_) hn h1 hk
  · rw [noKey_row h] at hj; rwa [hp.len _ (key 0 hm.pos)] at hj
  · rw [noKey_row h]

/-- Without the lock j. -/
def noCol (j : Nat) (r : List Int) : List Int := r.take j ++ r.drop (j + 1)
def noLock (X : List (List Int)) (j : Nat) : List (List Int) := X.map (noCol j)
theorem noLock_len (X : List (List Int)) (j : Nat) : (noLock X j).length = X.length := by simp [noLock]
theorem noLock_row {X : List (List Int)} {j i : Nat} (h : i < X.length) : row (noLock X j) i = noCol j (row X i) := by
  simp [noLock, row, List.getD_eq_getElem?_getD, h]
theorem noCol_len {r : List Int} {j : Nat} (h : j < r.length) : (noCol j r).length = r.length - 1 := by simp [noCol]; omega
theorem noCol_nth {r : List Int} {j q : Nat} (h : j < r.length) : nth (noCol j r) q = nth r (if q < j then q else q + 1) := by
  unfold noCol nth
  rw [List.getD_eq_getElem?_getD, List.getD_eq_getElem?_getD]
  by_cases e : q < j
  · rw [if_pos e, List.getElem?_append_left (by simp; omega), List.getElem?_take, if_pos e]
  · rw [if_neg e, List.getElem?_append_right (by simp; omega), List.getElem?_drop]
    congr 2
    simp; omega
theorem noLock_plan {X : List (List Int)} {j : Nat} (hp : IsPlan X) (h : j < (row X 0).length) (h2 : 2 ≤ (row X 0).length) : IsPlan (noLock X j) := by
  have hl := noLock_len X j
  have h6 := hp.le
  have h1 := hp.pos
  have h60 := hp.le0
  have hr : ∀ i, i < X.length → (row (noLock X j) i).length = (row X 0).length - 1 := fun i hi => by
    rw [noLock_row hi, noCol_len (by rw [hp.len i hi]; exact h), hp.len i hi]
  refine ⟨by omega, by omega, by rw [hr 0 (by omega)]; omega, by rw [hr 0 (by omega)]; omega, fun q hq => ?_, fun q hq t ht => ?_⟩
  · rw [hr q (by omega), hr 0 (by omega)]
  · rw [hr q (by omega)] at ht
    rw [noLock_row (by omega), noCol_nth (by rw [hp.len q (by omega)]; exact h)]
    exact hp.bit q (by omega) _ (by rw [hp.len q (by omega)]; split <;> omega)
theorem least_noLock {X : List (List Int)} {j d n k : Nat} (hp : IsPlan X) (h : j < (row X 0).length) (h2 : 2 ≤ (row X 0).length) (hn : LeastIs X d n) (h1 : 1 ≤ n) (hk : LeastIs (noLock X j) d k) : 1 ≤ k ∧ k ≤ n := by
  have hm := noLock_plan hp h h2
  have hl := noLock_len X j
  have h10 := hp.pos
  refine least_part hp hm (fun q => q) (fun t => if t < j then t else t + 1) (fun q hq => by omega) (fun t ht => ?_) (fun q hq t ht => ?_) hn h1 hk
  · rw [noLock_row (by omega), noCol_len h] at ht; show (if t < j then t else t + 1) < _; split <;> omega
  · rw [noLock_row (by omega), noCol_nth (by rw [hp.len q (by omega)]; exact h)]

/-- Merged. -/
theorem mgK_has {a : List (List Int)} : ∀ i q, q < i → row a q ∈ mgK a i
  | 0, q, h => by omega
  | i + 1, q, h => by
    rw [mgK]
    by_cases e : q < i
    · have := mgK_has (a := a) i q e
      split
      · exact this
      · exact List.mem_append_left _ this
    · have : q = i := by omega
      subst this
      split
      · assumption
      · simp
theorem least_merge {X : List (List Int)} {d n k : Nat} (hp : IsPlan X) (hn : LeastIs X d n) (hk : LeastIs (mgK X X.length) d k) : k = n := by
  have hK : ∀ i, i < (mgK X X.length).length → ∃ q, q < X.length ∧ row X q = row (mgK X X.length) i := fun i hi => mgK_rows X.length (Nat.le_refl _) _ (row_mem hi)
  have hX : ∀ q, q < X.length → ∃ i, i < (mgK X X.length).length ∧ row (mgK X X.length) i = row X q := fun q hq => mem_row (mgK_has (a := X) X.length q hq)
  have h1 := hp.pos
  have h6 := hp.le
  have hle := mgK_len X X.length
  obtain ⟨i0, hi0, -⟩ := hX 0 (by omega)
  have hm : IsPlan (mgK X X.length) := by
    obtain ⟨q0, hq0, e0⟩ := hK 0 (by omega)
    refine ⟨by omega, by omega, ?_, ?_, fun i hi => ?_, fun i hi j hj => ?_⟩
    · rw [← e0, hp.len _ hq0]; exact hp.pos0
    · rw [← e0, hp.len _ hq0]; exact hp.le0
    · obtain ⟨q, hq, e⟩ := hK i hi
      rw [← e, ← e0, hp.len _ hq, hp.len _ hq0]
    · obtain ⟨q, hq, e⟩ := hK i hi
      rw [← e] at hj ⊢
      exact hp.bit q hq j hj
  have hl0 : (row (mgK X X.length) 0).length = (row X 0).length := by
    obtain ⟨q0, hq0, e0⟩ := hK 0 (by omega)
    rw [← e0]; exact hp.len _ hq0
  have c1 : ∀ i, ∃ q, i < (mgK X X.length).length → q < X.length ∧ row X q = row (mgK X X.length) i := fun i => by
    by_cases e : i < (mgK X X.length).length
    · obtain ⟨q, h⟩ := hK i e; exact ⟨q, fun _ => h⟩
    · exact ⟨0, fun h => absurd h e⟩
  have c2 : ∀ q, ∃ i, q < X.length → i < (mgK X X.length).length ∧ row (mgK X X.length) i = row X q := fun q => by
    by_cases e : q < X.length
    · obtain ⟨i, h⟩ := hX q e; exact ⟨i, fun _ => h⟩
    · exact ⟨0, fun h => absurd h e⟩
  obtain ⟨g, hg⟩ := Classical.axiomOfChoice c1
  obtain ⟨p, hpp⟩ := Classical.axiomOfChoice c2
  refine least_inj (fun c => ⟨fun h => ?_, fun h => ?_⟩) hn hk
  · exact pos_part hp hm g (fun j => j) (fun i hi => (hg i hi).1) (fun j hj => by rw [hl0] at hj; exact hj) (fun i hi j _ => by rw [(hg i hi).2]) h
  · exact pos_part hm hp p (fun j => j) (fun i hi => (hpp i hi).1) (fun j hj => by rw [hl0]; exact hj) (fun i hi j _ => by rw [(hpp i hi).2]) h
theorem mg_plan {X : List (List Int)} (hp : IsPlan X) : IsPlan (mgK X X.length) := by
  have hK : ∀ i, i < (mgK X X.length).length → ∃ q, q < X.length ∧ row X q = row (mgK X X.length) i := fun i hi => mgK_rows X.length (Nat.le_refl _) _ (row_mem hi)
  have h1 := hp.pos
  have h6 := hp.le
  have hle := mgK_len X X.length
  obtain ⟨i0, hi0, -⟩ := mem_row (mgK_has (a := X) X.length 0 (by omega))
  obtain ⟨q0, hq0, e0⟩ := hK 0 (by omega)
  refine ⟨by omega, by omega, ?_, ?_, fun i hi => ?_, fun i hi j hj => ?_⟩
  · rw [← e0, hp.len _ hq0]; exact hp.pos0
  · rw [← e0, hp.len _ hq0]; exact hp.le0
  · obtain ⟨q, hq, e⟩ := hK i hi
    rw [← e, ← e0, hp.len _ hq, hp.len _ hq0]
  · obtain ⟨q, hq, e⟩ := hK i hi
    rw [← e] at hj ⊢
    exact hp.bit q hq j hj

/-- A list of rows in new memory, with the cells of its slices. -/
structure RowsIn (B : Nat) (w : World) (xb : Nat) (X : List (List Int)) (vs : List Value) : Prop where
  len : vs.length = X.length
  cell : ∀ j, j < X.length → ∃ u, vs[j]? = some u ∧ w.cell? ⟨xb, j, none⟩ = some u ∧ NewInts B w u (row X j)
  one : ∀ u ∈ vs, u.oneCell' = true
theorem NewRows.in {B : Nat} {w : World} {v : Value} {X : List (List Int)} (h : NewRows B w v X) (h1 : 1 ≤ X.length) :
    ∃ xb xc vs, v = .slice (some ⟨xb, 0, none⟩) X.length xc ∧ X.length ≤ xc ∧ B ≤ xb ∧ xb < w.heap.size ∧ RowsIn B w xb X vs := by
  obtain ⟨vs, h2, h3, h4⟩ := h.ex
  have hl : vs.length = X.length := by have := h2.1; omega
  rcases h2.2 with ⟨_, h0⟩ | ⟨g, cap, cur, hs, hg, hh, hcap, hm, hcs, htk⟩
  · omega
  · refine ⟨g, cap, vs, hs, by omega, hg, lt_of_block hh, hl, fun j hj => ?_, h4⟩
    obtain ⟨u, e, hu⟩ := h3 j hj
    have e' : cur[j]? = vs[j]? := by
      rw [← htk, List.getElem?_take, if_pos (by omega)]; simp
    exact ⟨u, e, by simp [World.cell?, hh, e', e], hu⟩
theorem RowsIn.take {B : Nat} {w W : World} {xb : Nat} {X : List (List Int)} {vs : List Value} (h : RowsIn B w xb X vs) (hb : Below w.heap.size w W) (hx : xb < w.heap.size) (i : Nat) :
    ∀ j u, (vs.take i)[j]? = some u → W.cell? ((⟨xb, 0, none⟩ : Addr).add j) = some u := by
  intro j u hj
  have hlt : j < (vs.take i).length := (List.getElem?_eq_some_iff.1 hj).1
  simp at hlt
  rw [List.getElem?_take, if_pos (by omega)] at hj
  obtain ⟨u', e1, e2, -⟩ := h.cell j (by rw [← h.len]; omega)
  rw [e1] at hj
  rw [hj] at e2
  have := (hb.cell (p := ⟨xb, j, none⟩) hx).trans e2
  by_cases e : j = 0
  · subst e; simpa [Addr.add] using this
  · simpa [Addr.add, e] using this
theorem RowsIn.drop {B : Nat} {w W : World} {xb : Nat} {X : List (List Int)} {vs : List Value} (h : RowsIn B w xb X vs) (hb : Below w.heap.size w W) (hx : xb < w.heap.size) (i : Nat) :
    ∀ j u, (vs.drop i)[j]? = some u → W.cell? ((⟨xb, i, none⟩ : Addr).add j) = some u := by
  intro j u hj
  have hlt : j < (vs.drop i).length := (List.getElem?_eq_some_iff.1 hj).1
  simp at hlt
  rw [List.getElem?_drop] at hj
  obtain ⟨u', e1, e2, -⟩ := h.cell (i + j) (by rw [← h.len]; omega)
  rw [e1] at hj
  rw [hj] at e2
  have := (hb.cell (p := ⟨xb, i + j, none⟩) hx).trans e2
  by_cases e : j = 0
  · subst e; simpa [Addr.add] using this
  · simpa [Addr.add, e] using this
theorem RowsIn.tk {B : Nat} {w W : World} {xb : Nat} {X : List (List Int)} {vs : List Value} (h : RowsIn B w xb X vs) (hb : Below w.heap.size w W) (i : Nat) :
    ∀ j, j < (X.take i).length → ∃ u, (vs.take i)[j]? = some u ∧ NewInts B W u (row (X.take i) j) := by
  intro j hj
  simp at hj
  obtain ⟨u, e1, -, e3⟩ := h.cell j (by omega)
  refine ⟨u, by rw [List.getElem?_take, if_pos (by omega)]; exact e1, ?_⟩
  rw [show row (X.take i) j = row X j by unfold row; rw [List.getD_eq_getElem?_getD, List.getD_eq_getElem?_getD, List.getElem?_take, if_pos (by omega)]]
  exact e3.below hb (Nat.le_refl _)
theorem RowsIn.dp {B : Nat} {w W : World} {xb : Nat} {X : List (List Int)} {vs : List Value} (h : RowsIn B w xb X vs) (hb : Below w.heap.size w W) (i : Nat) :
    ∀ j, j < (X.drop i).length → ∃ u, (vs.drop i)[j]? = some u ∧ NewInts B W u (row (X.drop i) j) := by
  intro j hj
  simp at hj
  obtain ⟨u, e1, -, e3⟩ := h.cell (i + j) (by omega)
  refine ⟨u, by rw [List.getElem?_drop]; exact e1, ?_⟩
  rw [show row (X.drop i) j = row X (i + j) by unfold row; rw [List.getD_eq_getElem?_getD, List.getD_eq_getElem?_getD, List.getElem?_drop]]
  exact e3.below hb (Nat.le_refl _)
/-- The cells that an append of the end of a row copies. -/
theorem news_drop {w : World} {ao : Option Addr} {b o : Nat} {xs : List Int} (h : IntsAt w ao b o xs) (n : Nat) :
    ∀ j u, ((xs.drop n).map (Value.int .i64))[j]? = some u → w.cell? ((⟨b, o + n, none⟩ : Addr).add j) = some u := by
  intro j u hj
  have hlt : j < ((xs.drop n).map (Value.int .i64)).length := (List.getElem?_eq_some_iff.1 hj).1
  simp at hlt
  rw [List.map_drop, List.getElem?_drop, nth_map _ _ (by omega)] at hj
  rw [← hj]
  have := h.cell (n + j) (by omega)
  rw [← Nat.add_assoc] at this
  by_cases e : j = 0
  · subst e; simpa [Addr.add] using this
  · simpa [Addr.add, e] using this
theorem noLock_succ {X : List (List Int)} {i j : Nat} (h : i < X.length) : noLock (X.take (i + 1)) j = noLock (X.take i) j ++ [noCol j (row X i)] := by
  unfold noLock
  rw [List.take_succ_eq_append_getElem h, List.map_append, row_get h]
  rfl
theorem NewRows.append {B : Nat} {w w' : World} {v v' : Value} {xss ys : List (List Int)} {vs us : List Value} (h1 : w.ownsRow B 34 1 v xss.length vs)
    (h2 : ∀ j, j < xss.length → ∃ u, vs[j]? = some u ∧ NewInts B w u (row xss j)) (h3 : ∀ u ∈ vs, u.oneCell' = true) (hu : us.length = ys.length) (hu2 : ∀ j, j < ys.length → ∃ u, us[j]? = some u ∧ NewInts B w u (row ys j)) (hu1 : ∀ u ∈ us, u.oneCell' = true)
    (hown : w'.ownsRow B 34 1 v' (xss.length + ys.length) (vs ++ us)) (hg : w.grownBy w' v.ownBlock) : NewRows B w' v' (xss ++ ys) := by
  have hl : vs.length = xss.length := by have := h1.1; omega
  refine ⟨vs ++ us, by simpa using hown, fun j hj => ?_, fun x hx => ?_⟩
  · by_cases e : j < xss.length
    · obtain ⟨u', e1, e2⟩ := h2 j e
      exact ⟨u', by rw [List.getElem?_append_left (by omega)]; exact e1, by rw [show row (xss ++ ys) j = row xss j by unfold row; rw [List.getD_eq_getElem?_getD, List.getD_eq_getElem?_getD, List.getElem?_append_left (by omega)]]; exact e2.kept hg (own_apart e2 h1)⟩
    · simp at hj
      obtain ⟨u', e1, e2⟩ := hu2 (j - xss.length) (by omega)
      refine ⟨u', by rw [List.getElem?_append_right (by omega), hl]; exact e1, ?_⟩
      rw [show row (xss ++ ys) j = row ys (j - xss.length) by unfold row; rw [List.getD_eq_getElem?_getD, List.getD_eq_getElem?_getD, List.getElem?_append_right (by omega)]]
      exact e2.kept hg (own_apart e2 h1)
  · rcases List.mem_append.1 hx with hx | hx
    · exact h3 x hx
    · exact hu1 x hx

end Go.Proofs.Ytjibdolhipddbaa
