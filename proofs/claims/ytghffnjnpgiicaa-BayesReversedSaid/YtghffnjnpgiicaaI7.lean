/- I7: Bc Cc -/
import Derived.Test.YtghffnjnpgiicaaH7
import Derived.Test.YtghffnjnpgiicaaH6
/- Trails read backwards: plain words. -/
namespace Go.Proofs.Ytghffnjnpgiicaa
open Go.RowKit

/-- The second list is the first one backwards. -/
structure Back (xs ys : List Int) : Prop where
  len : ys.length = xs.length
  el : ∀ i, i < xs.length → nth ys i = nth xs (xs.length - 1 - i)

theorem Back.symm {xs ys : List Int} (h : Back xs ys) : Back ys xs :=
  ⟨h.len.symm, fun i hi => by
    have h2 := h.el (xs.length - 1 - i) (by have := h.len; omega)
    rw [h.len, h2]
    congr 1
    have := h.len
    omega⟩

theorem edge_comm (P : List (List Int)) (a b : Nat) : edge P a b = edge P b a := by unfold edge; exact Bool.or_comm _ _
theorem passR_comm (P : List (List Int)) (set : List Int) (a v b : Nat) : passR P set a v b = passR P set b v a := by
  unfold passR; rw [Bool.and_comm]

theorem Back.at' {xs ys : List Int} (h : Back xs ys) {i : Nat} (hi : i < xs.length) : Proofs.Ytghffnjnpgiicaa.at' ys i = Proofs.Ytghffnjnpgiicaa.at' xs (xs.length - 1 - i) := by
  unfold Proofs.Ytghffnjnpgiicaa.at'; rw [h.el i hi]

theorem edges_back {P : List (List Int)} {xs ys : List Int} (h : Back xs ys) (hx : ∀ i, i < xs.length - 1 → edge P (Proofs.Ytghffnjnpgiicaa.at' xs i) (Proofs.Ytghffnjnpgiicaa.at' xs (i + 1)) = true) :
    ∀ i, i < ys.length - 1 → edge P (Proofs.Ytghffnjnpgiicaa.at' ys i) (Proofs.Ytghffnjnpgiicaa.at' ys (i + 1)) = true := by
  intro i hi
  rw [h.len] at hi
  rw [h.at' (by omega), h.at' (by omega), edge_comm]
  have := hx (xs.length - 1 - (i + 1)) (by omega)
  rw [show xs.length - 1 - (i + 1) + 1 = xs.length - 1 - i by omega] at this
  exact this

theorem pass_back {P : List (List Int)} {set xs ys : List Int} (h : Back xs ys) (hx : ∀ i, i < xs.length - 2 → passR P set (Proofs.Ytghffnjnpgiicaa.at' xs i) (Proofs.Ytghffnjnpgiicaa.at' xs (i + 1)) (Proofs.Ytghffnjnpgiicaa.at' xs (i + 2)) = true) :
    ∀ i, i < ys.length - 2 → passR P set (Proofs.Ytghffnjnpgiicaa.at' ys i) (Proofs.Ytghffnjnpgiicaa.at' ys (i + 1)) (Proofs.Ytghffnjnpgiicaa.at' ys (i + 2)) = true := by
  intro i hi
  rw [h.len] at hi
  rw [h.at' (by omega), h.at' (by omega), h.at' (by omega), passR_comm]
  have := hx (xs.length - 1 - (i + 2)) (by omega)
  rw [show xs.length - 1 - (i + 2) + 1 = xs.length - 1 - (i + 1) by omega, show xs.length - 1 - (i + 2) + 2 = xs.length - 1 - i by omega] at this
  exact this

theorem actv_back {P : List (List Int)} {set xs ys : List Int} (h : Back xs ys) : actv P ys set = actv P xs set := by
  unfold actv
  exact decide_eq_decide.2 ⟨pass_back h.symm, pass_back h⟩

theorem okSet_back' {xs ys : List Int} {n : Nat} (h : Back xs ys) (hx : ∀ i, i < xs.length → (0 ≤ nth xs i ∧ nth xs i < n) ∧ ∀ j, j < i → nth xs j ≠ nth xs i) :
    ∀ i, i < ys.length → (0 ≤ nth ys i ∧ nth ys i < n) ∧ ∀ j, j < i → nth ys j ≠ nth ys i := by
  intro i hi
  rw [h.len] at hi
  rw [h.el i hi]
  refine ⟨(hx _ (by omega)).1, fun j hj => ?_⟩
  rw [h.el j (by omega)]
  exact fun e => (hx (xs.length - 1 - j) (by omega)).2 (xs.length - 1 - i) (by omega) e.symm
theorem okSet_back {xs ys : List Int} {n : Nat} (h : Back xs ys) : okSet ys n = okSet xs n := by
  unfold okSet
  exact decide_eq_decide.2 ⟨okSet_back' h.symm, okSet_back' h⟩
theorem okTrail_back {P : List (List Int)} {xs ys : List Int} (h : Back xs ys) : okTrail P ys = okTrail P xs := by
  unfold okTrail
  rw [okSet_back h]
  congr 1
  exact decide_eq_decide.2 ⟨edges_back h.symm, edges_back h⟩
theorem okAct_back {P T : List (List Int)} {xs ys set : List Int} (h : Back xs ys) : okAct P T ys set = okAct P T xs set := by
  unfold okAct
  rw [okTrail_back h, h.len]
  by_cases h2 : 2 ≤ xs.length
  · have e1 : nth ys 0 = nth xs (xs.length - 1) := by rw [h.el 0 (by omega)]; rfl
    have e2 : nth ys (xs.length - 1) = nth xs 0 := by rw [h.el _ (by omega)]; congr 1; omega
    rw [e1, e2]
    cases hasI set (nth xs (xs.length - 1)) <;> cases hasI set (nth xs 0) <;> simp
  · rw [decide_eq_false h2]; simp
theorem act_back {P T : List (List Int)} {xs ys set : List Int} (h : Back xs ys) : actI P T ys set = actI P T xs set ∧ actE P T ys set = actE P T xs set := by
  unfold actI actE
  rw [okAct_back h, actv_back h]
  exact ⟨rfl, rfl⟩

end Go.Proofs.Ytghffnjnpgiicaa

/- An active trail is found: plain words. -/
namespace Go.Proofs.Ytghffnjnpgiicaa
open Go.RowKit

/-- The first i + 1 variables of a trail. -/
def pre (xs : List Int) (i : Nat) : List Nat := (List.range (i + 1)).map (at' xs)
theorem pre_len (xs : List Int) (i : Nat) : (pre xs i).length = i + 1 := by simp [pre]
theorem pre_getD {xs : List Int} {i j : Nat} (h : j ≤ i) : (pre xs i).getD j 0 = at' xs j := by
  simp [pre, List.getD_eq_getElem?_getD, show j < i + 1 by omega]
theorem pre_succ (xs : List Int) (i : Nat) : pre xs (i + 1) = pre xs i ++ [at' xs (i + 1)] := by
  unfold pre; rw [List.range_succ, List.map_append]; rfl
theorem at_pre {xs : List Int} {i j : Nat} (h : j ≤ i) : at' (ints (pre xs i)) j = at' xs j := by
  show (nth (ints (pre xs i)) j).toNat = _
  rw [nth_ints, pre_getD h, Int.toNat_natCast]

theorem okSet_parts {xs : List Int} {n : Nat} (h : okSet xs n = true) : ∀ i, i < xs.length → (0 ≤ nth xs i ∧ nth xs i < n) ∧ ∀ j, j < i → nth xs j ≠ nth xs i := of_decide_eq_true h

theorem pre_notin {xs : List Int} {n i : Nat} (h : okSet xs n = true) (hi : i + 1 < xs.length) : ¬ at' xs (i + 1) ∈ pre xs i := by
  intro hm
  unfold pre at hm
  rw [List.mem_map] at hm
  obtain ⟨j, hj, e⟩ := hm
  have hj := List.mem_range.1 hj
  have h1 := okSet_parts h (i + 1) hi
  have h2 := okSet_parts h j (by omega)
  refine h1.2 j hj ?_
  unfold at' at e
  omega
theorem pre_two {xs : List Int} {n : Nat} (h : okSet xs n = true) (i : Nat) (hi : i < xs.length) : NoTwo n (pre xs i) := by
  induction i with
  | zero =>
    have h1 := okSet_at h hi
    exact ⟨by simp [pre], fun x hx => by simp [pre] at hx; rw [hx]; exact h1.2⟩
  | succ i ih =>
    rw [pre_succ]
    exact (ih (by omega)).snoc (okSet_at h hi).2 (pre_notin h hi)

theorem cond_pre {P : List (List Int)} {xs set : List Int} (ht : okTrail P xs = true) (ha : actv P xs set = true) {i : Nat} (hi : i + 1 < xs.length) : cond P set (pre xs i) (at' xs (i + 1)) = true := by
  unfold okTrail at ht
  rw [Bool.and_eq_true, decide_eq_true_eq] at ht
  unfold actv at ha
  rw [decide_eq_true_eq] at ha
  have hl : (ints (pre xs (i + 1))).length = i + 2 := by rw [ints_length, pre_len]
  unfold cond
  rw [← pre_succ, decide_eq_false (pre_notin ht.1 hi)]
  have h1 : okTrail P (ints (pre xs (i + 1))) = true := by
    unfold okTrail
    rw [okSet_ints (pre_two ht.1 (i + 1) hi), hl, Bool.true_and, decide_eq_true_eq]
    intro j hj
    rw [at_pre (by omega), at_pre (by omega)]
    exact ht.2 j (by omega)
  have h2 : actv P (ints (pre xs (i + 1))) set = true := by
    unfold actv
    rw [hl, decide_eq_true_eq]
    intro j hj
    rw [at_pre (by omega), at_pre (by omega), at_pre (by omega)]
    exact ha j (by omega)
  rw [h1, h2]
  rfl

theorem pre_last (xs : List Int) (i : Nat) : (pre xs i).getD ((pre xs i).length - 1) 0 = at' xs i := by
  rw [pre_len]; exact pre_getD (by omega)

theorem conn_pre {P : List (List Int)} {xs set : List Int} (ht : okTrail P xs = true) (ha : actv P xs set = true) : ∀ (d i f : Nat), i + d + 1 = xs.length → d < f → conn P set (at' xs (xs.length - 1)) f (pre xs i) = true := by
  have hok : okSet xs P.length = true := by
    unfold okTrail at ht; rw [Bool.and_eq_true] at ht; exact ht.1
  intro d
  induction d with
  | zero =>
    intro i f h hf
    obtain ⟨g, rfl⟩ : ∃ g, f = g + 1 := ⟨f - 1, by omega⟩
    exact conn_here (by rw [pre_last]; congr 1; omega)
  | succ d ih =>
    intro i f h hf
    obtain ⟨g, rfl⟩ : ∃ g, f = g + 1 := ⟨f - 1, by omega⟩
    have h1 := okSet_parts hok (xs.length - 1) (by omega)
    have h2 := okSet_parts hok i (by omega)
    refine connTo_yes (k := at' xs (i + 1)) (cond_pre ht ha (by omega)) ?_ (okSet_at hok (by omega)).2 ?_
    · rw [← pre_succ]; exact ih (i + 1) g (by omega) (by omega)
    · rw [pre_last]
      intro e
      refine h1.2 i (by omega) ?_
      unfold at' at e
      omega

/-- What an active trail joins is not separated. -/
theorem active_joined {P T : List (List Int)} {xs set : List Int} (h : actI P T xs set = true) : sepI P T (nth xs 0) (nth xs (xs.length - 1)) set = false ∧ sepE P T (nth xs 0) (nth xs (xs.length - 1)) set = 0 := by
  unfold actI at h
  rw [Bool.and_eq_true] at h
  obtain ⟨ho, ha⟩ := h
  unfold okAct at ho
  simp only [Bool.and_eq_true, decide_eq_true_eq, Bool.not_eq_true'] at ho
  obtain ⟨⟨⟨⟨⟨hn, hs⟩, h2⟩, ht⟩, hx⟩, hy⟩ := ho
  have hok : okSet xs P.length = true := by
    have := ht
    unfold okTrail at this; rw [Bool.and_eq_true] at this; exact this.1
  have h0 := okSet_parts hok 0 (by omega)
  have hl := okSet_parts hok (xs.length - 1) (by omega)
  have hne := hl.2 0 (by omega)
  have hall : okAll P T (nth xs 0) (nth xs (xs.length - 1)) set = true := by
    unfold okAll okSep isVar
    rw [hn, hs, hx, hy, decide_eq_true h0.1, decide_eq_true hl.1, decide_eq_true hne]
    rfl
  have hin : IsNet P T := of_decide_eq_true hn
  have hle := (pre_two hok (xs.length - 1) (by omega)).le
  rw [pre_len] at hle
  have hc := conn_pre ht ha (xs.length - 1) 0 P.length (by omega) (by omega)
  have hp0 : pre xs 0 = [at' xs 0] := rfl
  rw [hp0, sep_conn hin hs (okSet_at hok (by omega)).2] at hc
  unfold sepI sepE
  rw [hall]
  refine ⟨?_, rfl⟩
  rw [Bool.true_and]
  show (sepTrail P set (at' xs 0) (at' xs (xs.length - 1))).isNone = false
  cases hs' : sepTrail P set (at' xs 0) (at' xs (xs.length - 1)) with
  | none => rw [hs'] at hc; cases hc
  | some r => rfl

end Go.Proofs.Ytghffnjnpgiicaa

