/- All possible keys, numbered, and those that open a lock, in plain words. -/
import Derived.Test.YtjibdolhipddbaaRe
namespace Go.Proofs.Ytjibdolhipddbaa
open Go.RowKit

theorem count_two (m : Nat) (p1 p2 : Nat → Bool) : ∀ d, (List.range (m * d)).countP (fun n => p1 (n % m) && p2 (n / m)) = (List.range m).countP p1 * (List.range d).countP p2
  | 0 => by simp
  | d + 1 => by
    rw [Nat.mul_succ, List.range_add, List.countP_append, count_two m p1 p2 d, List.range_succ, List.countP_append, Nat.mul_add]
    congr 1
    rw [List.countP_map]
    by_cases hm : m = 0
    · subst hm; simp
    have hm : 0 < m := Nat.pos_of_ne_zero hm
    have e : ∀ l : List Nat, (∀ x ∈ l, x < m) → l.countP ((fun n => p1 (n % m) && p2 (n / m)) ∘ fun x => m * d + x) = l.countP p1 * [d].countP p2 := by
      intro l hl
      induction l with
      | nil => simp
      | cons x l ih =>
        have hx := hl x (by simp)
        have h1 : (m * d + x) % m = x := by rw [Nat.mul_add_mod, Nat.mod_eq_of_lt hx]
        have h2 : (m * d + x) / m = d := by rw [Nat.mul_add_div hm, Nat.div_eq_of_lt hx, Nat.add_zero]
        rw [List.countP_cons, List.countP_cons, ih fun y hy => hl y (by simp [hy]), Nat.add_mul]
        congr 1
        simp only [Function.comp, h1, h2, List.countP_cons, List.countP_nil]
        cases p1 x <;> cases p2 d <;> simp
    exact e _ fun x hx => List.mem_range.1 hx

/-- The depth of the key with a number in chamber t. -/
def dgt (d n t : Nat) : Nat := 1 + n / d ^ t % d
theorem dgt_mod {d c t : Nat} (n : Nat) (ht : t < c) : dgt d (n % d ^ c) t = dgt d n t := by
  unfold dgt
  have e : d ^ c = d ^ t * d ^ (c - t) := by rw [← Nat.pow_add]; congr 1; omega
  rw [e, Nat.mod_mul_right_div_self]
  have hd : d ∣ d ^ (c - t) := by
    rw [show c - t = (c - t - 1) + 1 by omega, Nat.pow_succ]
    exact Nat.dvd_mul_left _ _
  rw [Nat.mod_mod_of_dvd _ hd]
theorem dgt_top {d c n : Nat} (hn : n < d ^ c * d) : dgt d n c = 1 + n / d ^ c := by
  unfold dgt
  by_cases hd : d ^ c = 0
  · rw [hd, Nat.zero_mul] at hn; omega
  · rw [Nat.mod_eq_of_lt (Nat.div_lt_of_lt_mul hn)]
/-- The key with a number. -/
def keyN (d c n : Nat) : List Int := (List.range c).map fun t => ((dgt d n t : Nat) : Int)
theorem keyN_len (d c n : Nat) : (keyN d c n).length = c := by simp [keyN]
theorem keyN_nth (d n : Nat) {c t : Nat} (h : t < c) : nth (keyN d c n) t = ((dgt d n t : Nat) : Int) := by
  simp [keyN, nth, List.getD_eq_getElem?_getD, h]
theorem keyN_succ (d c n : Nat) : keyN d (c + 1) n = keyN d c n ++ [((dgt d n c : Nat) : Int)] := by
  unfold keyN; rw [List.range_succ, List.map_append]; rfl

/-- How many of the first n keys open a lock; how many are the keys of someone who is meant to open it. -/
def opTo (a P : List (List Int)) (d c j n : Nat) : Nat := (List.range n).countP fun q => decide (OpenR a P (keyN d c q) j)
def MeantR (a P : List (List Int)) (key : List Int) (j m : Nat) : Prop := ∃ i, i < m ∧ (nth (row a i) j = 1 ∧ row P i = key)
instance (a P : List (List Int)) (key : List Int) (j m : Nat) : Decidable (MeantR a P key j m) := inferInstanceAs (Decidable (∃ i, i < m ∧ (nth (row a i) j = 1 ∧ row P i = key)))
def mnTo (a P : List (List Int)) (d c j n : Nat) : Nat := (List.range n).countP fun q => decide (MeantR a P (keyN d c q) j a.length)
theorem opTo_succ (a P : List (List Int)) (d c j n : Nat) : opTo a P d c j (n + 1) = opTo a P d c j n + if decide (OpenR a P (keyN d c n) j) = true then 1 else 0 := by
  unfold opTo; rw [List.range_succ, List.countP_append]; rw [List.countP_cons, List.countP_nil, Nat.zero_add]
theorem mnTo_succ (a P : List (List Int)) (d c j n : Nat) : mnTo a P d c j (n + 1) = mnTo a P d c j n + if decide (MeantR a P (keyN d c n) j a.length) = true then 1 else 0 := by
  unfold mnTo; rw [List.range_succ, List.countP_append]; rw [List.countP_cons, List.countP_nil, Nat.zero_add]
theorem opTo_le (a P : List (List Int)) (d c j n : Nat) : opTo a P d c j n ≤ n := by
  unfold opTo; have := List.countP_le_length (p := fun q => decide (OpenR a P (keyN d c q) j)) (l := List.range n); rwa [List.length_range] at this
theorem mnTo_le (a P : List (List Int)) (d c j n : Nat) : mnTo a P d c j n ≤ n := by
  unfold mnTo; have := List.countP_le_length (p := fun q => decide (MeantR a P (keyN d c q) j a.length)) (l := List.range n); rwa [List.length_range] at this

section
variable {a P : List (List Int)} {d : Nat} {j : Nat}

theorem pin_count (hd : 1 ≤ d ∧ d ≤ 4) (hk : OkCuts a.length P d) (ha : a.length ≤ 6) (hj : j < 6) {n : Nat} (hn : n < (row P 0).length) :
    (List.range d).countP (fun r => decide (PinR a P j n ((1 + r : Nat) : Int))) = pinC a.length (mt a) (nth (row (chs P a.length (row P 0).length) n)) j := by
  unfold pinC
  have e : (fun z : Nat => decide (PinF a.length (mt a) (nth (row (chs P a.length (row P 0).length) n)) j (z : Int))) = fun z : Nat => decide (PinR a P j n (z : Int)) := funext fun z => by
    rw [decide_eq_decide, ← pinR_iff a P j n z hj ha _ hn]
  rw [e]
  have out : ∀ z : Nat, (z = 0 ∨ d < z) → decide (PinR a P j n (z : Int)) = false := fun z hz => decide_eq_false fun h => by
    obtain ⟨i, hi, _, h2⟩ := h
    have := hk.dep i hi n (by rw [hk.len i hi]; exact hn)
    omega
  obtain rfl | rfl | rfl | rfl : d = 1 ∨ d = 2 ∨ d = 3 ∨ d = 4 := by omega
  · rw [show List.range 5 = [0, 1, 2, 3, 4] from rfl, show List.range 1 = [0] from rfl]
    simp only [List.countP_cons, List.countP_nil, out 0 (by omega), out 2 (by omega), out 3 (by omega), out 4 (by omega)]
    simp
  · rw [show List.range 5 = [0, 1, 2, 3, 4] from rfl, show List.range 2 = [0, 1] from rfl]
    simp only [List.countP_cons, List.countP_nil, out 0 (by omega), out 3 (by omega), out 4 (by omega)]
    simp
  · rw [show List.range 5 = [0, 1, 2, 3, 4] from rfl, show List.range 3 = [0, 1, 2] from rfl]
    simp only [List.countP_cons, List.countP_nil, out 0 (by omega), out 4 (by omega)]
    simp
  · rw [show List.range 5 = [0, 1, 2, 3, 4] from rfl, show List.range 4 = [0, 1, 2, 3] from rfl]
    simp only [List.countP_cons, List.countP_nil, out 0 (by omega)]
    simp

theorem open_split {c q : Nat} (hq : q < d ^ c * d) : OpenR a P (keyN d (c + 1) q) j ↔ OpenR a P (keyN d c (q % d ^ c)) j ∧ PinR a P j c ((1 + q / d ^ c : Nat) : Int) := by
  unfold OpenR
  rw [keyN_len, keyN_len]
  constructor
  · intro h
    refine ⟨fun t ht => ?_, ?_⟩
    · have := h t (by omega)
      rw [keyN_nth d q (by omega)] at this
      rw [keyN_nth d _ ht, dgt_mod q ht]; exact this
    · have := h c (by omega)
      rwa [keyN_nth d q (by omega), dgt_top hq] at this
  · rintro ⟨h1, h2⟩ t ht
    by_cases e : t = c
    · subst e; rw [keyN_nth d q (by omega), dgt_top hq]; exact h2
    · have := h1 t (by omega)
      rw [keyN_nth d _ (by omega), dgt_mod q (by omega)] at this
      rw [keyN_nth d q (by omega)]; exact this

/-- As many keys open the lock as the product of its pins says. -/
theorem count_open (hd : 1 ≤ d ∧ d ≤ 4) (hk : OkCuts a.length P d) (ha : a.length ≤ 6) (hj : j < 6) : ∀ c, c ≤ (row P 0).length → opTo a P d c j (d ^ c) = prodC (chs P a.length (row P 0).length) a.length (mt a) j c
  | 0, _ => by
    have ho : OpenR a P (keyN d 0 0) j := fun t ht => by rw [keyN_len] at ht; omega
    unfold opTo
    rw [Nat.pow_zero, prodC, show List.range 1 = [0] from rfl, List.countP_cons, List.countP_nil, decide_eq_true ho]
    rfl
  | c + 1, h => by
    rw [prodC, ← count_open hd hk ha hj c (by omega), ← pin_count hd hk ha hj (show c < (row P 0).length by omega)]
    unfold opTo
    rw [Nat.pow_succ, ← count_two (d ^ c) (fun q => decide (OpenR a P (keyN d c q) j)) (fun r => decide (PinR a P j c ((1 + r : Nat) : Int))) d]
    refine List.countP_congr fun q hq => ?_
    rw [Bool.and_eq_true, decide_eq_true_eq, decide_eq_true_eq, decide_eq_true_eq]
    exact open_split (List.mem_range.1 hq)

/-- Who is meant to open a lock opens it. -/
theorem meant_le (hk : OkCuts a.length P d) (c n : Nat) (hc : (row P 0).length = c) : mnTo a P d c j n ≤ opTo a P d c j n := by
  unfold mnTo opTo
  refine List.countP_mono_left fun q _ h => ?_
  rw [decide_eq_true_eq] at h ⊢
  obtain ⟨i, hi, h1, h2⟩ := h
  intro t ht
  rw [keyN_len] at ht
  exact ⟨i, hi, h1, by rw [h2]⟩
end

/-- Cuts with fewer chambers. -/
def cutP (P : List (List Int)) (c m : Nat) : List (List Int) := (P.take m).map (List.take c) ++ P.drop m
theorem cutP_len (P : List (List Int)) (c m : Nat) : (cutP P c m).length = P.length := by simp [cutP]; omega
theorem cutP_row {P : List (List Int)} {c m i : Nat} (hi : i < P.length) : row (cutP P c m) i = if i < m then (row P i).take c else row P i := by
  unfold cutP row
  rw [List.getD_eq_getElem?_getD, List.getD_eq_getElem?_getD]
  by_cases e : i < m
  · rw [if_pos e, List.getElem?_append_left (by simp; omega), List.getElem?_map, List.getElem?_take, if_pos e, List.getElem?_eq_getElem hi]; rfl
  · rw [if_neg e, List.getElem?_append_right (by simp; omega), List.getElem?_drop]
    congr 2
    simp; omega
theorem cutP_cuts {P : List (List Int)} {k c : Nat} {d : Int} (hk : OkCuts k P d) (hk1 : 1 ≤ k) (hc : 1 ≤ c) (hcl : c ≤ (row P 0).length) : OkCuts k (cutP P c k) d := by
  have hr : ∀ i, i < k → row (cutP P c k) i = (row P i).take c := fun i hi => by rw [cutP_row (by rw [hk.keys]; exact hi), if_pos hi]
  have hl : ∀ i, i < k → (row (cutP P c k) i).length = c := fun i hi => by rw [hr i hi, List.length_take, hk.len i hi]; omega
  have h4 := hk.le
  refine ⟨by rw [cutP_len, hk.keys], by rw [hl 0 (by omega)]; exact hc, by rw [hl 0 (by omega)]; omega, fun i hi => by rw [hl i hi, hl 0 (by omega)], fun i hi j hj => ?_⟩
  rw [hl i hi] at hj
  rw [hr i hi, nth_take hj]
  exact hk.dep i hi j (by rw [hk.len i hi]; omega)

/-- A list of rows in new memory, that may be stored into. -/
theorem NewRows.place {B : Nat} {w : World} {v : Value} {X : List (List Int)} (h : NewRows B w v X) (h1 : 1 ≤ X.length) (hl : X.length ≤ 1000) :
    ∃ pb cap PA PB PO PC, v = .slice (some ⟨pb, 0, none⟩) X.length cap ∧ RowsAt w (some ⟨pb, 0, none⟩) pb 0 X PA PB PO PC ∧ (∀ i, i < X.length → (row X i).length ≤ PC i) ∧ (∀ i, i < X.length → 0 < (row X i).length → PB i ≠ pb) ∧ (∀ t, w.frozen? ⟨pb, t, none⟩ = false) ∧ B ≤ pb := by
  obtain ⟨ao, pb, cap, PA, PB, PO, PC, rfl, hat, hcap⟩ := h.at2 (by omega)
  obtain ⟨rfl, hlt⟩ := hat.ptr (by omega)
  obtain ⟨vs, h2, h3, h4⟩ := h.ex
  have hvl : vs.length = X.length := by have := h2.1; omega
  rcases h2.2 with ⟨_, h0⟩ | ⟨g, cap', cur, hs, hg, hh, hcp, hm, hcs, htk⟩
  · omega
  · injection hs with hs1 hs2 hs3
    injection hs1 with hs1
    injection hs1 with hs1
    subst hs1
    refine ⟨pb, cap, PA, PB, PO, PC, rfl, hat, hcap, fun i hi hr => ?_, fun t => ?_, hg⟩
    · intro e
      have hc := (hat.rows i hi).cell 0 hr
      obtain ⟨u, e1, hu⟩ := h3 i hi
      have e' : cur[i]? = vs[i]? := by
        rw [← htk, List.getElem?_take, if_pos (by omega)]; simp
      have hci := hat.cell i hi
      rw [Nat.zero_add] at hci
      have : w.cell? ⟨pb, i, none⟩ = some u := by simp [World.cell?, hh, e', e1]
      rw [hci] at this
      have hue := Option.some.inj this
      rcases hu.own.2 with ⟨q, q0⟩ | ⟨g2, cap2, cur2, q, hg2, hh2, _⟩
      · omega
      · rw [q] at hue
        injection hue with k1 k2 k3
        have hp := ((hat.rows i hi).ptr hr).1
        rw [hp] at k1
        injection k1 with k1
        injection k1 with k1
        rw [← k1, e] at hh2
        rw [hh] at hh2
        simp at hh2
    · exact h2.frozenAt t

theorem RowsAt.trunc {w : World} {pb : Nat} {X : List (List Int)} {A : Nat → Option Addr} {B O C : Nat → Nat} (h : RowsAt w (some ⟨pb, 0, none⟩) pb 0 X A B O C) (hne : ∀ i, i < X.length → 0 < (row X i).length → B i ≠ pb) {i c : Nat} (hi : i < X.length) (hc : c ≤ (row X i).length) :
    RowsAt (w.setCell ⟨pb, i, none⟩ (.slice (A i) c (C i))) (some ⟨pb, 0, none⟩) pb 0 (X.set i ((row X i).take c)) A B O C := by
  have hr : ∀ t, row (X.set i ((row X i).take c)) t = if t = i then (row X i).take c else row X t := fun t => by
    unfold row
    rw [List.getD_eq_getElem?_getD, List.getD_eq_getElem?_getD, List.getElem?_set]
    by_cases e : i = t
    · subst e; simp [hi]
    · rw [if_neg e, if_neg (fun q => e q.symm), List.getD_eq_getElem?_getD]
  refine ⟨fun _ => ⟨rfl, by simpa using (h.ptr (by omega)).2⟩, fun t ht => ?_, fun t ht => ?_, by rw [List.length_set]; exact h.len⟩
  · rw [List.length_set] at ht
    rw [hr, Nat.zero_add]
    have ct := h.cell t ht
    rw [Nat.zero_add] at ct
    by_cases e : t = i
    · subst e
      rw [if_pos rfl, World.cell?_setCell_same _ _ _ ct, List.length_take, Nat.min_eq_left hc]
    · rw [if_neg e, World.cell?_setCell_other _ _ _ _ (by intro q; injection q with _ q; exact e q.symm)]
      exact ct
  · rw [List.length_set] at ht
    have rt := h.rows t ht
    have hx : ∀ xs : List Int, (∀ k, k < xs.length → k < (row X t).length ∧ nth xs k = nth (row X t) k) → xs.length ≤ (row X t).length → (∀ k, -9223372036854775808 ≤ nth xs k ∧ nth xs k ≤ 9223372036854775807) → IntsAt (w.setCell ⟨pb, i, none⟩ (.slice (A i) c (C i))) (A t) (B t) (O t) xs := fun xs h1 h2 h3 =>
      ⟨fun hp => by have := rt.ptr (by omega); exact ⟨this.1, by simpa using this.2⟩, fun k hk => by
        obtain ⟨k1, k2⟩ := h1 k hk
        rw [World.cell?_setCell_other _ _ _ _ (by intro q; injection q with q; exact hne t ht (by omega) q.symm), k2]
        exact rt.cell k k1, by have := rt.len; omega, h3⟩
    rw [hr]
    by_cases e : t = i
    · subst e
      rw [if_pos rfl]
      exact hx _ (fun k hk => by rw [List.length_take] at hk; exact ⟨by omega, nth_take (by omega)⟩) (by rw [List.length_take]; omega) (wf_take rt.wf)
    · rw [if_neg e]
      exact hx _ (fun k hk => ⟨hk, rfl⟩) (Nat.le_refl _) rt.wf
theorem cutP_succ {P : List (List Int)} {c i : Nat} (hi : i < P.length) : (cutP P c i).set i ((row (cutP P c i) i).take c) = cutP P c (i + 1) := by
  refine rows_eq (by rw [List.length_set, cutP_len, cutP_len]) fun t ht => ?_
  rw [List.length_set, cutP_len] at ht
  rw [cutP_row ht]
  have e2 : row ((cutP P c i).set i ((row (cutP P c i) i).take c)) t = if t = i then (row (cutP P c i) i).take c else row (cutP P c i) t := by
    unfold row
    rw [List.getD_eq_getElem?_getD, List.getD_eq_getElem?_getD, List.getElem?_set]
    by_cases e : i = t
    · subst e; simp [cutP_len, ht]
    · rw [if_neg e, if_neg (fun q => e q.symm), List.getD_eq_getElem?_getD]
  rw [e2, cutP_row hi, cutP_row ht]
  by_cases e : t = i
  · subst e; rw [if_pos rfl, if_neg (by omega), if_pos (by omega)]
  · rw [if_neg e]
    by_cases e3 : t < i
    · rw [if_pos e3, if_pos (by omega)]
    · rw [if_neg e3, if_neg (by omega)]
theorem cutP_zero (P : List (List Int)) (c : Nat) : cutP P c 0 = P := by simp [cutP]

end Go.Proofs.Ytjibdolhipddbaa
