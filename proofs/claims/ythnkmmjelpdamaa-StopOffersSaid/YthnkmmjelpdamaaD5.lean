/- The gain of a rule: a loop over a list from its end on, with a rule that is a function. -/
import Derived.Test.YthnkmmjelpdamaaD3
import Derived.Test.YthnkmmjelpdamaaD4
namespace Go.Proofs.Ythnkmmjelpdamaa
open Go.RowKit Go.Shelf

attribute [local go_sem] Oper.semAt_some

/-- What the first pairs of an offer add. -/
def offS (acc : Int → Int → Int → Bool) (r : List (Int × Int)) (l h : Int) : Nat → Int
  | 0 => 0
  | i + 1 => offS acc r l h i + (if acc (qf r i) l h = true then qv r i * qf r i * h else qv r i * l)
def gStep (acc : Int → Int → Int → Bool) (L : List (List (Int × Int))) (s : Int × Int) (x : Nat) : Int × Int := (offS acc (rowP L x) s.1 s.2 (rowP L x).length, s.2 * 16)
def gL (acc : Int → Int → Int → Bool) (L : List (List (Int × Int))) (pre : List Nat) : Int × Int := pre.foldl (gStep acc L) (0, 1)
theorem gL_snoc (acc : Int → Int → Int → Bool) (L : List (List (Int × Int))) (pre : List Nat) (x : Nat) : gL acc L (pre ++ [x]) = gStep acc L (gL acc L pre) x := by simp [gL]
def accP : Int → Int → Int → Bool := fun x l h => decide (l ≤ x * h)
def accT (least : Int) : Int → Int → Int → Bool := fun x _ _ => decide (least ≤ x)

theorem offS_bd {acc : Int → Int → Int → Bool} {r : List (Int × Int)} {l h : Int} (hl : 0 ≤ l) (hlh : l ≤ 1000 * h) (hh : 0 ≤ h) {k : Nat} (hg : ∀ i, i < k → goodP r i) : 0 ≤ offS acc r l h k ∧ offS acc r l h k ≤ wsTo r k * (1000 * h) := by
  induction k with
  | zero => simp [offS, wsTo]
  | succ k ih =>
    have h1 := ih fun i hi => hg i (by omega)
    obtain ⟨⟨a, b⟩, c, d⟩ := hg k (by omega)
    have e1 : 0 ≤ qv r k * qf r k * h := Int.mul_nonneg (Int.mul_nonneg (by omega) a) hh
    have e2 : qv r k * qf r k * h ≤ qv r k * (1000 * h) := by
      rw [Int.mul_assoc]
      exact Int.mul_le_mul_of_nonneg_left (Int.mul_le_mul_of_nonneg_right b hh) (by omega)
    have e3 : 0 ≤ qv r k * l := Int.mul_nonneg (by omega) hl
    have e4 : qv r k * l ≤ qv r k * (1000 * h) := Int.mul_le_mul_of_nonneg_left hlh (by omega)
    simp only [offS, wsTo, Int.add_mul]
    split <;> omega

theorem gL_bd {acc : Int → Int → Int → Bool} {L : List (List (Int × Int))} (hok : ∀ i, i < L.length → okOff (rowP L i) = true) (pre : List Nat) : 0 ≤ (gL acc L pre).1 ∧ (gL acc L pre).1 ≤ 1000 * (gL acc L pre).2 ∧ (gL acc L pre).2 = 16 ^ pre.length := by
  have key : ∀ (l : List Nat) (s : Int × Int) (n : Nat), 0 ≤ s.1 → s.1 ≤ 1000 * s.2 → s.2 = 16 ^ n → 0 ≤ (l.foldl (gStep acc L) s).1 ∧ (l.foldl (gStep acc L) s).1 ≤ 1000 * (l.foldl (gStep acc L) s).2 ∧ (l.foldl (gStep acc L) s).2 = 16 ^ (n + l.length) := by
    intro l
    induction l with
    | nil => intro s n h1 h2 h3; exact ⟨h1, h2, h3⟩
    | cons x l ih =>
      intro s n h1 h2 h3
      have hs0 : 0 ≤ s.2 := by rw [h3]; exact Int.pow_nonneg (by omega)
      rw [List.foldl_cons, List.length_cons, show n + (l.length + 1) = n + 1 + l.length by omega]
      refine ih _ (n + 1) ?_ ?_ ?_
      · by_cases hx : x < L.length
        · have hr : (rowP L x).length ≤ 8 ∧ (∀ i, i < (rowP L x).length → goodP (rowP L x) i) ∧ wsTo (rowP L x) (rowP L x).length = 16 := of_decide_eq_true (hok x hx)
          exact (offS_bd h1 h2 hs0 hr.2.1).1
        · have : rowP L x = [] := by unfold rowP; rw [List.getD_eq_getElem?_getD, List.getElem?_eq_none (by omega)]; rfl
          simp [gStep, this, offS]
      · show (gStep acc L s x).1 ≤ 1000 * (s.2 * 16)
        by_cases hx : x < L.length
        · have hr : (rowP L x).length ≤ 8 ∧ (∀ i, i < (rowP L x).length → goodP (rowP L x) i) ∧ wsTo (rowP L x) (rowP L x).length = 16 := of_decide_eq_true (hok x hx)
          have := (offS_bd (acc := acc) h1 h2 hs0 hr.2.1).2
          rw [hr.2.2] at this
          show offS acc (rowP L x) s.1 s.2 (rowP L x).length ≤ _
          omega
        · have : rowP L x = [] := by unfold rowP; rw [List.getD_eq_getElem?_getD, List.getElem?_eq_none (by omega)]; rfl
          simp [gStep, this, offS]; omega
      · show s.2 * 16 = _
        rw [h3, Int.pow_succ]
  have := key pre (0, 1) 0 (by simp) (by simp) (by simp)
  rw [Nat.zero_add] at this
  exact this

/-- Where the state of the loop lies. -/
structure GnAt (w : World) (G : Nat) (V : Value) (l h : Int) (W : World) : Prop where
  acc : W.heap[G]? = some (.cells #[V] 96 (0, 0))
  res : W.heap[G + 1]? = some (.cells #[.int .i64 0, .int .i64 0] 47 (0, 0))
  lat : W.heap[G + 1 + 1]? = some (.cells #[.int .i64 l] 3 (0, 0))
  who : W.heap[G + 1 + 1 + 1]? = some (.cells #[.int .i64 h] 3 (0, 0))
  keep : Below G w W
  size : G + 4 ≤ W.heap.size
theorem GnAt.below {w W W' : World} {G M : Nat} {V : Value} {l h : Int} (hg : GnAt w G V l h W) (hb : Below M W W') (hM : G + 4 ≤ M) : GnAt w G V l h W' :=
  ⟨(hb.block _ (by omega)).trans hg.acc, (hb.block _ (by omega)).trans hg.res, (hb.block _ (by omega)).trans hg.lat, (hb.block _ (by omega)).trans hg.who, hg.keep.trans (hb.mono (by omega)), Nat.le_trans hg.size hb.size⟩
theorem GnAt.cells {w W : World} {G : Nat} {V : Value} {l h : Int} (hg : GnAt w G V l h W) :
    W.cell? ⟨G, 0, none⟩ = some V ∧ W.cell? ⟨G + 1 + 1, 0, none⟩ = some (.int .i64 l) ∧ W.cell? ⟨G + 1 + 1 + 1, 0, none⟩ = some (.int .i64 h) ∧ W.frozen? ⟨G + 1 + 1, 0, none⟩ = false ∧ W.frozen? ⟨G + 1 + 1 + 1, 0, none⟩ = false :=
  ⟨by rw [cell_of_row _ _ _ _ _ _ hg.acc]; rfl, by rw [cell_of_row _ _ _ _ _ _ hg.lat]; rfl, by rw [cell_of_row _ _ _ _ _ _ hg.who]; rfl, frozen_of_row _ _ _ _ _ hg.lat, frozen_of_row _ _ _ _ _ hg.who⟩
theorem GnAt.set {w W : World} {G : Nat} {V : Value} {l h : Int} (hg : GnAt w G V l h W) (l' h' : Int) : GnAt w G V l' h' ((W.setCell ⟨G + 1 + 1, 0, none⟩ (.int .i64 l')).setCell ⟨G + 1 + 1 + 1, 0, none⟩ (.int .i64 h')) := by
  refine ⟨?_, ?_, ?_, ?_, ?_, ?_⟩
  · rw [heap_setCell_other _ _ _ _ (by show G ≠ G + 1 + 1 + 1; omega), heap_setCell_other _ _ _ _ (by show G ≠ G + 1 + 1; omega)]; exact hg.acc
  · rw [heap_setCell_other _ _ _ _ (by show G + 1 ≠ G + 1 + 1 + 1; omega), heap_setCell_other _ _ _ _ (by show G + 1 ≠ G + 1 + 1; omega)]; exact hg.res
  · rw [heap_setCell_other _ _ _ _ (by show G + 1 + 1 ≠ G + 1 + 1 + 1; omega), heap_setCell_same _ _ _ _ _ _ hg.lat]; rfl
  · rw [heap_setCell_same _ _ _ _ _ _ (by rw [heap_setCell_other _ _ _ _ (by show G + 1 + 1 + 1 ≠ G + 1 + 1; omega)]; exact hg.who)]; rfl
  · exact (hg.keep.setCell (p := ⟨G + 1 + 1, 0, none⟩) (by show G ≤ G + 1 + 1; omega) _).setCell (p := ⟨G + 1 + 1 + 1, 0, none⟩) (by show G ≤ G + 1 + 1 + 1; omega) _
  · simpa using hg.size
theorem gnAt_own {w : World} {G M : Nat} {V : Value} (hM : G + 4 ≤ M) (f : List Nat → Int × Int) : OwnFrom M (fun pre W => GnAt w G V (f pre).1 (f pre).2 W) := fun pre W W' row h hg hr => by
  have key : ∀ k, k < G + 4 → W'.heap[k]? = W.heap[k]? := fun k hk => hg.block k (by have := h.size; omega) (fun e => by have := (hr k e.symm).1; omega)
  exact ⟨(key _ (by omega)).trans h.acc, (key _ (by omega)).trans h.res, (key _ (by omega)).trans h.lat, (key _ (by omega)).trans h.who, h.keep.trans ⟨hg.os, hg.tape, hg.output, hg.size, fun k hk => key k (by omega)⟩, Nat.le_trans h.size hg.size⟩
theorem below_grown' {w w' : World} (h : Below w.heap.size w w') : w.grownBy w' none := ⟨h.os, h.tape, h.output, h.size, fun k hk _ => h.block k hk⟩

theorem rowP_nil {L : List (List (Int × Int))} {x : Nat} (h : L.length ≤ x) : rowP L x = [] := by unfold rowP; rw [List.getD_eq_getElem?_getD, List.getElem?_eq_none (by omega)]; rfl
theorem pairsAt_nil (w : World) (ao : Option Addr) (b o : Nat) : PairsAt w ao b o [] := ⟨fun h => absurd h (by simp), fun i hi => absurd hi (by simp), fun i hi => absurd hi (by simp), by simp, fun i => by simp [qf, qv]⟩

set_option maxHeartbeats 1000000 in
/-- The rule of the best gain. -/
theorem prophetRule_any (x l h : Int) (w : World) (hb : -9223372036854775808 ≤ x * h ∧ x * h ≤ 9223372036854775807) :
    Calls Try.prog 66 #[.int .i64 x, .int .i64 l, .int .i64 h] w fun e w' => e = .returned (.bool (accP x l h)) ∧ Below w.heap.size w w' := by
  have hw1 : wrap64 (x * h) = x * h := IntWalk.wrap64_in _ ⟨by omega, by omega⟩
  have HA := Lib.hid (show accP x l h = decide (l ≤ x * h) from rfl)
  clear hb
  go_enter Try.func66, Try.ntmps66
  go_wp2
  go_ret
  exact ⟨ret_bool HA.out.symm, Below.refl _ _⟩

set_option maxHeartbeats 1000000 in
/-- The rule of a threshold. -/
theorem thresholdRule_any (x l h least : Int) (Bt : Nat) (w : World) (hc : w.cell? ⟨Bt, 0, none⟩ = some (.int .i64 least)) :
    Calls Try.prog 68 #[.int .i64 x, .int .i64 l, .int .i64 h, .pointer (some ⟨Bt, 0, none⟩)] w fun e w' => e = .returned (.bool (accT least x l h)) ∧ Below w.heap.size w w' := by
  have HA := Lib.hid (show accT least x l h = decide (least ≤ x) from rfl)
  go_enter Try.func68, Try.ntmps68
  go_wp2
  go_ret
  exact ⟨ret_bool HA.out.symm, Below.refl _ _⟩

end Go.Proofs.Ythnkmmjelpdamaa
