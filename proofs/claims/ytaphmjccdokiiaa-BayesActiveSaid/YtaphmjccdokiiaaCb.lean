/- The program's search for a trail and the reference's: the same. -/
import Derived.Test.YtaphmjccdokiiaaBb
import Derived.Test.YtaphmjccdokiiaaAa
namespace Go.Proofs.Ytaphmjccdokiiaa
open Go.RowKit

/-- The web that the program makes of a network and a set. -/
def wb (P : List (List Int)) (set : List Int) : Web := webOf P (fun v : Nat => hasI set (v : Int))

/-- A trail that is active. -/
def Good (P : List (List Int)) (set : List Int) (tr : List Nat) : Prop := tr ≠ [] ∧ NoTwo P.length tr ∧ okTrail P (ints tr) = true ∧ actv P (ints tr) set = true

theorem at_ints (tr : List Nat) (i : Nat) : at' (ints tr) i = tr.getD i 0 := by unfold at'; rw [nth_ints]; simp
theorem getD_snoc_lt {tr : List Nat} {k i : Nat} (h : i < tr.length) : (tr ++ [k]).getD i 0 = tr.getD i 0 := by
  simp [List.getD_eq_getElem?_getD, List.getElem?_append_left h]
theorem getD_snoc_eq {tr : List Nat} {k : Nat} : (tr ++ [k]).getD tr.length 0 = k := by simp [List.getD_eq_getElem?_getD]

theorem adj_edge {P : List (List Int)} {set : List Int} {a b : Nat} (ha : a < P.length) (hb : b < P.length) : (wb P set).adj a b = edge P a b := by
  unfold Web.adj edge wb webOf
  simp [ha, hb]
theorem pass_is {P T : List (List Int)} (hn : IsNet P T) {set : List Int} (hok : okSet set P.length = true) {b v a : Nat} (hv : v < P.length) : (wb P set).pass b v a = passR P set b v a := by
  have h1 : ∀ u, (wb P set).par v u = hasI (row P v) (u : Int) := fun u => by simp [wb, webOf, hv]
  have h2 : (wb P set).opn v = opnd P v set := opn_is hn hok v
  have h3 : (wb P set).giv v = hasI set (v : Int) := rfl
  unfold Web.pass passR
  rw [h1, h1, h2, h3]

theorem trail_snoc {P : List (List Int)} {tr : List Nat} {k : Nat} (hnt : NoTwo P.length (tr ++ [k])) (hne : tr ≠ []) (ht : okTrail P (ints tr) = true) : okTrail P (ints (tr ++ [k])) = edge P (tr.getD (tr.length - 1) 0) k := by
  have hpos : 0 < tr.length := List.length_pos_iff.2 hne
  unfold okTrail at ht ⊢
  simp only [Bool.and_eq_true] at ht
  rw [okSet_ints hnt, Bool.true_and, Bool.eq_iff_iff, decide_eq_true_eq]
  have h2 := of_decide_eq_true ht.2
  simp only [at_ints, ints_length, List.length_append, List.length_cons, List.length_nil] at h2 ⊢
  constructor
  · intro h
    have := h (tr.length - 1) (by omega)
    rw [getD_snoc_lt (by omega), show tr.length - 1 + 1 = tr.length by omega, getD_snoc_eq] at this
    exact this
  · intro h i hi
    by_cases e : i = tr.length - 1
    · subst e
      rw [getD_snoc_lt (by omega), show tr.length - 1 + 1 = tr.length by omega, getD_snoc_eq]; exact h
    · rw [getD_snoc_lt (by omega), getD_snoc_lt (by omega)]; exact h2 i (by omega)
theorem actv_snoc {P : List (List Int)} {set : List Int} {tr : List Nat} {k : Nat} (hne : tr ≠ []) (ht : actv P (ints tr) set = true) : actv P (ints (tr ++ [k])) set = (decide (tr.length ≤ 1) || passR P set (tr.getD (tr.length - 2) 0) (tr.getD (tr.length - 1) 0) k) := by
  have hpos : 0 < tr.length := List.length_pos_iff.2 hne
  unfold actv at ht ⊢
  rw [Bool.eq_iff_iff, decide_eq_true_eq, Bool.or_eq_true, decide_eq_true_eq]
  have h2 := of_decide_eq_true ht
  simp only [at_ints, ints_length, List.length_append, List.length_cons, List.length_nil] at h2 ⊢
  constructor
  · intro h
    by_cases h1 : tr.length ≤ 1
    · exact .inl h1
    · right
      have := h (tr.length - 2) (by omega)
      rw [getD_snoc_lt (by omega), getD_snoc_lt (by omega), show tr.length - 2 + 1 = tr.length - 1 by omega, show tr.length - 2 + 2 = tr.length by omega, getD_snoc_eq] at this
      exact this
  · intro h i hi
    by_cases e : i = tr.length - 2
    · subst e
      rcases h with h | h
      · omega
      · rw [getD_snoc_lt (by omega), getD_snoc_lt (by omega), show tr.length - 2 + 1 = tr.length - 1 by omega, show tr.length - 2 + 2 = tr.length by omega, getD_snoc_eq]; exact h
    · rw [getD_snoc_lt (by omega), getD_snoc_lt (by omega), getD_snoc_lt (by omega)]; exact h2 i (by omega)

theorem cond_is {P T : List (List Int)} (hn : IsNet P T) {set : List Int} (hok : okSet set P.length = true) {tr : List Nat} (hg : Good P set tr) {k : Nat} (hk : k < P.length) : cond P set tr k = okNext (wb P set) tr k := by
  obtain ⟨hne, hnt, ht, ha⟩ := hg
  have hpos : 0 < tr.length := List.length_pos_iff.2 hne
  unfold cond okNext
  by_cases hm : k ∈ tr
  · simp [hm]
  · have hl : tr.getD (tr.length - 1) 0 < P.length := hnt.2 _ (by simp [List.getD_eq_getElem?_getD, show tr.length - 1 < tr.length by omega])
    rw [trail_snoc (hnt.snoc hk hm) hne ht, actv_snoc hne ha, adj_edge hl hk, pass_is hn hok hl]
    simp [hm]
theorem Good.snoc {P T : List (List Int)} (hn : IsNet P T) {set : List Int} (hok : okSet set P.length = true) {tr : List Nat} (hg : Good P set tr) {k : Nat} (hk : k < P.length) (h : okNext (wb P set) tr k = true) : Good P set (tr ++ [k]) := by
  rw [← cond_is hn hok hg hk] at h
  unfold cond at h
  simp only [Bool.and_eq_true, Bool.not_eq_true', decide_eq_false_iff_not] at h
  exact ⟨by simp, hg.2.1.snoc hk h.1.1, h.1.2, h.2⟩
theorem Good.one {P : List (List Int)} {set : List Int} {x : Nat} (hx : x < P.length) : Good P set [x] := by
  have hnt : NoTwo P.length [x] := ⟨by simp, fun y hy => by simp at hy; omega⟩
  refine ⟨by simp, hnt, ?_, ?_⟩
  · unfold okTrail
    rw [okSet_ints hnt, Bool.true_and]
    exact decide_eq_true (fun i hi => by simp [ints] at hi)
  · exact decide_eq_true (fun i hi => by simp [ints] at hi)

theorem conn_dfs {P T : List (List Int)} (hn : IsNet P T) {set : List Int} (hok : okSet set P.length = true) (y : Nat) : ∀ (f : Nat) (tr : List Nat), Good P set tr → conn P set y f tr = (dfs (wb P set) y f tr).isSome := by
  intro f
  induction f with
  | zero => intro tr _; simp [conn, dfs]
  | succ f ih =>
    intro tr hg
    rw [conn, dfs]
    by_cases e : tr.getD (tr.length - 1) 0 = y
    · rw [if_pos e, if_pos e]; rfl
    · rw [if_neg e, if_neg e]
      have aux : ∀ k, k ≤ P.length → connTo P set y f tr k = (dfsTo (wb P set) y f tr k).isSome := by
        intro k
        induction k with
        | zero => intro _; simp [connTo, dfsTo]
        | succ k ihk =>
          intro hk
          rw [connTo, dfsTo, ihk (by omega), cond_is hn hok hg (show k < P.length by omega)]
          cases dfsTo (wb P set) y f tr k with
          | some r => simp
          | none =>
            cases eo : okNext (wb P set) tr k
            · simp
            · simp [ih _ (hg.snoc hn hok (by omega) eo)]
      exact aux P.length (Nat.le_refl _)

/-- What is said of the trail that is found. -/
structure Found (P : List (List Int)) (set : List Int) (x y : Nat) (r : List Nat) : Prop where
  good : Good P set r
  first : r.getD 0 0 = x
  last : r.getD (r.length - 1) 0 = y

theorem sep_found {P T : List (List Int)} (hn : IsNet P T) {set : List Int} (hok : okSet set P.length = true) {x y : Nat} (hx : x < P.length) {r : List Nat} (h : sepTrail P set x y = some r) : Found P set x y r := by
  have := dfs_keeps (wb P set) y (fun tr => Good P set tr ∧ tr.getD 0 0 = x) (fun tr k hp hk ho => ⟨hp.1.snoc hn hok hk ho, by
    rw [getD_snoc_lt (List.length_pos_iff.2 hp.1.1)]; exact hp.2⟩) P.length [x] r ⟨Good.one hx, rfl⟩ h
  exact ⟨this.1.1, this.1.2, this.2⟩
theorem sep_conn {P T : List (List Int)} (hn : IsNet P T) {set : List Int} (hok : okSet set P.length = true) {x y : Nat} (hx : x < P.length) : conn P set y P.length [x] = (sepTrail P set x y).isSome :=
  conn_dfs hn hok y P.length [x] (Good.one hx)

end Go.Proofs.Ytaphmjccdokiiaa
