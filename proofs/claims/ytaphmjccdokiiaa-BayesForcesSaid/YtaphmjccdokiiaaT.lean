/- Webs: adjacent, passes. -/
import Derived.Test.YtaphmjccdokiiaaS
namespace Go.Proofs.Ytaphmjccdokiiaa
open Go.RowKit

/-- n cells, by a function. -/
def arrF (n : Nat) (f : Nat → Value) : Array Value := (Array.range n).map f
theorem arrF_size (n : Nat) (f : Nat → Value) : (arrF n f).size = n := by simp [arrF]
theorem arrF_get {n : Nat} {f : Nat → Value} {i : Nat} (h : i < n) : (arrF n f)[i]? = some (f i) := by simp [arrF, h]
theorem arrF_congr {n : Nat} {f g : Nat → Value} (h : ∀ i, i < n → f i = g i) : arrF n f = arrF n g := by
  apply Array.ext
  · simp [arrF]
  · intro i h1 h2
    simp [arrF] at h1 ⊢
    exact h i h1
theorem arrF_set {n : Nat} {f : Nat → Value} {k : Nat} {v : Value} : (arrF n f).setIfInBounds k v = arrF n (fun i => if i = k then v else f i) := by
  apply Array.ext
  · simp [arrF]
  · intro i h1 h2
    simp only [arrF, Array.size_setIfInBounds, Array.size_map, Array.size_range] at h1
    by_cases e : i = k
    · subst e; simp [arrF, h1]
    · rw [Array.getElem_setIfInBounds_ne (by simpa [arrF] using h1) (by omega)]
      simp [arrF, e]
theorem arrF_all {n : Nat} {f : Nat → Value} (h : ∀ i, (f i).oneCell' = true) : (arrF n f).all (·.oneCell') = true := by
  rw [Array.all_eq_true]
  intro i hi
  simp [arrF, h]

/-- Ten bools. -/
def memF (m : Nat → Bool) : Array Value := arrF 10 (fun i => .bool (m i))
/-- A web: the count, who is whose parent, the set, what is open. -/
structure Web where
  count : Nat
  par : Nat → Nat → Bool
  giv : Nat → Bool
  opn : Nat → Bool
def Web.cell (W : Web) (i : Nat) : Value :=
  if i = 0 then .int .i64 W.count else if i < 101 then .bool (W.par ((i - 1) / 10) ((i - 1) % 10)) else if i < 111 then .bool (W.giv (i - 101)) else .bool (W.opn (i - 111))
def Web.cells (W : Web) : Array Value := arrF 121 W.cell
theorem Web.one (W : Web) (i : Nat) : (W.cell i).oneCell' = true := by
  unfold Web.cell; split
  · rfl
  · split
    · rfl
    · split <;> rfl
theorem Web.cell_par (W : Web) {v u : Nat} (hv : v < 10) (hu : u < 10) : W.cell (1 + v * 10 + u) = .bool (W.par v u) := by
  unfold Web.cell
  rw [if_neg (by omega), if_pos (by omega)]
  congr 2 <;> omega
theorem Web.cell_giv (W : Web) {v : Nat} (hv : v < 10) : W.cell (101 + v) = .bool (W.giv v) := by
  unfold Web.cell
  rw [if_neg (by omega), if_neg (by omega), if_pos (by omega)]
  congr 2; omega
theorem Web.cell_opn (W : Web) {v : Nat} (hv : v < 10) : W.cell (111 + v) = .bool (W.opn v) := by
  unfold Web.cell
  rw [if_neg (by omega), if_neg (by omega), if_neg (by omega)]
  congr 2; omega

def Web.adj (W : Web) (v u : Nat) : Bool := W.par v u || W.par u v
def Web.pass (W : Web) (b v a : Nat) : Bool := if W.par v b && W.par v a then W.opn v else !W.giv v

theorem web_cell {w : World} {g i : Nat} {W : Web} (h : w.heap[g]? = some (.cells W.cells 102 (0, 0))) (hi : i < 121) : w.cell? ⟨g, i, none⟩ = some (W.cell i) := by
  rw [cell_of_row _ _ _ _ _ _ h, Web.cells, arrF_get hi]

set_option maxHeartbeats 1000000 in
set_option maxRecDepth 100000 in
theorem adjacent_any (W : Web) (v u : Nat) (w : World) (hv : v < 10) (hu : u < 10) :
    Calls Try.prog 77 #[.agg W.cells, .int .i64 v, .int .i64 u] w fun e w' => e = .returned (.bool (W.adj v u)) ∧ Below w.heap.size w w' := by
  have hw0 := heap_alloc_new w (.cells W.cells 102)
  have c1 := web_cell (i := 1 + v * 10 + u) hw0 (by omega)
  have c2 := web_cell (i := 1 + u * 10 + v) hw0 (by omega)
  rw [W.cell_par hv hu] at c1
  rw [W.cell_par hu hv] at c2
  clear hw0
  cases e1 : W.par v u
  · rw [e1] at c1
    have HA := Lib.hid (show W.adj v u = W.par u v by simp [Web.adj, e1])
    clear e1
    go_enter Try.func77, Try.ntmps77
    go_wp2
    go_ret
    exact ⟨ret_bool HA.out.symm, (Below.refl _ _).alloc (Nat.le_refl _) _⟩
  · rw [e1] at c1
    have HA := Lib.hid (show W.adj v u = true by simp [Web.adj, e1])
    clear e1
    go_enter Try.func77, Try.ntmps77
    go_wp2
    go_ret
    exact ⟨ret_bool HA.out.symm, (Below.refl _ _).alloc (Nat.le_refl _) _⟩

set_option maxHeartbeats 1000000 in
set_option maxRecDepth 100000 in
theorem passes_any (W : Web) (b v a : Nat) (w : World) (hb : b < 10) (hv : v < 10) (ha : a < 10) :
    Calls Try.prog 79 #[.agg W.cells, .int .i64 b, .int .i64 v, .int .i64 a] w fun e w' => e = .returned (.bool (W.pass b v a)) ∧ Below w.heap.size w w' := by
  have hw0 := heap_alloc_new w (.cells W.cells 102)
  have c1 := web_cell (i := 1 + v * 10 + b) hw0 (by omega)
  have c2 := web_cell (i := 1 + v * 10 + a) hw0 (by omega)
  have c3 := web_cell (i := 101 + v) hw0 (by omega)
  have c4 := web_cell (i := 111 + v) hw0 (by omega)
  rw [W.cell_par hv hb] at c1
  rw [W.cell_par hv ha] at c2
  rw [W.cell_giv hv] at c3
  rw [W.cell_opn hv] at c4
  clear hw0
  cases e1 : W.par v b
  · rw [e1] at c1
    have HA := Lib.hid (show W.pass b v a = !W.giv v by simp [Web.pass, e1])
    clear e1 c2 c4
    go_enter Try.func79, Try.ntmps79
    go_wp2
    go_ret
    exact ⟨ret_bool HA.out.symm, (Below.refl _ _).alloc (Nat.le_refl _) _⟩
  · rw [e1] at c1
    cases e2 : W.par v a
    · rw [e2] at c2
      have HA := Lib.hid (show W.pass b v a = !W.giv v by simp [Web.pass, e2])
      clear e1 e2 c4
      go_enter Try.func79, Try.ntmps79
      go_wp2
      go_ret
      exact ⟨ret_bool HA.out.symm, (Below.refl _ _).alloc (Nat.le_refl _) _⟩
    · rw [e2] at c2
      have HA := Lib.hid (show W.pass b v a = W.opn v by simp [Web.pass, e1, e2])
      clear e1 e2 c3
      go_enter Try.func79, Try.ntmps79
      go_wp2
      go_ret
      exact ⟨ret_bool HA.out.symm, (Below.refl _ _).alloc (Nat.le_refl _) _⟩

/-- The list has the number. -/
def hasI (xs : List Int) (x : Int) : Bool := decide (∃ i, i < xs.length ∧ nth xs i = x)

set_option maxHeartbeats 1000000 in
set_option maxRecDepth 100000 in
theorem index_any (xs : List Int) (x : Int) (ao : Option Addr) (b o cap : Nat) (w : World) (h : IntsAt w ao b o xs) :
    Calls Try.prog 81 #[.slice ao xs.length cap, .int .i64 x] w fun e w' => (∃ j : Int, e = .returned (.int .i64 j) ∧ decide (0 ≤ j) = hasI xs x ∧ -1 ≤ j ∧ j ≤ 9223372036854775807) ∧ Below w.heap.size w w' := by
  have hl := h.len
  have H := Lib.hid h
  clear h
  go_enter Try.func81, Try.ntmps81
  go_wp2
  go_loopw [5, 8] (fun _ i wr => ∃ k : Nat, k ≤ xs.length ∧ i = .int .i64 k ∧ (∀ j, j < k → nth xs j ≠ x) ∧ Below w.heap.size w wr) (fun _ i _ => xs.length - (intOf i).toNat)
  case atStart => exact ⟨0, by omega, rfl, fun j hj => absurd hj (by omega), Below.refl _ _⟩
  case round =>
    obtain ⟨k, hk, rfl, ha, hb⟩ := hrel
    have HA := Lib.hid ha
    have HB := Lib.hid hb
    clear ha hb
    by_cases hlt : k < xs.length
    · have hX := H.out.below HB.out (Nat.le_refl _)
      obtain ⟨rfl, -⟩ := hX.ptr (by omega)
      have hc := hX.cell k hlt
      clear hX
      by_cases e : x = nth xs k
      · have hq : (x == nth xs k) = true := by rw [beq_iff_eq]; exact e
        have HF := Lib.hid (show hasI xs x = true from decide_eq_true ⟨k, hlt, e.symm⟩)
        clear e
        go_wp2
        try go_quiet (fail)
        go_wp2
        go_ret
        exact ⟨⟨k, rfl, by rw [HF.out]; simp, by omega, by omega⟩, HB.out⟩
      · have hq : (x == nth xs k) = false := by rw [beq_eq_false_iff_ne]; exact e
        have HE := Lib.hid e
        clear e
        go_wp2
        try go_quiet (fail)
        go_wp2
        go_roundw
        case rel =>
          refine ⟨k + 1, by omega, by go_num, fun j hj => ?_, HB.out⟩
          by_cases e : j = k
          · subst e; exact fun h => HE.out h.symm
          · exact HA.out j (by omega)
        case measure => simp [intOf]; omega
    · have HF := Lib.hid (show hasI xs x = false from decide_eq_false (fun q => by obtain ⟨j, hj, e⟩ := q; exact HA.out j (by omega) e))
      go_wp2
      go_ret
      exact ⟨⟨-1, rfl, by rw [HF.out]; rfl, by omega, by omega⟩, HB.out⟩

set_option maxHeartbeats 1000000 in
set_option maxRecDepth 100000 in
theorem contains_any (xs : List Int) (x : Int) (ao : Option Addr) (b o cap : Nat) (w : World) (h : IntsAt w ao b o xs) :
    Calls Try.prog 78 #[.slice ao xs.length cap, .int .i64 x] w fun e w' => e = .returned (.bool (hasI xs x)) ∧ Below w.heap.size w w' := by
  have H := Lib.hid h
  clear h
  go_enter Try.func78, Try.ntmps78
  go_wp2_with fail
  refine (index_any xs x ao b o cap _ H.out).mono ?_
  rintro e w1 ⟨⟨j, rfl, hj, h1, h2⟩, hb⟩
  have HB := Lib.hid hb
  have HJ := Lib.hid hj
  clear hb hj
  go_wp2
  go_ret
  exact ⟨ret_bool HJ.out, HB.out⟩

end Go.Proofs.Ytaphmjccdokiiaa
