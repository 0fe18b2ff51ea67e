/- G5: T U V X -/
import Derived.Test.YtghffnjnpgiicaaG4
/- Webs: adjacent, passes. -/
namespace Go.Proofs.Ytghffnjnpgiicaa
open Go.RowKit

/-- n cells, by a function. -/
def arrF (n : Nat) (f : Nat → Value) : Array Value := (Array.range n).map f
theorem arrF_size (n : Nat) (f : Nat → Value) : (arrF n f).size = n := by simp [arrF]
theorem arrF_get {n : Nat} {f : Nat → Value} {i : Nat} (h : i < n) : (arrF n f)[i]? = some (f i) := by simp [arrF, h]
theorem arrF_congr {n : Nat} {f g : Nat → Value} (h : ∀ i, i < n → f i = g i) : arrF n f = arrF n g := by
  apply Array.ext
  · simp [arrF]
  · intro i h1 h2
    simp [arrF] at h1 ⊢
    exact h i h1
theorem arrF_set {n : Nat} {f : Nat → Value} {k : Nat} {v : Value} : (arrF n f).setIfInBounds k v = arrF n (fun i => if i = k then v else f i) := by
  apply Array.ext
  · simp [arrF]
  · intro i h1 h2
    simp only [arrF, Array.size_setIfInBounds, Array.size_map, Array.size_range] at h1
    by_cases e : i = k
    · subst e; simp [arrF]
    · rw [Array.getElem_setIfInBounds_ne (by simpa [arrF] using h1) (by omega)]
      simp [arrF, e]
theorem arrF_all {n : Nat} {f : Nat → Value} (h : ∀ i, (f i).oneCell' = true) : (arrF n f).all (·.oneCell') = true := by
  rw [Array.all_eq_true]
  intro i hi
  simp [arrF, h]

/-- Ten bools. -/
def memF (m : Nat → Bool) : Array Value := arrF 10 (fun i => .bool (m i))
/-- A web: the count, who is whose parent, the set, what is open. -/
structure Web where
  count : Nat
  par : Nat → Nat → Bool
  giv : Nat → Bool
  opn : Nat → Bool
def Web.cell (W : Web) (i : Nat) : Value :=
  if i = 0 then .int .i64 W.count else if i < 101 then .bool (W.par ((i - 1) / 10) ((i - 1) % 10)) else if i < 111 then .bool (W.giv (i - 101)) else .bool (W.opn (i - 111))
def Web.cells (W : Web) : Array Value := arrF 121 W.cell
theorem Web.one (W : Web) (i : Nat) : (W.cell i).oneCell' = true := by
  unfold Web.cell; split
  · rfl
  · split
    · rfl
    · split <;> rfl
theorem Web.cell_par (W : Web) {v u : Nat} (hv : v < 10) (hu : u < 10) : W.cell (1 + v * 10 + u) = .bool (W.par v u) := by
  unfold Web.cell
  rw [if_neg (by omega), if_pos (by omega)]
  congr 2 <;> omega
theorem Web.cell_giv (W : Web) {v : Nat} (hv : v < 10) : W.cell (101 + v) = .bool (W.giv v) := by
  unfold Web.cell
  rw [if_neg (by omega), if_neg (by omega), if_pos (by omega)]
  congr 2; omega
theorem Web.cell_opn (W : Web) {v : Nat} (hv : v < 10) : W.cell (111 + v) = .bool (W.opn v) := by
  unfold Web.cell
  rw [if_neg (by omega), if_neg (by omega), if_neg (by omega)]
  congr 2; omega

def Web.adj (W : Web) (v u : Nat) : Bool := W.par v u || W.par u v
def Web.pass (W : Web) (b v a : Nat) : Bool := if W.par v b && W.par v a then W.opn v else !W.giv v

theorem web_cell {w : World} {g i : Nat} {W : Web} (h : w.heap[g]? = some (.cells W.cells 102 (0, 0))) (hi : i < 121) : w.cell? ⟨g, i, none⟩ = some (W.cell i) := by
  rw [cell_of_row _ _ _ _ _ _ h, Web.cells, arrF_get hi]

set_option maxHeartbeats 1000000 in
set_option maxRecDepth 100000 in
theorem adjacent_any (W : Web) (v u : Nat) (w : World) (hv : v < 10) (hu : u < 10) :
    Calls Try.prog 77 #[.agg W.cells, .int .i64 v, .int .i64 u] w fun e w' => e = .returned (.bool (W.adj v u)) ∧ Below w.heap.size w w' := by
  have hw0 := heap_alloc_new w (.cells W.cells 102)
  have c1 := web_cell (i := 1 + v * 10 + u) hw0 (by omega)
  have c2 := web_cell (i := 1 + u * 10 + v) hw0 (by omega)
  rw [W.cell_par hv hu] at c1
  rw [W.cell_par hu hv] at c2
  clear hw0
  cases e1 : W.par v u
  · rw [e1] at c1
    have HA := Lib.hid (show W.adj v u = W.par u v by simp [Web.adj, e1])
    clear e1
    go_enter Try.func77, Try.ntmps77
    go_wp2
    go_ret
    exact ⟨ret_bool HA.out.symm, (Below.refl _ _).alloc (Nat.le_refl _) _⟩
  · rw [e1] at c1
    have HA := Lib.hid (show W.adj v u = true by simp [Web.adj, e1])
    clear e1
    go_enter Try.func77, Try.ntmps77
    go_wp2
    go_ret
    exact ⟨ret_bool HA.out.symm, (Below.refl _ _).alloc (Nat.le_refl _) _⟩

set_option maxHeartbeats 1000000 in
set_option maxRecDepth 100000 in
theorem passes_any (W : Web) (b v a : Nat) (w : World) (hb : b < 10) (hv : v < 10) (ha : a < 10) :
    Calls Try.prog 79 #[.agg W.cells, .int .i64 b, .int .i64 v, .int .i64 a] w fun e w' => e = .returned (.bool (W.pass b v a)) ∧ Below w.heap.size w w' := by
  have hw0 := heap_alloc_new w (.cells W.cells 102)
  have c1 := web_cell (i := 1 + v * 10 + b) hw0 (by omega)
  have c2 := web_cell (i := 1 + v * 10 + a) hw0 (by omega)
  have c3 := web_cell (i := 101 + v) hw0 (by omega)
  have c4 := web_cell (i := 111 + v) hw0 (by omega)
  rw [W.cell_par hv hb] at c1
  rw [W.cell_par hv ha] at c2
  rw [W.cell_giv hv] at c3
  rw [W.cell_opn hv] at c4
  clear hw0
  cases e1 : W.par v b
  · rw [e1] at c1
    have HA := Lib.hid (show W.pass b v a = !W.giv v by simp [Web.pass, e1])
    clear e1 c2 c4
    go_enter Try.func79, Try.ntmps79
    go_wp2
    go_ret
    exact ⟨ret_bool HA.out.symm, (Below.refl _ _).alloc (Nat.le_refl _) _⟩
  · rw [e1] at c1
    cases e2 : W.par v a
    · rw [e2] at c2
      have HA := Lib.hid (show W.pass b v a = !W.giv v by simp [Web.pass, e2])
      clear e1 e2 c4
      go_enter Try.func79, Try.ntmps79
      go_wp2
      go_ret
      exact ⟨ret_bool HA.out.symm, (Below.refl _ _).alloc (Nat.le_refl _) _⟩
    · rw [e2] at c2
      have HA := Lib.hid (show W.pass b v a = W.opn v by simp [Web.pass, e1, e2])
      clear e1 e2 c3
      go_enter Try.func79, Try.ntmps79
      go_wp2
      go_ret
      exact ⟨ret_bool HA.out.symm, (Below.refl _ _).alloc (Nat.le_refl _) _⟩

/-- The list has the number. -/
def hasI (xs : List Int) (x : Int) : Bool := decide (∃ i, i < xs.length ∧ nth xs i = x)

set_option maxHeartbeats 1000000 in
set_option maxRecDepth 100000 in
theorem index_any (xs : List Int) (x : Int) (ao : Option Addr) (b o cap : Nat) (w : World) (h : IntsAt w ao b o xs) :
    Calls Try.prog 81 #[.slice ao xs.length cap, .int .i64 x] w fun e w' => (∃ j : Int, e = .returned (.int .i64 j) ∧ decide (0 ≤ j) = hasI xs x ∧ -1 ≤ j ∧ j ≤ 9223372036854775807) ∧ Below w.heap.size w w' := by
  have hl := h.len
  have H := Lib.hid h
  clear h
  go_enter Try.func81, Try.ntmps81
  go_wp2
  go_loopw [5, 8] (fun _ i wr => ∃ k : Nat, k ≤ xs.length ∧ i = .int .i64 k ∧ (∀ j, j < k → nth xs j ≠ x) ∧ Below w.heap.size w wr) (fun _ i _ => xs.length - (intOf i).toNat)
  case atStart => exact ⟨0, by omega, rfl, fun j hj => absurd hj (by omega), Below.refl _ _⟩
  case round =>
    obtain ⟨k, hk, rfl, ha, hb⟩ := hrel
    have HA := Lib.hid ha
    have HB := Lib.hid hb
    clear ha hb
    by_cases hlt : k < xs.length
    · have hX := H.out.below HB.out (Nat.le_refl _)
      obtain ⟨rfl, -⟩ := hX.ptr (by omega)
      have hc := hX.cell k hlt
      clear hX
      by_cases e : x = nth xs k
      · have hq : (x == nth xs k) = true := by rw [beq_iff_eq]; exact e
        have HF := Lib.hid (show hasI xs x = true from decide_eq_true ⟨k, hlt, e.symm⟩)
        clear e
        go_wp2
        try go_quiet (fail)
        go_wp2
        go_ret
        exact ⟨⟨k, rfl, by rw [HF.out]; simp, by omega, by omega⟩, HB.out⟩
      · have hq : (x == nth xs k) = false := by rw [beq_eq_false_iff_ne]; exact e
        have HE := Lib.hid e
        clear e
        go_wp2
        try go_quiet (fail)
        go_wp2
        go_roundw
        case rel =>
          refine ⟨k + 1, by omega, by go_num, fun j hj => ?_, HB.out⟩
          by_cases e : j = k
          · subst e; exact fun h => HE.out h.symm
          · exact HA.out j (by omega)
        case measure => simp [intOf]; omega
    · have HF := Lib.hid (show hasI xs x = false from decide_eq_false (fun q => by obtain ⟨j, hj, e⟩ := q; exact HA.out j (by omega) e))
      go_wp2
      go_ret
      exact ⟨⟨-1, rfl, by rw [HF.out]; rfl, by omega, by omega⟩, HB.out⟩

set_option maxHeartbeats 1000000 in
set_option maxRecDepth 100000 in
theorem contains_any (xs : List Int) (x : Int) (ao : Option Addr) (b o cap : Nat) (w : World) (h : IntsAt w ao b o xs) :
    Calls Try.prog 78 #[.slice ao xs.length cap, .int .i64 x] w fun e w' => e = .returned (.bool (hasI xs x)) ∧ Below w.heap.size w w' := by
  have H := Lib.hid h
  clear h
  go_enter Try.func78, Try.ntmps78
  go_wp2_with fail
  refine (index_any xs x ao b o cap _ H.out).mono ?_
  rintro e w1 ⟨⟨j, rfl, hj, h1, h2⟩, hb⟩
  have HB := Lib.hid hb
  have HJ := Lib.hid hj
  clear hb hj
  go_wp2
  go_ret
  exact ⟨ret_bool HJ.out, HB.out⟩

end Go.Proofs.Ytghffnjnpgiicaa

/- Sets of variables; webs out of networks. -/
namespace Go.Proofs.Ytghffnjnpgiicaa
open Go.RowKit

theorem memF_all (m : Nat → Bool) : (memF m).all (·.oneCell') = true := arrF_all fun _ => rfl
theorem memF_false : memF (fun _ => false) = #[.bool false, .bool false, .bool false, .bool false, .bool false, .bool false, .bool false, .bool false, .bool false, .bool false] := by kernel_rfl

/-- The list consists of different variables of n. -/
def okSet (xs : List Int) (n : Nat) : Bool := decide (∀ i, i < xs.length → (0 ≤ nth xs i ∧ nth xs i < n) ∧ ∀ j, j < i → nth xs j ≠ nth xs i)
/-- The first k numbers of a list, as a set. -/
def inTo (xs : List Int) (k : Nat) (v : Nat) : Bool := decide (∃ i, i < k ∧ nth xs i = (v : Int))
theorem inTo_len (xs : List Int) (v : Nat) : inTo xs xs.length v = hasI xs v := rfl
theorem inTo_succ {xs : List Int} {k q : Nat} (h : nth xs k = q) (v : Nat) : inTo xs (k + 1) v = (inTo xs k v || decide (v = q)) := by
  unfold inTo
  rw [Bool.eq_iff_iff]
  simp only [decide_eq_true_eq, Bool.or_eq_true]
  constructor
  · rintro ⟨i, hi, e⟩
    by_cases hik : i = k
    · subst hik; right; omega
    · exact .inl ⟨i, by omega, e⟩
  · rintro (⟨i, hi, e⟩ | e)
    · exact ⟨i, by omega, e⟩
    · exact ⟨k, by omega, by rw [h, e]⟩
theorem inTo_zero (xs : List Int) : inTo xs 0 = fun _ => false := by
  funext v; unfold inTo; simp

set_option maxHeartbeats 2000000 in
set_option maxRecDepth 100000 in
theorem toMembers_any (xs : List Int) (n : Nat) (ao : Option Addr) (b o cap : Nat) (w : World) (h : IntsAt w ao b o xs) (hn : n ≤ 10) :
    Calls Try.prog 59 #[.slice ao xs.length cap, .int .i64 n] w fun e w' =>
      (∃ m, e = .returned (.tuple #[.agg (memF m), .bool (okSet xs n)]) ∧ (okSet xs n = true → m = fun v : Nat => hasI xs (v : Int))) ∧ Below w.heap.size w w' := by
  have hl := h.len
  have H := Lib.hid h
  clear h
  go_enter Try.func59, Try.ntmps59
  go_wp2
  rw [← memF_false]
  go_loopw [8, 11] (fun _ i wr => ∃ k : Nat, k ≤ xs.length ∧ i = .int .i64 k ∧ Below w.heap.size w wr ∧ (∀ i, i < k → (0 ≤ nth xs i ∧ nth xs i < n) ∧ ∀ j, j < i → nth xs j ≠ nth xs i) ∧
      wr.heap[w.heap.size]? = some (.cells (memF (fun _ => false)) 97 (0, 0)) ∧ wr.heap[w.heap.size + 1]? = some (.cells (memF (inTo xs k)) 97 (0, 0))) (fun _ i _ => xs.length - (intOf i).toNat)
  case atStart => exact ⟨0, by omega, rfl, ((Below.refl _ _).alloc (Nat.le_refl _) _).alloc (by simp) _, fun j hj => absurd hj (by omega), heap_alloc2_old _ _ _, by rw [inTo_zero]; exact heap_alloc2_new _ _ _⟩
  case round =>
    obtain ⟨k, hk, rfl, hb, ha, h0, h1⟩ := hrel
    have HB := Lib.hid hb
    have HA := Lib.hid ha
    have H0 := Lib.hid h0
    have H1 := Lib.hid h1
    clear hb ha h0 h1
    by_cases hlt : k < xs.length
    · have hX := H.out.below HB.out (Nat.le_refl _)
      obtain ⟨rfl, -⟩ := hX.ptr (by omega)
      have hc := hX.cell k hlt
      clear hX
      have hV := isVariable_any (nth xs k) n wr
      cases e1 : isVar (nth xs k) n
      · rw [e1] at hV
        have HF := Lib.hid (show okSet xs n = false from decide_eq_false (fun q => by have := (q k hlt).1; simp [isVar] at e1; omega))
        have HV := Lib.hid hV
        clear hV e1
        go_wp2_with (first | (go_at_call 58; refine HV.out.mono ?_; rintro e w' ⟨rfl, rfl⟩) | (refine wpList_store_row rfl 97 (.tmp 4) (.tmp 24) rfl w.heap.size (memF fun _ => false) rfl (by kernel_rfl) 97 _ H0.out (by kernel_rfl) rfl (memF_all _) ?_))
        refine bodyPost_ret (v := .tuple #[.agg (memF fun _ => false), .bool false]) ?_ rfl ⟨⟨_, ret_t2 rfl (congrArg Value.bool HF.out.symm), fun h => absurd (HF.out.symm.trans h) (by decide)⟩, below_setRow HB.out (Nat.le_refl _) _⟩
        exact results_cell_row2 (ty := 97) (p := 4) (u := 5) rfl _ _ w.heap.size 97 _ (0, 0) _ rfl (setRow_heap _ _ _ _ _ _ H0.out) Try.underlying97 rfl (by kernel_rfl)
      · rw [e1] at hV
        have HV := Lib.hid hV
        have hr : 0 ≤ nth xs k ∧ nth xs k < n := by simpa [isVar] using e1
        obtain ⟨q, hq⟩ : ∃ q : Nat, nth xs k = (q : Int) := ⟨(nth xs k).toNat, by omega⟩
        have hq10 : q < 10 := by omega
        rw [hq] at hc HV
        have HQ := Lib.hid hq
        have HR := Lib.hid hr
        have hcm : wr.cell? ⟨w.heap.size + 1, q, none⟩ = some (.bool (inTo xs k q)) := by rw [cell_of_row _ _ _ _ _ _ H1.out, memF, arrF_get hq10]
        have hfm : wr.frozen? ⟨w.heap.size + 1, q, none⟩ = false := frozen_of_row _ _ _ _ _ H1.out
        clear hV e1 hq hr
        cases e2 : inTo xs k q
        · rw [e2] at hcm
          have HE2 := Lib.hid e2
          clear e2
          go_wp2_with (go_at_call 58; refine HV.out.mono ?_; rintro e w' ⟨rfl, rfl⟩)
          go_roundw
          case rel =>
            refine ⟨k + 1, by omega, by go_num, HB.out.setCell (by show w.heap.size ≤ w.heap.size + 1; omega) _, fun i hi => ?_, ?_, ?_⟩
            · by_cases e : i = k
              · subst e
                refine ⟨HR.out, fun j hj h => ?_⟩
                have := HE2.out
                unfold inTo at this
                exact (of_decide_eq_false this) ⟨j, hj, by rw [h]; exact HQ.out⟩
              · exact HA.out i (by omega)
            · rw [heap_setCell_other _ _ _ _ (by show w.heap.size ≠ w.heap.size + 1; omega)]; exact H0.out
            · rw [heap_setCell_same _ _ _ _ _ _ H1.out, memF, arrF_set]
              refine congrArg (fun x => some (Obj.cells x 97)) (arrF_congr fun i hi => ?_)
              rw [inTo_succ HQ.out]
              by_cases e : i = q
              · rw [if_pos e, e]; simp
              · rw [if_neg e]; simp [e]
          case measure => simp [intOf]; omega
        · rw [e2] at hcm
          have HF := Lib.hid (show okSet xs n = false from decide_eq_false (fun y => by
            obtain ⟨j, hj, e⟩ := of_decide_eq_true e2
            exact (y k hlt).2 j hj (by rw [e, HQ.out])))
          clear e2
          go_wp2_with (first | (go_at_call 58; refine HV.out.mono ?_; rintro e w' ⟨rfl, rfl⟩) | (refine wpList_store_row rfl 97 (.tmp 4) (.tmp 24) rfl w.heap.size (memF fun _ => false) rfl (by kernel_rfl) 97 _ H0.out (by kernel_rfl) rfl (memF_all _) ?_))
          refine bodyPost_ret (v := .tuple #[.agg (memF fun _ => false), .bool false]) ?_ rfl ⟨⟨_, ret_t2 rfl (congrArg Value.bool HF.out.symm), fun h => absurd (HF.out.symm.trans h) (by decide)⟩, below_setRow HB.out (Nat.le_refl _) _⟩
          exact results_cell_row2 (ty := 97) (p := 4) (u := 5) rfl _ _ w.heap.size 97 _ (0, 0) _ rfl (setRow_heap _ _ _ _ _ _ H0.out) Try.underlying97 rfl (by kernel_rfl)
    · have ek : k = xs.length := by omega
      have HT := Lib.hid (show okSet xs n = true from decide_eq_true fun i hi => HA.out i (by omega))
      have HK := Lib.hid ek
      clear ek
      go_wp2_with (first | (refine wpList_load_row rfl 97 (.tmp 6) rfl (w.heap.size + 1) rfl 97 _ _ _ H1.out Try.underlying97 rfl (by kernel_rfl) ?_) | (refine wpList_store_row rfl 97 (.tmp 4) (.tmp 28) rfl w.heap.size _ rfl rfl 97 _ H0.out (by kernel_rfl) (by simp [memF, arrF_size]) (memF_all _) ?_))
      refine bodyPost_ret (v := .tuple #[.agg (memF (inTo xs k)), .bool true]) ?_ rfl ⟨⟨_, ret_t2 rfl (congrArg Value.bool HT.out.symm), fun _ => by rw [HK.out]; rfl⟩, below_setRow HB.out (Nat.le_refl _) _⟩
      exact results_cell_row2 (ty := 97) (p := 4) (u := 5) rfl _ _ w.heap.size 97 _ (0, 0) _ rfl (setRow_heap _ _ _ _ _ _ H0.out) Try.underlying97 rfl (by kernel_rfl)

end Go.Proofs.Ytghffnjnpgiicaa

/- Webs out of networks. -/
namespace Go.Proofs.Ytghffnjnpgiicaa
open Go.RowKit

/-- Who is open when k variables, from the last one on, have been passed. -/
def opnTo (P : List (List Int)) (giv : Nat → Bool) : Nat → Nat → Bool
  | 0 => giv
  | k + 1 => fun p => opnTo P giv k p || (opnTo P giv k (P.length - 1 - k) && hasI (row P (P.length - 1 - k)) (p : Int))

/-- The web of a network and a set. -/
def webOf (P : List (List Int)) (giv : Nat → Bool) : Web where
  count := P.length
  par := fun v u => decide (v < P.length) && hasI (row P v) (u : Int)
  giv := giv
  opn := opnTo P giv P.length

theorem Web.cells_size (W : Web) : W.cells.size = 121 := arrF_size _ _
theorem Web.cells_all (W : Web) : W.cells.all (·.oneCell') = true := arrF_all (Web.one W)
theorem size102 : (Try.prog.info? 102).map (·.size) = some 121 := by kernel_rfl
theorem zero102_size : Try.zeroCells102.size = 121 := by kernel_rfl
theorem info_web (W : Web) : (Try.prog.info? 102).map (·.size) = some W.cells.size := by rw [W.cells_size]; exact size102
theorem old_web (W : Web) : Try.zeroCells102.size = W.cells.size := by rw [W.cells_size]; exact zero102_size

theorem wpList_world {P : Program} {ops : Array Oper} {Q : Exit → Act → World → Prop} {l : List Oper} {a : Act} {w w' : World} (h : w = w') (hk : wpList P ops Q l a w') : wpList P ops Q l a w := h ▸ hk
theorem rfl6 (w : World) (a b c d : Obj) : ((((w.alloc a).alloc b).alloc c).alloc d).heap[w.heap.size + 3]? = some d := by
  have := heap_alloc_new (((w.alloc a).alloc b).alloc c) d
  simpa using this

theorem Web.set_par (W : Web) {s q : Nat} (hs : s < 10) (hq : q < 10) : W.cells.setIfInBounds (1 + s * 10 + q) (.bool true) = Web.cells { W with par := fun v u => W.par v u || (decide (v = s) && decide (u = q)) } := by
  unfold Web.cells
  rw [arrF_set]
  refine arrF_congr fun i hi => ?_
  unfold Web.cell
  by_cases h0 : i = 0
  · rw [if_neg (by omega), if_pos h0, if_pos h0]
  · by_cases h1 : i < 101
    · rw [if_neg h0, if_neg h0, if_pos h1, if_pos h1]
      by_cases e : i = 1 + s * 10 + q
      · rw [if_pos e]
        have e1 : (i - 1) / 10 = s := by omega
        have e2 : (i - 1) % 10 = q := by omega
        simp [e1, e2]
      · rw [if_neg e]
        have : ¬ ((i - 1) / 10 = s ∧ (i - 1) % 10 = q) := by omega
        by_cases e1 : (i - 1) / 10 = s
        · have e2 : ¬ (i - 1) % 10 = q := fun h => this ⟨e1, h⟩
          simp [e2]
        · simp [e1]
    · rw [if_neg (by omega), if_neg h0, if_neg h0, if_neg h1, if_neg h1]
theorem Web.set_opn (W : Web) {q : Nat} (hq : q < 10) : W.cells.setIfInBounds (111 + q) (.bool true) = Web.cells { W with opn := fun p => W.opn p || decide (p = q) } := by
  unfold Web.cells
  rw [arrF_set]
  refine arrF_congr fun i hi => ?_
  unfold Web.cell
  by_cases h0 : i = 0
  · rw [if_neg (by omega), if_pos h0, if_pos h0]
  · by_cases h1 : i < 101
    · rw [if_neg (by omega), if_neg h0, if_neg h0, if_pos h1, if_pos h1]
    · by_cases h2 : i < 111
      · rw [if_neg (by omega), if_neg h0, if_neg h0, if_neg h1, if_neg h1, if_pos h2, if_pos h2]
      · rw [if_neg h0, if_neg h0, if_neg h1, if_neg h1, if_neg h2, if_neg h2]
        by_cases e : i = 111 + q
        · rw [if_pos e]
          have e1 : i - 111 = q := by omega
          simp [e1]
        · rw [if_neg e]
          have e1 : ¬ i - 111 = q := by omega
          simp [e1]
theorem Web.cells_congr {W W' : Web} (h0 : W.count = W'.count) (h1 : ∀ v u, v < 10 → u < 10 → W.par v u = W'.par v u) (h2 : ∀ v, v < 10 → W.giv v = W'.giv v) (h3 : ∀ v, v < 10 → W.opn v = W'.opn v) : W.cells = W'.cells := by
  unfold Web.cells
  refine arrF_congr fun i hi => ?_
  unfold Web.cell
  by_cases e0 : i = 0
  · rw [if_pos e0, if_pos e0, h0]
  · by_cases e1 : i < 101
    · rw [if_neg e0, if_neg e0, if_pos e1, if_pos e1, h1 _ _ (by omega) (by omega)]
    · by_cases e2 : i < 111
      · rw [if_neg e0, if_neg e0, if_neg e1, if_neg e1, if_pos e2, if_pos e2, h2 _ (by omega)]
      · rw [if_neg e0, if_neg e0, if_neg e1, if_neg e1, if_neg e2, if_neg e2, h3 _ (by omega)]

/-- The web when k variables have been passed, and t parents of the next one. -/
def webAt (P : List (List Int)) (m : Nat → Bool) (k t : Nat) : Web where
  count := P.length
  par := fun v u => (decide (P.length - k ≤ v ∧ v < P.length) && hasI (row P v) (u : Int)) || (decide (v = P.length - 1 - k) && inTo (row P (P.length - 1 - k)) t u)
  giv := m
  opn := fun p => opnTo P m k p || (opnTo P m k (P.length - 1 - k) && inTo (row P (P.length - 1 - k)) t p)

theorem webAt_next {P : List (List Int)} {m : Nat → Bool} {k s : Nat} (hk : k < P.length) (hs : P.length - 1 - k = s) : (webAt P m (k + 1) 0).cells = (webAt P m k (row P s).length).cells := by
  refine Web.cells_congr rfl (fun v u _ _ => ?_) (fun v _ => rfl) (fun v _ => ?_)
  · simp only [webAt, hs, inTo_len, inTo_zero, Bool.and_false, Bool.or_false]
    by_cases e : v = s
    · subst e
      have h1 : P.length - (k + 1) ≤ v ∧ v < P.length := by omega
      have h2 : ¬ (P.length - k ≤ v ∧ v < P.length) := by omega
      simp [h1]
    · by_cases h1 : P.length - k ≤ v ∧ v < P.length
      · have h2 : P.length - (k + 1) ≤ v ∧ v < P.length := by omega
        simp [h1, h2, e]
      · have h2 : ¬ (P.length - (k + 1) ≤ v ∧ v < P.length) := by omega
        rw [decide_eq_false h1, decide_eq_false h2]; simp [e]
  · simp [webAt, inTo_zero, opnTo, hs, inTo_len]
theorem webAt_last (P : List (List Int)) (m : Nat → Bool) : (webAt P m P.length 0).cells = (webOf P m).cells := by
  refine Web.cells_congr rfl (fun v u _ _ => ?_) (fun v _ => rfl) (fun v _ => ?_)
  · simp [webAt, webOf, inTo_zero]
  · simp [webAt, webOf, inTo_zero]

/-- One parent more. -/
theorem webAt_step {P : List (List Int)} {m : Nat → Bool} {k t s q : Nat} (hs : P.length - 1 - k = s) (hq : nth (row P s) t = q) :
    (opnTo P m k s = false → (webAt P m k (t + 1)).cells = Web.cells { webAt P m k t with par := fun v u => (webAt P m k t).par v u || (decide (v = s) && decide (u = q)) }) ∧
    (opnTo P m k s = true → (webAt P m k (t + 1)).cells = Web.cells { webAt P m k t with par := fun v u => (webAt P m k t).par v u || (decide (v = s) && decide (u = q)), opn := fun p => (webAt P m k t).opn p || decide (p = q) }) := by
  have hp : ∀ v u, (webAt P m k (t + 1)).par v u = ((webAt P m k t).par v u || (decide (v = s) && decide (u = q))) := fun v u => by
    simp only [webAt, hs, inTo_succ hq]
    cases decide (v = s) <;> simp [Bool.or_assoc]
  constructor
  · intro ho
    refine Web.cells_congr rfl (fun v u _ _ => hp v u) (fun v _ => rfl) (fun v _ => ?_)
    simp [webAt, hs, ho]
  · intro ho
    refine Web.cells_congr rfl (fun v u _ _ => hp v u) (fun v _ => rfl) (fun v _ => ?_)
    simp [webAt, hs, ho, inTo_succ hq, Bool.or_assoc]
theorem webAt_opn {P : List (List Int)} {m : Nat → Bool} {k t s : Nat} (hs : P.length - 1 - k = s) : (webAt P m k t).opn s = opnTo P m k s := by
  simp only [webAt, hs]
  cases opnTo P m k s <;> simp

set_option maxHeartbeats 2000000 in
set_option maxRecDepth 100000 in
theorem newWeb_any (P T : List (List Int)) (v : Value) (m : Nat → Bool) (w : World) (h : NetAt w v P T) (hn : IsNet P T) :
    Calls Try.prog 60 #[v, .agg (memF m)] w fun e w' => e = .returned (.agg (webOf P m).cells) ∧ Below w.heap.size w w' := by
  obtain ⟨pa, b, o, pc, A, B, O, C, ta, b', o', tc, A', B', O', C', rfl, hP, hT⟩ := h.ex
  have h10 := hn.le
  have hpos := hn.pos
  have HN := Lib.hid hn
  have HP := Lib.hid hP
  clear h hn hP hT
  obtain ⟨W, hW⟩ : ∃ W, W = ((((w.alloc (.cells #[.slice pa P.length pc, .slice ta T.length tc] 24)).alloc (.cells (memF m) 97)).alloc (.cells Try.zeroCells102 102)).alloc (.cells Try.zeroCells102 102)).setRow (w.heap.size + 3) (Web.cells ⟨P.length, fun _ _ => false, m, m⟩) := ⟨_, rfl⟩
  have h0 : W.heap[w.heap.size]? = some (.cells #[.slice pa P.length pc, .slice ta T.length tc] 24 (0, 0)) := by
    rw [hW, setRow_other _ _ _ _ (by omega), Below.heap_alloc _ _ _ (by simp; omega)]; exact rfl3 _ _ _ _
  have h2 : W.heap[w.heap.size + 2]? = some (.cells Try.zeroCells102 102 (0, 0)) := by
    rw [hW, setRow_other _ _ _ _ (by omega), Below.heap_alloc _ _ _ (by simp)]; exact rfl5 _ _ _ _
  have h3 : W.heap[w.heap.size + 3]? = some (.cells (webAt P m 0 0).cells 102 (0, 0)) := by
    rw [hW, setRow_heap _ _ _ _ _ _ (rfl6 _ _ _ _ _)]
    refine congrArg (fun x => some (Obj.cells x 102)) (Web.cells_congr rfl (fun v u _ _ => ?_) (fun v _ => rfl) (fun v _ => ?_))
    · have : ¬ (P.length - 0 ≤ v ∧ v < P.length) := by omega
      simp only [webAt, inTo_zero, this]; simp
    · simp [webAt, inTo_zero, opnTo]
  have hbW : Below w.heap.size w W := by
    rw [hW]; exact below_setRow (((((Below.refl _ _).alloc (Nat.le_refl _) _).alloc (by simp) _).alloc (by simp; omega) _).alloc (by simp; omega) _) (by omega) _
  have c0 : W.cell? ⟨w.heap.size + 1 + 1 + 1, 0, none⟩ = some (.int .i64 P.length) := by
    rw [cell_of_row _ _ _ _ _ _ h3, Web.cells, arrF_get (by omega)]; rfl
  have HW := Lib.hid hW
  have H0 := Lib.hid h0
  have H2 := Lib.hid h2
  have H3 := Lib.hid h3
  have HBW := Lib.hid hbW
  clear hW h0 h2 h3 hbW
  go_enter Try.func60, Try.ntmps60
  go_wp2_with (first
    | (refine wpList_load_row rfl 97 (.tmp 3) rfl (w.heap.size + 1) rfl 97 (memF m) (0, 0) _ (by exact rfl4 _ _ _ _) Try.underlying97 rfl (by kernel_rfl) ?_)
    | (refine wpList_buildTo rfl 102 _ rfl (some 14) rfl (Web.cells ⟨P.length, fun _ _ => false, m, m⟩) (by kernel_rfl) ?_)
    | (refine wpList_store_row rfl 102 (.tmp 5) (.tmp 14) rfl (w.heap.size + 3) (Web.cells ⟨P.length, fun _ _ => false, m, m⟩) ?_ ?_ 102 Try.zeroCells102 ?_ ?_ ?_ ?_ ?_; exact rfl; exact rfl; exact rfl6 _ _ _ _ _; exact info_web _; exact old_web _; exact Web.cells_all _; refine wpList_world HW.out.symm ?_))
  clear c0
  go_loopw [6, 8, 28] (fun i _ _ wr => ∃ k : Nat, k ≤ P.length ∧ i = .int .i64 ((P.length : Int) - 1 - k) ∧ Below w.heap.size w wr ∧ wr.heap[w.heap.size]? = some (.cells #[.slice pa P.length pc, .slice ta T.length tc] 24 (0, 0)) ∧
      wr.heap[w.heap.size + 2]? = some (.cells Try.zeroCells102 102 (0, 0)) ∧ wr.heap[w.heap.size + 3]? = some (.cells (webAt P m k 0).cells 102 (0, 0))) (fun i _ _ _ => (intOf i + 1).toNat)
  case atStart => exact ⟨0, by omega, congrArg _ (by omega), HBW.out, H0.out, H2.out, H3.out⟩
  case round =>
    obtain ⟨k, hk, rfl, hb, h0, h2, h3⟩ := hrel
    clear H0 H2 H3 HBW HW
    have HB := Lib.hid hb
    have H0 := Lib.hid h0
    have H2 := Lib.hid h2
    have H3 := Lib.hid h3
    obtain ⟨x0, x1, -, -⟩ := cells_of2 h0
    clear hb h0 h2 h3
    by_cases hlt : k < P.length
    · obtain ⟨s, hs⟩ : ∃ s : Nat, P.length - 1 - k = s := ⟨_, rfl⟩
      have hsi : ((P.length : Int) - 1 - k) = (s : Int) := by omega
      have hsl : s < P.length := by omega
      rw [hsi]
      have HS := Lib.hid hs
      clear hsi hs
      have hP' := HP.out.below HB.out (Nat.le_refl _)
      obtain ⟨rfl, -⟩ := hP'.ptr (by omega)
      have hck := hP'.cell s hsl
      have HRK := Lib.hid (hP'.rows s hsl)
      have hlr := (hP'.rows s hsl).len
      have HOK := Lib.hid (HN.out.par s hsl)
      clear hP'
      go_wp2
      clear x0 x1 hck
      go_loopw [8, 28] (fun _ i wi => ∃ t : Nat, t ≤ (row P s).length ∧ i = .int .i64 t ∧ Below w.heap.size w wi ∧ wi.heap[w.heap.size]? = some (.cells #[.slice (some ⟨b, o, none⟩) P.length pc, .slice ta T.length tc] 24 (0, 0)) ∧
          wi.heap[w.heap.size + 2]? = some (.cells Try.zeroCells102 102 (0, 0)) ∧ wi.heap[w.heap.size + 3]? = some (.cells (webAt P m k t).cells 102 (0, 0))) (fun _ i _ => (row P s).length - (intOf i).toNat)
      case atStart => exact ⟨0, by omega, rfl, HB.out, H0.out, H2.out, H3.out⟩
      case round =>
        obtain ⟨t, ht, rfl, hb, h0, h2, h3⟩ := hrel
        clear H0 H2 H3 HB
        have HB := Lib.hid hb
        have H0 := Lib.hid h0
        have H2 := Lib.hid h2
        have H3 := Lib.hid h3
        clear hb h0 h2 h3
        by_cases hlt2 : t < (row P s).length
        · have hr := (HP.out.rows s hsl).below HB.out (Nat.le_refl _)
          obtain ⟨hAk, -⟩ := hr.ptr (by omega)
          rw [hAk]
          have hct := hr.cell t hlt2
          have hpt := HOK.out.2.1 t hlt2
          obtain ⟨q, hq⟩ : ∃ q : Nat, nth (row P s) t = (q : Int) := ⟨(nth (row P s) t).toNat, by omega⟩
          rw [hq] at hct
          have hq10 : q < 10 := by omega
          have hs10 : s < 10 := by omega
          have HST := Lib.hid (webAt_step (m := m) HS.out hq)
          have g1 := heap_setCell_same _ _ (1 + s * 10 + q) _ _ (.bool true) H3.out
          rw [Web.set_par _ hs10 hq10] at g1
          have c1 := web_cell (i := 1 + s * 10 + q) H3.out (by omega)
          rw [Web.cell_par _ hs10 hq10] at c1
          have f1 : wr.frozen? ⟨w.heap.size + 3, 1 + s * 10 + q, none⟩ = false := frozen_of_row _ _ _ _ _ H3.out
          have c2 := web_cell (i := 111 + s) g1 (by omega)
          rw [Web.cell_opn _ hs10] at c2
          simp only [webAt_opn HS.out] at c2
          have c3 := web_cell (i := 111 + q) g1 (by omega)
          rw [Web.cell_opn _ hq10] at c3
          have f3 : (wr.setCell ⟨w.heap.size + 3, 1 + s * 10 + q, none⟩ (.bool true)).frozen? ⟨w.heap.size + 3, 111 + q, none⟩ = false := frozen_of_row _ _ _ _ _ g1
          have G1 := Lib.hid g1
          clear hr hpt hq g1 hAk
          cases eo : opnTo P m k s
          · rw [eo] at c2
            have HE := Lib.hid (HST.out.1 eo)
            clear eo c3 f3
            go_wp2
            go_roundw
            case rel =>
              refine ⟨t + 1, by omega, by go_num, HB.out.setCell (by show w.heap.size ≤ w.heap.size + 1 + 1 + 1; omega) _, ?_, ?_, ?_⟩
              · rw [heap_setCell_other _ _ _ _ (by show w.heap.size ≠ w.heap.size + 1 + 1 + 1; omega)]; exact H0.out
              · rw [heap_setCell_other _ _ _ _ (by show w.heap.size + 2 ≠ w.heap.size + 1 + 1 + 1; omega)]; exact H2.out
              · rw [HE.out]; exact G1.out
            case measure => simp [intOf]; omega
          · rw [eo] at c2
            have HE := Lib.hid (HST.out.2 eo)
            have G2 := Lib.hid (heap_setCell_same _ _ (111 + q) _ _ (.bool true) G1.out)
            clear eo
            go_wp2
            go_roundw
            case rel =>
              refine ⟨t + 1, by omega, by go_num, (HB.out.setCell (by show w.heap.size ≤ w.heap.size + 1 + 1 + 1; omega) _).setCell (by show w.heap.size ≤ w.heap.size + 1 + 1 + 1; omega) _, ?_, ?_, ?_⟩
              · rw [heap_setCell_other _ _ _ _ (by show w.heap.size ≠ w.heap.size + 1 + 1 + 1; omega), heap_setCell_other _ _ _ _ (by show w.heap.size ≠ w.heap.size + 1 + 1 + 1; omega)]; exact H0.out
              · rw [heap_setCell_other _ _ _ _ (by show w.heap.size + 2 ≠ w.heap.size + 1 + 1 + 1; omega), heap_setCell_other _ _ _ _ (by show w.heap.size + 2 ≠ w.heap.size + 1 + 1 + 1; omega)]; exact H2.out
              · rw [HE.out]
                have := G2.out
                rw [Web.set_opn _ hq10] at this
                exact this
            case measure => simp [intOf]; omega
        · have H3' : Hid (wr.heap[w.heap.size + 3]? = some (.cells (webAt P m (k + 1) 0).cells 102 (0, 0))) := by
            have e : t = (row P s).length := by omega
            rw [webAt_next (by omega) HS.out]; rw [← e]; exact H3.out
          go_wp2
          go_roundw
          case rel => exact ⟨k + 1, by omega, congrArg _ (by have := HS.out; omega), HB.out, H0.out, H2.out, H3'.out⟩
          case measure => simp [intOf]
    · go_wp2_with (first
        | (refine wpList_load_row rfl 102 (.tmp 5) rfl (w.heap.size + 3) rfl 102 (webAt P m k 0).cells (0, 0) _ H3.out Try.underlying102 rfl (info_web _) ?_)
        | (refine wpList_store_row rfl 102 (.tmp 4) (.tmp 45) rfl (w.heap.size + 2) (webAt P m k 0).cells ?_ ?_ 102 Try.zeroCells102 ?_ ?_ ?_ ?_ ?_; exact rfl; exact rfl; exact H2.out; exact info_web _; exact old_web _; exact Web.cells_all _))
      have e : k = P.length := by omega
      refine bodyPost_ret (v := .agg (webOf P m).cells) ?_ rfl ⟨rfl, below_setRow HB.out (by omega) _⟩
      rw [← webAt_last P m, ← e]
      exact results_cell_row (ty := 102) (p := 4) rfl _ _ (w.heap.size + 2) 102 _ (0, 0) _ rfl (setRow_heap _ _ _ _ _ _ H2.out) Try.underlying102 rfl (info_web _)

end Go.Proofs.Ytghffnjnpgiicaa

/- The search for a trail, as a plain function. -/
namespace Go.Proofs.Ytghffnjnpgiicaa
open Go.RowKit

/-- May the trail go on to this variable? -/
def okNext (W : Web) (tr : List Nat) (nx : Nat) : Bool :=
  W.adj (tr.getD (tr.length - 1) 0) nx && !decide (nx ∈ tr) && (decide (tr.length ≤ 1) || W.pass (tr.getD (tr.length - 2) 0) (tr.getD (tr.length - 1) 0) nx)

mutual
/-- The first trail to y that goes on from this one. -/
def dfs (W : Web) (y : Nat) : Nat → List Nat → Option (List Nat)
  | 0, _ => none
  | f + 1, tr => if tr.getD (tr.length - 1) 0 = y then some tr else dfsTo W y f tr W.count
/-- .. among the first k variables that come next. -/
def dfsTo (W : Web) (y : Nat) (f : Nat) (tr : List Nat) : Nat → Option (List Nat)
  | 0 => none
  | k + 1 => match dfsTo W y f tr k with
    | some r => some r
    | none => if okNext W tr k then dfs W y f (tr ++ [k]) else none
end

/-- The list as ints. -/
def ints (tr : List Nat) : List Int := tr.map (fun x : Nat => (x : Int))
theorem ints_length (tr : List Nat) : (ints tr).length = tr.length := by simp [ints]
theorem nth_ints {tr : List Nat} {i : Nat} : nth (ints tr) i = ((tr.getD i 0 : Nat) : Int) := by
  unfold nth ints
  simp [List.getD_eq_getElem?_getD]
  cases tr[i]? <;> simp
theorem hasI_ints (tr : List Nat) (x : Nat) : hasI (ints tr) (x : Int) = decide (x ∈ tr) := by
  unfold hasI
  rw [Bool.eq_iff_iff]
  simp only [decide_eq_true_eq, nth_ints, ints_length]
  constructor
  · rintro ⟨i, hi, e⟩
    have : tr.getD i 0 ∈ tr := by simp [List.getD_eq_getElem?_getD, hi]
    rw [← (show tr.getD i 0 = x by omega)]; exact this
  · intro h
    obtain ⟨i, hi, e⟩ := List.getElem_of_mem h
    exact ⟨i, hi, by simp [List.getD_eq_getElem?_getD, hi, e]⟩
theorem ints_append (tr : List Nat) (x : Nat) : ints (tr ++ [x]) = ints tr ++ [(x : Int)] := by simp [ints]

/-- Different numbers below c: at most c. -/
theorem nodup_le : ∀ (c : Nat) (l : List Nat), l.Nodup → (∀ x ∈ l, x < c) → l.length ≤ c := by
  intro c
  induction c with
  | zero => intro l _ h; cases l with
    | nil => simp
    | cons x l => exact absurd (h x (by simp)) (by omega)
  | succ c ih =>
    intro l hd h
    have h1 := ih (l.filter (fun x => decide (x ≠ c))) (hd.filter _) (fun x hx => by
      rw [List.mem_filter] at hx
      have := h x hx.1
      have := of_decide_eq_true hx.2
      omega)
    have h2 : l.length ≤ (l.filter (fun x => decide (x ≠ c))).length + 1 := by
      clear h1 ih h
      induction l with
      | nil => simp
      | cons x l ihl =>
        rw [List.nodup_cons] at hd
        by_cases e : x = c
        · subst e
          have : l.filter (fun y => decide (y ≠ x)) = l := by
            rw [List.filter_eq_self]
            intro y hy
            exact decide_eq_true (fun e => hd.1 (e ▸ hy))
          rw [List.filter_cons, if_neg (by simp), this]; simp
        · have := ihl hd.2
          rw [List.filter_cons, if_pos (by simpa using e)]; simp only [List.length_cons]; omega
    omega

/-- What the search for a trail has in memory. -/
structure FS (w : World) (Bt By Bw Be : Nat) (W : Web) (y : Nat) (tr : List Nat) : Prop where
  tv : ∃ g cap, w.heap[Bt]? = some (.cells #[.slice (some ⟨g, 0, none⟩) tr.length cap] 25 (0, 0)) ∧ w.ownsRow (By + 1) 3 1 (.slice (some ⟨g, 0, none⟩) tr.length cap) tr.length ((ints tr).map (Value.int .i64))
  hy : w.heap[By]? = some (.cells #[.int .i64 (y : Int)] 3 (0, 0))
  hw : w.heap[Bw]? = some (.cells W.cells 102 (0, 0))
  he : w.heap[Be]? = some (.cells #[.func (.func 76) #[] #[.pointer (some ⟨Bt, 0, none⟩), .pointer (some ⟨By, 0, none⟩), .pointer (some ⟨Bw, 0, none⟩), .pointer (some ⟨Be, 0, none⟩)]] 34 (0, 0))

theorem FS.below {M : Nat} {w w' : World} {Bt By Bw Be : Nat} {W : Web} {y : Nat} {tr : List Nat} (h : FS w Bt By Bw Be W y tr) (hb : Below M w w') (hM : w.heap.size ≤ M) : FS w' Bt By Bw Be W y tr := by
  obtain ⟨g, cap, h1, h2⟩ := h.tv
  exact ⟨⟨g, cap, (hb.block _ (by have := lt_of_block h1; omega)).trans h1, ownsRow_below h2 hb hM⟩, (hb.block _ (by have := lt_of_block h.hy; omega)).trans h.hy, (hb.block _ (by have := lt_of_block h.hw; omega)).trans h.hw, (hb.block _ (by have := lt_of_block h.he; omega)).trans h.he⟩

theorem ownsRow_take {w : World} {B g n cap k : Nat} {xs : List Value} (h : w.ownsRow B 3 1 (.slice (some ⟨g, 0, none⟩) n cap) n xs) (hk : k ≤ n) : w.ownsRow B 3 1 (.slice (some ⟨g, 0, none⟩) k cap) k (xs.take k) := by
  obtain ⟨h1, h2⟩ := h
  refine ⟨by simp; omega, ?_⟩
  rcases h2 with ⟨h2, _⟩ | ⟨g', cap', cur, e, hB, hh, hn, hm, hs, ht⟩
  · simp at h2
  · simp at e
    obtain ⟨rfl, rfl⟩ := e
    refine .inr ⟨g, cap, cur, rfl, hB, hh, by omega, hm, hs, ?_⟩
    rw [← ht, List.take_take]
    congr 1; omega

/-- The trail's ints, where they lie. -/
theorem FS.ints {w : World} {B g cap : Nat} {tr : List Nat} (h : w.ownsRow B 3 1 (.slice (some ⟨g, 0, none⟩) tr.length cap) tr.length ((ints tr).map (Value.int .i64))) (ht : ∀ x ∈ tr, x < 10) (hl : tr.length ≤ 10) :
    IntsAt w (some ⟨g, 0, none⟩) g 0 (ints tr) := by
  have hg := (h.lt g (by simp [Value.ownBlock])).2
  refine ⟨fun _ => ⟨rfl, hg⟩, fun i hi => ?_, by rw [ints_length]; omega, fun i => ?_⟩
  · rw [ints_length] at hi
    have := h.cellAt i (by omega)
    rw [Nat.zero_add, this, nth_map _ _ (by rw [ints_length]; exact hi)]
  · rw [nth_ints]
    by_cases hi : i < tr.length
    · have := ht (tr.getD i 0) (by simp [List.getD_eq_getElem?_getD, hi])
      omega
    · rw [show tr.getD i 0 = 0 by simp [List.getD_eq_getElem?_getD, List.getElem?_eq_none (by omega : tr.length ≤ i)]]
      omega

end Go.Proofs.Ytghffnjnpgiicaa

