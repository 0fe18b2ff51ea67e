/- Values out of numbers (the reference); assignments out of lists. -/
import Derived.Test.YtaphmjccdokiiaaG
namespace Go.Proofs.Ytaphmjccdokiiaa
open Go.RowKit

/-- The values of n variables in the assignment with this number, as a list. -/
def vals (n pos : Nat) : List Int := (List.range n).map (bitv n pos)
theorem vals_length (n pos : Nat) : (vals n pos).length = n := by simp [vals]
theorem nth_vals (n pos i : Nat) : nth (vals n pos) i = bitv n pos i := by
  by_cases h : i < n
  · simp [nth, vals, List.getD_eq_getElem?_getD, h]
  · rw [nth_out (by rw [vals_length]; omega)]; unfold bitv; rw [if_neg h]

/-- A list of cells in a block of its own. -/
theorem intsAt_of_row {w : World} {g : Nat} {xs : List Int} (h : w.rowIs g 3 xs.length (fun i => .int .i64 (nth xs i))) (hl : xs.length ≤ 140737488351232)
    (hwf : ∀ i, -9223372036854775808 ≤ nth xs i ∧ nth xs i ≤ 9223372036854775807) : IntsAt w (some ⟨g, 0, none⟩) g 0 xs :=
  ⟨fun _ => ⟨rfl, h.lt⟩, fun i hi => by simpa using h.cell hi, hl, hwf⟩

theorem pow_div_step {pos k : Nat} : pos / 2 ^ k / 2 = pos / 2 ^ (k + 1) := by rw [Nat.div_div_eq_div_mul, Nat.pow_succ]

set_option maxHeartbeats 2000000 in
set_option maxRecDepth 100000 in
theorem refValues_any (n pos : Nat) (w : World) (hn : n ≤ 10) (hp : pos ≤ 1024) :
    Calls Try.prog 40 #[.int .i64 n, .int .i64 pos] w fun e w' => e = .returned (.slice (some ⟨w.heap.size, 0, none⟩) n n) ∧ w'.rowIs w.heap.size 3 n (fun i => .int .i64 (bitv n pos i)) ∧ Below w.heap.size w w' := by
  have hmk := run_make_row' (P := Try.prog) 25 3 (.int .i64 0) 8 Try.underlying25 Try.info3 rfl .i64 .i64 n (by omega) (by omega)
  go_enter Try.func40, Try.ntmps40
  go_wp2
  clear hmk
  go_loopw [1, 6] (fun p i wr => ∃ k : Nat, k ≤ n ∧ i = .int .i64 ((n : Int) - 1 - k) ∧ p = .int .i64 ((pos / 2 ^ k : Nat) : Int) ∧ Below w.heap.size w wr ∧
      wr.rowIs w.heap.size 3 n (fun j => if n - k ≤ j then .int .i64 (bitv n pos j) else .int .i64 0)) (fun _ i _ => (intOf i + 1).toNat)
  case atStart => exact ⟨0, by omega, by go_num, by simp, (Below.refl _ _).alloc (Nat.le_refl _) _, (World.rowIs_made _ _ _ _).congr (fun j hj => by rw [if_neg (by omega)])⟩
  case round =>
    obtain ⟨k, hk, rfl, rfl, hb, h1⟩ := hrel
    have HB := Lib.hid hb
    have H1 := Lib.hid h1
    have hq : pos / 2 ^ k ≤ pos := Nat.div_le_self _ _
    obtain ⟨q, hqq⟩ : ∃ q : Nat, pos / 2 ^ k = q := ⟨_, rfl⟩
    rw [hqq] at hq ⊢
    have HQ := Lib.hid hqq
    clear hb h1 hqq
    by_cases hlt : k < n
    · obtain ⟨m, hm⟩ : ∃ m : Nat, n = m + 1 + k := ⟨n - 1 - k, by omega⟩
      have HM := Lib.hid hm
      have hmi : ((n : Int) - 1 - k) = (m : Int) := by omega
      rw [hmi]
      clear hm
      have hmn : m < n := by have := HM.out; omega
      have hc : wr.cell? ⟨w.heap.size, m, none⟩ = some (.int .i64 0) := by have := H1.out.cell hmn; rw [if_neg (by have := HM.out; omega)] at this; exact this
      have hf : wr.frozen? ⟨w.heap.size, m, none⟩ = false := H1.out.frozen m
      clear hmi
      go_wp2
      go_roundw
      case rel =>
        have hm := HM.out
        have eb : ((q : Int) % 2) = bitv n pos m := by
          unfold bitv; rw [if_pos hmn, show n - 1 - m = k by omega, HQ.out]; simp
        refine ⟨k + 1, by omega, congrArg _ (by omega), congrArg _ ?_, HB.out.setCell (Nat.le_refl _) _, (H1.out.set m _).congr (fun j hj => ?_)⟩
        · rw [← pow_div_step, HQ.out]; simp
        · by_cases e : j = m
          · subst e; rw [if_pos rfl, if_pos (by omega), eb]
          · rw [if_neg e]
            by_cases e2 : n - k ≤ j
            · rw [if_pos e2, if_pos (by omega)]
            · rw [if_neg e2, if_neg (by omega)]
      case measure => have hm := HM.out; simp [intOf]
    · have : k = n := by omega
      subst this
      go_wp2
      go_ret
      exact ⟨rfl, H1.out.congr (fun j hj => by rw [if_pos (by omega)]), HB.out⟩

/-- One value for each variable. -/
def okAsg (xs : List Int) (n : Nat) : Bool := decide (xs.length = n ∧ ∀ i, i < xs.length → nth xs i = 0 ∨ nth xs i = 1)

theorem okAsg_Bits {xs : List Int} {n : Nat} (h : okAsg xs n = true) : Bits (nth xs) := by
  intro v
  by_cases hv : v < xs.length
  · exact (of_decide_eq_true h).2 v hv
  · exact .inl (nth_out (by omega))

theorem results_cell_row2 {P : Program} {fn : Func} {p u : Tmp} {ty : TypeId} (h : fn.results = #[.cell p ty, .tmp u]) (tmps : Array Value) (w : World) (g : Nat) (t : TypeId) (cs : Array Value) (fr : Nat × Nat) (d : TypeDesc)
    (hp : tmps.getD p undef = .pointer (some ⟨g, 0, none⟩)) (hg : w.heap[g]? = some (.cells cs t fr))
    (hu : P.underlying ty = some d) (hd : (match d with | .struct _ | .array _ _ => true | _ => false) = true) (hi : (P.info? ty).map (·.size) = some cs.size) :
    (results fn tmps).run P w = .ok (.tuple #[.agg cs, tmps.getD u undef]) w := by
  have hp' : tmps[p]?.getD undef = .pointer (some ⟨g, 0, none⟩) := by simpa using hp
  rw [results_cell_tmp h]
  simp [hp', asAddr, run_loadVar_row w g t ty cs fr d hg hu hd hi, Result.andThen]

set_option maxHeartbeats 2000000 in
set_option maxRecDepth 100000 in
theorem toAssignment_any (xs : List Int) (n : Nat) (ao : Option Addr) (b o cap : Nat) (w : World) (h : IntsAt w ao b o xs) (hn : n ≤ 10) :
    Calls Try.prog 46 #[.slice ao xs.length cap, .int .i64 n] w fun e w' =>
      (∃ f : Nat → Int, e = .returned (.tuple #[.agg (arrC f), .bool (okAsg xs n)]) ∧ (okAsg xs n = true → f = nth xs)) ∧ Below w.heap.size w w' := by
  have hl := h.len
  have H := Lib.hid h
  clear h
  by_cases hln : xs.length = n
  · subst hln
    go_enter Try.func46, Try.ntmps46
    go_wp2
    go_loopw [7, 8, 16] (fun _ _ i wr => ∃ k : Nat, k ≤ xs.length ∧ i = .int .i64 k ∧ Below w.heap.size w wr ∧ (∀ j, j < k → nth xs j = 0 ∨ nth xs j = 1) ∧
        wr.heap[w.heap.size]? = some (.cells (arrC (fun _ => 0)) 78 (0, 0)) ∧ wr.heap[w.heap.size + 1]? = some (.cells (arrC (fun v => if v < k then nth xs v else 0)) 78 (0, 0))) (fun _ _ i _ => xs.length - (intOf i).toNat)
    case atStart => exact ⟨0, by omega, rfl, ((Below.refl _ _).alloc (Nat.le_refl _) _).alloc (by simp) _, fun j hj => absurd hj (by omega), heap_alloc2_old _ _ _, heap_alloc2_new _ _ _⟩
    case round =>
      obtain ⟨k, hk, rfl, hb, ha, h0, h1⟩ := hrel
      have HB := Lib.hid hb
      have HA := Lib.hid ha
      have H0 := Lib.hid h0
      have H1 := Lib.hid h1
      clear hb ha h0 h1
      by_cases hlt : k < xs.length
      · have hx := H.out.below HB.out (Nat.le_refl _)
        obtain ⟨rfl, hbb⟩ := hx.ptr (by omega)
        have hck := hx.cell k hlt
        have hwf := hx.wf k
        clear hx
        cases e1 : isVal (nth xs k)
        · have HF := Lib.hid (show okAsg xs xs.length = false from decide_eq_false (fun q => by have := q.2 k hlt; simp [isVal] at e1; omega))
          have hC := isValue_any (nth xs k) wr
          rw [e1] at hC
          have HC := Lib.hid hC
          clear hC e1
          go_wp2_with (first | (go_at_call 66; refine HC.out.mono ?_; rintro e w' ⟨rfl, rfl⟩) | (refine wpList_store_row rfl 78 (.tmp 4) (.tmp 24) rfl w.heap.size _ rfl rfl 78 _ H0.out (by kernel_rfl) rfl (arrC_all (fun _ => 0)) ?_))
          refine bodyPost_ret (v := .tuple #[.agg (arrC fun _ => 0), .bool false]) ?_ rfl ⟨⟨fun _ => 0, by rw [HF.out], fun h => absurd (HF.out.symm.trans h) (by decide)⟩, ?_⟩
          · exact results_cell_row2 (ty := 78) (p := 4) (u := 5) rfl _ _ w.heap.size 78 _ (0, 0) _ rfl (setRow_heap _ _ _ _ _ _ H0.out) Try.underlying78 rfl (by kernel_rfl)
          · exact below_setRow HB.out (Nat.le_refl _) _
        · have hC := isValue_any (nth xs k) wr
          have hv : nth xs k = 0 ∨ nth xs k = 1 := by simpa [isVal] using e1
          have HV := Lib.hid hv
          rw [e1] at hC
          have HC := Lib.hid hC
          have hc : wr.cell? ⟨w.heap.size + 1, k, none⟩ = some (.int .i64 0) := by rw [cell_of_row _ _ _ _ _ _ H1.out, arrC_get _ _ (by omega)]; simp
          have hf : wr.frozen? ⟨w.heap.size + 1, k, none⟩ = false := frozen_of_row _ _ _ _ _ H1.out
          clear hC e1 hv
          go_wp2_with (first | (go_at_call 66; refine HC.out.mono ?_; rintro e w' ⟨rfl, rfl⟩))
          go_roundw
          case rel =>
            refine ⟨k + 1, by omega, by go_num, HB.out.setCell (by show w.heap.size ≤ w.heap.size + 1; omega) _, fun j hj => ?_, ?_, ?_⟩
            · by_cases e : j = k
              · subst e; exact HV.out
              · exact HA.out j (by omega)
            · rw [heap_setCell_other _ _ _ _ (by show w.heap.size ≠ w.heap.size + 1; omega)]; exact H0.out
            · rw [heap_setCell_same _ _ _ _ _ _ H1.out, arrC_set _ _ _ (by omega)]
              refine congrArg (fun x => some (Obj.cells x 78)) (arrC_congr fun i hi => ?_)
              by_cases e : i = k
              · subst e; simp
              · by_cases e2 : i < k
                · rw [if_neg e, if_pos e2, if_pos (by omega)]
                · rw [if_neg e, if_neg e2, if_neg (by omega)]
          case measure => simp [intOf]; omega
      · go_wp2_with (first | (refine wpList_load_row rfl 78 (.tmp 6) rfl (w.heap.size + 1) rfl 78 _ _ _ H1.out Try.underlying78 rfl (by kernel_rfl) ?_) | (refine wpList_store_row rfl 78 (.tmp 4) (.tmp 29) rfl w.heap.size _ rfl rfl 78 _ H0.out (by kernel_rfl) rfl (arrC_all _) ?_))
        have e2 : arrC (fun v => if v < k then nth xs v else 0) = arrC (nth xs) := arrC_congr fun i hi => by
          by_cases h : i < k
          · rw [if_pos h]
          · rw [if_neg h, nth_out (by omega)]
        have HT := Lib.hid (show okAsg xs xs.length = true from decide_eq_true ⟨rfl, fun i hi => HA.out i (by omega)⟩)
        refine bodyPost_ret (v := .tuple #[.agg (arrC (nth xs)), .bool true]) ?_ rfl ⟨⟨nth xs, by rw [HT.out], fun _ => rfl⟩, ?_⟩
        · rw [← e2]
          exact results_cell_row2 (ty := 78) (p := 4) (u := 5) rfl _ _ w.heap.size 78 _ (0, 0) _ rfl (setRow_heap _ _ _ _ _ _ H0.out) Try.underlying78 rfl (by kernel_rfl)
        · exact below_setRow HB.out (Nat.le_refl _) _
  · have hB : (((xs.length : Int)) != (n : Int)) = true := by rw [bne_iff_ne]; omega
    have HF := Lib.hid (show okAsg xs n = false from decide_eq_false (fun q => hln q.1))
    go_enter Try.func46, Try.ntmps46
    go_wp2
    refine bodyPost_ret (v := .tuple #[.agg (arrC fun _ => 0), .bool false]) ?_ rfl ⟨⟨fun _ => 0, by rw [HF.out], fun h => absurd (HF.out.symm.trans h) (by decide)⟩, ?_⟩
    · simp [results, Try.results46, go_sem, arrC]
    · exact ((Below.refl _ _).alloc (Nat.le_refl _) _).alloc (by simp) _

end Go.Proofs.Ytaphmjccdokiiaa
