/- Sets of variables; webs out of networks. -/
import Derived.Test.YtaphmjccdokiiaaT
namespace Go.Proofs.Ytaphmjccdokiiaa
open Go.RowKit

theorem memF_all (m : Nat → Bool) : (memF m).all (·.oneCell') = true := arrF_all fun _ => rfl
theorem memF_false : memF (fun _ => false) = #[.bool false, .bool false, .bool false, .bool false, .bool false, .bool false, .bool false, .bool false, .bool false, .bool false] := by kernel_rfl

/-- The list consists of different variables of n. -/
def okSet (xs : List Int) (n : Nat) : Bool := decide (∀ i, i < xs.length → (0 ≤ nth xs i ∧ nth xs i < n) ∧ ∀ j, j < i → nth xs j ≠ nth xs i)
/-- The first k numbers of a list, as a set. -/
def inTo (xs : List Int) (k : Nat) (v : Nat) : Bool := decide (∃ i, i < k ∧ nth xs i = (v : Int))
theorem inTo_len (xs : List Int) (v : Nat) : inTo xs xs.length v = hasI xs v := rfl
theorem inTo_succ {xs : List Int} {k q : Nat} (h : nth xs k = q) (v : Nat) : inTo xs (k + 1) v = (inTo xs k v || decide (v = q)) := by
  unfold inTo
  rw [Bool.eq_iff_iff]
  simp only [decide_eq_true_eq, Bool.or_eq_true]
  constructor
  · rintro ⟨i, hi, e⟩
    by_cases hik : i = k
    · subst hik; right; omega
    · exact .inl ⟨i, by omega, e⟩
  · rintro (⟨i, hi, e⟩ | e)
    · exact ⟨i, by omega, e⟩
    · exact ⟨k, by omega, by rw [h, e]⟩
theorem inTo_zero (xs : List Int) : inTo xs 0 = fun _ => false := by
  funext v; unfold inTo; simp

set_option maxHeartbeats 2000000 in
set_option maxRecDepth 100000 in
theorem toMembers_any (xs : List Int) (n : Nat) (ao : Option Addr) (b o cap : Nat) (w : World) (h : IntsAt w ao b o xs) (hn : n ≤ 10) :
    Calls Try.prog 59 #[.slice ao xs.length cap, .int .i64 n] w fun e w' =>
      (∃ m, e = .returned (.tuple #[.agg (memF m), .bool (okSet xs n)]) ∧ (okSet xs n = true → m = fun v : Nat => hasI xs (v : Int))) ∧ Below w.heap.size w w' := by
  have hl := h.len
  have H := Lib.hid h
  clear h
  go_enter Try.func59, Try.ntmps59
  go_wp2
  rw [← memF_false]
  go_loopw [8, 11] (fun _ i wr => ∃ k : Nat, k ≤ xs.length ∧ i = .int .i64 k ∧ Below w.heap.size w wr ∧ (∀ i, i < k → (0 ≤ nth xs i ∧ nth xs i < n) ∧ ∀ j, j < i → nth xs j ≠ nth xs i) ∧
      wr.heap[w.heap.size]? = some (.cells (memF (fun _ => false)) 97 (0, 0)) ∧ wr.heap[w.heap.size + 1]? = some (.cells (memF (inTo xs k)) 97 (0, 0))) (fun _ i _ => xs.length - (intOf i).toNat)
  case atStart => exact ⟨0, by omega, rfl, ((Below.refl _ _).alloc (Nat.le_refl _) _).alloc (by simp) _, fun j hj => absurd hj (by omega), heap_alloc2_old _ _ _, by rw [inTo_zero]; exact heap_alloc2_new _ _ _⟩
  case round =>
    obtain ⟨k, hk, rfl, hb, ha, h0, h1⟩ := hrel
    have HB := Lib.hid hb
    have HA := Lib.hid ha
    have H0 := Lib.hid h0
    have H1 := Lib.hid h1
    clear hb ha h0 h1
    by_cases hlt : k < xs.length
    · have hX := H.out.below HB.out (Nat.le_refl _)
      obtain ⟨rfl, -⟩ := hX.ptr (by omega)
      have hc := hX.cell k hlt
      clear hX
      have hV := isVariable_any (nth xs k) n wr
      cases e1 : isVar (nth xs k) n
      · rw [e1] at hV
        have HF := Lib.hid (show okSet xs n = false from decide_eq_false (fun q => by have := (q k hlt).1; simp [isVar] at e1; omega))
        have HV := Lib.hid hV
        clear hV e1
        go_wp2_with (first | (go_at_call 58; refine HV.out.mono ?_; rintro e w' ⟨rfl, rfl⟩) | (refine wpList_store_row rfl 97 (.tmp 4) (.tmp 24) rfl w.heap.size (memF fun _ => false) rfl (by kernel_rfl) 97 _ H0.out (by kernel_rfl) rfl (memF_all _) ?_))
        refine bodyPost_ret (v := .tuple #[.agg (memF fun _ => false), .bool false]) ?_ rfl ⟨⟨_, ret_t2 rfl (congrArg Value.bool HF.out.symm), fun h => absurd (HF.out.symm.trans h) (by decide)⟩, below_setRow HB.out (Nat.le_refl _) _⟩
        exact results_cell_row2 (ty := 97) (p := 4) (u := 5) rfl _ _ w.heap.size 97 _ (0, 0) _ rfl (setRow_heap _ _ _ _ _ _ H0.out) Try.underlying97 rfl (by kernel_rfl)
      · rw [e1] at hV
        have HV := Lib.hid hV
        have hr : 0 ≤ nth xs k ∧ nth xs k < n := by simpa [isVar] using e1
        obtain ⟨q, hq⟩ : ∃ q : Nat, nth xs k = (q : Int) := ⟨(nth xs k).toNat, by omega⟩
        have hq10 : q < 10 := by omega
        rw [hq] at hc HV
        have HQ := Lib.hid hq
        have HR := Lib.hid hr
        have hcm : wr.cell? ⟨w.heap.size + 1, q, none⟩ = some (.bool (inTo xs k q)) := by rw [cell_of_row _ _ _ _ _ _ H1.out, memF, arrF_get hq10]
        have hfm : wr.frozen? ⟨w.heap.size + 1, q, none⟩ = false := frozen_of_row _ _ _ _ _ H1.out
        clear hV e1 hq hr
        cases e2 : inTo xs k q
        · rw [e2] at hcm
          have HE2 := Lib.hid e2
          clear e2
          go_wp2_with (go_at_call 58; refine HV.out.mono ?_; rintro e w' ⟨rfl, rfl⟩)
          go_roundw
          case rel =>
            refine ⟨k + 1, by omega, by go_num, HB.out.setCell (by show w.heap.size ≤ w.heap.size + 1; omega) _, fun i hi => ?_, ?_, ?_⟩
            · by_cases e : i = k
              · subst e
                refine ⟨HR.out, fun j hj h => ?_⟩
                have := HE2.out
                unfold inTo at this
                exact (of_decide_eq_false this) ⟨j, hj, by rw [h]; exact HQ.out⟩
              · exact HA.out i (by omega)
            · rw [heap_setCell_other _ _ _ _ (by show w.heap.size ≠ w.heap.size + 1; omega)]; exact H0.out
            · rw [heap_setCell_same _ _ _ _ _ _ H1.out, memF, arrF_set]
              refine congrArg (fun x => some (Obj.cells x 97)) (arrF_congr fun i hi => ?_)
              rw [inTo_succ HQ.out]
              by_cases e : i = q
              · rw [if_pos e, e]; simp
              · rw [if_neg e]; simp [e]
          case measure => simp [intOf]; omega
        · rw [e2] at hcm
          have HF := Lib.hid (show okSet xs n = false from decide_eq_false (fun y => by
            obtain ⟨j, hj, e⟩ := of_decide_eq_true e2
            exact (y k hlt).2 j hj (by rw [e, HQ.out])))
          clear e2
          go_wp2_with (first | (go_at_call 58; refine HV.out.mono ?_; rintro e w' ⟨rfl, rfl⟩) | (refine wpList_store_row rfl 97 (.tmp 4) (.tmp 24) rfl w.heap.size (memF fun _ => false) rfl (by kernel_rfl) 97 _ H0.out (by kernel_rfl) rfl (memF_all _) ?_))
          refine bodyPost_ret (v := .tuple #[.agg (memF fun _ => false), .bool false]) ?_ rfl ⟨⟨_, ret_t2 rfl (congrArg Value.bool HF.out.symm), fun h => absurd (HF.out.symm.trans h) (by decide)⟩, below_setRow HB.out (Nat.le_refl _) _⟩
          exact results_cell_row2 (ty := 97) (p := 4) (u := 5) rfl _ _ w.heap.size 97 _ (0, 0) _ rfl (setRow_heap _ _ _ _ _ _ H0.out) Try.underlying97 rfl (by kernel_rfl)
    · have ek : k = xs.length := by omega
      have HT := Lib.hid (show okSet xs n = true from decide_eq_true fun i hi => HA.out i (by omega))
      have HK := Lib.hid ek
      clear ek
      go_wp2_with (first | (refine wpList_load_row rfl 97 (.tmp 6) rfl (w.heap.size + 1) rfl 97 _ _ _ H1.out Try.underlying97 rfl (by kernel_rfl) ?_) | (refine wpList_store_row rfl 97 (.tmp 4) (.tmp 28) rfl w.heap.size _ rfl rfl 97 _ H0.out (by kernel_rfl) (by simp [memF, arrF_size]) (memF_all _) ?_))
      refine bodyPost_ret (v := .tuple #[.agg (memF (inTo xs k)), .bool true]) ?_ rfl ⟨⟨_, ret_t2 rfl (congrArg Value.bool HT.out.symm), fun _ => by rw [HK.out]; rfl⟩, below_setRow HB.out (Nat.le_refl _) _⟩
      exact results_cell_row2 (ty := 97) (p := 4) (u := 5) rfl _ _ w.heap.size 97 _ (0, 0) _ rfl (setRow_heap _ _ _ _ _ _ H0.out) Try.underlying97 rfl (by kernel_rfl)

end Go.Proofs.Ytaphmjccdokiiaa
