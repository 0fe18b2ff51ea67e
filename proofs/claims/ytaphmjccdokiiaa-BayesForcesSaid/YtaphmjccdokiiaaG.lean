/- Assignments out of numbers. -/
import Derived.Test.YtaphmjccdokiiaaF
import Derived.Laws.CopyOwn
import Derived.Great.BuildSlice
namespace Go.Proofs.Ytaphmjccdokiiaa
open Go.RowKit

/-- The value of variable v (of n) in the assignment with this number. -/
def bitv (n pos : Nat) (v : Nat) : Int := if v < n then ((pos / 2 ^ (n - 1 - v) % 2 : Nat) : Int) else 0

theorem bitv_Bits (n pos : Nat) : Bits (bitv n pos) := by
  intro v
  unfold bitv
  split <;> omega

theorem arrC_congr {a b : Nat → Int} (h : ∀ i, i < 10 → a i = b i) : arrC a = arrC b := by
  simp only [arrC, h 0 (by omega), h 1 (by omega), h 2 (by omega), h 3 (by omega), h 4 (by omega), h 5 (by omega), h 6 (by omega), h 7 (by omega), h 8 (by omega), h 9 (by omega)]

theorem arrC_set (a : Nat → Int) (k : Nat) (x : Int) (h : k < 10) : (arrC a).setIfInBounds k (.int .i64 x) = arrC (fun i => if i = k then x else a i) := by
  match k, h with
  | 0, _ | 1, _ | 2, _ | 3, _ | 4, _ | 5, _ | 6, _ | 7, _ | 8, _ | 9, _ => rfl

theorem arrC_all (a : Nat → Int) : (arrC a).all (·.oneCell') = true := by simp [arrC, Value.oneCell']

theorem i64_and1 (n : Int) : Go.bits .and .i64 n 1 = n % 2 := by
  have h1 : (BitVec.ofInt 64 1).toNat = 2 ^ 1 - 1 := by decide
  have key : (BitVec.ofInt 64 n &&& BitVec.ofInt 64 1).toNat = (n % ((2 ^ 64 : Nat) : Int)).toNat % 2 ^ 1 := by
    rw [BitVec.toNat_and, BitVec.toNat_ofInt, h1, Nat.and_two_pow_sub_one_eq_mod]
  show IntKind.i64.wrap ((BitVec.ofInt 64 n &&& BitVec.ofInt 64 1).toNat : Nat) = n % 2
  rw [key, IntKind.wrap_i64]
  omega

set_option maxHeartbeats 2000000 in
set_option maxRecDepth 100000 in
theorem assignmentAt_any (pos n : Nat) (w : World) (hn : n ≤ 10) (hp : pos ≤ 1024) :
    Calls Try.prog 74 #[.int .i64 pos, .int .i64 n] w fun e w' => e = .returned (.agg (arrC (bitv n pos))) ∧ Below w.heap.size w w' := by
  go_enter Try.func74, Try.ntmps74
  go_wp2
  go_loopw [6, 8] (fun _ i wr => ∃ k : Nat, k ≤ n ∧ i = .int .i64 k ∧ Below w.heap.size w wr ∧ wr.heap[w.heap.size]? = some (.cells (arrC (fun _ => 0)) 78 (0, 0)) ∧
      wr.heap[w.heap.size + 1]? = some (.cells (arrC (fun v => if v < k then bitv n pos v else 0)) 78 (0, 0))) (fun _ i _ => n - (intOf i).toNat)
  case atStart => exact ⟨0, by omega, rfl, ((Below.refl _ _).alloc (Nat.le_refl _) _).alloc (by simp) _, heap_alloc2_old _ _ _, heap_alloc2_new _ _ _⟩
  case round =>
    obtain ⟨k, hk, rfl, hb, h0, h1⟩ := hrel
    have HB := Lib.hid hb
    have H0 := Lib.hid h0
    have H1 := Lib.hid h1
    clear hb h0 h1
    by_cases hlt : k < n
    · have hc : wr.cell? ⟨w.heap.size + 1, k, none⟩ = some (.int .i64 0) := by rw [cell_of_row _ _ _ _ _ _ H1.out, arrC_get _ _ (by omega)]; simp
      have hf : wr.frozen? ⟨w.heap.size + 1, k, none⟩ = false := frozen_of_row _ _ _ _ _ H1.out
      go_wp2
      go_roundw
      case rel =>
        rw [i64_and1]
        have e : ((pos : Int) / 2 ^ (n - 1 - k)) % 2 = bitv n pos k := by
          unfold bitv; rw [if_pos hlt]; simp
        rw [e]
        refine ⟨k + 1, by omega, by go_num, HB.out.setCell (by show w.heap.size ≤ w.heap.size + 1; omega) _, ?_, ?_⟩
        · rw [heap_setCell_other _ _ _ _ (by show w.heap.size ≠ w.heap.size + 1; omega)]; exact H0.out
        · rw [heap_setCell_same _ _ _ _ _ _ H1.out, arrC_set _ _ _ (by omega)]
          refine congrArg (fun x => some (Obj.cells x 78)) (arrC_congr fun i hi => ?_)
          by_cases e : i = k
          · subst e; simp
          · by_cases e2 : i < k
            · rw [if_neg e, if_pos e2, if_pos (by omega)]
            · rw [if_neg e, if_neg e2, if_neg (by omega)]
      case measure => simp [intOf]; omega
    · have e : k = n := by omega
      go_wp2_with (first | (refine wpList_load_row rfl 78 (.tmp 5) rfl (w.heap.size + 1) rfl 78 _ _ _ H1.out Try.underlying78 rfl (by kernel_rfl) ?_) | (refine wpList_store_row rfl 78 (.tmp 4) (.tmp 21) rfl w.heap.size _ rfl rfl 78 _ H0.out (by kernel_rfl) rfl (arrC_all _) ?_))
      have e2 : arrC (fun v => if v < k then bitv n pos v else 0) = arrC (bitv n pos) := arrC_congr fun i hi => by
        by_cases h : i < k
        · rw [if_pos h]
        · rw [if_neg h]; unfold bitv; rw [if_neg (by omega)]
      refine bodyPost_ret (v := .agg (arrC (bitv n pos))) ?_ rfl ⟨rfl, ?_⟩
      · rw [results_cell_row (ty := 78) (p := 4) rfl _ _ w.heap.size 78 _ (0, 0) _ rfl (setRow_heap _ _ _ _ _ _ H0.out) Try.underlying78 rfl (by kernel_rfl), e2]
      · exact below_setRow HB.out (Nat.le_refl _) _

end Go.Proofs.Ytaphmjccdokiiaa
