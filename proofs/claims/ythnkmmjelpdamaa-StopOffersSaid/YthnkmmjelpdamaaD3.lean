/- The expectation of the greatest number. -/
import Derived.Great.BuildSlice
import Derived.Laws.CopyOwn
import Derived.Test.YthnkmmjelpdamaaD2
namespace Go.Proofs.Ythnkmmjelpdamaa
open Go.RowKit

theorem pow16_nat {n : Nat} (h : n ≤ 6) : (16 : Int) ^ n ≤ 16777216 ∧ 1 ≤ (16 : Int) ^ n := by
  rcases n with _ | _ | _ | _ | _ | _ | _ | n
  all_goals first | omega | (constructor <;> decide)

theorem wpList_world {P : Program} {ops : Array Oper} {Q : Exit → Act → World → Prop} {l : List Oper} {a : Act} {w w' : World} (h : w = w') (hk : wpList P ops Q l a w') : wpList P ops Q l a w := h ▸ hk
theorem gr_start (w : World) (a b c : Obj) : ∃ w3, w3 = ((w.alloc a).alloc b).alloc c ∧ w3.heap[w.heap.size]? = some a ∧ w3.heap[w.heap.size + 1]? = some b ∧ w3.heap[w.heap.size + 1 + 1]? = some c ∧ Below w.heap.size w w3 ∧ Below (w.heap.size + 1) (w.alloc a) w3 := by
  refine ⟨_, rfl, ?_, ?_, ?_, ?_, ?_⟩
  · rw [Below.heap_alloc _ _ _ (by simp; omega), Below.heap_alloc _ _ _ (by simp)]; exact heap_alloc_new w a
  · rw [Below.heap_alloc _ _ _ (by simp)]
    have := heap_alloc_new (w.alloc a) b
    simpa using this
  · have := heap_alloc_new ((w.alloc a).alloc b) c
    simpa using this
  · exact (((Below.refl _ w).alloc (Nat.le_refl _) a).alloc (by simp) b).alloc (by simp; omega) c
  · exact (((Below.refl _ (w.alloc a)).alloc (by simp) b).alloc (by simp) c)
theorem gr_e (w : World) (a b c : Obj) : (((w.alloc a).alloc b).alloc c).heap[w.heap.size + 1 + 1]? = some c := by
  obtain ⟨_, rfl, h⟩ := gr_start w a b c
  exact h.2.2.1
theorem gr_fs (w : World) : ∃ w4, (((w.alloc (Obj.cells #[Value.int IntKind.i64 0, Value.int IntKind.i64 0] 47)).alloc (Obj.cells #[Value.int IntKind.i64 0] 3)).alloc (Obj.cells #[Value.nilFunc] 107)).setRow (w.heap.size + 1 + 1) #[Value.func (Fn.func 79) #[] #[Value.pointer (some ⟨w.heap.size + 1, 0, none⟩), Value.pointer (some ⟨w.heap.size + 1 + 1, 0, none⟩)]] = w4 ∧
    w4.heap[w.heap.size]? = some (Obj.cells #[Value.int IntKind.i64 0, Value.int IntKind.i64 0] 47 (0, 0)) ∧ GS (w.heap.size + 1) w4 0 ∧ Below w.heap.size w w4 ∧ Below (w.heap.size + 1) (w.alloc (Obj.cells #[Value.int IntKind.i64 0, Value.int IntKind.i64 0] 47)) w4 := by
  obtain ⟨w3, e3, f0, f1, f2, hb3, hb3'⟩ := gr_start w (Obj.cells #[Value.int IntKind.i64 0, Value.int IntKind.i64 0] 47) (Obj.cells #[Value.int IntKind.i64 0] 3) (Obj.cells #[Value.nilFunc] 107)
  refine ⟨_, rfl, ?_, ?_, ?_, ?_⟩
  · rw [← e3, setRow_other _ _ _ _ (by omega)]; exact f0
  · rw [← e3]; exact ⟨by rw [setRow_other _ _ _ _ (by omega)]; exact f1, setRow_heap _ _ _ _ _ _ f2⟩
  · rw [← e3]; exact below_setRow hb3 (by omega) _
  · rw [← e3]; exact below_setRow hb3' (by omega) _

set_option maxRecDepth 100000 in
set_option maxHeartbeats 1000000 in
theorem greatest_any (L : List (List (Int × Int))) (ao : Option Addr) (b o cap : Nat) (A : Nat → Option Addr) (B O C : Nat → Nat) (w : World) (h : OffsAt w ao b o L A B O C) (hcap : L.length ≤ cap) (hok : okOffs L = true) :
    Calls Try.prog 67 #[.slice ao L.length cap] w fun e w' => e = .returned (fracV (cmb L 0 1) (16 ^ L.length)) ∧ Below w.heap.size w w' := by
  have hok' : L.length ≤ 6 ∧ ∀ i, i < L.length → okOff (rowP L i) = true := of_decide_eq_true hok
  have hl6 := hok'.1
  have hp6 := pow16_nat hl6
  have hbd := cmb_bd L hok'.2 0 1 (by omega) (by omega) (by omega)
  have HC := Lib.hid (fun T w1 (hx : w.heap.size + 1 ≤ T) (hb : Below T (w.alloc (Obj.cells #[Value.int IntKind.i64 0, Value.int IntKind.i64 0] 47)) w1) (hs : GS T w1 0) => combine_any L ao b o cap A B O C _ w1 T 0 1 0 (h.alloc _) (by simpa using hx) hb hs hcap hok'.2 (by omega) (by omega) (by omega) (by rw [Int.one_mul]; omega) (by omega) (by rw [Int.one_mul]; omega))
  have HFR := Lib.hid (fun W => fraction_any (cmb L 0 1) (16 ^ L.length) W (by rw [Int.one_mul] at hbd; omega) (by rw [Int.one_mul] at hbd; omega) (by omega) (by omega))
  obtain ⟨fa, fb, hf⟩ : ∃ a b, fracV (cmb L 0 1) (16 ^ L.length) = .agg #[.int .i64 a, .int .i64 b] := ⟨_, _, rfl⟩
  rw [hf] at HFR ⊢
  obtain ⟨w4, hw4, hbl, hgs4, hb4, hb4'⟩ := gr_fs w
  have HW := Lib.hid hw4
  have HBL := Lib.hid hbl
  have HGS := Lib.hid hgs4
  have HB4 := Lib.hid hb4
  have HB4' := Lib.hid hb4'
  obtain ⟨-, -, z1⟩ := hgs4.cells
  clear hok hok' hbd hf h hw4 hbl hgs4 hb4 hb4'
  go_enter Try.func67, Try.ntmps67
  go_wp2
  go_loop [4, 8] (fun x y => ∃ k : Nat, k ≤ L.length ∧ y = .int .i64 k ∧ x = .int .i64 (16 ^ k)) (fun _ y => L.length - (intOf y).toNat)
  case atStart => exact ⟨0, by omega, rfl, rfl⟩
  case round =>
    obtain ⟨k, hk, rfl, rfl⟩ := hrel
    by_cases hlt : k < L.length
    · have hp := pow16_nat (show k ≤ 6 by omega)
      have hw1 : wrap64 ((16 : Int) ^ k * 16) = 16 ^ (k + 1) := by rw [Int.pow_succ]; exact IntWalk.wrap64_in _ ⟨by omega, by omega⟩
      go_wp2
      go_round
      case rel => exact ⟨k + 1, by omega, by go_num, by first | rfl | rw [hw1]⟩
      case measure => simp [intOf]; omega
    · obtain rfl : k = L.length := by omega
      go_wp2_with (first
        | (refine wpList_store_oneTo rfl 107 (.tmp 5) (.tmp 13) rfl rfl (w.heap.size + 1 + 1) _ rfl rfl rfl 107 .nilFunc ?hg rfl ?_; exact gr_e _ _ _ _; refine wpList_world HW.out ?_)
        | fail)
      refine (HC.out (w.heap.size + 1) w4 (by omega) HB4'.out HGS.out).mono ?_
      rintro e w5 ⟨rfl, hgs, hb⟩
      have hblk := (hb.block w.heap.size (by omega)).trans HBL.out
      obtain ⟨c0, c1, f0, f1⟩ := block_of_cells hblk
      rw [Int.zero_add] at hgs
      obtain ⟨z0, -, -⟩ := hgs.cells
      have HB5 := Lib.hid (HB4.out.trans (hb.mono (by omega)))
      have hsz := hgs.size
      clear hgs hb z1
      go_wp2_with fail
      refine (HFR.out _).mono ?_
      rintro e w6 ⟨rfl, hb6⟩
      have hblk6 := (hb6.block w.heap.size (by omega)).trans hblk
      have HB6 := Lib.hid (HB5.out.trans (hb6.mono (by omega)))
      clear c0 c1 f0 f1 hblk hb6
      obtain ⟨c0, c1, f0, f1⟩ := block_of_cells hblk6
      clear hblk6
      go_wp2
      refine bodyPost_ret (v := .agg #[.int .i64 fa, .int .i64 fb]) ?_ rfl ⟨rfl, (HB6.out.setCell (p := ⟨_, 0, none⟩) (Nat.le_refl _) _).setCell (p := ⟨_, 1, none⟩) (Nat.le_refl _) _⟩
      obtain ⟨g0, g1⟩ := set2_cells (x := .int .i64 fa) (y := .int .i64 fb) c0 c1
      simp [results, Try.results67, go_sem, g0, g1]

end Go.Proofs.Ythnkmmjelpdamaa
