/- The program's rules, all of them: a function that is ranged over. -/
import Derived.RangeFuncNested
import Derived.RangeFuncBound
import Derived.RangeFuncCalls
import Derived.RangeFuncLeaves
import Derived.RangeFuncBox
import Derived.Shelf.Abstract
import Derived.Shelf.RegionOpen
import Derived.OwnWalkIn
import Derived.TacticsInMore
import Derived.LoopNIn
import Derived.LoopIn
import Derived.Test.YthnkmmjelpdamaaB3
namespace Go.Proofs.Ythnkmmjelpdamaa
open Go.RowKit Go.Shelf

attribute [local go_sem] Oper.semAt_some

/-- What has come when k rounds are over. -/
def upto (k : Nat) : List Nat := List.range k
theorem upto_succ (k : Nat) : upto (k + 1) = upto k ++ [k] := by simp [upto, List.range_succ]
theorem upto_length (k : Nat) : (upto k).length = k := by simp [upto]

/-- The rule of a number: its bits. -/
def ruleB (n k : Nat) : Nat → Bool := fun s => decide (s < n) && decide (k / 2 ^ s % 2 = 1)
def ruleV (n k : Nat) : Value := .agg (bo (ruleB n k))

/-- One block lies on, and the memory has not shrunk. -/
def Keep1 (B : Nat) (W W' : World) : Prop := W'.heap[B]? = W.heap[B]? ∧ W.heap.size ≤ W'.heap.size
theorem Keep1.refl (B : Nat) (W : World) : Keep1 B W W := ⟨rfl, Nat.le_refl _⟩
theorem Keep1.trans {B : Nat} {a b c : World} (h : Keep1 B a b) (k : Keep1 B b c) : Keep1 B a c := ⟨k.1.trans h.1, Nat.le_trans h.2 k.2⟩
theorem Keep1.of {B N : Nat} {a b : World} (h : Below N a b) (hB : B < N) : Keep1 B a b := ⟨h.block _ hB, h.size⟩
theorem keep1_put {B : Nat} {w : World} (hB : B < w.heap.size) (W : World) (l : Nat) (o o' : Obj) (hl : w.heap.size ≤ l) (h : W.heap[l]? = some o) (_ : o.isCells = false) (_ : o.isWalk = false) : Keep1 B W (W.putObj l o') :=
  .of (belowK_b (w := w) (Nat.le_refl _) W l o o' hl h ‹_› ‹_›) hB

theorem below_grown {w w' : World} (h : Below w.heap.size w w') : w.grownBy w' none := ⟨h.os, h.tape, h.output, h.size, fun k hk _ => h.block k hk⟩

theorem i64_and1 (n : Int) : Go.bits .and .i64 n 1 = n % 2 := by
  have h1 : (BitVec.ofInt 64 1).toNat = 2 ^ 1 - 1 := by decide
  have key : (BitVec.ofInt 64 n &&& BitVec.ofInt 64 1).toNat = (n % ((2 ^ 64 : Nat) : Int)).toNat % 2 ^ 1 := by
    rw [BitVec.toNat_and, BitVec.toNat_ofInt, h1, Nat.and_two_pow_sub_one_eq_mod]
  show IntKind.i64.wrap ((BitVec.ofInt 64 n &&& BitVec.ofInt 64 1).toNat : Nat) = n % 2
  rw [key, IntKind.wrap_i64]
  omega

theorem rule_step (N k s : Nat) (h : s < N) : bo (upd (fun i => decide (i < s) && ruleB N k i) s ((k : Int) / 2 ^ s % 2 == 1)) = bo fun i => decide (i < s + 1) && ruleB N k i := by
  refine ofN_congr fun i _ => congrArg Value.bool ?_
  unfold upd
  by_cases e : i = s
  · subst e
    rw [if_pos rfl]
    have h1 : ((k : Int) / 2 ^ i % 2 == 1) = decide (k / 2 ^ i % 2 = 1) := by
      have h2 : (k : Int) / 2 ^ i % 2 = ((k / 2 ^ i % 2 : Nat) : Int) := by simp
      rw [h2, Bool.eq_iff_iff]
      simp only [beq_iff_eq, decide_eq_true_eq]
      omega
    rw [h1]
    simp [ruleB, h]
  · rw [if_neg e]
    show (decide (i < s) && ruleB N k i) = (decide (i < s + 1) && ruleB N k i)
    by_cases h2 : i < s
    · rw [decide_eq_true h2, decide_eq_true (show i < s + 1 by omega)]
    · rw [decide_eq_false h2, decide_eq_false (show ¬ i < s + 1 by omega)]
theorem rule_full (N k : Nat) : (bo fun i => decide (i < N) && ruleB N k i) = bo (ruleB N k) := by
  refine ofN_congr fun i _ => congrArg Value.bool ?_
  show (decide (i < N) && (decide (i < N) && decide (k / 2 ^ i % 2 = 1))) = (decide (i < N) && decide (k / 2 ^ i % 2 = 1))
  rw [← Bool.and_assoc, Bool.and_self]

set_option maxHeartbeats 1000000 in
theorem allRules_in (F : Fence) (m : Nat) (h7 : F.fn 70) (hro : F.round = none) (n : Nat) (w : World) :
    CallsIn F m Try.prog 70 #[.int .i64 n] w fun e w' => e = .returned (.func (.func 80) #[] #[.pointer (some ⟨w.heap.size, 0, none⟩)]) ∧ w' = w.alloc (.cells #[.int .i64 n] 3) := by
  refine callsIn_of_wp Try.func70 rfl h7 ?_ hro
  simp only [Try.ntmps70, List.size_toArray, List.length_cons, List.length_nil, Nat.reduceAdd, Nat.reduceSub, Array.replicate_succ, Array.replicate_zero, List.push_toArray, List.append_toArray, List.nil_append, List.cons_append]
  gi_wp2
  go_ret
  exact ⟨rfl, rfl⟩

set_option maxRecDepth 100000 in
set_option maxHeartbeats 4000000 in
/-- The function that is ranged over: for every loop's body that keeps what lay below n₀. -/
theorem allRules1_in (F : Fence) (n : Nat) (h7 : F.fn 80) (hro : F.round = none) (hn : 1 ≤ n) (l Bs N : Nat) (hN6 : N ≤ 6) (J Jx : List Nat → World → Prop)
    (W : World) (hJa : AbidesFrom W.heap.size J)
    (hY : ∀ pre x W1, J pre W1 → pre.length < 2 ^ N → YieldAt F (n - 1) Try.prog l #[ruleV N x] W1 fun e W' =>
      (e = .returned (.bool true) ∧ J (pre ++ [x]) W' ∧ Keep1 Bs W1 W') ∨ (e = .returned (.bool false) ∧ Jx (pre ++ [x]) W'))
    (hBn : Bs < W.heap.size) (hBs : W.cell? ⟨Bs, 0, none⟩ = some (.int .i64 N)) (h0 : J [] W) :
    CallsIn F n Try.prog 80 #[.func (.yield l) #[] #[], .pointer (some ⟨Bs, 0, none⟩)] W fun e W' => (∃ v, e = .returned v) ∧
      ((∃ ys, ys = upto (2 ^ N) ∧ J ys W') ∨ (∃ pre, (∃ k, k ≤ 2 ^ N ∧ pre = upto k) ∧ Jx pre W')) := by
  have hsh : wrap64 ((2 : Int) ^ N) = ((2 ^ N : Nat) : Int) := by
    have h1 : (2 : Int) ^ N = ((2 ^ N : Nat) : Int) := by simp
    have h2 : 2 ^ N ≤ 2 ^ 6 := Nat.pow_le_pow_right (by omega) hN6
    rw [h1]
    generalize (2 ^ N : Nat) = m at h2 ⊢
    exact IntWalk.wrap64_in _ ⟨by omega, by omega⟩
  have hm64 : 2 ^ N ≤ 64 := Nat.pow_le_pow_right (by omega) hN6
  obtain ⟨M, hM⟩ : ∃ M, 2 ^ N = M := ⟨_, rfl⟩
  rw [hM] at hsh hm64
  simp only [hM] at hY ⊢
  refine callsIn_of_wp Try.func80 rfl h7 ?_ hro
  simp only [Try.ntmps80, List.size_toArray, List.length_cons, List.length_nil, Nat.reduceAdd, Nat.reduceSub, Array.replicate_succ, Array.replicate_zero, List.push_toArray, List.append_toArray, List.nil_append, List.cons_append]
  gi_wp2
  rw [hsh]
  have HJA := Lib.hid hJa
  have HY := Lib.hid hY
  have HM := Lib.hid hM
  have HBS := Lib.hid (show ∀ w', Keep1 Bs W w' → w'.cell? ⟨Bs, 0, none⟩ = some (.int .i64 N) from fun w' h => (World.cell?_of_block h.1).trans hBs)
  clear hM hsh hJa hY hBs
  gi_loopw [3, 4, 5, 8, 12] (fun _ _ _ y _ wr => ∃ k : Nat, k ≤ M ∧ y = .int .i64 k ∧ J (upto k) wr ∧ Keep1 Bs W wr ∧ W.heap.size ≤ wr.heap.size) (fun _ _ _ y _ _ => M - (intOf y).toNat)
  case atStart => exact ⟨0, Nat.zero_le _, rfl, h0, Keep1.refl _ _, Nat.le_refl _⟩
  case round =>
    clear h0
    obtain ⟨k, hk, rfl, hj, hb, hsz⟩ := hrel
    obtain ⟨wq, rfl⟩ : ∃ x, x = wr := ⟨_, rfl⟩
    have HJ := Lib.hid hj
    have HB := Lib.hid hb
    clear hj hb
    by_cases hlt : k < M
    · have c0 := HBS.out _ HB.out
      have c1 : (wq.alloc (.cells #[.bool false, .bool false, .bool false, .bool false, .bool false, .bool false] 83)).cell? ⟨Bs, 0, none⟩ = some (.int .i64 N) := HBS.out _ (HB.out.trans (.of ((Below.refl _ _).alloc (Nat.le_refl _) _) (Nat.lt_of_lt_of_le hBn hsz)))
      gi_wp2
      gi_loopw [5, 12] (fun _ y wr => ∃ s : Nat, s ≤ N ∧ y = .int .i64 s ∧ wr.heap[wq.heap.size]? = some (.cells (bo fun i => decide (i < s) && ruleB N k i) 83 (0, 0)) ∧ Below wq.heap.size wq wr) (fun _ y _ => N - (intOf y).toNat)
      case atStart =>
        refine ⟨0, Nat.zero_le _, rfl, ?_, (Below.refl _ _).alloc (Nat.le_refl _) _⟩
        rw [heap_alloc_new]
        rfl
      case round =>
        obtain ⟨s, hs, rfl, hr, hb⟩ := hrel
        obtain ⟨wq1, rfl⟩ : ∃ x, x = wr := ⟨_, rfl⟩
        have HR := Lib.hid hr
        have HB1 := Lib.hid hb
        clear hr hb c1
        by_cases hlt1 : s < N
        · obtain ⟨d0, f0⟩ := cell_ofN HR.out (show s < 6 by omega)
          gi_wp2
          go_roundw
          case rel =>
            rw [i64_and1]
            refine ⟨s + 1, by omega, by go_num, ?_, HB1.out.setCell (p := ⟨wq.heap.size, s, none⟩) (Nat.le_refl _) _⟩
            rw [bo_set HR.out (show s < 6 by omega), rule_step N k s hlt1]
          case measure => simp [intOf]; omega
        · obtain rfl : s = N := by omega
          have hjw := HJA.out _ _ _ none HJ.out (below_grown HB1.out) (fun r e => by cases e)
          obtain ⟨fn, tmps, assign, body, hy, hR⟩ := HY.out _ k wq1 hjw (by rw [upto_length]; exact hlt)
          obtain ⟨R, hRR⟩ : ∃ R, ruleB s k = R := ⟨_, rfl⟩
          have HR2 : Hid (wq1.heap[wq.heap.size]? = some (.cells (bo R) 83 (0, 0))) := by
            rw [← hRR, ← rule_full]; exact HR.out
          unfold ruleV at hy
          rw [hRR] at hy
          replace hy : (Instr.yield l #[.agg #[.bool (R 0), .bool (R 1), .bool (R 2), .bool (R 3), .bool (R 4), .bool (R 5)]]).run Try.prog wq1 = .ok (.round l fn tmps assign body) wq1 := hy
          have HRD := Lib.hid hR
          obtain ⟨d0, -⟩ := cell_ofN HR2.out (show 0 < 6 by omega)
          obtain ⟨d1, -⟩ := cell_ofN HR2.out (show 1 < 6 by omega)
          obtain ⟨d2, -⟩ := cell_ofN HR2.out (show 2 < 6 by omega)
          obtain ⟨d3, -⟩ := cell_ofN HR2.out (show 3 < 6 by omega)
          obtain ⟨d4, -⟩ := cell_ofN HR2.out (show 4 < 6 by omega)
          obtain ⟨d5, -⟩ := cell_ofN HR2.out (show 5 < 6 by omega)
          have HB2 := Lib.hid (HB.out.trans (.of HB1.out (Nat.lt_of_lt_of_le hBn hsz)))
          clear hR hRR hjw HR
          gi_wp2
          refine HRD.out.mono ?_
          rintro e W3 (⟨rfl, hJ3, hk3⟩ | ⟨rfl, hJx3⟩)
          · have HJ3 := Lib.hid hJ3
            have HB3 := Lib.hid (HB2.out.trans hk3)
            have hsz3 : W.heap.size ≤ W3.heap.size := HB3.out.2
            clear hJ3 hk3
            gi_wp2
            go_roundw
            case rel => exact ⟨k + 1, by omega, by go_num, by rw [upto_succ]; exact HJ3.out, HB3.out, hsz3⟩
            case measure => simp [intOf]; omega
          · have HJx3 := Lib.hid hJx3
            clear hJx3
            gi_wp2
            refine bodyPost_ret (results_none rfl _ _ _) rfl ?_
            exact ⟨⟨_, rfl⟩, .inr ⟨_, ⟨k + 1, by omega, (upto_succ _).symm⟩, HJx3.out⟩⟩
    · obtain rfl : k = M := by omega
      gi_wp2
      go_end0
      exact ⟨⟨_, rfl⟩, .inl ⟨_, rfl, HJ.out⟩⟩

/-- What is ranged over gives all rules, in order. -/
theorem allRules_stops (F : Fence) (n : Nat) (h7 : F.fn 80) (hro : F.round = none) (hn : 1 ≤ n) (Bs N : Nat) (hN6 : N ≤ 6) (w : World) (hBn : Bs < w.heap.size) (hc : w.cell? ⟨Bs, 0, none⟩ = some (.int .i64 N)) :
    SeqStopsK F n Try.prog 80 #[.pointer (some ⟨Bs, 0, none⟩)] (fun x : Nat => #[ruleV N x]) (Keep1 Bs) (fun ys => ys = upto (2 ^ N)) (fun pre => ∃ k, k ≤ 2 ^ N ∧ pre = upto k) (2 ^ N) w := fun l J Jx W hW hJ _ hY h0 =>
  allRules1_in F n h7 hro hn l Bs N hN6 J Jx W hJ hY (Nat.lt_of_lt_of_le hBn hW.size) ((hW.cell (p := ⟨Bs, 0, none⟩) hBn).trans hc) h0

end Go.Proofs.Ythnkmmjelpdamaa
