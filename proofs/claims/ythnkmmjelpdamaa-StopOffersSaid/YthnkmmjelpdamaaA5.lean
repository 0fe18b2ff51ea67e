/- Candidates: the program's functions. -/
import Derived.Test.YthnkmmjelpdamaaA4
namespace Go.Proofs.Ythnkmmjelpdamaa
open Go.RowKit

theorem results_cell_row2 {P : Program} {fn : Func} {p u : Tmp} {ty : TypeId} (h : fn.results = #[.cell p ty, .tmp u]) (tmps : Array Value) (w : World) (g : Nat) (t : TypeId) (cs : Array Value) (fr : Nat × Nat) (d : TypeDesc)
    (hp : tmps.getD p undef = .pointer (some ⟨g, 0, none⟩)) (hg : w.heap[g]? = some (.cells cs t fr))
    (hu : P.underlying ty = some d) (hd : (match d with | .struct _ | .array _ _ => true | _ => false) = true) (hi : (P.info? ty).map (·.size) = some cs.size) :
    (results fn tmps).run P w = .ok (.tuple #[.agg cs, tmps.getD u undef]) w := by
  have hp' : tmps[p]?.getD undef = .pointer (some ⟨g, 0, none⟩) := by simpa using hp
  rw [results_cell_tmp h]
  simp [hp', asAddr, run_loadVar_row w g t ty cs fr d hg hu hd hi, Result.andThen]
theorem results_slot_cell2 {P : Program} {fn : Func} {p s u : Tmp} {ty : TypeId} (h : fn.results = #[.tmp s, .cell p ty, .tmp u]) (tmps : Array Value) (w : World) (g : Nat) (t : TypeId) (cs : Array Value) (fr : Nat × Nat) (d : TypeDesc)
    (hp : tmps.getD p undef = .pointer (some ⟨g, 0, none⟩)) (hg : w.heap[g]? = some (.cells cs t fr))
    (hu : P.underlying ty = some d) (hd : (match d with | .struct _ | .array _ _ => true | _ => false) = true) (hi : (P.info? ty).map (·.size) = some cs.size) :
    (results fn tmps).run P w = .ok (.tuple #[tmps.getD s undef, .agg cs, tmps.getD u undef]) w := by
  have hp' : tmps[p]?.getD undef = .pointer (some ⟨g, 0, none⟩) := by simpa using hp
  simp only [results, h]
  simp [Result.andThen, hp', asAddr, run_loadVar_row w g t ty cs fr d hg hu hd hi]

theorem block_of_cells {w : World} {N : Nat} {x y : Value} {T : TypeId} (h : w.heap[N]? = some (.cells #[x, y] T (0, 0))) : w.cell? ⟨N, 0, none⟩ = some x ∧ w.cell? ⟨N, 1, none⟩ = some y ∧ w.frozen? ⟨N, 0, none⟩ = false ∧ w.frozen? ⟨N, 1, none⟩ = false :=
  ⟨by rw [cell_of_row _ _ _ _ _ _ h]; rfl, by rw [cell_of_row _ _ _ _ _ _ h]; rfl, frozen_of_row _ _ _ _ _ h, frozen_of_row _ _ _ _ _ h⟩

/-- The weight of skipping, the first k of the places behind. -/
def cwTo (skip : Nat) : Nat → Int
  | 0 => 0
  | k + 1 => cwTo skip k + 232792560 / ((skip + k : Nat) : Int) * (skip : Int)
def cw (n skip : Nat) : Int := if skip = 0 then 232792560 else cwTo skip (n - skip)

theorem cw_term {skip k : Nat} (h : 1 ≤ skip) : 0 ≤ 232792560 / ((skip + k : Nat) : Int) * (skip : Int) ∧ 232792560 / ((skip + k : Nat) : Int) * (skip : Int) ≤ 232792560 := by
  have h1 : 0 ≤ 232792560 / ((skip + k : Nat) : Int) := Int.ediv_nonneg (by omega) (by omega)
  refine ⟨Int.mul_nonneg h1 (by omega), ?_⟩
  have h2 := Int.mul_le_mul_of_nonneg_left (a := (skip : Int)) (b := ((skip + k : Nat) : Int)) (by omega) h1
  have h3 := Int.ediv_mul_le 232792560 (b := ((skip + k : Nat) : Int)) (by omega)
  omega
theorem cwTo_bd {skip : Nat} (h : 1 ≤ skip) (k : Nat) : 0 ≤ cwTo skip k ∧ cwTo skip k ≤ k * 232792560 := by
  induction k with
  | zero => simp [cwTo]
  | succ k ih => have := cw_term (k := k) h; simp only [cwTo]; omega
theorem cw_bd {n skip : Nat} (hn : n ≤ 20) : 0 ≤ cw n skip ∧ cw n skip ≤ 4655851200 := by
  unfold cw
  split
  · omega
  · have := cwTo_bd (skip := skip) (by omega) (n - skip)
    omega

set_option maxHeartbeats 1000000 in
theorem chosenWeight_any (n skip : Nat) (w : World) (hn : n ≤ 20) (hs : skip ≤ n) :
    Calls Try.prog 63 #[.int .i64 n, .int .i64 skip] w fun e w' => e = .returned (.int .i64 (cw n skip)) ∧ w = w' := by
  by_cases h0 : skip = 0
  · have HC := Lib.hid (show cw n skip = 232792560 by unfold cw; rw [if_pos h0])
    have t1 : ((skip : Int) == 0) = true := by rw [beq_iff_eq]; omega
    clear h0
    go_enter Try.func63, Try.ntmps63
    go_wp2
    go_ret
    exact ⟨ret_int HC.out.symm, rfl⟩
  · have HC := Lib.hid (show cw n skip = cwTo skip (n - skip) by unfold cw; rw [if_neg h0])
    have t1 : ((skip : Int) == 0) = false := by rw [beq_eq_false_iff_ne]; omega
    have h1 : 1 ≤ skip := by omega
    clear h0
    go_enter Try.func63, Try.ntmps63
    go_wp2
    go_loop [5, 6] (fun x y => ∃ k : Nat, k ≤ n - skip ∧ y = .int .i64 ((skip + k : Nat) : Int) ∧ x = .int .i64 (cwTo skip k)) (fun _ y => n - (intOf y).toNat)
    case atStart => exact ⟨0, by omega, rfl, rfl⟩
    case round =>
      obtain ⟨k, hk, rfl, rfl⟩ := hrel
      have hb := cwTo_bd h1 k
      have ht := cw_term (k := k) h1
      have HS := Lib.hid (show cwTo skip (k + 1) = cwTo skip k + 232792560 / ((skip + k : Nat) : Int) * (skip : Int) from rfl)
      obtain ⟨s, hs'⟩ : ∃ s, cwTo skip k = s := ⟨_, rfl⟩
      have HSS := Lib.hid hs'
      rw [hs'] at hb HS ⊢
      obtain ⟨b, hbb⟩ : ∃ b : Nat, skip + k = b := ⟨_, rfl⟩
      rw [hbb] at ht HS ⊢
      have HBB := Lib.hid hbb
      have hbn : b ≤ n := by omega
      have hb1 : 1 ≤ b := by omega
      clear hs'
      by_cases hlt : b < n
      · obtain ⟨t, htt⟩ : ∃ t, 232792560 / (b : Int) * (skip : Int) = t := ⟨_, rfl⟩
        rw [htt] at ht HS
        have e1 : wrap64 (232792560 / (b : Int) * (skip : Int)) = t := by rw [htt]; exact IntWalk.wrap64_in _ ⟨by omega, by omega⟩
        clear htt hbb
        go_wp2
        go_round
        case rel => exact ⟨k + 1, by have := HBB.out; omega, by have := HBB.out; rw [show skip + (k + 1) = b + 1 by omega]; go_num, by rw [HS.out]⟩
        case measure => simp [intOf]; omega
      · have hkn : k = n - skip := by omega
        have HK := Lib.hid hkn
        clear hkn hbb
        go_wp2
        go_ret
        exact ⟨ret_int (by rw [HC.out, ← HK.out, HSS.out]), rfl⟩

set_option maxHeartbeats 1000000 in
theorem chosen_any (n skip : Nat) (w : World) (h1 : 1 ≤ n) (hn : n ≤ 20) (hs : skip ≤ n) :
    Calls Try.prog 62 #[.int .i64 n, .int .i64 skip] w fun e w' => e = .returned (fracV (cw n skip) (n * 232792560)) ∧ Below w.heap.size w w' := by
  have hc := cw_bd (skip := skip) hn
  have hcw := fun W => chosenWeight_any n skip W hn hs
  obtain ⟨c, hcc⟩ : ∃ c, cw n skip = c := ⟨_, rfl⟩
  rw [hcc] at hc hcw ⊢
  have hfr := fun W => fraction_any c (n * 232792560) W (by omega) (by omega) (by omega) (by omega)
  obtain ⟨a, b, hab⟩ : ∃ a b, fracV c (n * 232792560) = .agg #[.int .i64 a, .int .i64 b] := ⟨_, _, rfl⟩
  rw [hab] at hfr ⊢
  have HCW := Lib.hid hcw
  have HFR := Lib.hid hfr
  clear hcc hcw hfr hab
  go_enter Try.func62, Try.ntmps62
  go_wp2_with fail
  refine (HCW.out _).mono ?_
  rintro e w' ⟨rfl, rfl⟩
  go_wp2_with fail
  refine (HFR.out _).mono ?_
  rintro e w1 ⟨rfl, hb⟩
  have hblk := (hb.block w.heap.size (by simp)).trans (heap_alloc_new w (.cells #[.int .i64 0, .int .i64 0] 47))
  obtain ⟨c0, c1, f0, f1⟩ := block_of_cells hblk
  have HB := Lib.hid (((Below.refl _ w).alloc (Nat.le_refl _) (.cells #[.int .i64 0, .int .i64 0] 47)).trans (hb.mono (by simp)))
  clear hb
  have HBLK := Lib.hid hblk
  clear hblk
  go_wp2
  refine bodyPost_ret (v := .agg #[.int .i64 a, .int .i64 b]) ?_ rfl ⟨rfl, (HB.out.setCell (p := ⟨_, 0, none⟩) (Nat.le_refl _) _).setCell (p := ⟨_, 1, none⟩) (Nat.le_refl _) _⟩
  obtain ⟨g0, g1⟩ := set2_cells (x := .int .i64 a) (y := .int .i64 b) c0 c1
  simp [results, Try.results62, go_sem, g0, g1]

end Go.Proofs.Ythnkmmjelpdamaa
