/- StopCandidates: the walk. -/
import Derived.Test.YthnkmmjelpdamaaE4
namespace Go.Proofs.Ythnkmmjelpdamaa
open Go.RowKit

set_option maxHeartbeats 4000000 in
set_option maxRecDepth 100000 in
theorem candidates_no (n skip : Int) (w : World) (h : n < 1 ∨ 20 < n) :
    Calls Try.prog 6 #[.int .i64 n, .int .i64 skip] w fun e w' => e = .returned (.bool true) ∧ Below w.heap.size w w' := by
  have HP := Lib.hid (fun W => pickChosen_no n skip W (.inl h))
  have HS := Lib.hid (fun W => secretary_no n W h)
  have hcc : (decide (n < 1) = true) ∨ (decide (n < 1) = false ∧ decide (20 < n) = true) := by
    simp only [decide_eq_true_eq, decide_eq_false_iff_not]; omega
  clear h
  rcases hcc with t1 | ⟨t1, t2⟩
  all_goals (
    go_enter Try.func6, Try.ntmps6
    go_wp2_with fail
    refine (HP.out _).mono ?_
    rintro e w1 ⟨rfl, hb1⟩
    go_wp2_with fail
    refine (HS.out _).mono ?_
    rintro e w2 ⟨rfl, hb2⟩
    have hz1 := (hb2.block w1.heap.size (by simp)).trans (heap_alloc_new w1 (.cells #[.int .i64 0, .int .i64 0] 47))
    obtain ⟨c0, c1, -, -⟩ := block_of_cells hz1
    have HB2 := Lib.hid (hb1.trans ((((Below.refl _ w1).alloc (Nat.le_refl _) (.cells #[.int .i64 0, .int .i64 0] 47)).trans (hb2.mono (by simp))).mono hb1.size))
    have hlt := lt_of_blk hz1
    clear hz1 hb1 hb2
    go_wp2_with fail
    refine (awake_any _).mono ?_
    rintro e w3 ⟨rfl, hb3⟩
    have HB3 := Lib.hid ((HB2.out.alloc HB2.out.size (.cells #[.int .i64 0, .int .i64 0] 47)).trans (hb3.mono (by have := HB2.out.size; simp; omega)))
    clear hb3 c0 c1
    go_wp2
    go_ret
    exact ⟨rfl, HB3.out⟩)

set_option maxHeartbeats 4000000 in
set_option maxRecDepth 100000 in
theorem candidates_out (n : Nat) (skip : Int) (w : World) (h1 : 1 ≤ n) (h2 : n ≤ 20) (hs : skip < 0 ∨ (n : Int) ≤ skip) :
    Calls Try.prog 6 #[.int .i64 n, .int .i64 skip] w fun e w' => e = .returned (.bool true) ∧ Below w.heap.size w w' := by
  have HP := Lib.hid (fun W => pickChosen_no n skip W (.inr hs))
  have HS := Lib.hid (fun W => secretary_yes n W h1 h2)
  have HR := Lib.hid (fun W => refSecretary_any n W h1 h2)
  have t1 : decide ((n : Int) < 1) = false := decide_eq_false (by omega)
  have t2 : decide ((20 : Int) < (n : Int)) = false := decide_eq_false (by omega)
  have hcc : (decide (skip < 0) = true) ∨ (decide (skip < 0) = false ∧ decide ((n : Int) ≤ skip) = true) := by
    simp only [decide_eq_true_eq, decide_eq_false_iff_not]; omega
  obtain ⟨k, hk⟩ : ∃ k, secTo n n = k := ⟨_, rfl⟩
  obtain ⟨fa, fb, hf⟩ : ∃ a b, fracV (cw n (secTo n n)) (n * 232792560) = .agg #[.int .i64 a, .int .i64 b] := ⟨_, _, rfl⟩
  rw [hf, hk] at HS HR
  clear h1 h2 hs hk hf
  rcases hcc with t3 | ⟨t3, t4⟩
  all_goals (
    go_enter Try.func6, Try.ntmps6
    go_wp2_with fail
    refine (HP.out _).mono ?_
    rintro e w1 ⟨rfl, hb1⟩
    go_wp2_with fail
    refine (HS.out _).mono ?_
    rintro e w2 ⟨rfl, hb2⟩
    have hz1 := (hb2.block w1.heap.size (by simp)).trans (heap_alloc_new w1 (.cells #[.int .i64 0, .int .i64 0] 47))
    have HB2 := Lib.hid (hb1.trans ((((Below.refl _ w1).alloc (Nat.le_refl _) (.cells #[.int .i64 0, .int .i64 0] 47)).trans (hb2.mono (by simp))).mono hb1.size))
    have hlt := lt_of_blk hz1
    have HZ1 := Lib.hid hz1
    clear hz1 hb1 hb2
    go_wp2_with fail
    refine (HR.out _).mono ?_
    rintro e w3 ⟨rfl, hb3⟩
    have hb23 : Below w2.heap.size w2 w3 := ((Below.refl _ w2).alloc (Nat.le_refl _) (.cells #[.int .i64 fa, .int .i64 fb] 47)).trans (hb3.mono (by simp))
    have hz3 := (hb23.block w1.heap.size hlt).trans HZ1.out
    have hy3 := (hb3.block w2.heap.size (by simp)).trans (heap_alloc_new w2 (.cells #[.int .i64 fa, .int .i64 fb] 47))
    obtain ⟨c0, c1, -, -⟩ := block_of_cells hz3
    obtain ⟨d0, d1, -, -⟩ := block_of_cells hy3
    have HB3 := Lib.hid (HB2.out.trans (hb23.mono HB2.out.size))
    have hl1 := lt_of_blk hz3
    have hl2 := lt_of_blk hy3
    clear hz3 hy3 hb3 hb23
    go_wp2_with fail
    refine (awake_any _).mono ?_
    rintro e w4 ⟨rfl, hb4⟩
    have HB4 := Lib.hid ((HB3.out.alloc HB3.out.size (.cells #[.int .i64 fa, .int .i64 fb] 47)).trans (hb4.mono (by have := HB3.out.size; simp; omega)))
    clear hb4 c0 c1 d0 d1
    go_wp2
    go_ret
    exact ⟨rfl, HB4.out⟩)

set_option maxHeartbeats 8000000 in
set_option maxRecDepth 100000 in
theorem candidates_in (n skip : Nat) (w : World) (h1 : 1 ≤ n) (h2 : n ≤ 20) (hs : skip < n) :
    Calls Try.prog 6 #[.int .i64 n, .int .i64 skip] w fun e w' => e = .returned (.bool true) ∧ Below w.heap.size w w' := by
  have HP := Lib.hid (fun W => pickChosen_yes n skip W h1 h2 hs)
  have HS := Lib.hid (fun W => secretary_yes n W h1 h2)
  have HR := Lib.hid (fun W => refSecretary_any n W h1 h2)
  have HC := Lib.hid (fun W => refChosen_any n skip W h1 h2 (by omega))
  have t1 : decide ((n : Int) < 1) = false := decide_eq_false (by omega)
  have t2 : decide ((20 : Int) < (n : Int)) = false := decide_eq_false (by omega)
  have t3 : decide ((skip : Int) < 0) = false := decide_eq_false (by omega)
  have t4 : decide ((n : Int) ≤ (skip : Int)) = false := decide_eq_false (by omega)
  have t5 : decide (n ≤ skip) = false := decide_eq_false (by omega)
  obtain ⟨k, hk⟩ : ∃ k, secTo n n = k := ⟨_, rfl⟩
  obtain ⟨fa, fb, hf⟩ : ∃ a b, fracV (cw n (secTo n n)) (n * 232792560) = .agg #[.int .i64 a, .int .i64 b] := ⟨_, _, rfl⟩
  obtain ⟨ga, gb, hg⟩ : ∃ a b, fracV (cw n skip) (n * 232792560) = .agg #[.int .i64 a, .int .i64 b] := ⟨_, _, rfl⟩
  rw [hf, hk] at HS HR
  rw [hg] at HP HC
  clear h1 h2 hs hk hf hg
  go_enter Try.func6, Try.ntmps6
  go_wp2_with fail
  refine (HP.out _).mono ?_
  rintro e w1 ⟨rfl, hb1⟩
  go_wp2_with fail
  refine (HS.out _).mono ?_
  rintro e w2 ⟨rfl, hb2⟩
  have hz1 := (hb2.block w1.heap.size (by simp)).trans (heap_alloc_new w1 (.cells #[.int .i64 ga, .int .i64 gb] 47))
  have HB2 := Lib.hid (hb1.trans ((((Below.refl _ w1).alloc (Nat.le_refl _) (.cells #[.int .i64 ga, .int .i64 gb] 47)).trans (hb2.mono (by simp))).mono hb1.size))
  have hlt := lt_of_blk hz1
  have HZ1 := Lib.hid hz1
  clear hz1 hb1 hb2
  go_wp2_with fail
  refine (HR.out _).mono ?_
  rintro e w3 ⟨rfl, hb3⟩
  have hb23 : Below w2.heap.size w2 w3 := ((Below.refl _ w2).alloc (Nat.le_refl _) (.cells #[.int .i64 fa, .int .i64 fb] 47)).trans (hb3.mono (by simp))
  have hz3 := (hb23.block w1.heap.size hlt).trans HZ1.out
  have hy3 := (hb3.block w2.heap.size (by simp)).trans (heap_alloc_new w2 (.cells #[.int .i64 fa, .int .i64 fb] 47))
  obtain ⟨c0, c1, -, -⟩ := block_of_cells hz3
  obtain ⟨d0, d1, -, -⟩ := block_of_cells hy3
  have HB3 := Lib.hid (HB2.out.trans (hb23.mono HB2.out.size))
  have hl1 := lt_of_blk hz3
  have hl2 := lt_of_blk hy3
  have HZ3 := Lib.hid hz3
  obtain ⟨wz, hwz⟩ : ∃ wz, w3.alloc (.cells #[.int .i64 fa, .int .i64 fb] 47) = wz := ⟨_, rfl⟩
  have hbz : Below w3.heap.size w3 wz := by rw [← hwz]; exact (Below.refl _ _).alloc (Nat.le_refl _) _
  obtain ⟨z0, z1, -, -⟩ := block_of_cells ((hbz.block w1.heap.size hl1).trans hz3)
  have HBZ := Lib.hid (HB3.out.trans (hbz.mono HB3.out.size))
  have hzs := hbz.size
  have HZZ := Lib.hid (show ∀ W w', Below W.heap.size W w' → (∀ k, W.heap[k]? = wz.heap[k]?) → W.heap.size = wz.heap.size → w'.heap[w1.heap.size]? = some (.cells #[.int .i64 ga, .int .i64 gb] 47 (0, 0)) from fun W w' hb he hs =>
    (hb.block _ (by omega)).trans ((he _).trans ((hbz.block _ hl1).trans HZ3.out)))
  have HWZ := Lib.hid hwz
  clear hz3 hy3 hb3 hb23 hwz hbz
  go_wp2_with fail
  try rw [HWZ.out]
  go_region_with (first
    | (go_at_call 32; refine (HC.out _).mono ?_; rintro e w' ⟨rfl, hbw⟩; obtain ⟨q0, q1, -, -⟩ := block_of_cells (HZZ.out _ w' hbw (fun _ => rfl) rfl))
    | (go_at_call 19; refine (awake_any _).mono ?_; rintro e w'' ⟨rfl, hbv⟩))
  all_goals (
    have hbx : Below wz.heap.size wz w' := ⟨hbw.os, hbw.tape, hbw.output, hbw.size, hbw.block⟩
    have hby := hbx.size
    have HBW := Lib.hid (HBZ.out.trans ((hbx.trans (hbv.mono hby)).mono (by have := HB3.out.size; omega)))
    clear hbw hbv hbx q0 q1 z0 z1 c0 c1 d0 d1
    go_wp2
    go_ret
    exact ⟨rfl, HBW.out⟩)

theorem candidates_any (n skip : Int) (w : World) :
    Calls Try.prog 6 #[.int .i64 n, .int .i64 skip] w fun e w' => e = .returned (.bool true) ∧ Below w.heap.size w w' := by
  by_cases h : n < 1 ∨ 20 < n
  · exact candidates_no n skip w h
  · obtain ⟨m, rfl⟩ := Int.eq_ofNat_of_zero_le (show 0 ≤ n by omega)
    by_cases hs : skip < 0 ∨ (m : Int) ≤ skip
    · exact candidates_out m skip w (by omega) (by omega) hs
    · obtain ⟨s, rfl⟩ := Int.eq_ofNat_of_zero_le (show 0 ≤ skip by omega)
      exact candidates_in m s w (by omega) (by omega) (by omega)

end Go.Proofs.Ythnkmmjelpdamaa
