/- I6: Zb Ac -/
import Derived.Test.YtghffnjnpgiicaaI5
import Derived.Test.YtghffnjnpgiicaaG2
import Derived.Test.YtghffnjnpgiicaaH9
/- The reference's Valid. -/
namespace Go.Proofs.Ytghffnjnpgiicaa
open Go.RowKit

/-- The fraction is one in lowest terms. -/
theorem frac_valid {num den : Int} (_hn : 0 ≤ num) (hd : 1 ≤ den) : Int.gcd (den / (Int.gcd num den : Int)) ((num / (Int.gcd num den : Int)) % (den / (Int.gcd num den : Int))) = 1 := by
  have h := Int.gcd_ediv_gcd_ediv_gcd (i := num) (j := den) (Int.gcd_pos_of_ne_zero_right num (by omega))
  obtain ⟨x, hx⟩ : ∃ x, num / (Int.gcd num den : Int) = x := ⟨_, rfl⟩
  obtain ⟨y, hy⟩ : ∃ y, den / (Int.gcd num den : Int) = y := ⟨_, rfl⟩
  rw [hx, hy] at h ⊢
  have h2 : Int.gcd y (x % y) = Int.gcd x y := by
    refine Nat.dvd_antisymm ?_ ?_
    · refine Int.dvd_gcd ?_ (Int.gcd_dvd_left ..)
      have h3 := Int.dvd_add (Int.dvd_mul_of_dvd_left (c := x / y) (Int.gcd_dvd_left (a := y) (b := x % y))) (Int.gcd_dvd_right (a := y) (b := x % y))
      rwa [Int.mul_ediv_add_emod] at h3
    · refine Int.dvd_gcd (Int.gcd_dvd_right ..) ?_
      rw [Int.emod_def]
      exact Int.dvd_sub (Int.gcd_dvd_left ..) (Int.dvd_mul_of_dvd_left (Int.gcd_dvd_right ..))
  rw [h2]; exact h

set_option maxHeartbeats 1000000 in
set_option maxRecDepth 100000 in
theorem refValid_any (a b : Int) (w : World) (ha : 0 ≤ a) (_ha2 : a ≤ 9223372036854775807) (hb : 1 ≤ b) (hb2 : b ≤ 9223372036854775807) :
    Calls Try.prog 41 #[.agg #[.int .i64 a, .int .i64 b]] w fun e w' => e = .returned (.bool (decide (Int.gcd b (a % b) = 1))) ∧ Below w.heap.size w w' := by
  have hr1 := Int.emod_nonneg a (show b ≠ 0 by omega)
  have hr2 := Int.emod_lt_of_pos a (show 0 < b by omega)
  have e1 : a.tmod b = a % b := Int.tmod_eq_emod_of_nonneg ha
  obtain ⟨r, hr⟩ : ∃ r, a % b = r := ⟨_, rfl⟩
  rw [hr] at hr1 hr2 e1
  have HR := Lib.hid hr
  clear hr
  have hA := fun W => absolute_any r W (by omega) (by omega)
  have hnab : (r.natAbs : Int) = r := by omega
  have hG := fun W => refGcd_any b r W (by omega) (by omega) (by omega) (by omega)
  rw [hnab] at hA
  have HA := Lib.hid hA
  have HG := Lib.hid hG
  have t1 : decide (b < 1) = false := decide_eq_false (by omega)
  have c0 : (w.alloc (.cells #[.int .i64 a, .int .i64 b] 29)).cell? ⟨w.heap.size, 0, none⟩ = some (.int .i64 a) := by simp
  have c1 : (w.alloc (.cells #[.int .i64 a, .int .i64 b] 29)).cell? ⟨w.heap.size, 1, none⟩ = some (.int .i64 b) := by simp
  have HC := Lib.hid (And.intro c0 c1)
  have hb0 : ¬ b = 0 := by omega
  clear hA hG hnab
  go_enter Try.func41, Try.ntmps41
  go_wp2
  go_region_held3 (fun w' => w'.cell? ⟨w.heap.size, 0, none⟩ = some (.int .i64 a) ∧ w'.cell? ⟨w.heap.size, 1, none⟩ = some (.int .i64 b))
    (exact HC.out)
    (first
      | (go_simp; go_at_call 69; with_reducible refine (HA.out _).mono ?_; rintro e w1 ⟨rfl, rfl⟩)
      | (go_simp; go_at_call 68; with_reducible refine (HG.out _).mono ?_; rintro e w1 ⟨rfl, rfl⟩))
  all_goals go_wp2
  all_goals go_ret
  all_goals
    refine ⟨?_, below_dr ((Below.refl _ _).alloc (Nat.le_refl _) _)⟩
    rw [HR.out]
    refine congrArg (fun z => Ending.returned (.bool z)) ?_
    by_cases q : Int.gcd b r = 1
    · rw [decide_eq_true q, beq_iff_eq]; omega
    · rw [decide_eq_false q, beq_eq_false_iff_ne]; omega

end Go.Proofs.Ytghffnjnpgiicaa

/- The law's times: the product of two small fractions. -/
namespace Go.Proofs.Ytghffnjnpgiicaa
open Go.RowKit

set_option maxHeartbeats 2000000 in
set_option maxRecDepth 100000 in
theorem times_any (a b c d : Int) (w : World) (ha : 0 ≤ a) (hab : a ≤ b) (hb : 1 ≤ b) (hb2 : b ≤ 1073741824) (hc : 0 ≤ c) (hcd : c ≤ d) (hd : 1 ≤ d) (hd2 : d ≤ 1073741824) :
    Calls Try.prog 43 #[.agg #[.int .i64 a, .int .i64 b], .agg #[.int .i64 c, .int .i64 d]] w fun e w' => e = .returned (fracV (a * c) (b * d)) ∧ Below w.heap.size w w' := by
  obtain ⟨W0, hW0⟩ : ∃ W0, ((w.alloc (.cells #[.int .i64 a, .int .i64 b] 29)).alloc (.cells #[.int .i64 c, .int .i64 d] 29)).alloc (.cells #[.int .i64 0, .int .i64 0] 29) = W0 := ⟨_, rfl⟩
  have HW0 := Lib.hid hW0
  have HB0 : Hid (Below w.heap.size w W0) := by rw [← hW0]; exact (((Below.refl _ _).alloc (Nat.le_refl _) _).alloc (by simp) _).alloc (by simp; omega) _
  have hx : W0.heap[w.heap.size]? = some (.cells #[.int .i64 a, .int .i64 b] 29 (0, 0)) ∧ W0.heap[w.heap.size + 1]? = some (.cells #[.int .i64 c, .int .i64 d] 29 (0, 0)) ∧ W0.heap[w.heap.size + 2]? = some (.cells #[.int .i64 0, .int .i64 0] 29 (0, 0)) := by
    rw [← hW0]; exact ⟨rfl3 _ _ _ _, rfl4 _ _ _ _, rfl5 _ _ _ _⟩
  have HX := Lib.hid hx
  have h1 : 0 ≤ a * c := Int.mul_nonneg ha hc
  have h2 : a * c ≤ 1073741824 * 1073741824 := Int.mul_le_mul (by omega) (by omega) hc (by omega)
  have h3 : b * d ≤ 1073741824 * 1073741824 := Int.mul_le_mul (by omega) (by omega) (by omega) (by omega)
  have h4 : 0 < b * d := Int.mul_pos (by omega) (by omega)
  obtain ⟨x, hxx⟩ : ∃ x, a * c = x := ⟨_, rfl⟩
  obtain ⟨y, hyy⟩ : ∃ y, b * d = y := ⟨_, rfl⟩
  rw [hxx] at h1 h2
  rw [hyy] at h3 h4
  obtain ⟨c0, c1, -, -⟩ := cells_of2 hx.1
  obtain ⟨d0, d1, -, -⟩ := cells_of2 hx.2.1
  have t1 : decide (b < 1) = false := decide_eq_false (by omega)
  have t2 : decide (d < 1) = false := decide_eq_false (by omega)
  have t3 : decide (1073741824 < b) = false := decide_eq_false (by omega)
  have t4 : decide (1073741824 < d) = false := decide_eq_false (by omega)
  have t5 : decide (a < 0) = false := decide_eq_false (by omega)
  have t6 : decide (c < 0) = false := decide_eq_false (by omega)
  have t7 : decide (b < a) = false := decide_eq_false (by omega)
  have t8 : decide (d < c) = false := decide_eq_false (by omega)
  have e1 : wrap64 (a * c) = x := by rw [hxx]; exact IntWalk.wrap64_in _ ⟨by omega, by omega⟩
  have e2 : wrap64 (b * d) = y := by rw [hyy]; exact IntWalk.wrap64_in _ ⟨by omega, by omega⟩
  have HXX := Lib.hid hxx
  have HYY := Lib.hid hyy
  have hs0 := lt_of_block hx.2.2
  have hred := fun W => reduced_any x y W (by omega) (by omega) (by omega) (by omega)
  have HRD := Lib.hid hred
  clear hx hW0 hred
  rw [hxx, hyy]
  go_enter Try.func43, Try.ntmps43
  go_upto_region 1 with fail
  rw [HW0.out]
  clear hxx hyy
  go_wp2_with fail
  refine (HRD.out _).mono ?_
  rintro e w5 ⟨rfl, hb5⟩
  have HB5 := Lib.hid (HB0.out.trans (hb5.mono HB0.out.size))
  have hk := (hb5.block _ hs0).trans HX.out.2.2
  have HK := Lib.hid hk
  clear hb5 hk
  go_wp2_with (refine wpList_store_row rfl 29 (.tmp 4) (.tmp 58) rfl (w.heap.size + 2) _ rfl rfl 29 _ HK.out (by kernel_rfl) rfl (fracC_all _ _) ?_)
  refine bodyPost_ret (v := fracV x y) ?_ rfl ⟨rfl, below_setRow HB5.out (by omega) _⟩
  rw [results_cell_row (ty := 29) (p := 4) rfl _ _ (w.heap.size + 2) 29 _ (0, 0) _ rfl (setRow_heap _ _ _ _ _ _ HK.out) Try.underlying29 rfl (by kernel_rfl)]
  rfl

end Go.Proofs.Ytghffnjnpgiicaa

