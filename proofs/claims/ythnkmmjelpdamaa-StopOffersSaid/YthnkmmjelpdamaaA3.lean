/- Fractions made: the program's, and the reference's. -/
import Derived.Test.YthnkmmjelpdamaaA2
namespace Go.Proofs.Ythnkmmjelpdamaa
open Go.RowKit

/-- The parts of a reduced fraction, as they are computed. -/
theorem frac_quo {num den : Int} (hn : -9223372036854775808 ≤ num) (hn2 : num ≤ 9223372036854775807) (hd : 1 ≤ den) (hd2 : den ≤ 9223372036854775807) :
    num.tdiv (Int.gcd num den : Int) = num / (Int.gcd num den : Int) ∧ den.tdiv (Int.gcd num den : Int) = den / (Int.gcd num den : Int) ∧
      (-9223372036854775808 ≤ num / (Int.gcd num den : Int) ∧ num / (Int.gcd num den : Int) ≤ 9223372036854775807) ∧ 1 ≤ den / (Int.gcd num den : Int) ∧ den / (Int.gcd num den : Int) ≤ 9223372036854775807 := by
  have hg := gcd_pos (num := num) hd
  have h1 := Int.gcd_dvd_left (a := num) (b := den)
  have h2 := Int.gcd_dvd_right (a := num) (b := den)
  refine ⟨Int.tdiv_eq_ediv_of_dvd h1, Int.tdiv_eq_ediv_of_dvd h2, ?_⟩
  obtain ⟨g, hgg⟩ : ∃ g : Int, (Int.gcd num den : Int) = g := ⟨_, rfl⟩
  rw [hgg] at hg h1 h2 ⊢
  obtain ⟨a, ha⟩ := h1
  obtain ⟨d, hdd⟩ := h2
  have ea : num / g = a := by rw [ha]; exact Int.mul_ediv_cancel_left _ (by omega)
  have ed : den / g = d := by rw [hdd]; exact Int.mul_ediv_cancel_left _ (by omega)
  rw [ea, ed]
  have hd1 : 1 ≤ d := by
    rcases Int.lt_or_le 0 d with h | h
    · omega
    · have := Int.mul_nonneg (a := g) (b := -d) (by omega) (by omega)
      rw [Int.mul_neg] at this
      omega
  have hd3 : d ≤ den := by
    have := Int.mul_le_mul_of_nonneg_right (a := 1) (b := g) (c := d) (by omega) (by omega)
    omega
  refine ⟨?_, hd1, by omega⟩
  rcases Int.lt_or_le a 0 with h | h
  · have := Int.mul_le_mul_of_nonneg_right (a := 1) (b := g) (c := -a) (by omega) (by omega)
    simp only [Int.mul_neg, Int.one_mul] at this
    omega
  · have := Int.mul_le_mul_of_nonneg_right (a := 1) (b := g) (c := a) (by omega) (by omega)
    omega

set_option maxHeartbeats 1000000 in
theorem fraction_any (num den : Int) (w : World) (hn : -9223372036854775808 ≤ num) (hn2 : num ≤ 9223372036854775807) (hd : 1 ≤ den) (hd2 : den ≤ 9223372036854775807) :
    Calls Try.prog 50 #[.int .i64 num, .int .i64 den] w fun e w' => e = .returned (fracV num den) ∧ Below w.heap.size w w' := by
  have hm1 := gcd_pos (num := num) hd
  obtain ⟨p1, p2, p3, p4⟩ := frac_quo hn hn2 hd hd2
  have hcd := fun W => cdiv_any num den W hn hn2 hd hd2
  obtain ⟨m, hm⟩ : ∃ m : Int, (Int.gcd num den : Int) = m := ⟨_, rfl⟩
  obtain ⟨a, ha⟩ : ∃ a, num / (Int.gcd num den : Int) = a := ⟨_, rfl⟩
  obtain ⟨b, hb⟩ : ∃ b, den / (Int.gcd num den : Int) = b := ⟨_, rfl⟩
  have HF : Hid (fracV num den = .agg #[.int .i64 a, .int .i64 b]) := by show fracV num den = _; rw [fracV, fracC, ha, hb]
  rw [ha] at p1 p3
  rw [hb] at p2 p4
  rw [hm] at hm1 p1 p2 hcd
  have p5 : den / m = b := by rw [← hm]; exact hb
  have w1 : wrap64 a = a := IntWalk.wrap64_in _ ⟨by omega, by omega⟩
  have w2 : wrap64 b = b := IntWalk.wrap64_in _ ⟨by omega, by omega⟩
  have w3 : IntKind.i64.wrap a = a := IntWalk.i64_in _ (by omega)
  have w4 : IntKind.i64.wrap b = b := IntWalk.i64_in _ (by omega)
  have hm0 : ¬ m = 0 := by omega
  have HCD := Lib.hid hcd
  have HW := Lib.hid (And.intro w1 (And.intro w2 (And.intro w3 (And.intro w4 (And.intro p1 (And.intro p2 p5))))))
  rw [HF.out]
  clear hm ha hb w1 w2 w3 w4 p1 p2 p5 hcd
  go_enter Try.func50, Try.ntmps50
  go_wp2_with fail
  refine (HCD.out _).mono ?_
  rintro e w' ⟨rfl, hb⟩
  have HB := Lib.hid hb
  have hc0 := hb.cell (p := ⟨w.heap.size, 0, none⟩) (by simp)
  have hc1 := hb.cell (p := ⟨w.heap.size, 1, none⟩) (by simp)
  have hf0 := hb.frozen (p := ⟨w.heap.size, 0, none⟩) (by simp)
  have hf1 := hb.frozen (p := ⟨w.heap.size, 1, none⟩) (by simp)
  simp at hc0 hc1 hf0 hf1
  obtain ⟨w1, w2, w3, w4, p1, p2, p5⟩ := HW.out
  clear hb
  go_wp2
  go_region
  all_goals go_wp2
  refine bodyPost_ret (v := .agg #[.int .i64 a, .int .i64 b]) ?_ rfl ⟨rfl, ?_⟩
  · obtain ⟨g0, g1⟩ := set2_cells (x := .int .i64 a) (y := .int .i64 b) hc0 hc1
    simp [results, Try.results50, go_sem, g0, g1]
  · exact ((((Below.refl _ _).alloc (Nat.le_refl _) _).trans (HB.out.mono (by simp))).setCell (Nat.le_refl _) _).setCell (Nat.le_refl _) _ |>.drew

end Go.Proofs.Ythnkmmjelpdamaa
