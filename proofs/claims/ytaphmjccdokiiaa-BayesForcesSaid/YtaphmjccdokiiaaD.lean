/- Fractions and weights. -/
import Derived.Test.YtaphmjccdokiiaaB
namespace Go.Proofs.Ytaphmjccdokiiaa
open Go.RowKit

/-- The reduced fraction num / den. -/
def fracC (num den : Int) : Array Value := #[.int .i64 (num / (Int.gcd num den : Int)), .int .i64 (den / (Int.gcd num den : Int))]
def fracV (num den : Int) : Value := .agg (fracC num den)
theorem fracC_all (num den : Int) : (fracC num den).all (·.oneCell') = true := by simp [fracC, Value.oneCell']

theorem gcd_pos {num den : Int} (h : 1 ≤ den) : 1 ≤ (Int.gcd num den : Int) := by
  have := Int.gcd_pos_of_ne_zero_right num (show den ≠ 0 by omega); omega
theorem gcd_le {num den : Int} (h : 1 ≤ den) : (Int.gcd num den : Int) ≤ den := Int.le_of_dvd (by omega) (Int.gcd_dvd_right ..)
theorem div_bd {a g : Int} (ha : 0 ≤ a) (hg : 1 ≤ g) : 0 ≤ a / g ∧ a / g ≤ a :=
  ⟨Int.ediv_nonneg ha (by omega), Int.ediv_le_self _ ha⟩

set_option maxHeartbeats 1000000 in
/-- The greatest common divisor, for a numerator that is not negative. -/
theorem cdiv_any (num den : Int) (w : World) (hn : 0 ≤ num) (hn2 : num ≤ 9223372036854775807) (hd : 1 ≤ den) (hd2 : den ≤ 9223372036854775807) :
    Calls Try.prog 72 #[.int .i64 num, .int .i64 den] w fun e w' => e = .returned (.int .i64 (Int.gcd num den : Int)) ∧ Below w.heap.size w w' := by
  have hm0 := Int.emod_nonneg num (show den ≠ 0 by omega)
  have hm1 := Int.emod_lt_of_pos num (show 0 < den by omega)
  have HG0 := Lib.hid (gcd_step num den hn (by omega))
  go_enter Try.func72, Try.ntmps72
  go_wp2
  go_quiet (fail)
  go_wp2
  go_loopw [5, 6] (fun x y wr => ∃ m n : Int, x = .int .i64 m ∧ y = .int .i64 n ∧ 0 ≤ m ∧ 0 ≤ n ∧ m ≤ 9223372036854775807 ∧ n ≤ 9223372036854775807 ∧ Int.gcd m n = Int.gcd num den ∧ Below w.heap.size w wr) (fun _ y _ => (intOf y).toNat)
  case atStart => exact ⟨den, num % den, rfl, rfl, by omega, hm0, hd2, by omega, HG0.out, below_drewN (Below.refl _ _) _⟩
  case round =>
    obtain ⟨m, n, rfl, rfl, hm, hn, hm2, hn2, hg, hb⟩ := hrel
    have H := Lib.hid hg
    have HB := Lib.hid hb
    clear hg hb
    by_cases h : 0 < n
    · have hmod := Int.emod_nonneg m (show n ≠ 0 by omega)
      have hlt := Int.emod_lt_of_pos m h
      have hne : (n != 0) = true := by rw [bne_iff_ne]; omega
      go_wp2
      go_quiet (fail)
      go_wp2
      go_roundw
      case rel => exact ⟨n, m % n, rfl, rfl, by omega, hmod, hn2, by omega, by rw [← H.out]; exact gcd_step m n hm (by omega), below_drewN HB.out _⟩
      case measure => simp [intOf]; omega
    · have h0 : n = 0 := by omega
      subst h0
      have hgm : m = (Int.gcd num den : Int) := by rw [← H.out]; simp; omega
      have HG := Lib.hid hgm
      clear hgm
      go_wp2
      go_ret
      exact ⟨ret_int (by rw [← HG.out]), HB.out⟩

set_option maxHeartbeats 1000000 in
theorem fraction_any (num den : Int) (w : World) (hn : 0 ≤ num) (hn2 : num ≤ 9223372036854775807) (hd : 1 ≤ den) (hd2 : den ≤ 9223372036854775807) :
    Calls Try.prog 47 #[.int .i64 num, .int .i64 den] w fun e w' => e = .returned (fracV num den) ∧ Below w.heap.size w w' := by
  have hm1 := gcd_pos (num := num) hd
  have hml := gcd_le (num := num) hd
  obtain ⟨m, hm⟩ : ∃ m : Int, m = (Int.gcd num den : Int) := ⟨_, rfl⟩
  have HG := Lib.hid hm
  rw [← hm] at hm1 hml
  have q1 := div_bd (a := num) (g := m) (by omega) hm1
  have q2 := div_bd (a := den) (g := m) (by omega) hm1
  clear hm
  go_enter Try.func47, Try.ntmps47
  go_wp2_with fail
  refine (cdiv_any _ _ _ (by omega) (by omega) (by omega) (by omega)).mono ?_
  rintro e w' ⟨rfl, hb⟩
  rw [← HG.out]
  have HB := Lib.hid hb
  have hc0 := hb.cell (p := ⟨w.heap.size, 0, none⟩) (by simp)
  have hc1 := hb.cell (p := ⟨w.heap.size, 1, none⟩) (by simp)
  have hf0 := hb.frozen (p := ⟨w.heap.size, 0, none⟩) (by simp)
  have hf1 := hb.frozen (p := ⟨w.heap.size, 1, none⟩) (by simp)
  simp at hc0 hc1 hf0 hf1
  clear hb
  go_wp2
  go_region
  all_goals go_wp2
  refine bodyPost_ret (v := fracV num den) ?_ rfl ⟨rfl, ?_⟩
  · obtain ⟨g0, g1⟩ := set2_cells (x := .int .i64 (num / m)) (y := .int .i64 (den / m)) hc0 hc1
    simp [results, Try.results47, go_sem, fracV, fracC, ← HG.out, g0, g1]
  · exact ((((Below.refl _ _).alloc (Nat.le_refl _) _).trans (HB.out.mono (by simp))).setCell (Nat.le_refl _) _).setCell (Nat.le_refl _) _ |>.drew

end Go.Proofs.Ytaphmjccdokiiaa
