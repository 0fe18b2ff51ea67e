/- Fractions and weights. -/
import Derived.Test.YtikegiojfeemmaaB
namespace Go.Proofs.Ytikegiojfeemmaa
open Go.RowKit

/-- The reduced fraction num / den. -/
def fracC (num den : Int) : Array Value := #[.int .i64 (num / (Int.gcd num den : Int)), .int .i64 (den / (Int.gcd num den : Int))]
def fracV (num den : Int) : Value := .agg (fracC num den)
theorem fracC_all (num den : Int) : (fracC num den).all (·.oneCell') = true := by simp [fracC, Value.oneCell']

theorem gcd_pos {num den : Int} (h : 1 ≤ den) : 1 ≤ (Int.gcd num den : Int) := by
  have := Int.gcd_pos_of_ne_zero_right num (show den ≠ 0 by omega); omega
theorem gcd_le {num den : Int} (h : 1 ≤ den) : (Int.gcd num den : Int) ≤ den := Int.le_of_dvd (by omega) (Int.gcd_dvd_right ..)
theorem div_bd {a g : Int} (ha : 0 ≤ a) (hg : 1 ≤ g) : 0 ≤ a / g ∧ a / g ≤ a :=
  ⟨Int.ediv_nonneg ha (by omega), Int.ediv_le_self _ ha⟩

set_option maxHeartbeats 1000000 in
theorem fraction_any (num den : Int) (w : World) (hn : 0 ≤ num) (hn2 : num ≤ 9223372036854775807) (hd : 1 ≤ den) (hd2 : den ≤ 9223372036854775807) :
    Calls Try.prog 47 #[.int .i64 num, .int .i64 den] w fun e w' => e = .returned (fracV num den) ∧ Below w.heap.size w w' := by
  go_enter Try.func47, Try.ntmps47
  go_wp2
  go_loopw [5, 6] (fun x y wr => ∃ m n : Int, x = .int .i64 m ∧ y = .int .i64 n ∧ 0 ≤ m ∧ 0 ≤ n ∧ m ≤ 9223372036854775807 ∧ n ≤ 9223372036854775807 ∧ Int.gcd m n = Int.gcd num den ∧ Below (w.heap.size + 1) (w.alloc (.cells #[.int .i64 0, .int .i64 0] 29)) wr) (fun _ y _ => (intOf y).toNat)
  case atStart => exact ⟨den, num, rfl, rfl, by omega, hn, hd2, hn2, Int.gcd_comm _ _, Below.refl _ _⟩
  case round =>
    obtain ⟨m, n, rfl, rfl, hm, hn, hm2, hn2, hg, hb⟩ := hrel
    have H := Lib.hid hg
    have HB := Lib.hid hb
    clear hg hb
    by_cases h : 0 < n
    · have hmod := Int.emod_nonneg m (show n ≠ 0 by omega)
      have hlt := Int.emod_lt_of_pos m h
      have hne : (n != 0) = true := by rw [bne_iff_ne]; omega
      go_wp2
      go_quiet (fail)
      go_wp2
      go_roundw
      case rel => exact ⟨n, m % n, rfl, rfl, by omega, hmod, hn2, by omega, by rw [← H.out]; exact gcd_step m n hm (by omega), below_drewN HB.out _⟩
      case measure => simp [intOf]; omega
    · have h0 : n = 0 := by omega
      subst h0
      have hgm : m = (Int.gcd num den : Int) := by rw [← H.out]; simp; omega
      have HG := Lib.hid hgm
      have hm1 : 1 ≤ m := by rw [hgm]; exact gcd_pos hd
      have q1 := div_bd (a := num) (g := m) (by omega) hm1
      have q2 := div_bd (a := den) (g := m) (by omega) hm1
      have hc0 := HB.out.cell (p := ⟨w.heap.size, 0, none⟩) (by show w.heap.size < w.heap.size + 1; omega)
      have hc1 := HB.out.cell (p := ⟨w.heap.size, 1, none⟩) (by show w.heap.size < w.heap.size + 1; omega)
      have hf0 := HB.out.frozen (p := ⟨w.heap.size, 0, none⟩) (by show w.heap.size < w.heap.size + 1; omega)
      have hf1 := HB.out.frozen (p := ⟨w.heap.size, 1, none⟩) (by show w.heap.size < w.heap.size + 1; omega)
      simp at hc0 hc1 hf0 hf1
      clear hgm
      go_wp2
      go_region
      all_goals go_wp2
      refine bodyPost_ret (v := fracV num den) ?_ rfl ⟨rfl, ?_⟩
      · obtain ⟨g0, g1⟩ := set2_cells (x := .int .i64 (num / m)) (y := .int .i64 (den / m)) hc0 hc1
        simp [results, Try.results47, go_sem, fracV, fracC, ← HG.out, g0, g1]
      · exact ((((Below.refl _ _).alloc (Nat.le_refl _) _).trans (HB.out.mono (by omega))).setCell (Nat.le_refl _) _).setCell (Nat.le_refl _) _ |>.drew

end Go.Proofs.Ytikegiojfeemmaa
