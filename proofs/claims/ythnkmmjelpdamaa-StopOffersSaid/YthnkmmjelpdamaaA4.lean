/- Small functions: the reference's fractions, comparisons, mod, sums. -/
import Derived.Test.YthnkmmjelpdamaaA3
namespace Go.Proofs.Ythnkmmjelpdamaa
open Go.RowKit

set_option maxHeartbeats 1000000 in
theorem refGcd_any (a b : Int) (w : World) (ha : 0 ≤ a) (ha2 : a ≤ 9223372036854775807) (hb : 0 ≤ b) (hb2 : b ≤ 9223372036854775807) :
    Calls Try.prog 75 #[.int .i64 a, .int .i64 b] w fun e w' => e = .returned (.int .i64 (Int.gcd a b : Int)) ∧ w = w' := by
  go_enter Try.func75, Try.ntmps75
  go_wp2
  go_loop [0, 1, 5] (fun x y _ => ∃ m n : Int, x = .int .i64 m ∧ y = .int .i64 n ∧ 0 ≤ m ∧ 0 ≤ n ∧ m ≤ 9223372036854775807 ∧ n ≤ 9223372036854775807 ∧ Int.gcd m n = Int.gcd a b) (fun _ y _ => (intOf y).toNat)
  case atStart => exact ⟨a, b, rfl, rfl, ha, hb, ha2, hb2, rfl⟩
  case round =>
    obtain ⟨m, n, rfl, rfl, hm, hn, hm2, hn2, hg⟩ := hrel
    have H := Lib.hid hg
    clear hg
    by_cases h : 0 < n
    · have hmod := Int.emod_nonneg m (show n ≠ 0 by omega)
      have hlt := Int.emod_lt_of_pos m h
      go_wp2
      go_round
      case rel => exact ⟨n, m % n, rfl, rfl, by omega, hmod, hn2, by omega, by rw [← H.out]; exact gcd_step m n hm hn⟩
      case measure => simp [intOf]; omega
    · have h0 : n = 0 := by omega
      subst h0
      have hgm : m = (Int.gcd a b : Int) := by rw [← H.out]; simp; omega
      have HG := Lib.hid hgm
      clear hgm
      go_wp2
      go_ret
      exact ⟨ret_int (by rw [← HG.out]), rfl⟩

set_option maxHeartbeats 1000000 in
theorem reduced_any (num den : Int) (w : World) (hn : -9223372036854775807 ≤ num) (hn2 : num ≤ 9223372036854775807) (hd : 1 ≤ den) (hd2 : den ≤ 9223372036854775807) :
    Calls Try.prog 60 #[.int .i64 num, .int .i64 den] w fun e w' => e = .returned (fracV num den) ∧ Below w.heap.size w w' := by
  have hm1 := gcd_pos (num := num) hd
  obtain ⟨p1, p2, p3, p4⟩ := frac_quo (num := num) (den := den) (by omega) hn2 hd hd2
  have hcd : ∀ W, Calls Try.prog 75 #[.int .i64 (num.natAbs : Int), .int .i64 den] W fun e w' => e = .returned (.int .i64 (Int.gcd num den : Int)) ∧ W = w' := fun W => by
    have := refGcd_any (num.natAbs : Int) den W (by omega) (by omega) (by omega) hd2
    exact this
  obtain ⟨m, hm⟩ : ∃ m : Int, (Int.gcd num den : Int) = m := ⟨_, rfl⟩
  obtain ⟨a, ha⟩ : ∃ a, num / (Int.gcd num den : Int) = a := ⟨_, rfl⟩
  obtain ⟨b, hb⟩ : ∃ b, den / (Int.gcd num den : Int) = b := ⟨_, rfl⟩
  have HF : Hid (fracV num den = .agg #[.int .i64 a, .int .i64 b]) := by show fracV num den = _; rw [fracV, fracC, ha, hb]
  rw [ha] at p1 p3
  rw [hb] at p2 p4
  rw [hm] at hm1 p1 p2 hcd
  have p5 : den / m = b := by rw [← hm]; exact hb
  have w1 : wrap64 a = a := IntWalk.wrap64_in _ ⟨by omega, by omega⟩
  have w2 : wrap64 b = b := IntWalk.wrap64_in _ ⟨by omega, by omega⟩
  have w3 : IntKind.i64.wrap a = a := IntWalk.i64_in _ (by omega)
  have w4 : IntKind.i64.wrap b = b := IntWalk.i64_in _ (by omega)
  have hm0 : ¬ m = 0 := by omega
  have HCD := Lib.hid hcd
  have HW := Lib.hid (And.intro w1 (And.intro w2 (And.intro w3 (And.intro w4 (And.intro p1 (And.intro p2 p5))))))
  have hc0 : (w.alloc (.cells #[.int .i64 0, .int .i64 0] 47)).cell? ⟨w.heap.size, 0, none⟩ = some (.int .i64 0) := by simp
  have hc1 : (w.alloc (.cells #[.int .i64 0, .int .i64 0] 47)).cell? ⟨w.heap.size, 1, none⟩ = some (.int .i64 0) := by simp
  rw [HF.out]
  clear hm ha hb w1 w2 w3 w4 p1 p2 p5 hcd
  by_cases hs : 0 ≤ num
  · have e1 : (num.natAbs : Int) = num := by omega
    rw [e1] at HCD
    clear e1
    go_enter Try.func60, Try.ntmps60
    go_wp2_with (go_at_call 75; refine (HCD.out _).mono ?_; rintro e w' ⟨rfl, rfl⟩)
    obtain ⟨w1, w2, w3, w4, p1, p2, p5⟩ := HW.out
    go_region
    all_goals go_wp2
    refine bodyPost_ret (v := .agg #[.int .i64 a, .int .i64 b]) ?_ rfl ⟨rfl, ?_⟩
    · simp [results, Try.results60, go_sem]
    · exact ((Below.refl _ _).alloc (Nat.le_refl _) _).drew
  · have e1 : (num.natAbs : Int) = -num := by omega
    rw [e1] at HCD
    clear e1
    go_enter Try.func60, Try.ntmps60
    go_wp2_with (go_at_call 75; refine (HCD.out _).mono ?_; rintro e w' ⟨rfl, rfl⟩)
    obtain ⟨w1, w2, w3, w4, p1, p2, p5⟩ := HW.out
    go_region
    all_goals go_wp2
    refine bodyPost_ret (v := .agg #[.int .i64 a, .int .i64 b]) ?_ rfl ⟨rfl, ?_⟩
    · simp [results, Try.results60, go_sem]
    · exact ((Below.refl _ _).alloc (Nat.le_refl _) _).drew

/-- a/b is less than c/d, as it is computed. -/
def lessB (a b c d : Int) : Bool := decide (wrap64 (a * d) < wrap64 (c * b))

theorem less_any (a b c d : Int) (w : World) :
    Calls Try.prog 45 #[.agg #[.int .i64 a, .int .i64 b], .agg #[.int .i64 c, .int .i64 d]] w fun e w' => e = .returned (.bool (lessB a b c d)) ∧ Below w.heap.size w w' := by
  go_enter Try.func45, Try.ntmps45
  go_wp2
  go_ret
  exact ⟨rfl, ((Below.refl _ _).alloc (Nat.le_refl _) _).alloc (by simp) _⟩
theorem isLess_any (a b c d : Int) (w : World) :
    Calls Try.prog 71 #[.agg #[.int .i64 a, .int .i64 b], .agg #[.int .i64 c, .int .i64 d]] w fun e w' => e = .returned (.bool (lessB a b c d)) ∧ Below w.heap.size w w' := by
  go_enter Try.func71, Try.ntmps71
  go_wp2
  go_ret
  exact ⟨rfl, ((Below.refl _ _).alloc (Nat.le_refl _) _).alloc (by simp) _⟩

def modI (x n : Int) : Int := (x % 18446744073709551616) % n
theorem modI_bd {x n : Int} (h : 1 ≤ n) : 0 ≤ modI x n ∧ modI x n < n := ⟨Int.emod_nonneg _ (by omega), Int.emod_lt_of_pos _ (by omega)⟩

set_option maxHeartbeats 1000000 in
set_option maxRecDepth 100000 in
theorem mod_any (x n : Int) (w : World) (hx : -9223372036854775808 ≤ x ∧ x ≤ 9223372036854775807) (hn : 1 ≤ n) (hn2 : n ≤ 9223372036854775807) :
    Calls Try.prog 43 #[.int .i64 x, .int .i64 n] w fun e w' => e = .returned (.int .i64 (modI x n)) ∧ w' = w := by
  have hb := modI_bd (x := x) hn
  have e1 : IntKind.u64.wrap x = x % 18446744073709551616 := by first | rfl | (simp [IntKind.wrap]; done) | (rw [IntKind.wrap_u64]; done) | (rw [IntKind.wrap_u64]; rfl)
  have e2 : (IntKind.u64.wrap x).tmod n = modI x n := by rw [e1, Int.tmod_eq_emod_of_nonneg (Int.emod_nonneg _ (by omega))]; rfl
  have e3 : wrap64 (x % 18446744073709551616 % n) = x % 18446744073709551616 % n := by have : modI x n = x % 18446744073709551616 % n := rfl; rw [← this]; exact IntWalk.wrap64_in _ ⟨by omega, by omega⟩
  go_enter Try.func43, Try.ntmps43
  go_wp2
  go_ret
  exact ⟨congrArg (fun z => Ending.returned (.int .i64 z)) e3, rfl⟩

end Go.Proofs.Ythnkmmjelpdamaa
