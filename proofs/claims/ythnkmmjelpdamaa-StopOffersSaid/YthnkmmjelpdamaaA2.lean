/- Fractions, of numerators of both signs. -/
import Derived.Test.YthnkmmjelpdamaaA1
namespace Go.Proofs.Ythnkmmjelpdamaa
open Go.RowKit

/-- The reduced fraction num / den. -/
def fracC (num den : Int) : Array Value := #[.int .i64 (num / (Int.gcd num den : Int)), .int .i64 (den / (Int.gcd num den : Int))]
def fracV (num den : Int) : Value := .agg (fracC num den)
theorem fracC_all (num den : Int) : (fracC num den).all (·.oneCell') = true := by simp [fracC, Value.oneCell']
def zeroF : Value := .agg #[.int .i64 0, .int .i64 0]

theorem gcd_pos {num den : Int} (h : 1 ≤ den) : 1 ≤ (Int.gcd num den : Int) := by
  have := Int.gcd_pos_of_ne_zero_right num (show den ≠ 0 by omega); omega
theorem gcd_le {num den : Int} (h : 1 ≤ den) : (Int.gcd num den : Int) ≤ den := Int.le_of_dvd (by omega) (Int.gcd_dvd_right ..)

theorem gcd_tmod (m n : Int) : Int.gcd n (m.tmod n) = Int.gcd m n := by
  show Nat.gcd n.natAbs (m.tmod n).natAbs = Nat.gcd m.natAbs n.natAbs
  rw [Int.natAbs_tmod, Nat.gcd_comm m.natAbs, Nat.gcd_rec n.natAbs m.natAbs, Nat.gcd_comm]

theorem tmod_bd (m : Int) {n : Int} (h : n ≠ 0) : -(n.natAbs : Int) < m.tmod n ∧ m.tmod n < (n.natAbs : Int) := by
  have h1 := Int.natAbs_tmod m n
  have h2 := Nat.mod_lt m.natAbs (show 0 < n.natAbs by omega)
  omega

set_option maxHeartbeats 1000000 in
/-- The greatest common divisor. -/
theorem cdiv_any (num den : Int) (w : World) (hn : -9223372036854775808 ≤ num) (hn2 : num ≤ 9223372036854775807) (hd : 1 ≤ den) (hd2 : den ≤ 9223372036854775807) :
    Calls Try.prog 72 #[.int .i64 num, .int .i64 den] w fun e w' => e = .returned (.int .i64 (Int.gcd num den : Int)) ∧ Below w.heap.size w w' := by
  have hb0 := tmod_bd num (show den ≠ 0 by omega)
  have hg0 := gcd_tmod num den
  obtain ⟨r, hr⟩ : ∃ r, num.tmod den = r := ⟨_, rfl⟩
  rw [hr] at hb0 hg0
  have HG0 := Lib.hid hg0
  have hw0 : wrap64 r = r := IntWalk.wrap64_in _ ⟨by omega, by omega⟩
  have hnz : ¬ den = 0 := by omega
  clear hg0
  go_enter Try.func72, Try.ntmps72
  go_wp2
  go_quiet (fail)
  go_wp2
  clear hr hw0
  go_loopw [5, 6] (fun x y wr => ∃ m n : Int, x = .int .i64 m ∧ y = .int .i64 n ∧ (-9223372036854775807 ≤ m ∧ m ≤ 9223372036854775807) ∧ (-9223372036854775807 ≤ n ∧ n ≤ 9223372036854775807) ∧ Int.gcd m n = Int.gcd num den ∧ Below w.heap.size w wr) (fun _ y _ => (intOf y).natAbs)
  case atStart => exact ⟨den, r, rfl, rfl, by omega, by omega, HG0.out, below_drewN (Below.refl _ _) _⟩
  case round =>
    obtain ⟨m, n, rfl, rfl, hm, hn, hg, hb⟩ := hrel
    have H := Lib.hid hg
    have HB := Lib.hid hb
    clear hg hb
    by_cases h : n = 0
    · subst h
      have hgm : (m.natAbs : Int) = (Int.gcd num den : Int) := by rw [← H.out]; simp
      have HG := Lib.hid hgm
      clear hgm
      have hw : wrap64 (-m) = -m := IntWalk.wrap64_in _ ⟨by omega, by omega⟩
      by_cases h0 : 0 ≤ m
      · go_wp2
        go_ret
        exact ⟨ret_int (by rw [← HG.out]; omega), HB.out⟩
      · go_wp2
        go_ret
        exact ⟨ret_int (by rw [← HG.out]; omega), HB.out⟩
    · have hne : (n != 0) = true := by rw [bne_iff_ne]; exact h
      have hb1 := tmod_bd m h
      have hg1 := gcd_tmod m n
      obtain ⟨r1, hr1⟩ : ∃ r1, m.tmod n = r1 := ⟨_, rfl⟩
      rw [hr1] at hb1 hg1
      have HG1 := Lib.hid hg1
      have hw1 : wrap64 r1 = r1 := IntWalk.wrap64_in _ ⟨by omega, by omega⟩
      clear hg1
      go_wp2
      go_quiet (fail)
      go_wp2
      go_roundw
      case rel => exact ⟨n, r1, rfl, rfl, by omega, by omega, by rw [← H.out]; exact HG1.out, below_drewN HB.out _⟩
      case measure => simp [intOf]; omega

end Go.Proofs.Ythnkmmjelpdamaa
