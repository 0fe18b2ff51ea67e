/- Small functions. -/
import Derived.Test.YtaphmjccdokiiaaRows
import Derived.Test.YtaphmjccdokiiaaM
import Derived.WalkKit
import Derived.WalkSpells
import Derived.WalkLawsBesides
import Derived.Deep.LoopGhost
import Derived.Deep.QuietTactic
import Derived.BigQuiet
import Derived.Lib.Hide
namespace Go.Proofs.Ytaphmjccdokiiaa
open Go.RowKit

def isVar (v c : Int) : Bool := decide (0 ≤ v ∧ v < c)
def isVal (v : Int) : Bool := decide (v = 0 ∨ v = 1)

set_option maxHeartbeats 400000 in
theorem isVariable_any (v c : Int) (w : World) :
    Calls Try.prog 58 #[.int .i64 v, .int .i64 c] w fun e w' => e = .returned (.bool (isVar v c)) ∧ w = w' := by
  by_cases h : 0 ≤ v
  · by_cases h2 : v < c
    · go_enter Try.func58, Try.ntmps58
      go_wp2
      go_ret
      exact ⟨by simp [isVar, h, h2], rfl⟩
    · go_enter Try.func58, Try.ntmps58
      go_wp2
      go_ret
      exact ⟨by simp [isVar, h]; omega, rfl⟩
  · go_enter Try.func58, Try.ntmps58
    go_wp2
    go_ret
    exact ⟨by simp [isVar]; omega, rfl⟩

set_option maxHeartbeats 400000 in
theorem isValue_any (v : Int) (w : World) :
    Calls Try.prog 66 #[.int .i64 v] w fun e w' => e = .returned (.bool (isVal v)) ∧ w = w' := by
  by_cases h : v = 0
  · subst h
    go_enter Try.func66, Try.ntmps66
    go_wp2
    go_ret
    exact ⟨by simp [isVal], rfl⟩
  · by_cases h2 : v = 1
    · subst h2
      go_enter Try.func66, Try.ntmps66
      go_wp2
      go_ret
      exact ⟨by simp [isVal], rfl⟩
    · go_enter Try.func66, Try.ntmps66
      go_wp2
      go_ret
      exact ⟨by simp [isVal, h, h2], rfl⟩

set_option maxHeartbeats 400000 in
theorem refGcd_any (a b : Int) (w : World) (ha : 0 ≤ a) (hb : 0 ≤ b) (ha2 : a ≤ 9223372036854775807) (hb2 : b ≤ 9223372036854775807) :
    Calls Try.prog 68 #[.int .i64 a, .int .i64 b] w fun e w' => e = .returned (.int .i64 (Int.gcd a b)) ∧ w = w' := by
  go_enter Try.func68, Try.ntmps68
  go_wp2
  go_loop [0, 1, 5] (fun x y _ => ∃ m n : Int, x = .int .i64 m ∧ y = .int .i64 n ∧ 0 ≤ m ∧ 0 ≤ n ∧ m ≤ 9223372036854775807 ∧ n ≤ 9223372036854775807 ∧ Int.gcd m n = Int.gcd a b) (fun _ y _ => (intOf y).toNat)
  case atStart => exact ⟨a, b, rfl, rfl, ha, hb, ha2, hb2, rfl⟩
  case round =>
    obtain ⟨m, n, rfl, rfl, hm, hn, hm2, hn2, hg⟩ := hrel
    have H := Lib.hid hg
    clear hg
    by_cases h : 0 < n
    · have hmod := Int.emod_nonneg m (show n ≠ 0 by omega)
      have hlt := Int.emod_lt_of_pos m h
      go_wp2
      go_round
      case rel => exact ⟨n, m % n, rfl, rfl, hn, hmod, hn2, by omega, by rw [← H.out]; exact gcd_step m n hm hn⟩
      case measure => simp [intOf]; omega
    · have h0 : n = 0 := by omega
      subst h0
      go_wp2
      go_ret
      exact ⟨by rw [← H.out]; simp; omega, rfl⟩

end Go.Proofs.Ytaphmjccdokiiaa
