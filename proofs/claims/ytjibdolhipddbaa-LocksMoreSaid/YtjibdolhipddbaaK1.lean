/- The law's residues. -/
import Derived.Test.YtjibdolhipddbaaE1
namespace Go.Proofs.Ytjibdolhipddbaa
open Go.RowKit

def modI (x n : Int) : Int := (x % 18446744073709551616) % n
theorem modI_bd {x n : Int} (h : 1 ≤ n) : 0 ≤ modI x n ∧ modI x n < n := ⟨Int.emod_nonneg _ (by omega), Int.emod_lt_of_pos _ (by omega)⟩
theorem modI_id {x n : Int} (h : 0 ≤ x) (h2 : x < n) (h3 : n ≤ 9223372036854775807) : modI x n = x := by
  unfold modI
  rw [Int.emod_eq_of_lt h (by omega), Int.emod_eq_of_lt h h2]

set_option maxHeartbeats 1000000 in
set_option maxRecDepth 100000 in
theorem mod_any (x n : Int) (w : World) (_hx : -9223372036854775808 ≤ x ∧ x ≤ 9223372036854775807) (hn : 1 ≤ n) (hn2 : n ≤ 9223372036854775807) :
    Calls Try.prog 29 #[.int .i64 x, .int .i64 n] w fun e w' => e = .returned (.int .i64 (modI x n)) ∧ w' = w := by
  have hb := modI_bd (x := x) hn
  have e1 : IntKind.u64.wrap x = x % 18446744073709551616 := by first | rfl | (simp [IntKind.wrap]; done) | (rw [IntKind.wrap_u64]; done) | (rw [IntKind.wrap_u64]; rfl)
  have e2 : (IntKind.u64.wrap x).tmod n = modI x n := by rw [e1, Int.tmod_eq_emod_of_nonneg (Int.emod_nonneg _ (by omega))]; rfl
  have e3 : wrap64 (x % 18446744073709551616 % n) = x % 18446744073709551616 % n := by have : modI x n = x % 18446744073709551616 % n := rfl; rw [← this]; exact IntWalk.wrap64_in _ ⟨by omega, by omega⟩
  go_enter Try.func29, Try.ntmps29
  go_wp2
  go_ret
  exact ⟨congrArg (fun z => Ending.returned (.int .i64 z)) e3, rfl⟩

end Go.Proofs.Ytjibdolhipddbaa
