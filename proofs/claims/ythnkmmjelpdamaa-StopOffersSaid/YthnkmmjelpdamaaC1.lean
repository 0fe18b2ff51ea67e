/- bestValues, in the plain form, of rules by number; Best of what is no chain. -/
import Derived.Test.YthnkmmjelpdamaaB9
namespace Go.Proofs.Ythnkmmjelpdamaa
open Go.RowKit

theorem ruleB_mod (n k : Nat) : ruleB n (k % 2 ^ n) = ruleB n k := by
  funext s
  show (decide (s < n) && decide (k % 2 ^ n / 2 ^ s % 2 = 1)) = (decide (s < n) && decide (k / 2 ^ s % 2 = 1))
  by_cases h : s < n
  · have e : k % 2 ^ n / 2 ^ s % 2 = k / 2 ^ s % 2 := by
      obtain ⟨m, rfl⟩ : ∃ m, n = s + 1 + m := ⟨n - (s + 1), by omega⟩
      rw [Nat.pow_add, Nat.pow_succ, Nat.mul_assoc, Nat.mod_mul_right_div_self, Nat.mod_mul_right_mod]
    rw [e]
  · simp [h]

theorem bestValues_any (N : List (List Int)) (P C : List Int) (v : Value) (w : World) (h : ChainAt w v N P C) (hc : IsChain N P C) (hok : ∀ x, x < 2 ^ N.length → soundB N (ruleB N.length x) = true → SolveOk (eqF N P C (ruleB N.length x))) :
    Calls Try.prog 49 #[v] w fun e w' => e = .returned (.agg (vC (bestF N P C))) ∧ Below w.heap.size w w' :=
  callsIn_wide.1 (bestValues_in N P C v w h hc fun x hx => by
    have := hok (x % 2 ^ N.length) (Nat.mod_lt _ (Nat.two_pow_pos _))
    rw [ruleB_mod] at this
    exact this hx)

set_option maxHeartbeats 1000000 in
theorem best_no (N : List (List Int)) (P C : List Int) (v : Value) (w : World) (h : ChainAt w v N P C) (hc : ¬ IsChain N P C) :
    Calls Try.prog 16 #[v] w fun e w' => e = .returned (.tuple #[.slice none 0 0, .slice none 0 0, .int .i64 2]) ∧ Below w.heap.size w w' := by
  obtain ⟨na, nb, no, nc, A, B, O, D, pa, pb, po, pc, ca, cb, co, cc, hv, hN, hP, hC⟩ := h.ex
  obtain ⟨wa, hwa⟩ : ∃ wa, w.alloc (.cells #[.slice na N.length nc, .slice pa P.length pc, .slice ca C.length cc] 25) = wa := ⟨_, rfl⟩
  have HB : Hid (Below w.heap.size w wa) := by rw [← hwa]; exact (Below.refl _ _).alloc (Nat.le_refl _) _
  obtain ⟨c0, c1, c2⟩ := cells_of3 (heap_alloc_new w (.cells #[.slice na N.length nc, .slice pa P.length pc, .slice ca C.length cc] 25))
  have HS := Lib.hid (isChain_any N P C v wa (h.below HB.out (Nat.le_refl _)))
  rw [hwa] at c0 c1 c2
  rw [hv] at HS ⊢
  rw [not_chain hc] at HS
  have HWA := Lib.hid hwa
  clear hwa h hN hP hC hc hv
  go_enter Try.func16, Try.ntmps16
  go_upto_region 1 with fail
  rw [HWA.out]
  go_wp2_with fail
  refine HS.out.mono ?_
  rintro e w' ⟨rfl, hb⟩
  have HB2 := Lib.hid (HB.out.trans (hb.mono HB.out.size))
  clear hb
  go_wp2
  refine bodyPost_ret (v := .tuple #[.slice none 0 0, .slice none 0 0, .int .i64 2]) ?_ rfl ⟨rfl, HB2.out⟩
  simp [results, Try.results16, go_sem]

end Go.Proofs.Ythnkmmjelpdamaa
