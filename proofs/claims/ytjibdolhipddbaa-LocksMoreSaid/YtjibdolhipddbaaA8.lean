/- The greatest depth of a colouring; which colourings are struck. -/
import Derived.Test.YtjibdolhipddbaaA7
import Derived.StillTailTactics
namespace Go.Proofs.Ytjibdolhipddbaa
open Go.RowKit

/-- The greatest of the first n + 1 depths. -/
def mxF (c : Nat → Int) : Nat → Int
  | 0 => c 0
  | n + 1 => if mxF c n < c (n + 1) then c (n + 1) else mxF c n

set_option maxHeartbeats 4000000 in
set_option maxRecDepth 100000 in
theorem max_any (c : Nat → Int) (b : Nat) (w : World) (h : w.heap[b]? = some (.cells (colC c) 84 (0, 0))) :
    Calls Try.prog 59 #[.slice (some ⟨b, 0, none⟩) 6 6] w fun e w' => e = .returned (.int .i64 (mxF c 5)) ∧ w' = w := by
  have H := Lib.hid h
  have c0 := (colC_cell h (show 0 < 6 by omega)).1
  clear h
  go_enter Try.func59, Try.ntmps59
  go_wp2
  go_loop [3, 4] (fun m x => ∃ i : Nat, i ≤ 5 ∧ x = .int .i64 (i + 1 : Nat) ∧ m = .int .i64 (mxF c i)) (fun _ x => 6 - (intOf x).toNat)
  case atStart => exact ⟨0, by omega, rfl, rfl⟩
  case round =>
    obtain ⟨i, hi, rfl, rfl⟩ := hrel
    by_cases hlt : i < 5
    · have c1 := (colC_cell H.out (show i + 1 < 6 by omega)).1
      obtain ⟨x, hx⟩ : ∃ x, c (i + 1) = x := ⟨_, rfl⟩
      rw [hx] at c1
      have HX := Lib.hid hx
      clear hx
      have HM := Lib.hid (show mxF c (i + 1) = if mxF c i < x then x else mxF c i by rw [mxF, HX.out])
      go_wp2
      go_round
      case rel => exact ⟨i + 1, by omega, by go_num, by rw [HM.out]⟩
      case measure => simp [intOf]; omega
    · have hi5 : i = 5 := by omega
      subst hi5
      go_wp2
      go_ret
      exact ⟨rfl, rfl⟩

/-- Whether a colouring is struck. -/
def delF (k d : Int) (c : Nat → Int) : Bool := decide (mxF c 5 < if d < k then d else k)

set_option maxHeartbeats 4000000 in
set_option maxRecDepth 100000 in
theorem struck_any (k d : Int) (c : Nat → Int) (p q : Nat) (w : World) (hp : w.cell? ⟨p, 0, none⟩ = some (.int .i64 k)) (hq : w.cell? ⟨q, 0, none⟩ = some (.int .i64 d)) (hpw : p < w.heap.size) (hqw : q < w.heap.size) :
    Calls Try.prog 58 #[colV c, .pointer (some ⟨p, 0, none⟩), .pointer (some ⟨q, 0, none⟩)] w fun e w' => e = .returned (.bool (delF k d c)) ∧ Below w.heap.size w w' := by
  have HB := Lib.hid ((Below.refl _ w).alloc (Nat.le_refl _) (.cells (colC c) 84))
  have hp' := HB.out.cell (p := ⟨p, 0, none⟩) hpw
  have hq' := HB.out.cell (p := ⟨q, 0, none⟩) hqw
  rw [hp] at hp'
  rw [hq] at hq'
  have H0 := Lib.hid (heap_alloc_new w (.cells (colC c) 84))
  obtain ⟨wa, hwa⟩ : ∃ wa, w.alloc (.cells (colC c) 84) = wa := ⟨_, rfl⟩
  rw [hwa] at HB hp' hq' H0
  have HWA := Lib.hid hwa
  have HM := Lib.hid (fun n => max_any c w.heap.size (wa.drewN n) H0.out)
  clear hwa hp hq hpw hqw
  show Calls _ _ #[.agg (colC c), _, _] _ _
  go_enter Try.func58, Try.ntmps58
  go_upto_region 1 with fail
  rw [HWA.out]
  go_quiet (exact Calls.quiet_of_same (HM.out _))
  obtain ⟨m, hm⟩ : ∃ m, (if d < k then d else k) = m := ⟨_, rfl⟩
  have HD := Lib.hid (show decide (mxF c 5 < m) = delF k d c by rw [← hm]; rfl)
  rw [hm]
  clear hm
  go_wp2
  go_ret
  exact ⟨ret_bool HD.out, below_drewN HB.out _⟩

end Go.Proofs.Ytjibdolhipddbaa
