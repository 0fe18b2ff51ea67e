/- The fixed network: awake is true; the walk. -/
import Derived.Test.YtaphmjccdokiiaaCa
namespace Go.Proofs.Ytaphmjccdokiiaa
open Go.RowKit

theorem intsAt_nil (w : World) : IntsAt w none 0 0 [] := ⟨fun h => absurd h (by decide), fun i hi => absurd hi (Nat.not_lt_zero i), by decide, fun i => by simp [nth]⟩

theorem pairsAt_one {w : World} {g : Nat} {a b : Int} {T : TypeId} (h : w.heap[g]? = some (.cells #[.int .i64 a, .int .i64 b] T (0, 0))) (ha : -9223372036854775808 ≤ a ∧ a ≤ 9223372036854775807) (hb : -9223372036854775808 ≤ b ∧ b ≤ 9223372036854775807) :
    PairsAt w (some ⟨g, 0, none⟩) g 0 [(a, b)] := by
  refine ⟨fun _ => ⟨rfl, lt_of_block h⟩, fun i hi => ?_, fun i hi => ?_, (by simp : (1 : Nat) ≤ 140737488351232), fun i => ?_⟩
  · have : i = 0 := by simpa using hi
    subst this
    rw [cell_of_row _ _ _ _ _ _ h]; rfl
  · have : i = 0 := by simpa using hi
    subst this
    rw [cell_of_row _ _ _ _ _ _ h]; rfl
  · rcases i with _ | i
    · exact ⟨ha, hb⟩
    · simp [pf, pv]

set_option maxHeartbeats 4000000 in
set_option maxRecDepth 100000 in
theorem awake_any (w : World) :
    Calls Try.prog 19 #[] w fun e w' => e = .returned (.bool true) ∧ Below w.heap.size w w' := by
  obtain ⟨hnet, hints, hblk⟩ := aw_net w
  have hbw := allocs_below (awO w.heap.size) w
  have HN := Lib.hid hnet
  have HI := Lib.hid hints
  have HK := Lib.hid hblk
  have HBW := Lib.hid hbw
  have hs := allocs_size (awO w.heap.size) w
  have HS := Lib.hid (show (allocs w (awO w.heap.size)).heap.size = w.heap.size + 8 from hs)
  clear hnet hints hblk hbw hs
  go_enter Try.func19, Try.ntmps19
  go_wp2_with fail
  have hj := joint_ok awP awT (awV w.heap.size) [0, 1] (some ⟨w.heap.size + 7, 0, none⟩) (w.heap.size + 7) 0 2 _ HN.out HI.out aw_isNet aw_asg
  rw [aw_joint] at hj
  refine hj.mono ?_
  rintro e w1 ⟨rfl, hb1⟩
  have HB1 := Lib.hid hb1
  have hk := (HB1.out.block _ (by rw [HS.out]; omega)).trans HK.out
  obtain ⟨k0, k1, -, -⟩ := cells_of2 hk
  have HK1 := Lib.hid hk
  have c0 : w1.cell? ⟨w.heap.size + 1 + 1 + 1 + 1 + 1 + 1, 0, none⟩ = some (.slice (some ⟨w.heap.size + 1 + 1, 0, none⟩) 2 2) := k0
  have c1 : w1.cell? ⟨w.heap.size + 1 + 1 + 1 + 1 + 1 + 1, 1, none⟩ = some (.slice (some ⟨w.heap.size + 1 + 1 + 1 + 1 + 1, 0, none⟩) 2 2) := k1
  have hlt : w.heap.size + 1 + 1 + 1 + 1 + 1 + 1 < w1.heap.size := by have := HB1.out.size; rw [HS.out] at this; omega
  clear hj hb1 hk k0 k1
  go_wp2_with fail
  obtain ⟨wa, hwa⟩ : ∃ wa, wa = allocs w1 [.cells #[.int .i64 1, .int .i64 8] 29, .cells #[.int .i64 0, .int .i64 1] 52, .cells #[.int .i64 1, .int .i64 1] 52] := ⟨_, rfl⟩
  have a0 := allocs_at [.cells #[.int .i64 1, .int .i64 8] 29, .cells #[.int .i64 0, .int .i64 1] 52, .cells #[.int .i64 1, .int .i64 1] 52] w1 0 (by simp)
  have a1 := allocs_at [.cells #[.int .i64 1, .int .i64 8] 29, .cells #[.int .i64 0, .int .i64 1] 52, .cells #[.int .i64 1, .int .i64 1] 52] w1 1 (by simp)
  have a2 := allocs_at [.cells #[.int .i64 1, .int .i64 8] 29, .cells #[.int .i64 0, .int .i64 1] 52, .cells #[.int .i64 1, .int .i64 1] 52] w1 2 (by simp)
  have ab := allocs_below [.cells #[.int .i64 1, .int .i64 8] 29, .cells #[.int .i64 0, .int .i64 1] 52, .cells #[.int .i64 1, .int .i64 1] 52] w1
  rw [← hwa] at a0 a1 a2 ab
  have hc := chance_net awP awT (awV w.heap.size) [(0, 1)] [(1, 1)] (some ⟨w1.heap.size + 1, 0, none⟩) (w1.heap.size + 1) 0 1 (some ⟨w1.heap.size + 2, 0, none⟩) (w1.heap.size + 2) 0 1 wa
    ((HN.out.below HB1.out (Nat.le_refl _)).below ab (Nat.le_refl _)) aw_isNet (pairsAt_one a1 (by decide) (by decide)) (pairsAt_one a2 (by decide) (by decide)) (by decide) (by decide)
  rw [aw_chV, aw_chE, hwa] at hc
  refine hc.mono ?_
  rintro e w2 ⟨rfl, hb2⟩
  rw [show allocs w1 _ = wa from hwa.symm] at hb2
  have HB12 := Lib.hid (ab.trans (hb2.mono ab.size))
  have hk2 := (HB12.out.block _ (lt_of_block HK1.out)).trans HK1.out
  have HK2 := Lib.hid hk2
  have HA2 := Lib.hid ((hb2.block _ (lt_of_block a0)).trans a0)
  obtain ⟨k0, k1, -, -⟩ := cells_of2 hk2
  have d0 : w2.cell? ⟨w.heap.size + 1 + 1 + 1 + 1 + 1 + 1, 0, none⟩ = some (.slice (some ⟨w.heap.size + 1 + 1, 0, none⟩) 2 2) := k0
  have d1 : w2.cell? ⟨w.heap.size + 1 + 1 + 1 + 1 + 1 + 1, 1, none⟩ = some (.slice (some ⟨w.heap.size + 1 + 1 + 1 + 1 + 1, 0, none⟩) 2 2) := k1
  have hlt2 : w.heap.size + 1 + 1 + 1 + 1 + 1 + 1 < w2.heap.size := lt_of_block hk2
  have HB2 := Lib.hid (HB1.out.trans (HB12.out.mono HB1.out.size))
  clear hc hb2 hk2 k0 k1 c0 c1 a0 a1 a2 ab hwa
  go_wp2_with fail
  have hsep := sep_ok awP awT (awV w.heap.size) [] 0 1 none 0 0 0 (w2.alloc (.cells #[.int .i64 3, .int .i64 4] 29)) ((HN.out.below HB2.out (Nat.le_refl _)).alloc _) (intsAt_nil _) aw_isNet (by decide) (by decide) (by decide) aw_set (by decide) (by decide)
  rw [aw_sep] at hsep
  refine hsep.mono ?_
  rintro e w3 ⟨v, rfl, hv, -, hb3⟩
  have HB23 := Lib.hid (((Below.refl _ w2).alloc (Nat.le_refl _) (.cells #[.int .i64 3, .int .i64 4] 29)).trans (hb3.mono (by simp)))
  obtain ⟨e0', e1', -, -⟩ := cells_of2 ((HB23.out.block _ (lt_of_block HA2.out)).trans HA2.out)
  have e0 : w3.cell? ⟨w1.heap.size, 0, none⟩ = some (.int .i64 1) := e0'
  have e1 : w3.cell? ⟨w1.heap.size, 1, none⟩ = some (.int .i64 8) := e1'
  obtain ⟨f0, f1, -, -⟩ := cells_of2 ((hb3.block w2.heap.size (by simp)).trans (heap_alloc_new _ _))
  have hv' : NewInts (w2.alloc (.cells #[.int .i64 3, .int .i64 4] 29)).heap.size w3 v [0, 1] := hv
  obtain ⟨ao1, b1, cap1, hv1, hi1, -⟩ := hv'.at
  have hv2 : v = .slice ao1 2 cap1 := hv1
  subst hv2
  have HI1 := Lib.hid hi1
  have HB3 := Lib.hid (HB2.out.trans (HB23.out.mono HB2.out.size))
  have g1 : w1.heap.size < w3.heap.size := by have := lt_of_block HA2.out; have := HB23.out.size; omega
  have g2 : w2.heap.size < w3.heap.size := by have := (Nat.le_trans (by simp : w2.heap.size + 1 ≤ (w2.alloc (.cells #[.int .i64 3, .int .i64 4] 29)).heap.size) hb3.size); omega
  clear hsep hb3 hv hv' hv1 hi1 d0 d1 e0' e1'
  go_wp2_with fail
  have hi := ints_any [0, 1] [0, 1] ao1 (some ⟨w3.heap.size, 0, none⟩) b1 0 cap1 w3.heap.size 0 2 (w3.alloc (.cells #[.int .i64 0, .int .i64 1] 3)) (HI1.out.alloc _) (intsAt_lit (heap_alloc_new _ _) (by simp) (by simp))
  rw [show decide (([0, 1] : List Int) = [0, 1]) = true from rfl] at hi
  refine hi.mono ?_
  rintro e w4 ⟨rfl, hb4⟩
  have HB4 := Lib.hid (((HBW.out.trans (HB3.out.mono (by rw [HS.out]; omega))).alloc (by have := HB3.out.size; rw [HS.out] at this; omega) (.cells #[.int .i64 0, .int .i64 1] 3)).trans (hb4.mono (by have := HB3.out.size; rw [HS.out] at this; simp; omega)))
  clear hi hb4
  go_wp2
  go_ret
  exact ⟨rfl, HB4.out⟩

end Go.Proofs.Ytaphmjccdokiiaa
