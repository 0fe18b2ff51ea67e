/- awake is true: the walk. -/
import Derived.Test.YthnkmmjelpdamaaE3
namespace Go.Proofs.Ythnkmmjelpdamaa
open Go.RowKit

set_option maxHeartbeats 4000000 in
set_option maxRecDepth 100000 in
theorem awake_any (w : World) :
    Calls Try.prog 19 #[] w fun e w' => e = .returned (.bool true) ∧ Below w.heap.size w w' := by
  have HN := Lib.hid (aw_at w)
  have HBW := Lib.hid (allocs_below (awO w.heap.size) w)
  have HS := Lib.hid (show (allocs w (awO w.heap.size)).heap.size = w.heap.size + 5 from allocs_size (awO w.heap.size) w)
  go_enter Try.func19, Try.ntmps19
  go_wp2_with fail
  have hj := best_yes awN awP awC (awV w.heap.size) _ HN.out aw_chain aw_ok
  rw [aw_vals, show awN.length = 2 from rfl, aw_stops] at hj
  refine hj.mono ?_
  rintro e w1 ⟨g, rv, rfl, hg, hv, hown, hb1⟩
  have HV := Lib.hid hv
  have HB1 := Lib.hid (HBW.out.trans (hb1.mono HBW.out.size))
  have HO := Lib.hid hown
  have hs1 := HB1.out.size
  have hgs := lt_of_blk hv
  clear hj hb1 hv hown
  go_wp2_with fail
  have hse := secretary_yes 4 w1 (by omega) (by omega)
  rw [aw_sec, aw_pick] at hse
  refine hse.mono ?_
  rintro e w2 ⟨rfl, hb2⟩
  have HV2 := Lib.hid ((hb2.block g hgs).trans HV.out)
  have HO2 := Lib.hid (own_below HO.out hb2)
  have HB2 := Lib.hid (HB1.out.trans (hb2.mono hs1))
  have hs2 := hb2.size
  clear hse hb2 HV HO
  go_wp2_with fail
  obtain ⟨wx, hwx⟩ : ∃ wx, w2.alloc (.cells #[.int .i64 11, .int .i64 24] 47) = wx := ⟨_, rfl⟩
  have hxs : wx.heap.size = w2.heap.size + 1 := by rw [← hwx]; simp
  have hp := prophet_yes awL (some ⟨wx.heap.size + 2, 0, none⟩) (wx.heap.size + 2) 0 2 _ _ _ _ (allocs wx (awX wx.heap.size)) (aw_offs wx) (by decide) aw_ok2
  have hbx := allocs_below (awX wx.heap.size) wx
  have hbs : (allocs wx (awX wx.heap.size)).heap.size = wx.heap.size + 3 := allocs_size (awX wx.heap.size) wx
  have hf0 : wx.heap[w2.heap.size]? = some (.cells #[.int .i64 11, .int .i64 24] 47 (0, 0)) := by rw [← hwx]; exact heap_alloc_new _ _
  have hb2x : Below w2.heap.size w2 wx := by rw [← hwx]; exact (Below.refl _ _).alloc (Nat.le_refl _) _
  rw [aw_most, aw_wise] at hp
  rw [hxs] at hp hbx hbs
  rw [hwx]
  refine Calls.mono hp ?_
  rintro e w3 ⟨rfl, hb3⟩
  have hb23 : Below w2.heap.size w2 w3 := hb2x.trans ((hbx.trans (hb3.mono (by omega))).mono (by omega))
  have HF3 := Lib.hid (((hbx.trans (hb3.mono (by omega))).block w2.heap.size (by omega)).trans hf0)
  have HV3 := Lib.hid ((hb23.block g (by omega)).trans HV2.out)
  have HO3 := Lib.hid (own_below HO2.out hb23)
  have HB3 := Lib.hid (HB2.out.trans (hb23.mono (by omega)))
  have hs3 := hb23.size
  have hl3 : w2.heap.size < w3.heap.size := lt_of_blk HF3.out
  clear hp hb3 hb23 hbx hbs hf0 hb2x hwx hxs HV2 HO2
  go_wp2_with fail
  obtain ⟨w4, hw4⟩ : ∃ w4, ((w3.alloc (.cells #[.int .i64 11, .int .i64 2] 47)).alloc (.cells #[.int .i64 5, .int .i64 1] 47)).alloc (.cells #[.int .i64 3, .int .i64 1, .int .i64 5, .int .i64 1] 47) = w4 := ⟨_, rfl⟩
  obtain ⟨w4', e4, f0, f1, f2, hb4, -⟩ := gr_start w3 (.cells #[.int .i64 11, .int .i64 2] 47) (.cells #[.int .i64 5, .int .i64 1] 47) (.cells #[.int .i64 3, .int .i64 1, .int .i64 5, .int .i64 1] 47)
  obtain rfl : w4' = w4 := e4.trans hw4
  have hs4 : w4'.heap.size = w3.heap.size + 3 := by rw [e4]; simp
  rw [hw4]
  have hq := fracs_same [(3, 1), (5, 1)] (some ⟨g, 0, none⟩) (some ⟨w3.heap.size + 1 + 1, 0, none⟩) g 0 2 (w3.heap.size + 1 + 1) 0 2 w4' (pairsAt_lit ((hb4.block g (by omega)).trans HV3.out) (by simp) (by simp)) (pairsAt_lit (ps := [(3, 1), (5, 1)]) f2 (by simp) (by simp))
  refine Calls.mono hq ?_
  rintro e w5 ⟨rfl, hb5⟩
  have hb35 : Below w3.heap.size w3 w5 := hb4.trans (hb5.mono (by omega))
  have HF5 := Lib.hid ((hb35.block w2.heap.size hl3).trans HF3.out)
  have HG5 := Lib.hid ((hb5.block w3.heap.size (by omega)).trans f0)
  have HH5 := Lib.hid ((hb5.block (w3.heap.size + 1) (by omega)).trans f1)
  have HO5 := Lib.hid (own_below HO3.out hb35)
  have HB5 := Lib.hid (HB3.out.trans (hb35.mono (by omega)))
  have hs5 := hb35.size
  have hs45 := hb5.size
  clear hq hb5 hb4 f0 f1 f2 hw4 e4 HV3 HO3 hb35
  obtain ⟨ro, rb, rc, hrv, hri⟩ := own_intsAt (xs := [1]) HO5.out (fun i => by rcases i with _ | i <;> simp [nth]) (by simp)
  rw [show ([1] : List Int).length = 1 from rfl] at hrv
  subst hrv
  have HRI := Lib.hid hri
  clear hri HO5
  go_wp2_with fail
  have hq := ints_any [1] [1] ro (some ⟨w5.heap.size, 0, none⟩) rb 0 rc w5.heap.size 0 1 (w5.alloc (.cells #[.int .i64 1] 3)) (HRI.out.alloc _) (intsAt_lit (xs := [1]) (heap_alloc_new _ _) (by simp) (by simp))
  rw [show decide (([1] : List Int) = [1]) = true from rfl] at hq
  refine Calls.mono hq ?_
  rintro e w6 ⟨rfl, hb6⟩
  have hb56 : Below w5.heap.size w5 w6 := ((Below.refl _ w5).alloc (Nat.le_refl _) (.cells #[.int .i64 1] 3)).trans (hb6.mono (by simp))
  obtain ⟨a0, a1, -, -⟩ := block_of_cells ((hb56.block w2.heap.size (by omega)).trans HF5.out)
  obtain ⟨b0, b1, -, -⟩ := block_of_cells ((hb56.block w3.heap.size (by omega)).trans HG5.out)
  obtain ⟨c0, c1, -, -⟩ := block_of_cells ((hb56.block (w3.heap.size + 1) (by omega)).trans HH5.out)
  have HB6 := Lib.hid (HB5.out.trans (hb56.mono (by omega)))
  clear hq hb6 hb56 HF5 HG5 HH5 HRI
  go_wp2
  go_ret
  exact ⟨rfl, HB6.out⟩

end Go.Proofs.Ythnkmmjelpdamaa
