/- awake is true: the walk. -/
import Derived.Test.YtjibdolhipddbaaD4
namespace Go.Proofs.Ytjibdolhipddbaa
open Go.RowKit

theorem aw_cov2 : ∃ Y, CovA awA 2 2 Y := by
  have h := aw_two
  rw [List.any_eq_true] at h
  obtain ⟨x, hx, h⟩ := h
  rw [List.any_eq_true] at h
  obtain ⟨y, hy, h⟩ := h
  rw [List.all_eq_true] at h
  refine ⟨[x, y], ⟨by simp, fun z hz => ?_, fun p hp hg => ?_⟩⟩
  · simp only [List.mem_cons, List.not_mem_nil, or_false] at hz
    rcases hz with rfl | rfl
    · exact hx
    · exact hy
  · have q := h p (List.mem_range.2 hp)
    have hg' : fbF 3 2 (mt awA) p = true := hg
    rw [hg'] at q
    simp only [Bool.not_true, Bool.false_or, Bool.or_eq_true] at q
    rcases q with q | q
    · exact ⟨x, by simp, q⟩
    · exact ⟨y, by simp, q⟩
theorem aw_cov1 : ¬ ∃ Y, CovA awA 2 1 Y := by
  rintro ⟨Y, h1, h2, h3⟩
  have h := aw_one
  rw [Bool.and_eq_true, List.any_eq_true, List.all_eq_true] at h
  obtain ⟨⟨p0, hp0, hg0⟩, h⟩ := h
  obtain ⟨y0, hy0, -⟩ := h3 p0 (List.mem_range.1 hp0) hg0
  have hq := h y0 (h2 y0 hy0)
  rw [List.any_eq_true] at hq
  obtain ⟨p, hp, hpp⟩ := hq
  rw [Bool.and_eq_true] at hpp
  obtain ⟨y, hy, hs⟩ := h3 p (List.mem_range.1 hp) hpp.1
  have e : y = y0 := by
    match Y, h1 with
    | [], _ => simp at hy
    | [z], _ => rw [List.mem_singleton.1 hy, List.mem_singleton.1 hy0]
    | _ :: _ :: _, h => simp at h
  have hs' : stF 3 2 (mt awA) (nth y) p = true := hs
  rw [e] at hs'
  rw [hs'] at hpp
  simp at hpp

set_option maxHeartbeats 4000000 in
set_option maxRecDepth 100000 in
theorem awake_any (w : World) :
    Calls Try.prog 15 #[] w fun e w' => e = .returned (.bool true) ∧ Below w.heap.size w w' := by
  have HN := Lib.hid (tri_at w [1, 0] [0, 1] [1, 1] rfl rfl rfl (by decide))
  have HBW := Lib.hid (allocs_below (triO w.heap.size [1, 0] [0, 1] [1, 1]) w)
  go_enter Try.func15, Try.ntmps15
  go_wp2_with fail
  have hl := least_ok awA 2 _ _ 0 3 _ _ _ _ _ HN.out aw_plan ⟨by omega, by omega⟩
  refine hl.mono ?_
  rintro e w1 ⟨⟨n, rfl, hn⟩, hb1⟩
  have hn2 : n = 2 := by
    rcases hn with ⟨-, h⟩ | ⟨h1, h2, h3, h4⟩
    · exact absurd aw_cov2 (h 2 (by omega) (by omega))
    · by_cases e : n = 1
      · rw [e] at h3; exact absurd h3 aw_cov1
      · by_cases e2 : 2 < n
        · exact absurd aw_cov2 (h4 2 (by omega) e2)
        · omega
  subst hn2
  have HB1 := Lib.hid (HBW.out.trans (hb1.mono HBW.out.size))
  have HN1 := Lib.hid (HN.out.below hb1 (Nat.le_refl _))
  clear hl hb1 hn
  go_wp2_with fail
  have hp := plan_ok awA 2 2 _ _ 0 3 _ _ _ _ _ HN1.out aw_plan ⟨by omega, by omega⟩ ⟨by omega, by omega⟩
  refine hp.mono ?_
  rintro e w2 ⟨hpl, hb2⟩
  obtain ⟨v, Y, rfl, -, hnr⟩ : ∃ v Y, e = .returned (.tuple #[v, .int .i64 0]) ∧ CovA awA 2 2 Y ∧ NewRows w1.heap.size w2 v (cutsL Y 2 awA.length) := by
    rcases hpl with ⟨-, h⟩ | h
    · exact absurd aw_cov2 h
    · exact h
  obtain ⟨va, vb, vc, vA, vB, vO, vC, rfl, -⟩ := hnr.at (by rw [cutsL_len]; decide)
  rw [cutsL_len, show awA.length = 3 from rfl]
  have HB2 := Lib.hid (HB1.out.trans (hb2.mono HB1.out.size))
  have HN2 := Lib.hid (HN1.out.below hb2 (Nat.le_refl _))
  have HT := Lib.hid (tri_at w2 [1, 1] [2, 2] [1, 2] rfl rfl rfl (by decide))
  have HBT := Lib.hid (allocs_below (triO w2.heap.size [1, 1] [2, 2] [1, 2]) w2)
  have HN3 := Lib.hid (HN2.out.below HBT.out (Nat.le_refl _))
  clear hp hb2 hpl hnr
  go_wp2_with fail
  have hs := strangers_ok awA awP 2 0 _ _ 0 3 _ _ _ _ _ _ 0 3 _ _ _ _ _ HN3.out HT.out aw_plan ⟨by omega, by omega⟩ aw_cuts (by decide)
  rw [aw_prod] at hs
  refine hs.mono ?_
  rintro e w3 ⟨rfl, hb3⟩
  have HB3 := Lib.hid (HB2.out.trans ((HBT.out.trans (hb3.mono HBT.out.size)).mono HB2.out.size))
  clear hs hb3
  go_wp2
  go_ret
  exact ⟨rfl, HB3.out⟩

end Go.Proofs.Ytjibdolhipddbaa
