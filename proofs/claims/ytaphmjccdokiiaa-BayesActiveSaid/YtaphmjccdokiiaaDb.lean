/- Separated: what it refuses. -/
import Derived.Test.YtaphmjccdokiiaaCb
namespace Go.Proofs.Ytaphmjccdokiiaa
open Go.RowKit

/-- The arguments behind the network are right. -/
def okSep (n : Nat) (x y : Int) (set : List Int) : Bool := isVar x n && isVar y n && decide (x ≠ y) && okSet set n && !hasI set x && !hasI set y

set_option maxHeartbeats 2000000 in
set_option maxRecDepth 100000 in
theorem sep_noNet (P T : List (List Int)) (v a b c : Value) (w : World) (h : NetAt w v P T) (hn : isNet P T = false) :
    Calls Try.prog 27 #[v, a, b, c] w fun e w' => e = .returned (.tuple #[.bool false, .slice none 0 0, .int .i64 2]) ∧ Below w.heap.size w w' := by
  have HNet := Lib.hid h
  have HN' := Lib.hid hn
  obtain ⟨pa, b, o, pc, A, B, O, C, ta, b', o', tc, A', B', O', C', rfl, hP, hT⟩ := h.ex
  clear hP hT h hn
  go_enter Try.func27, Try.ntmps27
  go_wp2_with fail
  refine (isNetwork_any P T _ _ (HNet.out.alloc _)).mono ?_
  rw [HN'.out]
  rintro e w1 ⟨rfl, hb1⟩
  have HB1 := Lib.hid hb1
  clear hb1
  go_wp2
  go_ret3
  exact ⟨rfl, ((Below.refl _ _).alloc (Nat.le_refl _) _).trans (HB1.out.mono (by simp))⟩

set_option maxHeartbeats 2000000 in
set_option maxRecDepth 100000 in
theorem sep_bad (P T : List (List Int)) (v : Value) (x y : Int) (set : List Int) (so : Option Addr) (sb sf sc : Nat) (w : World) (h : NetAt w v P T) (hS : IntsAt w so sb sf set) (hn : isNet P T = true) (hbad : okSep P.length x y set = false) :
    Calls Try.prog 27 #[v, .int .i64 x, .int .i64 y, .slice so set.length sc] w fun e w' => e = .returned (.tuple #[.bool false, .slice none 0 0, .int .i64 2]) ∧ Below w.heap.size w w' := by
  have HNet := Lib.hid h
  have HN' := Lib.hid hn
  have HN := Lib.hid (of_decide_eq_true hn : IsNet P T)
  have HS := Lib.hid hS
  have HBAD := Lib.hid hbad
  obtain ⟨pa, b, o, pc, A, B, O, C, ta, b', o', tc, A', B', O', C', rfl, hP, hT⟩ := h.ex
  have h10 := HN.out.le
  clear hP hT h hn hS hbad
  go_enter Try.func27, Try.ntmps27
  go_wp2_with fail
  refine (isNetwork_any P T _ _ (HNet.out.alloc _)).mono ?_
  rw [HN'.out]
  rintro e w1 ⟨rfl, hb1⟩
  have HB1 := Lib.hid hb1
  have HBW := Lib.hid (((Below.refl _ w).alloc (Nat.le_refl _) (.cells #[.slice pa P.length pc, .slice ta T.length tc] 24)).trans (hb1.mono (by simp)))
  have c0 := (hb1.block w.heap.size (by simp)).trans (heap_alloc_new _ _)
  have C0 := Lib.hid c0
  obtain ⟨d0, d1, -, -⟩ := cells_of2 c0
  clear c0 hb1
  have hv1 := isVariable_any x P.length w1
  have hv2 := isVariable_any y P.length w1
  cases e1 : isVar x P.length
  · rw [e1] at hv1
    have HV1 := Lib.hid hv1
    clear hv1 hv2 e1
    go_wp2_with fail
    refine HV1.out.mono ?_
    rintro e w' ⟨rfl, rfl⟩
    go_wp2
    go_ret3
    exact ⟨rfl, HBW.out⟩
  · rw [e1] at hv1
    have HV1 := Lib.hid hv1
    have E1 := Lib.hid e1
    have hx := of_decide_eq_true e1
    clear hv1 e1
    cases e2 : isVar y P.length
    · rw [e2] at hv2
      have HV2 := Lib.hid hv2
      clear hv2 e2
      go_wp2_with fail
      refine HV1.out.mono ?_
      rintro e w' ⟨rfl, rfl⟩
      go_wp2_with fail
      refine HV2.out.mono ?_
      rintro e w' ⟨rfl, rfl⟩
      go_wp2
      go_ret3
      exact ⟨rfl, HBW.out⟩
    · rw [e2] at hv2
      have HV2 := Lib.hid hv2
      have E2 := Lib.hid e2
      have hy := of_decide_eq_true e2
      clear hv2 e2
      by_cases e3 : x = y
      · have q3 : (x == y) = true := by rw [beq_iff_eq]; exact e3
        clear e3
        go_wp2_with fail
        refine HV1.out.mono ?_
        rintro e w' ⟨rfl, rfl⟩
        go_wp2_with fail
        refine HV2.out.mono ?_
        rintro e w' ⟨rfl, rfl⟩
        go_wp2
        go_ret3
        exact ⟨rfl, HBW.out⟩
      · have q3 : (x == y) = false := by rw [beq_eq_false_iff_ne]; exact e3
        have E3 := Lib.hid e3
        obtain ⟨x, rfl⟩ := Int.eq_ofNat_of_zero_le hx.1
        obtain ⟨y, rfl⟩ := Int.eq_ofNat_of_zero_le hy.1
        have hx10 : x < 10 := by omega
        have hy10 : y < 10 := by omega
        clear e3
        go_wp2_with fail
        refine HV1.out.mono ?_
        rintro e w' ⟨rfl, rfl⟩
        go_wp2_with fail
        refine HV2.out.mono ?_
        rintro e w' ⟨rfl, rfl⟩
        go_wp2_with fail
        refine (toMembers_any set P.length so sb sf sc _ ((HS.out.alloc _).below HB1.out (Nat.le_refl _)) h10).mono ?_
        rintro e w2 ⟨⟨m, rfl, hm⟩, hb2⟩
        have HM := Lib.hid hm
        have HB2 := Lib.hid (HBW.out.trans (hb2.mono HBW.out.size))
        clear hb2 d0 d1 C0 hm
        obtain ⟨w3, e3, hm3, hb3⟩ := mem_world w2 m
        have HW3 := Lib.hid e3
        have HM3 := Lib.hid hm3
        have HB3 := Lib.hid (HB2.out.trans (hb3.mono HB2.out.size))
        clear e3 hm3 hb3
        have hcx : w3.cell? ⟨w2.heap.size, x, none⟩ = some (.bool (m x)) := by rw [cell_of_row _ _ _ _ _ _ HM3.out, memF, arrF_get hx10]
        have hcy : w3.cell? ⟨w2.heap.size, y, none⟩ = some (.bool (m y)) := by rw [cell_of_row _ _ _ _ _ _ HM3.out, memF, arrF_get hy10]
        cases e4 : okSet set P.length
        · clear hcx hcy
          go_wp2_with (first
            | (refine wpList_store_row rfl 97 (.tmp 12) (.tmp 40) rfl w2.heap.size (memF m) rfl rfl 97 _ (heap_alloc_new _ _) (info_mem _) (old_mem _) (memF_all _) (wpList_world HW3.out ?_)))
          go_ret3
          exact ⟨rfl, HB3.out⟩
        · obtain rfl := HM.out e4
          have E4 := Lib.hid e4
          clear e4
          simp only [] at hcx hcy
          cases e5 : hasI set (x : Int)
          · cases e6 : hasI set (y : Int)
            · exact absurd HBAD.out (by unfold okSep; rw [E1.out, E2.out, E4.out, e5, e6, decide_eq_true E3.out]; decide)
            · rw [e5] at hcx
              rw [e6] at hcy
              clear e5 e6
              go_wp2_with (first
                | (refine wpList_store_row rfl 97 (.tmp 12) (.tmp 40) rfl w2.heap.size (memF fun v => hasI set (v : Int)) rfl rfl 97 _ (heap_alloc_new _ _) (info_mem _) (old_mem _) (memF_all _) (wpList_world HW3.out ?_)))
              go_ret3
              exact ⟨rfl, HB3.out⟩
          · rw [e5] at hcx
            clear e5 hcy
            go_wp2_with (first
              | (refine wpList_store_row rfl 97 (.tmp 12) (.tmp 40) rfl w2.heap.size (memF fun v => hasI set (v : Int)) rfl rfl 97 _ (heap_alloc_new _ _) (info_mem _) (old_mem _) (memF_all _) (wpList_world HW3.out ?_)))
            go_ret3
            exact ⟨rfl, HB3.out⟩

end Go.Proofs.Ytaphmjccdokiiaa
