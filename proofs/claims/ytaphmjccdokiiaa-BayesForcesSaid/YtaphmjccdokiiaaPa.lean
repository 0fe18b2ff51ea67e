/- The heaviest assignment: the walk. -/
import Derived.Test.YtaphmjccdokiiaaOa
namespace Go.Proofs.Ytaphmjccdokiiaa
open Go.RowKit Go.Maps

theorem bitv_zero (n : Nat) : arrC (bitv n 0) = #[.int .i64 0, .int .i64 0, .int .i64 0, .int .i64 0, .int .i64 0, .int .i64 0, .int .i64 0, .int .i64 0, .int .i64 0, .int .i64 0] := by
  rw [arrC_congr (b := fun _ => 0) (fun i _ => by unfold bitv; simp)]; rfl

set_option maxHeartbeats 2000000 in
set_option maxRecDepth 100000 in
theorem heaviest_any {N : Nat} (P T : List (List Int)) (v : Value) (g : Nat) (φ : Int → Option Int) (w : World) (h : NetAt w v P T) (hn : IsNet P T) (hf : FactsAt N w g φ) (hd : Dom φ) :
    Calls Try.prog 56 #[v, .map (some g)] w fun e w' => e = .returned (.tuple #[.agg (arrC (bitv P.length (hvI P T (agr φ)))), .int .i64 (hvW P T (agr φ))]) ∧ Below w.heap.size w w' := by
  have HN := Lib.hid hn
  have HF := Lib.hid hf
  have HD := Lib.hid hd
  obtain ⟨pa, b, o, pc, A, B, O, C, ta, b', o', tc, A', B', O', C', rfl, hP, hT⟩ := h.ex
  have h10 := hn.le
  rw [hn.tab] at h ⊢
  have HNet := Lib.hid h
  have h2 := two_pow_le h10
  obtain ⟨m, hm⟩ : ∃ m : Nat, m = 2 ^ P.length := ⟨_, rfl⟩
  rw [← hm] at h2
  have HM := Lib.hid hm
  have hA := assignments_any P.length
  have HA := Lib.hid hA
  obtain ⟨W0, hW0⟩ : ∃ W0, ((w.alloc (.cells #[.slice pa P.length pc, .slice ta P.length tc] 24)).alloc (.cells #[.int .i64 0, .int .i64 0, .int .i64 0, .int .i64 0, .int .i64 0, .int .i64 0, .int .i64 0, .int .i64 0, .int .i64 0, .int .i64 0] 78)).alloc (.cells #[.int .i64 0, .int .i64 0, .int .i64 0, .int .i64 0, .int .i64 0, .int .i64 0, .int .i64 0, .int .i64 0, .int .i64 0, .int .i64 0] 78) = W0 := ⟨_, rfl⟩
  have HW0 := Lib.hid hW0
  have hs0 : W0.heap.size = w.heap.size + 3 := by rw [← hW0]; simp
  have HS0 := Lib.hid hs0
  have HB0 : Hid (Below w.heap.size w W0) := by rw [← hW0]; exact (((Below.refl _ _).alloc (Nat.le_refl _) _).alloc (by simp) _).alloc (by simp; omega) _
  have HX0 : Hid (W0.heap[w.heap.size]? = some (.cells #[.slice pa P.length pc, .slice ta P.length tc] 24 (0, 0))) := by rw [← hW0]; exact rfl3 _ _ _ _
  have HX1 : Hid (W0.heap[w.heap.size + 1]? = some (.cells #[.int .i64 0, .int .i64 0, .int .i64 0, .int .i64 0, .int .i64 0, .int .i64 0, .int .i64 0, .int .i64 0, .int .i64 0, .int .i64 0] 78 (0, 0))) := by rw [← hW0]; exact rfl4 _ _ _ _
  have HX2 : Hid (W0.heap[w.heap.size + 2]? = some (.cells (arrC (bitv P.length 0)) 78 (0, 0))) := by rw [← hW0, bitv_zero]; exact rfl5 _ _ _ _
  clear hP hT h hn hf hd hm hA hW0 hs0
  go_enter Try.func56, Try.ntmps56
  go_wp2_with (go_at_call 73; refine (HA.out _ (by omega)).mono ?_; rw [← HM.out]; rintro e w' ⟨rfl, rfl⟩)
  rw [HW0.out]
  go_loopw [8, 9, 10, 11, 17] (fun s _ _ _ i wr => ∃ k : Nat, k ≤ m ∧ i = .int .i64 k ∧ s = .int .i64 (hvTo P T (agr φ) k).2 ∧ Below (w.heap.size + 2) W0 wr ∧ wr.heap[w.heap.size + 2]? = some (.cells (arrC (bitv P.length (hvTo P T (agr φ) k).1)) 78 (0, 0))) (fun _ _ _ _ i _ => m - (intOf i).toNat)
  case atStart => exact ⟨0, by omega, rfl, rfl, Below.refl _ _, HX2.out⟩
  case round =>
    obtain ⟨k, hk, rfl, rfl, hb, hx⟩ := hrel
    have HB := Lib.hid hb
    have HX := Lib.hid hx
    have hbd := hvTo_bd (ag := agr φ) HN.out k
    clear hb hx
    by_cases hlt : k < m
    · go_wp2_with fail
      refine (assignmentAt_any k P.length _ h10 (by omega)).mono ?_
      rintro e w1 ⟨rfl, hb1⟩
      have HB1 := Lib.hid hb1
      clear hb1
      obtain ⟨W, hW⟩ : ∃ W, W = (w1.alloc (Obj.cells #[.int .i64 0, .int .i64 0, .int .i64 0, .int .i64 0, .int .i64 0, .int .i64 0, .int .i64 0, .int .i64 0, .int .i64 0, .int .i64 0] 78)).setRow w1.heap.size (arrC (bitv P.length k)) := ⟨_, rfl⟩
      have hWb : Below w1.heap.size w1 W := by rw [hW]; exact below_setRow ((Below.refl _ _).alloc (Nat.le_refl _) _) (Nat.le_refl _) _
      have hWr : W.heap[w1.heap.size]? = some (.cells (arrC (bitv P.length k)) 78 (0, 0)) := by rw [hW]; exact setRow_heap _ _ _ _ _ _ (heap_alloc_new _ _)
      have HW := Lib.hid hW
      have HWB := Lib.hid hWb
      have HWR := Lib.hid hWr
      clear hW hWb hWr
      have s0 := lt_of_block HX.out
      have s1 := HB1.out.size
      have s2 := HWB.out.size
      have hbW : Below (w.heap.size + 2) W0 W := (HB.out.trans (HB1.out.mono (by omega))).trans (HWB.out.mono (by omega))
      have HBW := Lib.hid hbW
      have HXW := Lib.hid ((HWB.out.block _ (by omega)).trans ((HB1.out.block _ s0).trans HX.out))
      have HWW := Lib.hid (HB0.out.trans (hbW.mono (by omega)))
      have hA2 := agree_any g φ (bitv P.length k) W (HF.out.below HWW.out (Nat.le_refl _)) HD.out
      have hwt := wt_le HN.out (bitv_Bits P.length k) P.length (Nat.le_refl _)
      obtain ⟨x0, x1, -, -⟩ := cells_of2 ((HBW.out.block _ (by omega)).trans HX0.out)
      clear hbW
      cases e : agr φ (bitv P.length k)
      · rw [e] at hA2
        have HA2 := Lib.hid hA2
        have HS := Lib.hid (hv_ag (P := P) (T := T) e)
        clear hA2 e x0 x1
        go_wp2_with (first
          | (refine wpList_store_row rfl 78 (.tmp 10) (.tmp 22) rfl w1.heap.size _ rfl rfl 78 _ (heap_alloc_new _ _) (by kernel_rfl) rfl (arrC_all _) ?_; rw [← HW.out])
          | (refine wpList_load_row rfl 78 (.tmp 10) rfl w1.heap.size rfl 78 _ _ _ HWR.out Try.underlying78 rfl (by kernel_rfl) ?_)
          | (go_at_call 75; refine HA2.out.mono ?_; rintro e w3 ⟨rfl, hb3⟩; have HB3 := Lib.hid hb3; clear hb3))
        go_roundw
        case rel => exact ⟨k + 1, by omega, by go_num, by rw [HS.out], HBW.out.trans (HB3.out.mono (by omega)), by rw [HS.out]; exact (HB3.out.block _ (by omega)).trans HXW.out⟩
        case measure => simp [intOf]; omega
      · rw [e] at hA2
        have HA2 := Lib.hid hA2
        have HE := Lib.hid e
        clear hA2 e x0 x1
        obtain ⟨wk, hwk⟩ : ∃ wk, wt P T (bitv P.length k) P.length = wk := ⟨_, rfl⟩
        have HWK := Lib.hid hwk
        obtain ⟨bt, hbt⟩ : ∃ bt, (hvTo P T (agr φ) k).2 = bt := ⟨_, rfl⟩
        have HBT := Lib.hid hbt
        rw [hwk] at hwt
        rw [hbt] at hbd ⊢
        clear hwk hbt
        by_cases hgt : bt < wk
        · have HS := Lib.hid (hv_yes (P := P) (T := T) HE.out (by rw [HBT.out, HWK.out]; exact hgt))
          go_wp2_with (first
            | (refine wpList_store_row rfl 78 (.tmp 10) (.tmp 22) rfl w1.heap.size _ rfl rfl 78 _ (heap_alloc_new _ _) (by kernel_rfl) rfl (arrC_all _) ?_; rw [← HW.out])
            | (refine wpList_load_row rfl 78 (.tmp 10) rfl w1.heap.size rfl 78 _ _ _ HWR.out Try.underlying78 rfl (by kernel_rfl) ?_)
            | (refine wpList_load_row rfl 78 (.tmp 10) rfl w1.heap.size rfl 78 _ _ _ HR3.out Try.underlying78 rfl (by kernel_rfl) ?_)
            | (refine wpList_load_row rfl 78 (.tmp 10) rfl w1.heap.size rfl 78 _ _ _ HR4.out Try.underlying78 rfl (by kernel_rfl) ?_)
            | (refine wpList_store_row rfl 78 (.tmp 7) (.tmp 33) rfl (w.heap.size + 2) _ rfl rfl 78 _ HX4.out (by kernel_rfl) rfl (arrC_all _) ?_)
            | (go_at_call 75; refine HA2.out.mono ?_; rintro e w3 ⟨rfl, hb3⟩; obtain ⟨y0, y1, -, -⟩ := cells_of2 (((HBW.out.trans (hb3.mono (by omega))).block _ (by omega)).trans HX0.out); have HR3 := Lib.hid ((hb3.block _ (lt_of_block HWR.out)).trans HWR.out); have HB3 := Lib.hid hb3; have HX3 := Lib.hid ((hb3.block _ (by omega)).trans HXW.out); clear hb3)
            | (go_at_call 48; refine (weight_any P T _ (bitv P.length k) _ (HNet.out.below (HWW.out.trans (HB3.out.mono (by omega))) (Nat.le_refl _)) HN.out (bitv_Bits _ _)).mono ?_; rw [HWK.out]; rintro e w4 ⟨rfl, hb4⟩; have HR4 := Lib.hid ((hb4.block _ (lt_of_block HR3.out)).trans HR3.out); have HB4 := Lib.hid hb4; have HX4 := Lib.hid ((hb4.block _ (lt_of_block HX3.out)).trans HX3.out); clear hb4 y0 y1))
          have s3 := HB3.out.size
          have s4 := HB4.out.size
          go_roundw
          case rel => exact ⟨k + 1, by omega, by go_num, by rw [HS.out, HWK.out], below_setRow ((HBW.out.trans (HB3.out.mono (by omega))).trans (HB4.out.mono (by omega))) (Nat.le_refl _) _, by rw [HS.out]; exact setRow_heap _ _ _ _ _ _ HX4.out⟩
          case measure => simp [intOf]; omega
        · have HS := Lib.hid (hv_no (P := P) (T := T) (ag := agr φ) (k := k) (by rw [HBT.out, HWK.out]; exact hgt))
          go_wp2_with (first
            | (refine wpList_store_row rfl 78 (.tmp 10) (.tmp 22) rfl w1.heap.size _ rfl rfl 78 _ (heap_alloc_new _ _) (by kernel_rfl) rfl (arrC_all _) ?_; rw [← HW.out])
            | (refine wpList_load_row rfl 78 (.tmp 10) rfl w1.heap.size rfl 78 _ _ _ HWR.out Try.underlying78 rfl (by kernel_rfl) ?_)
            | (refine wpList_load_row rfl 78 (.tmp 10) rfl w1.heap.size rfl 78 _ _ _ HR3.out Try.underlying78 rfl (by kernel_rfl) ?_)
            | (go_at_call 75; refine HA2.out.mono ?_; rintro e w3 ⟨rfl, hb3⟩; obtain ⟨y0, y1, -, -⟩ := cells_of2 (((HBW.out.trans (hb3.mono (by omega))).block _ (by omega)).trans HX0.out); have HR3 := Lib.hid ((hb3.block _ (lt_of_block HWR.out)).trans HWR.out); have HB3 := Lib.hid hb3; have HX3 := Lib.hid ((hb3.block _ (by omega)).trans HXW.out); clear hb3)
            | (go_at_call 48; refine (weight_any P T _ (bitv P.length k) _ (HNet.out.below (HWW.out.trans (HB3.out.mono (by omega))) (Nat.le_refl _)) HN.out (bitv_Bits _ _)).mono ?_; rw [HWK.out]; rintro e w4 ⟨rfl, hb4⟩; have HB4 := Lib.hid hb4; have HX4 := Lib.hid ((hb4.block _ (lt_of_block HX3.out)).trans HX3.out); clear hb4 y0 y1))
          have s3 := HB3.out.size
          have s4 := HB4.out.size
          go_roundw
          case rel => exact ⟨k + 1, by omega, by go_num, by rw [HS.out, HBT.out], (HBW.out.trans (HB3.out.mono (by omega))).trans (HB4.out.mono (by omega)), by rw [HS.out]; exact HX4.out⟩
          case measure => simp [intOf]; omega
    · have e : k = 2 ^ P.length := by have := HM.out; omega
      have HE := Lib.hid e
      have HX1' := Lib.hid ((HB.out.block _ (by omega)).trans HX1.out)
      obtain ⟨bt, hbt⟩ : ∃ bt, (hvTo P T (agr φ) k).2 = bt := ⟨_, rfl⟩
      have HBT := Lib.hid hbt
      rw [hbt]
      clear e hbt
      go_wp2_with (first | (refine wpList_load_row rfl 78 (.tmp 7) rfl (w.heap.size + 2) rfl 78 _ _ _ HX.out Try.underlying78 rfl (by kernel_rfl) ?_) | (refine wpList_store_row rfl 78 (.tmp 4) (.tmp 36) rfl (w.heap.size + 1) _ rfl rfl 78 _ HX1'.out (by kernel_rfl) rfl (arrC_all _) ?_))
      refine bodyPost_ret (v := .tuple #[.agg (arrC (bitv P.length (hvI P T (agr φ)))), .int .i64 (hvW P T (agr φ))]) ?_ rfl ⟨rfl, below_setRow (HB0.out.trans (HB.out.mono (by omega))) (by omega) _⟩
      unfold hvI hvW
      rw [← HE.out, HBT.out]
      exact results_cell_row2 (ty := 78) (p := 4) (u := 5) rfl _ _ (w.heap.size + 1) 78 _ (0, 0) _ rfl (setRow_heap _ _ _ _ _ _ HX1'.out) Try.underlying78 rfl (by kernel_rfl)

end Go.Proofs.Ytaphmjccdokiiaa
