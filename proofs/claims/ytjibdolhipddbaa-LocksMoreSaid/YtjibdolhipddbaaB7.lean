/- The program's search, made. -/
import Derived.Test.YtjibdolhipddbaaB6
namespace Go.Proofs.Ytjibdolhipddbaa
open Go.RowKit Go.Maps

theorem cells_of2 {W : World} {g : Nat} {x y : Value} {T : TypeId} (h : W.heap[g]? = some (.cells #[x, y] T (0, 0))) :
    W.cell? ⟨g, 0, none⟩ = some x ∧ W.cell? ⟨g, 1, none⟩ = some y ∧ W.frozen? ⟨g, 0, none⟩ = false ∧ W.frozen? ⟨g, 1, none⟩ = false :=
  ⟨by rw [cell_of_row _ _ _ _ _ _ h]; rfl, by rw [cell_of_row _ _ _ _ _ _ h]; rfl, frozen_of_row _ _ _ _ _ h, frozen_of_row _ _ _ _ _ h⟩
theorem isMap_nil : IsMap (DataW.map [] : DataW Unit) := by first | exact trivial | exact ⟨_, rfl⟩ | rfl

set_option maxHeartbeats 4000000 in
set_option maxRecDepth 100000 in
theorem newSearch_any (k l d : Nat) (f : Nat → Bool) (w : World) (hk : k ≤ 6) (hl : l ≤ 6) (hd : 1 ≤ d) (hd4 : d ≤ 4) :
    Calls Try.prog 34 #[planV k l f, .int .i64 d] w fun e w' => ∃ v, e = .returned v ∧ SearchAt w' v k l d f ∧ Below w.heap.size w w' := by
  obtain ⟨h0, h1⟩ := two_heap w (.cells (planC k l f) 63) (.cells #[.slice none 0 0, .map none] 71)
  have HB := Lib.hid (((Below.refl _ w).alloc (Nat.le_refl _) (.cells (planC k l f) 63)).alloc (by simp) (.cells #[.slice none 0 0, .map none] 71))
  have hs : ((w.alloc (.cells (planC k l f) 63)).alloc (.cells #[.slice none 0 0, .map none] 71)).heap.size = w.heap.size + 2 := by simp
  obtain ⟨wa, hwa⟩ : ∃ wa, (w.alloc (.cells (planC k l f) 63)).alloc (.cells #[.slice none 0 0, .map none] 71) = wa := ⟨_, rfl⟩
  rw [hwa] at HB h0 h1 hs
  rw [planC] at hwa
  have HWA := Lib.hid hwa
  have H0 := Lib.hid h0
  have H1 := Lib.hid h1
  have HCO := Lib.hid (fun w => colourings_any k d w hk hd hd4)
  have HGD := Lib.hid (clsL_good hk hd hd4)
  have HSZ := Lib.hid hs
  obtain ⟨c0, c1, c2⟩ := cells_of3 h0
  obtain ⟨X, hX⟩ : ∃ X, clsL k d = X := ⟨_, rfl⟩
  rw [hX] at HCO HGD
  have HX := Lib.hid hX
  have hmm := @run_makeMap Try.prog
  clear hwa h0 h1 hs hX
  show Calls _ _ #[.agg #[.int .i64 k, .int .i64 l, sv f], _] _ _
  go_enter Try.func34, Try.ntmps34
  go_upto_region 1 with fail
  rw [HWA.out]
  go_wp2_with fail
  refine (HCO.out wa).mono ?_
  rintro e w1 ⟨⟨ao, b, cap, rfl, hat⟩, hb1⟩
  have HB1 := Lib.hid (HB.out.trans (hb1.mono HB.out.size))
  have H01 := Lib.hid ((hb1.block _ (lt_of_block H0.out)).trans H0.out)
  have H11 := Lib.hid ((hb1.block _ (lt_of_block H1.out)).trans H1.out)
  have HAT := Lib.hid hat
  have hxl := hat.len
  clear hat hb1 c0 c1 c2 HB H0 H1
  obtain ⟨mb, hmb⟩ : ∃ mb, w1.heap.size = mb := ⟨_, rfl⟩
  have HMB := Lib.hid hmb
  have hlt0 := lt_of_block H01.out
  have hlt1 := lt_of_block H11.out
  rw [hmb] at hlt0 hlt1
  have HWM := Lib.hid (show ∀ wz, (w1.alloc (.map #[] 0)).alloc (.cells #[.slice ao X.length cap, .map (some mb)] 71) = wz → wz.heap.size = mb + 2 ∧ (∀ g, g < mb → wz.heap[g]? = w1.heap[g]?) ∧ wz.heap[mb + 1]? = some (.cells #[.slice ao X.length cap, .map (some mb)] 71 (0, 0)) ∧ wz.ownsMap Try.prog 84 RS mb 0 (.map []) from by
    rintro wz rfl
    refine ⟨by simp [hmb], fun g hg => by rw [Below.heap_alloc _ _ _ (by simp; omega), Below.heap_alloc _ _ _ (by omega)], ?_, ?_⟩
    · have := heap_alloc_new (w1.alloc (.map #[] 0)) (.cells #[.slice ao X.length cap, .map (some mb)] 71)
      simpa [hmb] using this
    · have := (World.ownsMap_made w1 Try.prog 84 RS).alloc (.cells #[.slice ao X.length cap, .map (some mb)] 71)
      rwa [hmb] at this)
  go_wp2
  go_loopw [7, 17] (fun _ y wr => ∃ (n : Nat) (D : DataW Unit), n ≤ X.length ∧ y = .int .i64 n ∧ Below w.heap.size w wr ∧ mb + 2 ≤ wr.heap.size ∧ (∀ g, g < mb → wr.heap[g]? = w1.heap[g]?) ∧ wr.heap[mb + 1]? = some (.cells #[.slice ao X.length cap, .map (some mb)] 71 (0, 0)) ∧
    wr.ownsMap Try.prog 84 RS mb n D ∧ IsMap D ∧ Has k l f X n D) (fun _ y _ => X.length - (intOf y).toNat)
  case atStart =>
    obtain ⟨z1, z2, z3, z4⟩ := HWM.out _ rfl
    exact ⟨0, .map [], by omega, rfl, (HB1.out.alloc HB1.out.size _).alloc (by have := HB1.out.size; simp; omega) _, by omega, z2, z3, z4, isMap_nil, fun q hq => absurd hq (by omega)⟩
  case round =>
    obtain ⟨n, D, hn, rfl, hb, hsz, hlo, hs, hown, hD, hH⟩ := hrel
    have HB := Lib.hid hb
    have HLO := Lib.hid hlo
    have HSR := Lib.hid hs
    have HOW := Lib.hid hown
    have HD0 := Lib.hid hD
    have HH := Lib.hid hH
    clear HWM hb hlo hs hown hD hH hmb
    by_cases hlt : n < X.length
    · have hat := HAT.out
      obtain ⟨rfl, hbw⟩ := hat.ptr (by omega)
      have hbm : b < mb := by rw [← HMB.out]; exact hbw
      have HR := Lib.hid (show wr.rangeAt b (0 + n * 6) (colL (nth (row X n))) from fun j v hv => by
        have := hat.rng n hlt j v hv
        rw [← this]
        exact World.cell?_of_block (HLO.out b hbm))
      have HX4 := Lib.hid (HGD.out.2 n hlt)
      have hX9 := HGD.out.1
      obtain ⟨s0, s1, -, -⟩ := cells_of2 HSR.out
      have HPUT := Lib.hid (has_put (l := l) (f := f) (D := D) hk HD0.out HGD.out.2 hlt HH.out)
      obtain ⟨x, hx⟩ : ∃ x, row X n = x := ⟨_, rfl⟩
      rw [hx] at HR HX4 HPUT
      clear hat hx
      obtain ⟨ws, rfl⟩ : ∃ ws : World, ws = wr := ⟨_, rfl⟩
      obtain ⟨wq, hwq⟩ : ∃ wq, (ws.alloc (.cells #[.int .i64 0, .int .i64 0, .int .i64 0, .int .i64 0, .int .i64 0, .int .i64 0] 84)).setRow ws.heap.size (colC (nth x)) = wq := ⟨_, rfl⟩
      have HQ := Lib.hid (show Below ws.heap.size ws wq by rw [← hwq]; exact below_setRow ((Below.refl _ ws).alloc (Nat.le_refl _) _) (Nat.le_refl _) _)
      have H7 := Lib.hid (show wq.heap[ws.heap.size]? = some (.cells (colC (nth x)) 84 (0, 0)) by rw [← hwq]; exact setRow_heap _ ws.heap.size _ _ _ _ (heap_alloc_new ws _))
      have HWQ := Lib.hid hwq
      have hm0 : mb < ws.heap.size := by omega
      have HP := Lib.hid (show wq.heap[w.heap.size]? = some (.cells (planC k l f) 63 (0, 0)) from (HQ.out.block _ (by omega)).trans ((HLO.out _ hlt0).trans H01.out))
      have HS := Lib.hid ((HQ.out.block (mb + 1) (by omega)).trans HSR.out)
      have HM := Lib.hid (map_below HOW.out HQ.out hm0 (rfl : 0 = 0))
      have HDR := Lib.hid (below_dr (Below.refl wq.heap.size wq))
      have HCL := Lib.hid (show ∀ W, Below wq.heap.size wq W → Calls Try.prog 51 #[.agg #[.int .i64 k, .int .i64 l, .int .u64 (S36 f : Nat)], .agg #[.int .i64 (nth x 0), .int .i64 (nth x 1), .int .i64 (nth x 2), .int .i64 (nth x 3), .int .i64 (nth x 4), .int .i64 (nth x 5)]] W fun e w' => e = .returned (.int .u64 (S36 (stF k l f (nth x)) : Nat)) ∧ Below wq.heap.size wq w' from
        fun W hW => (stopped_any k l f (nth x) W hk hl).mono fun e w' h => ⟨h.1, hW.trans (h.2.mono hW.size)⟩)
      have HKE := Lib.hid (show ∀ W, Below wq.heap.size wq W → (W.cell? ⟨w.heap.size, 0, none⟩ = some (.int .i64 k) ∧ W.cell? ⟨w.heap.size, 1, none⟩ = some (.int .i64 l) ∧ W.cell? ⟨w.heap.size, 2, none⟩ = some (.int .u64 (S36 f : Nat))) ∧ (W.cell? ⟨mb + 1, 1, none⟩ = some (.map (some mb))) ∧ W.cell? ⟨ws.heap.size, 0, none⟩ = some (.int .i64 (nth x 0)) ∧ W.cell? ⟨ws.heap.size, 1, none⟩ = some (.int .i64 (nth x 1)) ∧ W.cell? ⟨ws.heap.size, 2, none⟩ = some (.int .i64 (nth x 2)) ∧ W.cell? ⟨ws.heap.size, 3, none⟩ = some (.int .i64 (nth x 3)) ∧ W.cell? ⟨ws.heap.size, 4, none⟩ = some (.int .i64 (nth x 4)) ∧ W.cell? ⟨ws.heap.size, 5, none⟩ = some (.int .i64 (nth x 5)) from fun W hW => by
        have hb := (hW.block _ (lt_of_block H7.out)).trans H7.out
        obtain ⟨p0, p1, p2⟩ := cells_of3 ((hW.block _ (lt_of_block HP.out)).trans HP.out)
        obtain ⟨q0, q1, -, -⟩ := cells_of2 ((hW.block _ (lt_of_block HS.out)).trans HS.out)
        exact ⟨⟨p0, p1, p2⟩, q1, (colC_cell hb (by omega)).1, (colC_cell hb (by omega)).1, (colC_cell hb (by omega)).1, (colC_cell hb (by omega)).1, (colC_cell hb (by omega)).1, (colC_cell hb (by omega)).1⟩)
      have HMW := Lib.hid (fun W (hW : Below wq.heap.size wq W) => map_below HM.out hW HM.out.lt (rfl : 0 = 0))
      have HUPD := Lib.hid (show ∀ W, Below wq.heap.size wq W → ∃ w', (Instr.mapUpdate 69 (.map (some mb)) (.agg #[.int .i64 (nth x 0), .int .i64 (nth x 1), .int .i64 (nth x 2), .int .i64 (nth x 3), .int .i64 (nth x 4), .int .i64 (nth x 5)]) (.int .u64 (S36 (stF k l f (nth x)) : Nat))).run Try.prog W = .ok () w' ∧ w'.ownsMap Try.prog 84 RS mb (n + 1) (D.put (kc (nth x)) (.lit (.int .u64 (S36 (stF k l f (nth x)) : Nat)))) ∧ W.grownBy w' (some mb) from fun W hW => by
        have hlt := S36_lt (stF k l f (nth x))
        exact (HMW.out W hW).update lawCol Try.underlying69 (by unfold maxLen; omega) (keyOf_col (nth x) HX4.out) (plainElem_int (H := Unit) Try.underlying61 (a := (S36 (stF k l f (nth x)) : Nat)) (by simp [Lit.wf, IntKind.min, IntKind.max, IntKind.signed, IntKind.bits]; omega)))
      have HKG := Lib.hid (show ∀ W W', Below wq.heap.size wq W → W.grownBy W' (some mb) → (∀ g, g < wq.heap.size → g ≠ mb → W'.heap[g]? = wq.heap[g]?) ∧ (((W'.cell? ⟨w.heap.size, 0, none⟩ = some (.int .i64 k) ∧ W'.cell? ⟨w.heap.size, 1, none⟩ = some (.int .i64 l) ∧ W'.cell? ⟨w.heap.size, 2, none⟩ = some (.int .u64 (S36 f : Nat))) ∧ (W'.cell? ⟨mb + 1, 1, none⟩ = some (.map (some mb))) ∧ W'.cell? ⟨ws.heap.size, 0, none⟩ = some (.int .i64 (nth x 0)) ∧ W'.cell? ⟨ws.heap.size, 1, none⟩ = some (.int .i64 (nth x 1)) ∧ W'.cell? ⟨ws.heap.size, 2, none⟩ = some (.int .i64 (nth x 2)) ∧ W'.cell? ⟨ws.heap.size, 3, none⟩ = some (.int .i64 (nth x 3)) ∧ W'.cell? ⟨ws.heap.size, 4, none⟩ = some (.int .i64 (nth x 4)) ∧ W'.cell? ⟨ws.heap.size, 5, none⟩ = some (.int .i64 (nth x 5)))) from fun W W' hW hG => by
        have hbl : ∀ g, g < wq.heap.size → g ≠ mb → W'.heap[g]? = wq.heap[g]? := fun g hg hne => (hG.block g (Nat.lt_of_lt_of_le hg hW.size) (fun e => hne (Option.some.inj e))).trans (hW.block g hg)
        have hb := (hbl _ (lt_of_block H7.out) (by omega)).trans H7.out
        obtain ⟨p0, p1, p2⟩ := cells_of3 ((hbl _ (lt_of_block HP.out) (by omega)).trans HP.out)
        obtain ⟨q0, q1, -, -⟩ := cells_of2 ((hbl _ (lt_of_block HS.out) (by omega)).trans HS.out)
        exact ⟨hbl, ⟨p0, p1, p2⟩, q1, (colC_cell hb (by omega)).1, (colC_cell hb (by omega)).1, (colC_cell hb (by omega)).1, (colC_cell hb (by omega)).1, (colC_cell hb (by omega)).1, (colC_cell hb (by omega)).1⟩)
      clear hwq
      go_wp2_with (first
        | (refine wpList_load_mid rfl 84 (.tmp 19) rfl b (0 + n * 6) (by simp [Act.eval]) _ _ HR.out Try.underlying84 rfl (info_col _) ?_; rw [colL_arr])
        | (refine wpList_store_row rfl 84 (.tmp 7) (.tmp 20) rfl ws.heap.size _ rfl rfl 84 _ (heap_alloc_new _ _) (info_colC _) (by rw [colC_size]; rfl) (colC_all _) ?_; rw [HWQ.out])
        | (fail))
      go_region_held3 (fun W => (W.cell? ⟨w.heap.size, 0, none⟩ = some (.int .i64 k) ∧ W.cell? ⟨w.heap.size, 1, none⟩ = some (.int .i64 l) ∧ W.cell? ⟨w.heap.size, 2, none⟩ = some (.int .u64 (S36 f : Nat))) ∧ (W.cell? ⟨mb + 1, 1, none⟩ = some (.map (some mb))) ∧ W.cell? ⟨ws.heap.size, 0, none⟩ = some (.int .i64 (nth x 0)) ∧ W.cell? ⟨ws.heap.size, 1, none⟩ = some (.int .i64 (nth x 1)) ∧ W.cell? ⟨ws.heap.size, 2, none⟩ = some (.int .i64 (nth x 2)) ∧ W.cell? ⟨ws.heap.size, 3, none⟩ = some (.int .i64 (nth x 3)) ∧ W.cell? ⟨ws.heap.size, 4, none⟩ = some (.int .i64 (nth x 4)) ∧ W.cell? ⟨ws.heap.size, 5, none⟩ = some (.int .i64 (nth x 5)))
        (first | exact HK9.out.2 | exact HKE.out _ HB8.out | exact HKE.out _ HDR.out | exact HKE.out _ (Below.refl _ _))
        (first
          | (go_simp; go_at_call 51; (with_reducible refine (HCL.out _ HDR.out).mono ?_); rintro e8 w8 ⟨rfl, hb8⟩; have HB8 := Lib.hid hb8; clear hb8)
          | (obtain ⟨w9, hr9, hown9, hgr9⟩ := HUPD.out _ HB8.out; rw [hr9]; have HK9 := Lib.hid (HKG.out _ _ HB8.out hgr9); have HO9 := Lib.hid hown9; have HG9 := Lib.hid hgr9; clear hr9 hown9 hgr9; go_simp)
          | (fail))
      have HB9 := Lib.hid (show Below w.heap.size w w9 from (HB.out.trans (HQ.out.mono HB.out.size)).trans ((HB8.out.mono (Nat.le_trans HB.out.size HQ.out.size)).trans ⟨HG9.out.os, HG9.out.tape, HG9.out.output, HG9.out.size, fun g hg => HG9.out.block g (by have := HB8.out.size; have := HQ.out.size; omega) (by intro e; have := Option.some.inj e; omega)⟩))
      have HL9 := Lib.hid (show ∀ g, g < mb → w9.heap[g]? = w1.heap[g]? from fun g hg => (HK9.out.1 g (by have := HQ.out.size; omega) (by omega)).trans ((HQ.out.block g (by omega)).trans (HLO.out g hg)))
      have HS9 := Lib.hid ((HK9.out.1 (mb + 1) (lt_of_block HS.out) (by omega)).trans HS.out)
      have HI9 := Lib.hid (lt_of_block HS9.out)
      go_wp2
      go_roundw
      case rel => exact ⟨n + 1, _, by omega, by go_num, HB9.out, by have := HI9.out; omega, HL9.out, HS9.out, HO9.out, HD0.out.put _ _, HPUT.out⟩
      case measure => simp [intOf]; omega
    · have hnl : n = X.length := by omega
      subst hnl
      have H19 := Lib.hid ((HLO.out _ hlt1).trans H11.out)
      go_wp2_with (first
        | (refine wpList_load_row rfl 71 (.tmp 5) rfl (mb + 1) rfl 71 _ _ _ HSR.out Try.underlying71 rfl (by kernel_rfl) ?_)
        | (refine wpList_store_row rfl 71 (.tmp 4) (.tmp 28) rfl (w.heap.size + 1) _ rfl rfl 71 _ H19.out (by kernel_rfl) rfl (by simp [Value.oneCell']) ?_))
      have hb' := HAT.out.below (w' := wr) (B := mb) ⟨HB.out.os.trans HB1.out.os.symm, HB.out.tape.trans HB1.out.tape.symm, HB.out.output.trans HB1.out.output.symm, by have := HMB.out; omega, HLO.out⟩ (by have := HMB.out; omega)
      refine bodyPost_ret (v := .agg #[.slice ao X.length cap, .map (some mb)]) ?_ rfl ⟨_, rfl, ⟨ao, b, cap, mb, D, by rw [HX.out], ?_, ?_, by rw [HX.out]; exact HH.out⟩, below_setRow HB.out (by omega) _⟩
      · exact results_cell_row (ty := 71) (p := 4) rfl _ _ (w.heap.size + 1) 71 #[.slice ao X.length cap, .map (some mb)] (0, 0) _ rfl (setRow_heap _ _ _ _ _ _ H19.out) Try.underlying71 rfl (by kernel_rfl)
      · rw [HX.out]
        refine ⟨fun hp => ⟨(hb'.ptr hp).1, by simpa [World.setRow] using (hb'.ptr hp).2⟩, fun i hi j v hv => ?_, hb'.len⟩
        rw [cell_setRow_other _ _ _ _ (by
          show b ≠ w.heap.size + 1
          intro e
          have h0 := HAT.out.rng 0 (by omega) 0 (.int .i64 (nth (row X 0) 0)) (by simp [colL])
          rw [e, (cells_of2 H11.out).1] at h0
          cases h0)]
        exact hb'.rng i hi j v hv
      · rw [HX.out]
        obtain ⟨es, clock, q1, q2⟩ := HOW.out
        exact ⟨es, clock, (setRow_other _ _ _ _ (by omega)).trans q1, q2⟩

end Go.Proofs.Ytjibdolhipddbaa
