/- B7 B8 -/
import Derived.Test.YtjibdolhipddbaaQe
/- The program's search, made. -/
namespace Go.Proofs.Ytjibdolhipddbaa
open Go.RowKit Go.Maps

theorem cells_of2 {W : World} {g : Nat} {x y : Value} {T : TypeId} (h : W.heap[g]? = some (.cells #[x, y] T (0, 0))) :
    W.cell? ⟨g, 0, none⟩ = some x ∧ W.cell? ⟨g, 1, none⟩ = some y ∧ W.frozen? ⟨g, 0, none⟩ = false ∧ W.frozen? ⟨g, 1, none⟩ = false :=
  ⟨by rw [cell_of_row _ _ _ _ _ _ h]; rfl, by rw [cell_of_row _ _ _ _ _ _ h]; rfl, frozen_of_row _ _ _ _ _ h, frozen_of_row _ _ _ _ _ h⟩
theorem isMap_nil : IsMap (DataW.map [] : DataW Unit) := by first | exact trivial | exact ⟨_, rfl⟩ | rfl

set_option maxHeartbeats 4000000 in
set_option maxRecDepth 100000 in
theorem newSearch_any (k l d : Nat) (f : Nat → Bool) (w : World) (hk : k ≤ 6) (hl : l ≤ 6) (hd : 1 ≤ d) (hd4 : d ≤ 4) :
    Calls Try.prog 34 #[planV k l f, .int .i64 d] w fun e w' => ∃ v, e = .returned v ∧ SearchAt w' v k l d f ∧ Below w.heap.size w w' := by
  obtain ⟨h0, h1⟩ := two_heap w (.cells (planC k l f) 63) (.cells #[.slice none 0 0, .map none] 71)
  have HB := Lib.hid (((Below.refl _ w).alloc (Nat.le_refl _) (.cells (planC k l f) 63)).alloc (by simp) (.cells #[.slice none 0 0, .map none] 71))
  have hs : ((w.alloc (.cells (planC k l f) 63)).alloc (.cells #[.slice none 0 0, .map none] 71)).heap.size = w.heap.size + 2 := by simp
  obtain ⟨wa, hwa⟩ : ∃ wa, (w.alloc (.cells (planC k l f) 63)).alloc (.cells #[.slice none 0 0, .map none] 71) = wa := ⟨_, rfl⟩
  rw [hwa] at HB h0 h1 hs
  rw [planC] at hwa
  have HWA := Lib.hid hwa
  have H0 := Lib.hid h0
  have H1 := Lib.hid h1
  have HCO := Lib.hid (fun w => colourings_any k d w hk hd hd4)
  have HGD := Lib.hid (clsL_good hk hd hd4)
  have HSZ := Lib.hid hs
  obtain ⟨c0, c1, c2⟩ := cells_of3 h0
  obtain ⟨X, hX⟩ : ∃ X, clsL k d = X := ⟨_, rfl⟩
  rw [hX] at HCO HGD
  have HX := Lib.hid hX
  have hmm := @run_makeMap Try.prog
  clear hwa h0 h1 hs hX
  show Calls _ _ #[.agg #[.int .i64 k, .int .i64 l, sv f], _] _ _
  go_enter Try.func34, Try.ntmps34
  go_upto_region 1 with fail
  rw [HWA.out]
  go_wp2_with fail
  refine (HCO.out wa).mono ?_
  rintro e w1 ⟨⟨ao, b, cap, rfl, hat⟩, hb1⟩
  have HB1 := Lib.hid (HB.out.trans (hb1.mono HB.out.size))
  have H01 := Lib.hid ((hb1.block _ (lt_of_block H0.out)).trans H0.out)
  have H11 := Lib.hid ((hb1.block _ (lt_of_block H1.out)).trans H1.out)
  have HAT := Lib.hid hat
  have hxl := hat.len
  clear hat hb1 c0 c1 c2 HB H0 H1
  obtain ⟨mb, hmb⟩ : ∃ mb, w1.heap.size = mb := ⟨_, rfl⟩
  have HMB := Lib.hid hmb
  have hlt0 := lt_of_block H01.out
  have hlt1 := lt_of_block H11.out
  rw [hmb] at hlt0 hlt1
  have HWM := Lib.hid (show ∀ wz, (w1.alloc (.map #[] 0)).alloc (.cells #[.slice ao X.length cap, .map (some mb)] 71) = wz → wz.heap.size = mb + 2 ∧ (∀ g, g < mb → wz.heap[g]? = w1.heap[g]?) ∧ wz.heap[mb + 1]? = some (.cells #[.slice ao X.length cap, .map (some mb)] 71 (0, 0)) ∧ wz.ownsMap Try.prog 84 RS mb 0 (.map []) from by
    rintro wz rfl
    refine ⟨by simp [hmb], fun g hg => by rw [Below.heap_alloc _ _ _ (by simp; omega), Below.heap_alloc _ _ _ (by omega)], ?_, ?_⟩
    · have := heap_alloc_new (w1.alloc (.map #[] 0)) (.cells #[.slice ao X.length cap, .map (some mb)] 71)
      simpa [hmb] using this
    · have := (World.ownsMap_made w1 Try.prog 84 RS).alloc (.cells #[.slice ao X.length cap, .map (some mb)] 71)
      rwa [hmb] at this)
  go_wp2
  go_loopw [7, 17] (fun _ y wr => ∃ (n : Nat) (D : DataW Unit), n ≤ X.length ∧ y = .int .i64 n ∧ Below w.heap.size w wr ∧ mb + 2 ≤ wr.heap.size ∧ (∀ g, g < mb → wr.heap[g]? = w1.heap[g]?) ∧ wr.heap[mb + 1]? = some (.cells #[.slice ao X.length cap, .map (some mb)] 71 (0, 0)) ∧
    wr.ownsMap Try.prog 84 RS mb n D ∧ IsMap D ∧ Has k l f X n D) (fun _ y _ => X.length - (intOf y).toNat)
  case atStart =>
    obtain ⟨z1, z2, z3, z4⟩ := HWM.out _ rfl
    exact ⟨0, .map [], by omega, rfl, (HB1.out.alloc HB1.out.size _).alloc (by have := HB1.out.size; simp; omega) _, by omega, z2, z3, z4, isMap_nil, fun q hq => absurd hq (by omega)⟩
  case round =>
    obtain ⟨n, D, hn, rfl, hb, hsz, hlo, hs, hown, hD, hH⟩ := hrel
    have HB := Lib.hid hb
    have HLO := Lib.hid hlo
    have HSR := Lib.hid hs
    have HOW := Lib.hid hown
    have HD0 := Lib.hid hD
    have HH := Lib.hid hH
    clear HWM hb hlo hs hown hD hH hmb
    by_cases hlt : n < X.length
    · have hat := HAT.out
      obtain ⟨rfl, hbw⟩ := hat.ptr (by omega)
      have hbm : b < mb := by rw [← HMB.out]; exact hbw
      have HR := Lib.hid (show wr.rangeAt b (0 + n * 6) (colL (nth (row X n))) from fun j v hv => by
        have := hat.rng n hlt j v hv
        rw [← this]
        exact World.cell?_of_block (HLO.out b hbm))
      have HX4 := Lib.hid (HGD.out.2 n hlt)
      have hX9 := HGD.out.1
      obtain ⟨s0, s1, -, -⟩ := cells_of2 HSR.out
      have HPUT := Lib.hid (has_put (l := l) (f := f) (D := D) hk HD0.out HGD.out.2 hlt HH.out)
      obtain ⟨x, hx⟩ : ∃ x, row X n = x := ⟨_, rfl⟩
      rw [hx] at HR HX4 HPUT
      clear hat hx
      obtain ⟨ws, rfl⟩ : ∃ ws : World, ws = wr := ⟨_, rfl⟩
      obtain ⟨wq, hwq⟩ : ∃ wq, (ws.alloc (.cells #[.int .i64 0, .int .i64 0, .int .i64 0, .int .i64 0, .int .i64 0, .int .i64 0] 84)).setRow ws.heap.size (colC (nth x)) = wq := ⟨_, rfl⟩
      have HQ := Lib.hid (show Below ws.heap.size ws wq by rw [← hwq]; exact below_setRow ((Below.refl _ ws).alloc (Nat.le_refl _) _) (Nat.le_refl _) _)
      have H7 := Lib.hid (show wq.heap[ws.heap.size]? = some (.cells (colC (nth x)) 84 (0, 0)) by rw [← hwq]; exact setRow_heap _ ws.heap.size _ _ _ _ (heap_alloc_new ws _))
      have HWQ := Lib.hid hwq
      have hm0 : mb < ws.heap.size := by omega
      have HP := Lib.hid (show wq.heap[w.heap.size]? = some (.cells (planC k l f) 63 (0, 0)) from (HQ.out.block _ (by omega)).trans ((HLO.out _ hlt0).trans H01.out))
      have HS := Lib.hid ((HQ.out.block (mb + 1) (by omega)).trans HSR.out)
      have HM := Lib.hid (map_below HOW.out HQ.out hm0 (rfl : 0 = 0))
      have HDR := Lib.hid (below_dr (Below.refl wq.heap.size wq))
      have HCL := Lib.hid (show ∀ W, Below wq.heap.size wq W → Calls Try.prog 51 #[.agg #[.int .i64 k, .int .i64 l, .int .u64 (S36 f : Nat)], .agg #[.int .i64 (nth x 0), .int .i64 (nth x 1), .int .i64 (nth x 2), .int .i64 (nth x 3), .int .i64 (nth x 4), .int .i64 (nth x 5)]] W fun e w' => e = .returned (.int .u64 (S36 (stF k l f (nth x)) : Nat)) ∧ Below wq.heap.size wq w' from
        fun W hW => (stopped_any k l f (nth x) W hk hl).mono fun e w' h => ⟨h.1, hW.trans (h.2.mono hW.size)⟩)
      have HKE := Lib.hid (show ∀ W, Below wq.heap.size wq W → (W.cell? ⟨w.heap.size, 0, none⟩ = some (.int .i64 k) ∧ W.cell? ⟨w.heap.size, 1, none⟩ = some (.int .i64 l) ∧ W.cell? ⟨w.heap.size, 2, none⟩ = some (.int .u64 (S36 f : Nat))) ∧ (W.cell? ⟨mb + 1, 1, none⟩ = some (.map (some mb))) ∧ W.cell? ⟨ws.heap.size, 0, none⟩ = some (.int .i64 (nth x 0)) ∧ W.cell? ⟨ws.heap.size, 1, none⟩ = some (.int .i64 (nth x 1)) ∧ W.cell? ⟨ws.heap.size, 2, none⟩ = some (.int .i64 (nth x 2)) ∧ W.cell? ⟨ws.heap.size, 3, none⟩ = some (.int .i64 (nth x 3)) ∧ W.cell? ⟨ws.heap.size, 4, none⟩ = some (.int .i64 (nth x 4)) ∧ W.cell? ⟨ws.heap.size, 5, none⟩ = some (.int .i64 (nth x 5)) from fun W hW => by
        have hb := (hW.block _ (lt_of_block H7.out)).trans H7.out
        obtain ⟨p0, p1, p2⟩ := cells_of3 ((hW.block _ (lt_of_block HP.out)).trans HP.out)
        obtain ⟨q0, q1, -, -⟩ := cells_of2 ((hW.block _ (lt_of_block HS.out)).trans HS.out)
        exact ⟨⟨p0, p1, p2⟩, q1, (colC_cell hb (by omega)).1, (colC_cell hb (by omega)).1, (colC_cell hb (by omega)).1, (colC_cell hb (by omega)).1, (colC_cell hb (by omega)).1, (colC_cell hb (by omega)).1⟩)
      have HMW := Lib.hid (fun W (hW : Below wq.heap.size wq W) => map_below HM.out hW HM.out.lt (rfl : 0 = 0))
      have HUPD := Lib.hid (show ∀ W, Below wq.heap.size wq W → ∃ w', (Instr.mapUpdate 69 (.map (some mb)) (.agg #[.int .i64 (nth x 0), .int .i64 (nth x 1), .int .i64 (nth x 2), .int .i64 (nth x 3), .int .i64 (nth x 4), .int .i64 (nth x 5)]) (.int .u64 (S36 (stF k l f (nth x)) : Nat))).run Try.prog W = .ok () w' ∧ w'.ownsMap Try.prog 84 RS mb (n + 1) (D.put (kc (nth x)) (.lit (.int .u64 (S36 (stF k l f (nth x)) : Nat)))) ∧ W.grownBy w' (some mb) from fun W hW => by
        have hlt := S36_lt (stF k l f (nth x))
        exact (HMW.out W hW).update lawCol Try.underlying69 (by unfold maxLen; omega) (keyOf_col (nth x) HX4.out) (plainElem_int (H := Unit) Try.underlying61 (a := (S36 (stF k l f (nth x)) : Nat)) (by simp [Lit.wf, IntKind.min, IntKind.max, IntKind.signed, IntKind.bits]; omega)))
      have HKG := Lib.hid (show ∀ W W', Below wq.heap.size wq W → W.grownBy W' (some mb) → (∀ g, g < wq.heap.size → g ≠ mb → W'.heap[g]? = wq.heap[g]?) ∧ (((W'.cell? ⟨w.heap.size, 0, none⟩ = some (.int .i64 k) ∧ W'.cell? ⟨w.heap.size, 1, none⟩ = some (.int .i64 l) ∧ W'.cell? ⟨w.heap.size, 2, none⟩ = some (.int .u64 (S36 f : Nat))) ∧ (W'.cell? ⟨mb + 1, 1, none⟩ = some (.map (some mb))) ∧ W'.cell? ⟨ws.heap.size, 0, none⟩ = some (.int .i64 (nth x 0)) ∧ W'.cell? ⟨ws.heap.size, 1, none⟩ = some (.int .i64 (nth x 1)) ∧ W'.cell? ⟨ws.heap.size, 2, none⟩ = some (.int .i64 (nth x 2)) ∧ W'.cell? ⟨ws.heap.size, 3, none⟩ = some (.int .i64 (nth x 3)) ∧ W'.cell? ⟨ws.heap.size, 4, none⟩ = some (.int .i64 (nth x 4)) ∧ W'.cell? ⟨ws.heap.size, 5, none⟩ = some (.int .i64 (nth x 5)))) from fun W W' hW hG => by
        have hbl : ∀ g, g < wq.heap.size → g ≠ mb → W'.heap[g]? = wq.heap[g]? := fun g hg hne => (hG.block g (Nat.lt_of_lt_of_le hg hW.size) (fun e => hne (Option.some.inj e))).trans (hW.block g hg)
        have hb := (hbl _ (lt_of_block H7.out) (by omega)).trans H7.out
        obtain ⟨p0, p1, p2⟩ := cells_of3 ((hbl _ (lt_of_block HP.out) (by omega)).trans HP.out)
        obtain ⟨q0, q1, -, -⟩ := cells_of2 ((hbl _ (lt_of_block HS.out) (by omega)).trans HS.out)
        exact ⟨hbl, ⟨p0, p1, p2⟩, q1, (colC_cell hb (by omega)).1, (colC_cell hb (by omega)).1, (colC_cell hb (by omega)).1, (colC_cell hb (by omega)).1, (colC_cell hb (by omega)).1, (colC_cell hb (by omega)).1⟩)
      clear hwq
      go_wp2_with (first
        | (refine wpList_load_mid rfl 84 (.tmp 19) rfl b (0 + n * 6) (by simp [Act.eval]) _ _ HR.out Try.underlying84 rfl (info_col _) ?_; rw [colL_arr])
        | (refine wpList_store_row rfl 84 (.tmp 7) (.tmp 20) rfl ws.heap.size _ rfl rfl 84 _ (heap_alloc_new _ _) (info_colC _) (by rw [colC_size]; rfl) (colC_all _) ?_; rw [HWQ.out])
        | (fail))
      go_region_held3 (fun W => (W.cell? ⟨w.heap.size, 0, none⟩ = some (.int .i64 k) ∧ W.cell? ⟨w.heap.size, 1, none⟩ = some (.int .i64 l) ∧ W.cell? ⟨w.heap.size, 2, none⟩ = some (.int .u64 (S36 f : Nat))) ∧ (W.cell? ⟨mb + 1, 1, none⟩ = some (.map (some mb))) ∧ W.cell? ⟨ws.heap.size, 0, none⟩ = some (.int .i64 (nth x 0)) ∧ W.cell? ⟨ws.heap.size, 1, none⟩ = some (.int .i64 (nth x 1)) ∧ W.cell? ⟨ws.heap.size, 2, none⟩ = some (.int .i64 (nth x 2)) ∧ W.cell? ⟨ws.heap.size, 3, none⟩ = some (.int .i64 (nth x 3)) ∧ W.cell? ⟨ws.heap.size, 4, none⟩ = some (.int .i64 (nth x 4)) ∧ W.cell? ⟨ws.heap.size, 5, none⟩ = some (.int .i64 (nth x 5)))
        (first | exact HK9.out.2 | exact HKE.out _ HB8.out | exact HKE.out _ HDR.out | exact HKE.out _ (Below.refl _ _))
        (first
          | (go_simp; go_at_call 51; (with_reducible refine (HCL.out _ HDR.out).mono ?_); rintro e8 w8 ⟨rfl, hb8⟩; have HB8 := Lib.hid hb8; clear hb8)
          | (obtain ⟨w9, hr9, hown9, hgr9⟩ := HUPD.out _ HB8.out; rw [hr9]; have HK9 := Lib.hid (HKG.out _ _ HB8.out hgr9); have HO9 := Lib.hid hown9; have HG9 := Lib.hid hgr9; clear hr9 hown9 hgr9; go_simp)
          | (fail))
      have HB9 := Lib.hid (show Below w.heap.size w w9 from (HB.out.trans (HQ.out.mono HB.out.size)).trans ((HB8.out.mono (Nat.le_trans HB.out.size HQ.out.size)).trans ⟨HG9.out.os, HG9.out.tape, HG9.out.output, HG9.out.size, fun g hg => HG9.out.block g (by have := HB8.out.size; have := HQ.out.size; omega) (by intro e; have := Option.some.inj e; omega)⟩))
      have HL9 := Lib.hid (show ∀ g, g < mb → w9.heap[g]? = w1.heap[g]? from fun g hg => (HK9.out.1 g (by have := HQ.out.size; omega) (by omega)).trans ((HQ.out.block g (by omega)).trans (HLO.out g hg)))
      have HS9 := Lib.hid ((HK9.out.1 (mb + 1) (lt_of_block HS.out) (by omega)).trans HS.out)
      have HI9 := Lib.hid (lt_of_block HS9.out)
      go_wp2
      go_roundw
      case rel => exact ⟨n + 1, _, by omega, by go_num, HB9.out, by have := HI9.out; omega, HL9.out, HS9.out, HO9.out, HD0.out.put _ _, HPUT.out⟩
      case measure => simp [intOf]; omega
    · have hnl : n = X.length := by omega
      subst hnl
      have H19 := Lib.hid ((HLO.out _ hlt1).trans H11.out)
      go_wp2_with (first
        | (refine wpList_load_row rfl 71 (.tmp 5) rfl (mb + 1) rfl 71 _ _ _ HSR.out Try.underlying71 rfl (by kernel_rfl) ?_)
        | (refine wpList_store_row rfl 71 (.tmp 4) (.tmp 28) rfl (w.heap.size + 1) _ rfl rfl 71 _ H19.out (by kernel_rfl) rfl (by simp [Value.oneCell']) ?_))
      have hb' := HAT.out.below (w' := wr) (B := mb) ⟨HB.out.os.trans HB1.out.os.symm, HB.out.tape.trans HB1.out.tape.symm, HB.out.output.trans HB1.out.output.symm, by have := HMB.out; omega, HLO.out⟩ (by have := HMB.out; omega)
      refine bodyPost_ret (v := .agg #[.slice ao X.length cap, .map (some mb)]) ?_ rfl ⟨_, rfl, ⟨ao, b, cap, mb, D, by rw [HX.out], ?_, ?_, by rw [HX.out]; exact HH.out⟩, below_setRow HB.out (by omega) _⟩
      · exact results_cell_row (ty := 71) (p := 4) rfl _ _ (w.heap.size + 1) 71 #[.slice ao X.length cap, .map (some mb)] (0, 0) _ rfl (setRow_heap _ _ _ _ _ _ H19.out) Try.underlying71 rfl (by kernel_rfl)
      · rw [HX.out]
        refine ⟨fun hp => ⟨(hb'.ptr hp).1, by simpa [World.setRow] using (hb'.ptr hp).2⟩, fun i hi j v hv => ?_, hb'.len⟩
        rw [cell_setRow_other _ _ _ _ (by
          show b ≠ w.heap.size + 1
          intro e
          have h0 := HAT.out.rng 0 (by omega) 0 (.int .i64 (nth (row X 0) 0)) (by simp [colL])
          rw [e, (cells_of2 H11.out).1] at h0
          cases h0)]
        exact hb'.rng i hi j v hv
      · rw [HX.out]
        obtain ⟨es, clock, q1, q2⟩ := HOW.out
        exact ⟨es, clock, (setRow_other _ _ _ _ (by omega)).trans q1, q2⟩

end Go.Proofs.Ytjibdolhipddbaa

/- The program's search for chambers. -/
namespace Go.Proofs.Ytjibdolhipddbaa
open Go.RowKit Go.Maps

theorem first_all (f : Nat → Bool) (h : S36 f ≠ 0) : ∃ p, p < 36 ∧ f p = true ∧ ∀ w : World, Calls Try.prog 52 #[.int .u64 (S36 f : Nat)] w fun e w' => e = .returned (.int .u64 ((S36 fun i => i == p : Nat) : Int)) ∧ w' = w := by
  have HR := Lib.hid (show ∃ p, p < 36 ∧ f p = true ∧ bits .and .u64 (S36 f : Nat) (IntKind.u64.wrap (-(S36 f : Nat))) = ((S36 fun i => i == p : Nat) : Int) from by
    obtain ⟨p, h1, h2, h3⟩ := low_bit f h
    have hlt := S36_lt f
    refine ⟨p, h1, h2, ?_⟩
    rw [show IntKind.u64.wrap (-(S36 f : Nat)) = ((18446744073709551616 - S36 f : Nat) : Int) by rw [IntKind.wrap_u64]; omega, u64_and_nat _ _ (by omega) (by omega), h3])
  obtain ⟨p, h1, h2, h3⟩ := HR.out
  refine ⟨p, h1, h2, fun w => ?_⟩
  have H3 := Lib.hid h3
  clear h HR h3
  go_enter Try.func52, Try.ntmps52
  go_wp2
  go_ret
  exact ⟨by rw [← H3.out]; rfl, rfl⟩

/-- Y is a list of at most c of the colourings in X that stop all pairs of g. -/
structure Cov (k l : Nat) (f : Nat → Bool) (X : List (List Int)) (g : Nat → Bool) (c : Nat) (Y : List (List Int)) : Prop where
  len : Y.length ≤ c
  mem : ∀ y ∈ Y, y ∈ X
  all : ∀ p, p < 36 → g p = true → ∃ y ∈ Y, stF k l f (nth y) p = true

theorem cov_nil {k l : Nat} {f : Nat → Bool} {X : List (List Int)} {g : Nat → Bool} {c : Nat} (h : S36 g = 0) : Cov k l f X g c [] :=
  ⟨by simp, fun y hy => by simp at hy, fun p hp hg => by rw [S36_eq_zero.1 h p hp] at hg; cases hg⟩
theorem cov_zero {k l : Nat} {f : Nat → Bool} {X : List (List Int)} {g : Nat → Bool} (h : S36 g ≠ 0) : ¬ ∃ Y, Cov k l f X g 0 Y := by
  rintro ⟨Y, h1, -, h3⟩
  have : Y = [] := List.length_eq_zero_iff.1 (by omega)
  subst this
  refine h (S36_eq_zero.2 fun p hp => ?_)
  cases e : g p
  · rfl
  · obtain ⟨y, hy, -⟩ := h3 p hp e
    simp at hy
theorem cov_snoc {k l : Nat} {f : Nat → Bool} {X : List (List Int)} {g : Nat → Bool} {c : Nat} {Y : List (List Int)} {x : List Int} (h : Cov k l f X (fun n => g n && !stF k l f (nth x) n) c Y) (hx : x ∈ X) : Cov k l f X g (c + 1) (Y ++ [x]) := by
  refine ⟨by have := h.len; simp; omega, fun y hy => ?_, fun p hp hg => ?_⟩
  · rcases List.mem_append.1 hy with q | q
    · exact h.mem y q
    · rw [List.mem_singleton.1 q]; exact hx
  · cases e : stF k l f (nth x) p
    · obtain ⟨y, h1, h2⟩ := h.all p hp (by rw [hg, e]; rfl)
      exact ⟨y, List.mem_append_left _ h1, h2⟩
    · exact ⟨x, by simp, e⟩
theorem cov_none {k l : Nat} {f : Nat → Bool} {X : List (List Int)} {g : Nat → Bool} {c p : Nat} (hp : p < 36) (hg : g p = true)
    (h : ∀ q, q < X.length → stF k l f (nth (row X q)) p = true → ¬ ∃ Y, Cov k l f X (fun n => g n && !stF k l f (nth (row X q)) n) c Y) : ¬ ∃ Y, Cov k l f X g (c + 1) Y := by
  rintro ⟨Y, h1, h2, h3⟩
  obtain ⟨y, hy, hs⟩ := h3 p hp hg
  obtain ⟨q, hq, e⟩ := List.getElem_of_mem (h2 y hy)
  have hr : row X q = y := by unfold row; rw [List.getD_eq_getElem?_getD, List.getElem?_eq_getElem hq]; exact e
  refine h q hq (by rw [hr]; exact hs) ⟨Y.erase y, ?_, fun z hz => h2 z (List.mem_of_mem_erase hz), fun n hn hgn => ?_⟩
  · rw [List.length_erase_of_mem hy]; omega
  · rw [hr, Bool.and_eq_true] at hgn
    obtain ⟨z, hz, hzs⟩ := h3 n hn hgn.1
    refine ⟨z, (List.mem_erase_of_ne ?_).2 hz, hzs⟩
    rintro rfl
    rw [hzs] at hgn
    simp at hgn

theorem own_monoC {B B' : Nat} {w : World} {e : TypeId} {v : Value} {n : Nat} {vs : List Value} (h : w.ownsRow B e 6 v n vs) (hB : B' ≤ B) : w.ownsRow B' e 6 v n vs := by
  refine ⟨h.1, ?_⟩
  rcases h.2 with h2 | ⟨g, cap, cur, h1, h2, h3⟩
  · exact .inl h2
  · exact .inr ⟨g, cap, cur, h1, by omega, h3⟩
/-- What a search answers. -/
def CovR (k l : Nat) (f : Nat → Bool) (X : List (List Int)) (g : Nat → Bool) (c : Nat) (w : World) (e : Ending) (w' : World) : Prop :=
  ∃ v ok Y, e = .returned (.tuple #[v, .bool ok]) ∧ NewCols w.heap.size w' v Y ∧ (ok = true → Cov k l f X g c Y) ∧ (ok = false → ¬ ∃ Y, Cov k l f X g c Y) ∧ Below w.heap.size w w'

set_option maxHeartbeats 4000000 in
set_option maxRecDepth 100000 in
theorem cover_any (k l d : Nat) (f : Nat → Bool) (hk : k ≤ 6) (hd : 1 ≤ d) (hd4 : d ≤ 4) : ∀ (c : Nat) (v : Value) (g : Nat → Bool) (w : World), c ≤ 4 → SearchAt w v k l d f →
    Calls Try.prog 35 #[v, sv g, .int .i64 c] w fun e w' => CovR k l f (clsL k d) g c w e w' := by
  intro c
  induction c with
  | zero =>
    intro v g w _ hv
    obtain ⟨ao, b, cap, mb, D, rfl, -⟩ := hv.ex
    clear hv
    by_cases h0 : S36 g = 0
    · have t1 : (((S36 g : Nat) : Int) == 0) = true := by rw [h0]; rfl
      have HC := Lib.hid (cov_nil (k := k) (l := l) (f := f) (X := clsL k d) (c := 0) h0)
      clear h0
      rw [sv]
      go_enter Try.func35, Try.ntmps35
      go_wp2
      go_ret2
      exact ⟨_, true, [], rfl, NewCols.nil _ _, fun _ => HC.out, fun h => (Bool.noConfusion h), (Below.refl _ _).alloc (Nat.le_refl _) _⟩
    · have t1 : (((S36 g : Nat) : Int) == 0) = false := beq_eq_false_iff_ne.2 (by omega)
      have HC := Lib.hid (cov_zero (k := k) (l := l) (f := f) (X := clsL k d) h0)
      clear h0
      rw [sv]
      go_enter Try.func35, Try.ntmps35
      go_wp2
      go_ret2
      exact ⟨_, false, [], rfl, NewCols.nil _ _, fun h => (Bool.noConfusion h), fun _ => HC.out, (Below.refl _ _).alloc (Nat.le_refl _) _⟩
  | succ c ih =>
    intro v g w hc hv
    obtain ⟨ao, b, cap, mb, D, rfl, hat, hown, hH⟩ := hv.ex
    have HV := Lib.hid hv
    clear hv
    obtain ⟨hXl, hX4⟩ := clsL_good hk hd hd4
    by_cases h0 : S36 g = 0
    · have t1 : (((S36 g : Nat) : Int) == 0) = true := by rw [h0]; rfl
      have HC := Lib.hid (cov_nil (k := k) (l := l) (f := f) (X := clsL k d) (c := c + 1) h0)
      clear h0 hat hown hH ih hX4
      rw [sv]
      go_enter Try.func35, Try.ntmps35
      go_wp2
      go_ret2
      exact ⟨_, true, [], rfl, NewCols.nil _ _, fun _ => HC.out, fun h => (Bool.noConfusion h), (Below.refl _ _).alloc (Nat.le_refl _) _⟩
    · have t1 : (((S36 g : Nat) : Int) == 0) = false := beq_eq_false_iff_ne.2 (by omega)
      obtain ⟨p, hp, hgp, hfst⟩ := first_all g h0
      have HP := Lib.hid (And.intro hp hgp)
      have HF := Lib.hid hfst
      have HAT := Lib.hid hat
      have HOW := Lib.hid hown
      have HH := Lib.hid hH
      have HX4 := Lib.hid hX4
      have IH := Lib.hid ih
      have hmw := hown.lt
      obtain ⟨m1, hm1⟩ : ∃ m1, c + 1 = m1 := ⟨_, rfl⟩
      have HM1 := Lib.hid hm1
      have t2 : ((m1 : Int) == 0) = false := beq_eq_false_iff_ne.2 (by omega)
      have hwr : IntKind.i64.wrap ((m1 : Int) - 1) = (c : Int) := by rw [IntWalk.i64_in _ (by omega)]; omega
      have hc4 : c ≤ 3 := by omega
      rw [hm1]
      have HB0 := Lib.hid ((Below.refl _ w).alloc (Nat.le_refl _) (.cells #[.slice ao (clsL k d).length cap, .map (some mb)] 71))
      have H00 := Lib.hid (heap_alloc_new w (.cells #[.slice ao (clsL k d).length cap, .map (some mb)] 71))
      obtain ⟨s0, s1, -, -⟩ := cells_of2 H00.out
      obtain ⟨X, hX⟩ : ∃ X, clsL k d = X := ⟨_, rfl⟩
      rw [hX] at HAT HOW HH HX4 hXl HB0 H00 s0 s1 ⊢
      have HX := Lib.hid hX
      have HVX := Lib.hid (show SearchAt w (.agg #[.slice ao X.length cap, .map (some mb)]) k l d f by rw [← hX]; exact HV.out)
      obtain ⟨wa, hwa⟩ : ∃ wa, w.alloc (.cells #[.slice ao X.length cap, .map (some mb)] 71) = wa := ⟨_, rfl⟩
      rw [hwa] at HB0 H00 s0 s1
      have HWA := Lib.hid hwa
      clear hX hwa h0 hat hown hH ih hX4 hfst hp hgp HV hm1 hc
      rw [sv]
      go_enter Try.func35, Try.ntmps35
      go_upto_region 1 with fail
      rw [HWA.out]
      go_wp2
      clear s0 s1
      go_loopw [9, 10, 11, 19] (fun _ _ _ y wr => ∃ n : Nat, n ≤ X.length ∧ y = .int .i64 n ∧ Below w.heap.size w wr ∧ wr.heap[w.heap.size]? = some (.cells #[.slice ao X.length cap, .map (some mb)] 71 (0, 0)) ∧
        (∀ q, q < n → stF k l f (nth (row X q)) p = true → ¬ ∃ Y, Cov k l f X (fun n => g n && !stF k l f (nth (row X q)) n) c Y)) (fun _ _ _ y _ => X.length - (intOf y).toNat)
      case atStart => exact ⟨0, by omega, rfl, HB0.out, H00.out, fun q hq => absurd hq (by omega)⟩
      case round =>
        obtain ⟨n, hn, rfl, hb, hs, hno⟩ := hrel
        have HB := Lib.hid hb
        have HS := Lib.hid hs
        have HNO := Lib.hid hno
        obtain ⟨s0, s1, -, -⟩ := cells_of2 hs
        clear HB0 H00 hb hs hno
        by_cases hlt : n < X.length
        · have hat := HAT.out.below HB.out (Nat.le_refl _)
          obtain ⟨rfl, hbw⟩ := hat.ptr (by omega)
          have HR := Lib.hid (hat.rng n hlt)
          have HXX := Lib.hid (HX4.out n hlt)
          have HHN := Lib.hid (HH.out n hlt)
          have HMEM := Lib.hid (show row X n ∈ X by unfold row; rw [List.getD_eq_getElem?_getD, List.getElem?_eq_getElem hlt]; exact List.getElem_mem hlt)
          have HNX := Lib.hid (show (stF k l f (nth (row X n)) p = true → ¬ ∃ Y, Cov k l f X (fun i => g i && !stF k l f (nth (row X n)) i) c Y) → ∀ q, q < n + 1 → stF k l f (nth (row X q)) p = true → ¬ ∃ Y, Cov k l f X (fun i => g i && !stF k l f (nth (row X q)) i) c Y from fun h q hq => by
            by_cases e : q = n
            · rw [e]; exact h
            · exact HNO.out q (by omega))
          obtain ⟨x, hx⟩ : ∃ x, row X n = x := ⟨_, rfl⟩
          rw [hx] at HR HXX HHN HMEM HNX
          clear hat hx
          obtain ⟨ws, rfl⟩ : ∃ ws : World, ws = wr := ⟨_, rfl⟩
          obtain ⟨wq, hwq⟩ : ∃ wq, (ws.alloc (.cells #[.int .i64 0, .int .i64 0, .int .i64 0, .int .i64 0, .int .i64 0, .int .i64 0] 84)).setRow ws.heap.size (colC (nth x)) = wq := ⟨_, rfl⟩
          have HQ := Lib.hid (show Below ws.heap.size ws wq by rw [← hwq]; exact below_setRow ((Below.refl _ ws).alloc (Nat.le_refl _) _) (Nat.le_refl _) _)
          have H9 := Lib.hid (show wq.heap[ws.heap.size]? = some (.cells (colC (nth x)) 84 (0, 0)) by rw [← hwq]; exact setRow_heap _ ws.heap.size _ _ _ _ (heap_alloc_new ws _))
          have HWQ := Lib.hid hwq
          have HBQ := Lib.hid (HB.out.trans (HQ.out.mono HB.out.size))
          have HSQ := Lib.hid ((HQ.out.block _ (lt_of_block HS.out)).trans HS.out)
          have HLK := Lib.hid (show ∀ W, Below wq.heap.size wq W → (Instr.lookup 69 (.map (some mb)) (.agg #[.int .i64 (nth x 0), .int .i64 (nth x 1), .int .i64 (nth x 2), .int .i64 (nth x 3), .int .i64 (nth x 4), .int .i64 (nth x 5)]) false).run Try.prog W = .ok (.int .u64 (S36 (stF k l f (nth x)) : Nat)) W from fun W hW => by
            obtain ⟨q, h1, h2, -⟩ := (map_below HOW.out (HBQ.out.trans (hW.mono HBQ.out.size)) hmw (rfl : 0 = 0)).lookup_int (w := W) lawCol Try.underlying69 Try.underlying61 (by kernel_rfl) (keyOf_col (nth x) HXX.out)
            rw [HHN.out] at h2
            injection h2 with h2
            injection h2 with _ h2
            rw [show (Instr.lookup 69 (.map (some mb)) (.agg #[.int .i64 (nth x 0), .int .i64 (nth x 1), .int .i64 (nth x 2), .int .i64 (nth x 3), .int .i64 (nth x 4), .int .i64 (nth x 5)]) false).run Try.prog W = .ok (.int .u64 q) W from h1, ← h2])
          obtain ⟨q0, q1, -, -⟩ := cells_of2 HSQ.out
          have x0 := (colC_cell H9.out (show 0 < 6 by omega)).1
          have x1 := (colC_cell H9.out (show 1 < 6 by omega)).1
          have x2 := (colC_cell H9.out (show 2 < 6 by omega)).1
          have x3 := (colC_cell H9.out (show 3 < 6 by omega)).1
          have x4 := (colC_cell H9.out (show 4 < 6 by omega)).1
          have x5 := (colC_cell H9.out (show 5 < 6 by omega)).1
          have hlk := fun m => HLK.out (wq.drewN m) (below_drewN (Below.refl _ _) m)
          have HAN := Lib.hid (show (bits .and .u64 (S36 (stF k l f (nth x)) : Nat) ((S36 fun i => i == p : Nat) : Int) == 0) = !stF k l f (nth x) p by
            rw [sv_and]
            cases e : stF k l f (nth x) p
            · rw [show (S36 fun i => stF k l f (nth x) i && i == p) = 0 from S36_eq_zero.2 fun i _ => by
                by_cases q : i = p
                · rw [q, e]; rfl
                · simp [q]]
              rfl
            · refine beq_eq_false_iff_ne.2 fun q => ?_
              have := S36_eq_zero.1 (Int.ofNat.inj q) p HP.out.1
              simp [e] at this)
          clear hwq s0 s1
          go_wp2_with (first
            | (refine wpList_load_mid rfl 84 (.tmp 21) rfl b (0 + n * 6) (by simp [Act.eval]) _ _ HR.out Try.underlying84 rfl (info_col _) ?_; rw [colL_arr])
            | (refine wpList_store_row rfl 84 (.tmp 9) (.tmp 22) rfl ws.heap.size _ rfl rfl 84 _ (heap_alloc_new _ _) (info_colC _) (by rw [colC_size]; rfl) (colC_all _) ?_; rw [HWQ.out])
            | (fail))
          go_quiet (exact Calls.quiet_of_same (HF.out _))
          rw [HAN.out]
          obtain ⟨sx, hsx⟩ : ∃ b, (!stF k l f (nth x) p) = b := ⟨_, rfl⟩
          rw [hsx]
          have HSX := Lib.hid (show stF k l f (nth x) p = !sx by rw [← hsx]; simp)
          clear hsx hlk q0 q1 x0 x1 x2 x3 x4 x5
          obtain ⟨wz, hwz⟩ : ∃ wz, wq.drewN nq = wz := ⟨_, rfl⟩
          have HBZ := Lib.hid (show Below wq.heap.size wq wz by rw [← hwz]; exact below_drewN (Below.refl _ _) _)
          rw [hwz]
          clear hwz
          have HBW := Lib.hid (HBQ.out.trans (HBZ.out.mono HBQ.out.size))
          have HSZ := Lib.hid ((HBZ.out.block _ (lt_of_block HSQ.out)).trans HSQ.out)
          cases sx
          rotate_left
          · have HN1 := Lib.hid (HNX.out fun q => by rw [HSX.out] at q; cases q)
            go_wp2
            go_roundw
            case rel => exact ⟨n + 1, by omega, by go_num, HBW.out, HSZ.out, HN1.out⟩
            case measure => simp [intOf]; omega
          · have H9Z := Lib.hid ((HBZ.out.block _ (lt_of_block H9.out)).trans H9.out)
            have HDR := Lib.hid (below_dr (Below.refl wz.heap.size wz))
            have hno : bits .andNot .u64 (S36 g : Nat) (S36 (stF k l f (nth x)) : Nat) = ((S36 (fun i => g i && !stF k l f (nth x) i) : Nat) : Int) := sv_not _ _
            have HCL := Lib.hid (show ∀ W, Below wz.heap.size wz W → Calls Try.prog 35 #[.agg #[.slice (some ⟨b, 0, none⟩) X.length cap, .map (some mb)], .int .u64 (S36 (fun i => g i && !stF k l f (nth x) i) : Nat), .int .i64 c] W fun e w' => (∃ v ok Y, e = .returned (.tuple #[v, .bool ok]) ∧ NewCols wz.heap.size w' v Y ∧ (ok = true → Cov k l f X (fun i => g i && !stF k l f (nth x) i) c Y) ∧ (ok = false → ¬ ∃ Y, Cov k l f X (fun i => g i && !stF k l f (nth x) i) c Y)) ∧ Below wz.heap.size wz w' from fun W hW => by
              have hB := HBW.out.trans (hW.mono HBW.out.size)
              have := IH.out _ (fun i => g i && !stF k l f (nth x) i) W (by omega) (HVX.out.below hB (Nat.le_refl _))
              rw [HX.out] at this
              refine this.mono ?_
              rintro e w' ⟨v, ok, Y, h1, h2, h3, h4, h5⟩
              exact ⟨⟨v, ok, Y, h1, h2.mono hW.size, h3, h4⟩, hW.trans (h5.mono hW.size)⟩)
            have HKE := Lib.hid (show ∀ W, Below wz.heap.size wz W → (W.cell? ⟨w.heap.size, 0, none⟩ = some (.slice (some ⟨b, 0, none⟩) X.length cap) ∧ W.cell? ⟨w.heap.size, 1, none⟩ = some (.map (some mb))) ∧ W.cell? ⟨ws.heap.size, 0, none⟩ = some (.int .i64 (nth x 0)) ∧ W.cell? ⟨ws.heap.size, 1, none⟩ = some (.int .i64 (nth x 1)) ∧ W.cell? ⟨ws.heap.size, 2, none⟩ = some (.int .i64 (nth x 2)) ∧ W.cell? ⟨ws.heap.size, 3, none⟩ = some (.int .i64 (nth x 3)) ∧ W.cell? ⟨ws.heap.size, 4, none⟩ = some (.int .i64 (nth x 4)) ∧ W.cell? ⟨ws.heap.size, 5, none⟩ = some (.int .i64 (nth x 5)) from fun W hW => by
              have hb := (hW.block _ (lt_of_block H9Z.out)).trans H9Z.out
              obtain ⟨q0, q1, -, -⟩ := cells_of2 ((hW.block _ (lt_of_block HSZ.out)).trans HSZ.out)
              exact ⟨⟨q0, q1⟩, (colC_cell hb (by omega)).1, (colC_cell hb (by omega)).1, (colC_cell hb (by omega)).1, (colC_cell hb (by omega)).1, (colC_cell hb (by omega)).1, (colC_cell hb (by omega)).1⟩)
            have HLZ := Lib.hid (fun W (hW : Below wz.heap.size wz W) => HLK.out W (HBZ.out.trans (hW.mono HBZ.out.size)))
            go_wp2_with fail
            go_region_held3 (fun W => (W.cell? ⟨w.heap.size, 0, none⟩ = some (.slice (some ⟨b, 0, none⟩) X.length cap) ∧ W.cell? ⟨w.heap.size, 1, none⟩ = some (.map (some mb))) ∧ W.cell? ⟨ws.heap.size, 0, none⟩ = some (.int .i64 (nth x 0)) ∧ W.cell? ⟨ws.heap.size, 1, none⟩ = some (.int .i64 (nth x 1)) ∧ W.cell? ⟨ws.heap.size, 2, none⟩ = some (.int .i64 (nth x 2)) ∧ W.cell? ⟨ws.heap.size, 3, none⟩ = some (.int .i64 (nth x 3)) ∧ W.cell? ⟨ws.heap.size, 4, none⟩ = some (.int .i64 (nth x 4)) ∧ W.cell? ⟨ws.heap.size, 5, none⟩ = some (.int .i64 (nth x 5)))
              (first | exact HKE.out _ HB8.out | exact HKE.out _ HDR.out | exact HKE.out _ (Below.refl _ _))
              (first
                | (go_simp; go_at_call 35; (with_reducible refine (HCL.out _ HDR.out).mono ?_); rintro e8 w8 ⟨⟨v8, ok8, Y8, rfl, hn8, hy8, hz8⟩, hb8⟩; have HB8 := Lib.hid hb8; have HN8 := Lib.hid hn8; have HY8 := Lib.hid hy8; have HZ8 := Lib.hid hz8; clear hb8 hn8 hy8 hz8)
                | (rw [HLZ.out _ (by first | exact Below.refl _ _ | exact HDR.out)]; go_simp)
                | (fail))
            have HB9 := Lib.hid (HBW.out.trans (HB8.out.mono HBW.out.size))
            have HS9 := Lib.hid ((HB8.out.block _ (lt_of_block HSZ.out)).trans HSZ.out)
            have H99 := Lib.hid ((HB8.out.block _ (lt_of_block H9Z.out)).trans H9Z.out)
            cases ok8
            · have HN1 := Lib.hid (HNX.out fun _ => HZ8.out rfl)
              go_wp2
              go_roundw
              case rel => exact ⟨n + 1, by omega, by go_num, HB9.out, HS9.out, HN1.out⟩
              case measure => simp [intOf]; omega
            · have HCV := Lib.hid (cov_snoc (HY8.out rfl) HMEM.out)
              rw [HM1.out] at HCV
              have hyl := (HY8.out rfl).len
              obtain ⟨i0, hi0, hz0, hz1, hz2⟩ := info_parts Try.info84
              have HFL := Lib.hid (fill_col (nth x) i0 hz1)
              have HOWN := Lib.hid ((HN8.out.below ((Below.refl _ w8).alloc (Nat.le_refl _) (.cells (colC (nth x)) 84)) (Nat.le_refl _)).own)
              have HNW := Lib.hid (show ∀ j u, (colL (nth x))[j]? = some u → (w8.alloc (.cells (colC (nth x)) 84)).cell? ((⟨w8.heap.size, 0, none⟩ : Addr).add j) = some u from fun j u hj => by
                rw [Addr.add_mid, Nat.zero_add, cell_of_row _ _ _ _ _ _ (heap_alloc_new w8 _)]
                simpa [colC, ofN, colL] using hj)
              go_wp2_with (first
                | (refine wpList_load_row rfl 84 (.tmp 9) rfl ws.heap.size rfl 84 _ _ _ H99.out Try.underlying84 rfl (info_colC _) ?_)
                | (refine wpList_buildSlice rfl 67 84 1 _ rfl (colC (nth x)) i0 _ Try.underlying67 hi0 hz0 (by rw [hz1]; omega) (by rw [hz1]; omega) (by rw [Array.toList_map]; exact HFL.out) ?_)
                | (at_builtin; refine wpList_append_own _ rfl (.tmp 45) (.tmp 47) 67 rfl wz.heap.size 84 i0 _ 6 48 Try.underlying67 hi0 hz0 hz1 hz2 rfl (by decide) v8 Y8.length (flatC Y8) rfl HOWN.out ⟨w8.heap.size, 0, none⟩ 1 1 (colL (nth x)) rfl (colL_len _) HNW.out ?q1 ?q2 ?q3 ?q4 ?_))
              case q1 => exact fun u hu => by obtain ⟨q, -, rfl⟩ := List.mem_map.1 hu; rfl
              case q2 => unfold maxLen; omega
              case q3 => omega
              case q4 => have := HB8.out.size; simp; omega
              intro v' w9 hown hgrow _
              have HRS := Lib.hid (show NewCols w.heap.size w9 v' (Y8 ++ [x]) from ⟨by rw [flatC_snoc, List.length_append]; exact own_monoC hown HBW.out.size, by simp; omega⟩)
              have HBF := Lib.hid ((HB9.out.alloc HB9.out.size (.cells (colC (nth x)) 84)).grown hgrow (by have := HB9.out.size; simp; omega) (fun r hr => Nat.le_trans HBW.out.size (HN8.out.lt r hr)))
              clear hown hgrow
              go_wp2
              go_ret2
              exact ⟨v', true, Y8 ++ [x], rfl, HRS.out, fun _ => HCV.out, fun h => (Bool.noConfusion h), HBF.out⟩
        · have hnl : n = X.length := by omega
          subst hnl
          have HNN := Lib.hid (cov_none HP.out.1 HP.out.2 HNO.out)
          rw [HM1.out] at HNN
          go_wp2
          go_ret2
          exact ⟨_, false, [], rfl, NewCols.nil _ _, fun h => (Bool.noConfusion h), fun _ => HNN.out, HB.out⟩

end Go.Proofs.Ytjibdolhipddbaa
