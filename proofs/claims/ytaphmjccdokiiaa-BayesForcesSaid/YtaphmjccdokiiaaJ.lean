/- The reference's Joint. -/
import Derived.Test.YtaphmjccdokiiaaI
namespace Go.Proofs.Ytaphmjccdokiiaa
open Go.RowKit

/-- The first result of Joint, for a network. -/
def jointV (P T : List (List Int)) (xs : List Int) : Value := if okAsg xs P.length = true then fracV (wt P T (nth xs) P.length) (16 ^ P.length) else zeroF
theorem jointV_yes {P T : List (List Int)} {xs : List Int} (h : okAsg xs P.length = true) : jointV P T xs = fracV (wt P T (nth xs) P.length) (16 ^ P.length) := if_pos h
theorem jointV_no {P T : List (List Int)} {xs : List Int} (h : okAsg xs P.length = false) : jointV P T xs = zeroF := if_neg (by rw [h]; decide)

set_option maxHeartbeats 2000000 in
set_option maxRecDepth 100000 in
theorem refJoint_any (P T : List (List Int)) (v : Value) (xs : List Int) (ao : Option Addr) (xb xo xc : Nat) (w : World) (h : NetAt w v P T) (hx : IntsAt w ao xb xo xs) (hn : IsNet P T) :
    Calls Try.prog 20 #[v, .slice ao xs.length xc] w fun e w' =>
      e = .returned (.tuple #[jointV P T xs, .bool (okAsg xs P.length)]) ∧ Below w.heap.size w w' := by
  have HNet := Lib.hid h
  have HX := Lib.hid hx
  have HN := Lib.hid hn
  obtain ⟨pa, b, o, pc, A, B, O, C, ta, b', o', tc, A', B', O', C', rfl, hP, hT⟩ := h.ex
  have h10 := HN.out.le
  have hpos := HN.out.pos
  have hlx := hx.len
  clear hP hT h hn hx
  by_cases hlen : xs.length = P.length
  · have hB : (((xs.length : Int)) != (P.length : Int)) = false := by rw [hlen]; simp
    have HL := Lib.hid hlen
    have hle : xs.length ≤ 10 := by omega
    have hpos' : 0 < xs.length := by omega
    obtain ⟨rfl, -⟩ := HX.out.ptr hpos'
    clear hlen
    go_enter Try.func20, Try.ntmps20
    go_wp2
    go_loopw [6, 7] (fun p i wr => ∃ k : Nat, k ≤ xs.length ∧ i = .int .i64 k ∧ p = .int .i64 ((16 : Int) ^ k) ∧ (∀ j, j < k → nth xs j = 0 ∨ nth xs j = 1) ∧
      Below (w.heap.size + 2) ((w.alloc (.cells #[.slice pa P.length pc, .slice ta T.length tc] 24)).alloc (.cells #[.int .i64 0, .int .i64 0] 29)) wr) (fun _ i _ => xs.length - (intOf i).toNat)
    case atStart => exact ⟨0, by omega, rfl, rfl, fun j hj => absurd hj (by omega), Below.refl _ _⟩
    case round =>
      obtain ⟨k, hk, rfl, rfl, ha, hb⟩ := hrel
      have HA := Lib.hid ha
      have HB := Lib.hid hb
      have h16 := pow16_le (k := k) (by omega)
      have h16' := Int.pow_pos (n := 16) (m := k) (by omega)
      obtain ⟨q, hq⟩ : ∃ q : Int, q = 16 ^ k := ⟨_, rfl⟩
      rw [← hq] at h16 h16' ⊢
      have HQ := Lib.hid hq
      have hX' := ((HX.out.alloc (.cells #[.slice pa P.length pc, .slice ta T.length tc] 24)).alloc (.cells #[.int .i64 0, .int .i64 0] 29)).below hb (by simp)
      obtain ⟨k0, k1⟩ := two2 hb (by simp)
      have K0 := Lib.hid k0
      have K1 := Lib.hid k1
      clear ha hb hq k0 k1
      by_cases hlt : k < xs.length
      · have hck := hX'.cell k hlt
        clear hX'
        rcases (show nth xs k < 0 ∨ (0 ≤ nth xs k ∧ 1 < nth xs k) ∨ (0 ≤ nth xs k ∧ nth xs k ≤ 1) by omega) with g | ⟨g, g2⟩ | ⟨g, g2⟩
        · have HF := Lib.hid (show okAsg xs P.length = false from decide_eq_false (fun y => by have := y.2 k hlt; omega))
          go_wp2_with (refine wpList_store_row rfl 29 (.tmp 4) (.tmp 33) rfl (w.heap.size + 1) _ rfl rfl 29 _ K1.out (by kernel_rfl) rfl (by simp [Value.oneCell']) ?_)
          refine bodyPost_ret (v := .tuple #[zeroF, .bool false]) ?_ rfl ⟨by rw [jointV_no HF.out, HF.out], below_setRow ((((Below.refl _ _).alloc (Nat.le_refl _) _).alloc (by simp) _).trans (HB.out.mono (by omega))) (by omega) _⟩
          exact results_cell_row2 (ty := 29) (p := 4) (u := 5) rfl _ _ (w.heap.size + 1) 29 _ (0, 0) _ rfl (setRow_heap _ _ _ _ _ _ K1.out) Try.underlying29 rfl (by kernel_rfl)
        · have HF := Lib.hid (show okAsg xs P.length = false from decide_eq_false (fun y => by have := y.2 k hlt; omega))
          go_wp2_with (refine wpList_store_row rfl 29 (.tmp 4) (.tmp 33) rfl (w.heap.size + 1) _ rfl rfl 29 _ K1.out (by kernel_rfl) rfl (by simp [Value.oneCell']) ?_)
          refine bodyPost_ret (v := .tuple #[zeroF, .bool false]) ?_ rfl ⟨by rw [jointV_no HF.out, HF.out], below_setRow ((((Below.refl _ _).alloc (Nat.le_refl _) _).alloc (by simp) _).trans (HB.out.mono (by omega))) (by omega) _⟩
          exact results_cell_row2 (ty := 29) (p := 4) (u := 5) rfl _ _ (w.heap.size + 1) 29 _ (0, 0) _ rfl (setRow_heap _ _ _ _ _ _ K1.out) Try.underlying29 rfl (by kernel_rfl)
        · go_wp2
          go_roundw
          case rel =>
            refine ⟨k + 1, by omega, by go_num, by rw [Int.pow_succ, ← HQ.out], fun j hj => ?_, HB.out⟩
            by_cases e : j = k
            · subst e; omega
            · exact HA.out j (by omega)
          case measure => simp [intOf]; omega
      · have hOK : okAsg xs P.length = true := decide_eq_true ⟨HL.out, fun i hi => HA.out i (by omega)⟩
        have HOK := Lib.hid hOK
        have ek : k = P.length := by have := HL.out; omega
        have HK := Lib.hid ek
        have hwt := wt_le HN.out (okAsg_Bits hOK) P.length (Nat.le_refl _)
        obtain ⟨c0, c1, -, -⟩ := cells_of2 K0.out
        have HX' := Lib.hid hX'
        clear hX' hOK ek
        go_wp2_with fail
        refine (refWeight_any P T _ xs _ xb xo xc _ ((((HNet.out.alloc _).alloc _).below HB.out (by simp))) HX'.out HN.out (okAsg_Bits HOK.out) HL.out).mono ?_
        rintro e w2 ⟨rfl, hb2⟩
        have HB2 := Lib.hid hb2
        clear hb2 c0 c1
        go_wp2_with fail
        refine (reduced_any _ _ _ (by omega) (by omega) (by omega) (by omega)).mono ?_
        rintro e w3 ⟨rfl, hb3⟩
        have K3 := Lib.hid ((hb3.block _ (by have := lt_of_block K1.out; have := HB2.out.size; omega)).trans ((HB2.out.block _ (lt_of_block K1.out)).trans K1.out))
        have HB3 := Lib.hid hb3
        have e1 := HB.out.size
        have e2 := HB2.out.size
        simp only [World.size_alloc] at e1
        clear hb3
        go_wp2_with (refine wpList_store_row rfl 29 (.tmp 4) (.tmp 40) rfl (w.heap.size + 1) _ rfl rfl 29 _ K3.out (by kernel_rfl) rfl (fracC_all _ _) ?_)
        refine bodyPost_ret (v := .tuple #[fracV (wt P T (nth xs) P.length) q, .bool true]) ?_ rfl ⟨by rw [jointV_yes HOK.out, HOK.out, HQ.out, HK.out], below_setRow ((((Below.refl _ _).alloc (Nat.le_refl _) _).alloc (by simp) _).trans ((HB.out.mono (by omega)).trans ((HB2.out.mono (by omega)).trans (HB3.out.mono (by omega))))) (by omega) _⟩
        exact results_cell_row2 (ty := 29) (p := 4) (u := 5) rfl _ _ (w.heap.size + 1) 29 _ (0, 0) _ rfl (setRow_heap _ _ _ _ _ _ K3.out) Try.underlying29 rfl (by kernel_rfl)
  · have hB : (((xs.length : Int)) != (P.length : Int)) = true := by rw [bne_iff_ne]; omega
    have HF := Lib.hid (show okAsg xs P.length = false from decide_eq_false (fun q => hlen q.1))
    go_enter Try.func20, Try.ntmps20
    go_wp2_with (refine wpList_store_row rfl 29 (.tmp 4) (.tmp 14) rfl (w.heap.size + 1) _ rfl rfl 29 _ (heap_alloc2_new _ _ _) (by kernel_rfl) rfl (by simp [Value.oneCell']) ?_)
    refine bodyPost_ret (v := .tuple #[zeroF, .bool false]) ?_ rfl ⟨by rw [jointV_no HF.out, HF.out], below_setRow (((Below.refl _ _).alloc (Nat.le_refl _) _).alloc (by simp) _) (by omega) _⟩
    exact results_cell_row2 (ty := 29) (p := 4) (u := 5) rfl _ _ (w.heap.size + 1) 29 _ (0, 0) _ rfl (setRow_heap _ _ _ _ _ _ (heap_alloc2_new _ _ _)) Try.underlying29 rfl (by kernel_rfl)

end Go.Proofs.Ytaphmjccdokiiaa
