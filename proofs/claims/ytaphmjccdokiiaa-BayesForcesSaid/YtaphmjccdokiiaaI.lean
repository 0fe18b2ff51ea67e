/- Joint. -/
import Derived.Test.YtaphmjccdokiiaaH
import Derived.Test.YtaphmjccdokiiaaR
namespace Go.Proofs.Ytaphmjccdokiiaa
open Go.RowKit

/-- The fraction 0/0. -/
def zeroF : Value := .agg #[.int .i64 0, .int .i64 0]

/-- Two structs of two cells, boxed. -/
theorem two2 {w W : World} {x y x' y' : Value} {T T' : TypeId} {M : Nat} (h : Below M ((w.alloc (.cells #[x, y] T)).alloc (.cells #[x', y'] T')) W) (hM : w.heap.size + 2 ≤ M) :
    W.heap[w.heap.size]? = some (.cells #[x, y] T (0, 0)) ∧ W.heap[w.heap.size + 1]? = some (.cells #[x', y'] T' (0, 0)) := by
  exact ⟨(h.block _ (by omega)).trans (heap_alloc2_old _ _ _), (h.block _ (by omega)).trans (heap_alloc2_new _ _ _)⟩

theorem cells_of2 {W : World} {g : Nat} {x y : Value} {T : TypeId} (h : W.heap[g]? = some (.cells #[x, y] T (0, 0))) :
    W.cell? ⟨g, 0, none⟩ = some x ∧ W.cell? ⟨g, 1, none⟩ = some y ∧ W.frozen? ⟨g, 0, none⟩ = false ∧ W.frozen? ⟨g, 1, none⟩ = false :=
  ⟨by rw [cell_of_row _ _ _ _ _ _ h]; rfl, by rw [cell_of_row _ _ _ _ _ _ h]; rfl, frozen_of_row _ _ _ _ _ h, frozen_of_row _ _ _ _ _ h⟩

/-- What stays as it is while Joint's last statement is carried out. -/
structure JK (w : World) (pv tv : Value) (g : Nat) (f : Nat → Int) (w' : World) : Prop where
  box : w'.heap[w.heap.size]? = some (.cells #[pv, tv] 24 (0, 0))
  res : w'.heap[w.heap.size + 1]? = some (.cells #[.int .i64 0, .int .i64 0] 29 (0, 0))
  arr : w'.heap[g]? = some (.cells (arrC f) 78 (0, 0))
  below : Below w.heap.size w w'

theorem JK.more {w : World} {pv tv : Value} {g : Nat} {f : Nat → Int} {w' w'' : World} (h : JK w pv tv g f w') (hb : Below w'.heap.size w' w'') : JK w pv tv g f w'' :=
  ⟨(hb.block _ (lt_of_block h.box)).trans h.box, (hb.block _ (lt_of_block h.res)).trans h.res, (hb.block _ (lt_of_block h.arr)).trans h.arr, h.below.trans (hb.mono h.below.size)⟩

set_option maxHeartbeats 2000000 in
set_option maxRecDepth 100000 in
theorem joint_ok (P T : List (List Int)) (v : Value) (xs : List Int) (ao : Option Addr) (xb xo xc : Nat) (w : World) (h : NetAt w v P T) (hx : IntsAt w ao xb xo xs) (hn : isNet P T = true) (ha : okAsg xs P.length = true) :
    Calls Try.prog 17 #[v, .slice ao xs.length xc] w fun e w' =>
      e = .returned (.tuple #[fracV (wt P T (nth xs) P.length) (16 ^ P.length), .int .i64 0]) ∧ Below w.heap.size w w' := by
  have HNet := Lib.hid h
  have HX := Lib.hid hx
  have HA := Lib.hid ha
  have HN := Lib.hid (of_decide_eq_true hn : IsNet P T)
  have HN' := Lib.hid hn
  obtain ⟨pa, b, o, pc, A, B, O, C, ta, b', o', tc, A', B', O', C', rfl, hP, hT⟩ := h.ex
  have h10 := HN.out.le
  clear hP hT h hn ha hx
  go_enter Try.func17, Try.ntmps17
  go_wp2_with fail
  refine (isNetwork_any P T _ _ ((HNet.out.alloc _).alloc _)).mono ?_
  rw [HN'.out]
  rintro e w1 ⟨rfl, hb1⟩
  obtain ⟨k0, k1⟩ := two2 hb1 (by simp)
  obtain ⟨c0, c1, -, -⟩ := cells_of2 k0
  obtain ⟨c2, c3, f2, f3⟩ := cells_of2 k1
  have K0 := Lib.hid k0
  have K1 := Lib.hid k1
  have HB1 := Lib.hid hb1
  clear k0 k1 hb1
  go_wp2_with fail
  refine (toAssignment_any xs P.length ao xb xo xc _ (((HX.out.alloc _).alloc _).below HB1.out (by simp)) h10).mono ?_
  rintro e w2 ⟨⟨f, rfl, hf⟩, hb2⟩
  rw [HA.out]
  obtain rfl := hf HA.out
  have HB2 := Lib.hid hb2
  have hne := HB1.out.size
  have hne2 := HB2.out.size
  simp only [World.size_alloc] at hne
  have d0 := HB2.out.cell (p := ⟨w.heap.size, 0, none⟩) (by show w.heap.size < _; omega)
  have d1 := HB2.out.cell (p := ⟨w.heap.size, 1, none⟩) (by show w.heap.size < _; omega)
  rw [c0] at d0
  rw [c1] at d1
  clear hb2 c0 c1 c2 c3 f2 f3
  go_wp2_with (refine wpList_store_row rfl 78 (.tmp 6) (.tmp 18) rfl w2.heap.size (arrC (nth xs)) rfl rfl 78 _ (heap_alloc_new _ _) (by kernel_rfl) rfl (arrC_all _) ?_)
  have htab := HN.out.tab
  have hwt := wt_le HN.out (okAsg_Bits HA.out) P.length (Nat.le_refl _)
  obtain ⟨W, hW⟩ : ∃ W, W = (w2.alloc (Obj.cells #[.int .i64 0, .int .i64 0, .int .i64 0, .int .i64 0, .int .i64 0, .int .i64 0, .int .i64 0, .int .i64 0, .int .i64 0, .int .i64 0] 78)).setRow w2.heap.size (arrC (nth xs)) := ⟨_, rfl⟩
  rw [← hW]
  have hWb : Below w2.heap.size w2 W := by rw [hW]; exact below_setRow ((Below.refl _ _).alloc (Nat.le_refl _) _) (Nat.le_refl _) _
  have hWr : W.heap[w2.heap.size]? = some (.cells (arrC (nth xs)) 78 (0, 0)) := by rw [hW]; exact setRow_heap _ _ _ _ _ _ (heap_alloc_new _ _)
  clear hW
  have HWB := Lib.hid hWb
  have HWR := Lib.hid hWr
  have k0 := (HB2.out.block _ (lt_of_block K0.out)).trans K0.out
  have k1 := (HB2.out.block _ (lt_of_block K1.out)).trans K1.out
  have b2 : Below w.heap.size w w2 := (((Below.refl _ _).alloc (Nat.le_refl _) _).alloc (by simp) _).trans ((HB1.out.mono (by simp; omega)).trans (HB2.out.mono (by omega)))
  have HJ0 : Hid (JK w (.slice pa P.length pc) (.slice ta T.length tc) w2.heap.size (nth xs) W.drew) :=
    ⟨(hWb.block _ (lt_of_block k0)).trans k0, (hWb.block _ (lt_of_block k1)).trans k1, hWr, (b2.trans (hWb.mono (by omega))).drew⟩
  clear hWb hWr d0 d1 k0 k1
  refine wp_region_quiet_tail (C := JK w (.slice pa P.length pc) (.slice ta T.length tc) w2.heap.size (nth xs)) 6 (by kernel_rfl) (by kernel_rfl) HJ0.out ?_
  simp only [List.take_succ_cons, List.take_zero, List.drop_succ_cons, List.drop_zero]
  refine quiet_next rfl (fun K hK => quiet_load 24 (.tmp 2) rfl w.heap.size rfl 24 _ _ _ (fun w' h => h.box) Try.underlying24 rfl (by kernel_rfl) (hK _ ?_))
  refine quiet_next rfl (fun K hK => quiet_load 78 (.tmp 6) rfl w2.heap.size rfl 78 _ _ _ (fun w' h => h.arr) Try.underlying78 rfl (by kernel_rfl) (hK _ ?_))
  refine quiet_next rfl (fun K hK => quiet_call 48 #[.agg #[.slice pa P.length pc, .slice ta T.length tc], .agg (arrC (nth xs))] (.int .i64 (wt P T (nth xs) P.length)) (fun w' h => by go_simp) (fun w' h => ?_) (hK _ ?_))
  · refine (weight_any P T _ _ _ (HNet.out.below h.below (Nat.le_refl _)) HN.out (okAsg_Bits HA.out)).mono ?_
    rintro e w'' ⟨rfl, hb⟩
    exact ⟨rfl, h.more hb⟩
  refine quiet_next rfl (fun K hK => quiet_load 24 (.tmp 2) rfl w.heap.size rfl 24 _ _ _ (fun w' h => h.box) Try.underlying24 rfl (by kernel_rfl) (hK _ ?_))
  refine quiet_next rfl (fun K hK => quiet_call 49 #[.agg #[.slice pa P.length pc, .slice ta T.length tc]] (.int .i64 ((16 : Int) ^ T.length)) (fun w' h => by go_simp) (fun w' h => ?_) (hK _ ?_))
  · refine (fullWeight_any P T _ _ (HNet.out.below h.below (Nat.le_refl _)) (by omega)).mono ?_
    rintro e w'' ⟨rfl, hb⟩
    exact ⟨rfl, h.more hb⟩
  refine quiet_next rfl (fun K hK => quiet_call 47 #[.int .i64 (wt P T (nth xs) P.length), .int .i64 ((16 : Int) ^ T.length)] (fracV (wt P T (nth xs) P.length) ((16 : Int) ^ T.length)) (fun w' h => by go_simp) (fun w' h => ?_) (hK _ ?_))
  · refine (fraction_any _ _ _ ?_ ?_ ?_ ?_).mono ?_
    · omega
    · omega
    · have := Int.pow_pos (n := 16) (m := T.length) (by omega); omega
    · have := pow16_le (k := T.length) (by omega); omega
    rintro e w'' ⟨rfl, hb⟩
    exact ⟨rfl, h.more hb⟩
  refine wpQuiet_nil (fun w' hw' => ?_)
  simp only [Act.put, List.setIfInBounds_toArray, List.set_cons_zero, List.set_cons_succ]
  refine wpList_store_row rfl 29 (.tmp 4) (.tmp 28) rfl (w.heap.size + 1) _ rfl rfl 29 _ hw'.res (by kernel_rfl) rfl (fracC_all _ _) ?_
  simp only [Act.put, List.setIfInBounds_toArray, List.set_cons_zero, List.set_cons_succ]
  have HW := Lib.hid hw'
  have HT := Lib.hid htab
  clear hw' htab
  go_wp2
  refine bodyPost_ret (v := .tuple #[fracV (wt P T (nth xs) P.length) (16 ^ T.length), .int .i64 0]) ?_ rfl ⟨by rw [HT.out], below_setRow HW.out.below (by omega) _⟩
  exact results_cell_row2 (ty := 29) (p := 4) (u := 5) rfl _ _ (w.heap.size + 1) 29 _ (0, 0) _ rfl (setRow_heap _ _ _ _ _ _ HW.out.res) Try.underlying29 rfl (by kernel_rfl)

set_option maxHeartbeats 2000000 in
set_option maxRecDepth 100000 in
theorem joint_noNet (P T : List (List Int)) (v : Value) (xs : List Int) (ao : Option Addr) (xc : Nat) (w : World) (h : NetAt w v P T) (hn : isNet P T = false) :
    Calls Try.prog 17 #[v, .slice ao xs.length xc] w fun e w' => e = .returned (.tuple #[zeroF, .int .i64 2]) ∧ Below w.heap.size w w' := by
  have HNet := Lib.hid h
  have HN' := Lib.hid hn
  obtain ⟨pa, b, o, pc, A, B, O, C, ta, b', o', tc, A', B', O', C', rfl, hP, hT⟩ := h.ex
  clear hP hT h hn
  go_enter Try.func17, Try.ntmps17
  go_wp2_with fail
  refine (isNetwork_any P T _ _ ((HNet.out.alloc _).alloc _)).mono ?_
  rw [HN'.out]
  rintro e w1 ⟨rfl, hb1⟩
  obtain ⟨k0, k1⟩ := two2 hb1 (by simp)
  obtain ⟨c0, c1, -, -⟩ := cells_of2 k0
  obtain ⟨c2, c3, f2, f3⟩ := cells_of2 k1
  have HB1 := Lib.hid hb1
  have K1 := Lib.hid k1
  clear k0 k1 hb1
  go_wp2_with (refine wpList_store_row rfl 29 (.tmp 4) (.tmp 11) rfl (w.heap.size + 1) _ rfl rfl 29 _ K1.out (by kernel_rfl) rfl (by simp [Value.oneCell']) ?_)
  refine bodyPost_ret (v := .tuple #[zeroF, .int .i64 2]) ?_ rfl ⟨rfl, below_setRow ((((Below.refl _ _).alloc (Nat.le_refl _) _).alloc (by simp) _).trans (HB1.out.mono (by simp; omega))) (by omega) _⟩
  exact results_cell_row2 (ty := 29) (p := 4) (u := 5) rfl _ _ (w.heap.size + 1) 29 _ (0, 0) _ rfl (setRow_heap _ _ _ _ _ _ K1.out) Try.underlying29 rfl (by kernel_rfl)

set_option maxHeartbeats 2000000 in
set_option maxRecDepth 100000 in
theorem joint_noAsg (P T : List (List Int)) (v : Value) (xs : List Int) (ao : Option Addr) (xb xo xc : Nat) (w : World) (h : NetAt w v P T) (hx : IntsAt w ao xb xo xs) (hn : isNet P T = true) (ha : okAsg xs P.length = false) :
    Calls Try.prog 17 #[v, .slice ao xs.length xc] w fun e w' => e = .returned (.tuple #[zeroF, .int .i64 2]) ∧ Below w.heap.size w w' := by
  have HNet := Lib.hid h
  have HX := Lib.hid hx
  have HA := Lib.hid ha
  have HN := Lib.hid (of_decide_eq_true hn : IsNet P T)
  have HN' := Lib.hid hn
  obtain ⟨pa, b, o, pc, A, B, O, C, ta, b', o', tc, A', B', O', C', rfl, hP, hT⟩ := h.ex
  have h10 := HN.out.le
  clear hP hT h hn ha hx
  go_enter Try.func17, Try.ntmps17
  go_wp2_with fail
  refine (isNetwork_any P T _ _ ((HNet.out.alloc _).alloc _)).mono ?_
  rw [HN'.out]
  rintro e w1 ⟨rfl, hb1⟩
  obtain ⟨k0, k1⟩ := two2 hb1 (by simp)
  obtain ⟨c0, c1, -, -⟩ := cells_of2 k0
  have K1 := Lib.hid k1
  have HB1 := Lib.hid hb1
  clear k0 k1 hb1
  go_wp2_with fail
  refine (toAssignment_any xs P.length ao xb xo xc _ (((HX.out.alloc _).alloc _).below HB1.out (by simp)) h10).mono ?_
  rintro e w2 ⟨⟨f, rfl, -⟩, hb2⟩
  rw [HA.out]
  have HB2 := Lib.hid hb2
  have hne := HB1.out.size
  simp only [World.size_alloc] at hne
  have K2 := Lib.hid ((hb2.block _ (lt_of_block K1.out)).trans K1.out)
  have hne2 := hb2.size
  clear hb2 c0 c1
  obtain ⟨W, hW⟩ : ∃ W, W = (w2.alloc (Obj.cells #[.int .i64 0, .int .i64 0, .int .i64 0, .int .i64 0, .int .i64 0, .int .i64 0, .int .i64 0, .int .i64 0, .int .i64 0, .int .i64 0] 78)).setRow w2.heap.size (arrC f) := ⟨_, rfl⟩
  have hWb : Below w2.heap.size w2 W := by rw [hW]; exact below_setRow ((Below.refl _ _).alloc (Nat.le_refl _) _) (Nat.le_refl _) _
  have K3 := Lib.hid ((hWb.block _ (lt_of_block K2.out)).trans K2.out)
  have HWB := Lib.hid hWb
  have HW := Lib.hid hW
  clear hWb hW
  go_wp2_with (first
    | (refine wpList_store_row rfl 78 (.tmp 6) (.tmp 18) rfl w2.heap.size (arrC f) rfl rfl 78 _ (heap_alloc_new _ _) (by kernel_rfl) rfl (arrC_all _) ?_; rw [← HW.out])
    | (refine wpList_store_row rfl 29 (.tmp 4) (.tmp 22) rfl (w.heap.size + 1) _ rfl rfl 29 _ K3.out (by kernel_rfl) rfl (by simp [Value.oneCell']) ?_))
  refine bodyPost_ret (v := .tuple #[zeroF, .int .i64 2]) ?_ rfl ⟨rfl, below_setRow ((((Below.refl _ _).alloc (Nat.le_refl _) _).alloc (by simp) _).trans ((HB1.out.mono (by simp; omega)).trans ((HB2.out.mono (by omega)).trans (HWB.out.mono (by omega))))) (by omega) _⟩
  exact results_cell_row2 (ty := 29) (p := 4) (u := 5) rfl _ _ (w.heap.size + 1) 29 _ (0, 0) _ rfl (setRow_heap _ _ _ _ _ _ K3.out) Try.underlying29 rfl (by kernel_rfl)

end Go.Proofs.Ytaphmjccdokiiaa
