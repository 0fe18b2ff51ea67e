/- H2: Oa Pa Qa -/
import Derived.Test.YtghffnjnpgiicaaG4
import Derived.Test.YtghffnjnpgiicaaG8
import Derived.Laws.CopyOwn
/- The heaviest assignment: plain numbers. -/
namespace Go.Proofs.Ytghffnjnpgiicaa
open Go.RowKit Go.Maps

/-- The position of the first heaviest one of the first k assignments that agree, and its weight. -/
def hvTo (P T : List (List Int)) (ag : (Nat → Int) → Bool) : Nat → Nat × Int
  | 0 => (0, 0)
  | k + 1 => if ag (bitv P.length k) = true ∧ (hvTo P T ag k).2 < wt P T (bitv P.length k) P.length then (k, wt P T (bitv P.length k) P.length) else hvTo P T ag k
def hvI (P T : List (List Int)) (ag : (Nat → Int) → Bool) : Nat := (hvTo P T ag (2 ^ P.length)).1
def hvW (P T : List (List Int)) (ag : (Nat → Int) → Bool) : Int := (hvTo P T ag (2 ^ P.length)).2

theorem hv_yes {P T : List (List Int)} {ag : (Nat → Int) → Bool} {k : Nat} (h : ag (bitv P.length k) = true) (h2 : (hvTo P T ag k).2 < wt P T (bitv P.length k) P.length) :
    hvTo P T ag (k + 1) = (k, wt P T (bitv P.length k) P.length) := if_pos ⟨h, h2⟩
theorem hv_ag {P T : List (List Int)} {ag : (Nat → Int) → Bool} {k : Nat} (h : ag (bitv P.length k) = false) : hvTo P T ag (k + 1) = hvTo P T ag k :=
  if_neg (fun q => by rw [q.1] at h; cases h)
theorem hv_no {P T : List (List Int)} {ag : (Nat → Int) → Bool} {k : Nat} (h2 : ¬ (hvTo P T ag k).2 < wt P T (bitv P.length k) P.length) : hvTo P T ag (k + 1) = hvTo P T ag k :=
  if_neg (fun q => h2 q.2)

theorem hvTo_bd {P T : List (List Int)} {ag : (Nat → Int) → Bool} (h : IsNet P T) (k : Nat) : 0 ≤ (hvTo P T ag k).2 ∧ (hvTo P T ag k).2 ≤ 1099511627776 ∧ (hvTo P T ag k).1 ≤ k := by
  induction k with
  | zero => simp [hvTo]
  | succ k ih =>
    have := wt_le h (bitv_Bits P.length k) P.length (Nat.le_refl _)
    simp only [hvTo]
    split
    · exact ⟨this.1, this.2, by omega⟩
    · exact ⟨ih.1, ih.2.1, by omega⟩

/-- The weight is that of the position, or nothing was found. -/
theorem hvTo_val {P T : List (List Int)} {ag : (Nat → Int) → Bool} (k : Nat) :
    ((hvTo P T ag k).2 = 0 ∧ (hvTo P T ag k).1 = 0) ∨ ((hvTo P T ag k).2 = wt P T (bitv P.length (hvTo P T ag k).1) P.length ∧ ag (bitv P.length (hvTo P T ag k).1) = true ∧ (hvTo P T ag k).1 < k) := by
  induction k with
  | zero => exact .inl ⟨rfl, rfl⟩
  | succ k ih =>
    simp only [hvTo]
    split
    · rename_i h; exact .inr ⟨rfl, h.1, by omega⟩
    · rcases ih with h | h
      · exact .inl h
      · exact .inr ⟨h.1, h.2.1, by omega⟩

/-- Nothing that agrees is heavier, and nothing before is as heavy. -/
theorem hvTo_max {P T : List (List Int)} {ag : (Nat → Int) → Bool} (k : Nat) :
    ∀ j, j < k → ag (bitv P.length j) = true → wt P T (bitv P.length j) P.length ≤ (hvTo P T ag k).2 ∧ (j < (hvTo P T ag k).1 → wt P T (bitv P.length j) P.length < (hvTo P T ag k).2) := by
  induction k with
  | zero => intro j hj; omega
  | succ k ih =>
    intro j hj ha
    simp only [hvTo]
    by_cases hjk : j = k
    · subst hjk
      split
      · exact ⟨Int.le_refl _, fun h => absurd h (Nat.lt_irrefl _)⟩
      · rename_i h
        have h2 : ¬ (hvTo P T ag j).2 < wt P T (bitv P.length j) P.length := fun q => h ⟨ha, q⟩
        refine ⟨by omega, fun h3 => ?_⟩
        rcases hvTo_val (P := P) (T := T) (ag := ag) j with h4 | h4 <;> omega
    · have := ih j (by omega) ha
      split
      · rename_i h; exact ⟨by omega, fun _ => by omega⟩
      · exact this

theorem hvTo_congr {P T : List (List Int)} {ag ag' : (Nat → Int) → Bool} (h : ∀ a, ag a = ag' a) (k : Nat) : hvTo P T ag k = hvTo P T ag' k := by
  induction k with
  | zero => rfl
  | succ k ih => simp only [hvTo, ih, h]

end Go.Proofs.Ytghffnjnpgiicaa

/- The heaviest assignment: the walk. -/
namespace Go.Proofs.Ytghffnjnpgiicaa
open Go.RowKit Go.Maps

theorem bitv_zero (n : Nat) : arrC (bitv n 0) = #[.int .i64 0, .int .i64 0, .int .i64 0, .int .i64 0, .int .i64 0, .int .i64 0, .int .i64 0, .int .i64 0, .int .i64 0, .int .i64 0] := by
  rw [arrC_congr (b := fun _ => 0) (fun i _ => by unfold bitv; simp)]; rfl

set_option maxHeartbeats 2000000 in
set_option maxRecDepth 100000 in
theorem heaviest_any {N : Nat} (P T : List (List Int)) (v : Value) (g : Nat) (φ : Int → Option Int) (w : World) (h : NetAt w v P T) (hn : IsNet P T) (hf : FactsAt N w g φ) (hd : Dom φ) :
    Calls Try.prog 56 #[v, .map (some g)] w fun e w' => e = .returned (.tuple #[.agg (arrC (bitv P.length (hvI P T (agr φ)))), .int .i64 (hvW P T (agr φ))]) ∧ Below w.heap.size w w' := by
  have HN := Lib.hid hn
  have HF := Lib.hid hf
  have HD := Lib.hid hd
  obtain ⟨pa, b, o, pc, A, B, O, C, ta, b', o', tc, A', B', O', C', rfl, hP, hT⟩ := h.ex
  have h10 := hn.le
  rw [hn.tab] at h ⊢
  have HNet := Lib.hid h
  have h2 := two_pow_le h10
  obtain ⟨m, hm⟩ : ∃ m : Nat, m = 2 ^ P.length := ⟨_, rfl⟩
  rw [← hm] at h2
  have HM := Lib.hid hm
  have hA := assignments_any P.length
  have HA := Lib.hid hA
  obtain ⟨W0, hW0⟩ : ∃ W0, ((w.alloc (.cells #[.slice pa P.length pc, .slice ta P.length tc] 24)).alloc (.cells #[.int .i64 0, .int .i64 0, .int .i64 0, .int .i64 0, .int .i64 0, .int .i64 0, .int .i64 0, .int .i64 0, .int .i64 0, .int .i64 0] 78)).alloc (.cells #[.int .i64 0, .int .i64 0, .int .i64 0, .int .i64 0, .int .i64 0, .int .i64 0, .int .i64 0, .int .i64 0, .int .i64 0, .int .i64 0] 78) = W0 := ⟨_, rfl⟩
  have HW0 := Lib.hid hW0
  have hs0 : W0.heap.size = w.heap.size + 3 := by rw [← hW0]; simp
  have HS0 := Lib.hid hs0
  have HB0 : Hid (Below w.heap.size w W0) := by rw [← hW0]; exact (((Below.refl _ _).alloc (Nat.le_refl _) _).alloc (by simp) _).alloc (by simp; omega) _
  have HX0 : Hid (W0.heap[w.heap.size]? = some (.cells #[.slice pa P.length pc, .slice ta P.length tc] 24 (0, 0))) := by rw [← hW0]; exact rfl3 _ _ _ _
  have HX1 : Hid (W0.heap[w.heap.size + 1]? = some (.cells #[.int .i64 0, .int .i64 0, .int .i64 0, .int .i64 0, .int .i64 0, .int .i64 0, .int .i64 0, .int .i64 0, .int .i64 0, .int .i64 0] 78 (0, 0))) := by rw [← hW0]; exact rfl4 _ _ _ _
  have HX2 : Hid (W0.heap[w.heap.size + 2]? = some (.cells (arrC (bitv P.length 0)) 78 (0, 0))) := by rw [← hW0, bitv_zero]; exact rfl5 _ _ _ _
  clear hP hT h hn hf hd hm hA hW0 hs0
  go_enter Try.func56, Try.ntmps56
  go_wp2_with (go_at_call 73; refine (HA.out _ (by omega)).mono ?_; rw [← HM.out]; rintro e w' ⟨rfl, rfl⟩)
  rw [HW0.out]
  go_loopw [8, 9, 10, 11, 17] (fun s _ _ _ i wr => ∃ k : Nat, k ≤ m ∧ i = .int .i64 k ∧ s = .int .i64 (hvTo P T (agr φ) k).2 ∧ Below (w.heap.size + 2) W0 wr ∧ wr.heap[w.heap.size + 2]? = some (.cells (arrC (bitv P.length (hvTo P T (agr φ) k).1)) 78 (0, 0))) (fun _ _ _ _ i _ => m - (intOf i).toNat)
  case atStart => exact ⟨0, by omega, rfl, rfl, Below.refl _ _, HX2.out⟩
  case round =>
    obtain ⟨k, hk, rfl, rfl, hb, hx⟩ := hrel
    have HB := Lib.hid hb
    have HX := Lib.hid hx
    have hbd := hvTo_bd (ag := agr φ) HN.out k
    clear hb hx
    by_cases hlt : k < m
    · go_wp2_with fail
      refine (assignmentAt_any k P.length _ h10 (by omega)).mono ?_
      rintro e w1 ⟨rfl, hb1⟩
      have HB1 := Lib.hid hb1
      clear hb1
      obtain ⟨W, hW⟩ : ∃ W, W = (w1.alloc (Obj.cells #[.int .i64 0, .int .i64 0, .int .i64 0, .int .i64 0, .int .i64 0, .int .i64 0, .int .i64 0, .int .i64 0, .int .i64 0, .int .i64 0] 78)).setRow w1.heap.size (arrC (bitv P.length k)) := ⟨_, rfl⟩
      have hWb : Below w1.heap.size w1 W := by rw [hW]; exact below_setRow ((Below.refl _ _).alloc (Nat.le_refl _) _) (Nat.le_refl _) _
      have hWr : W.heap[w1.heap.size]? = some (.cells (arrC (bitv P.length k)) 78 (0, 0)) := by rw [hW]; exact setRow_heap _ _ _ _ _ _ (heap_alloc_new _ _)
      have HW := Lib.hid hW
      have HWB := Lib.hid hWb
      have HWR := Lib.hid hWr
      clear hW hWb hWr
      have s0 := lt_of_block HX.out
      have s1 := HB1.out.size
      have s2 := HWB.out.size
      have hbW : Below (w.heap.size + 2) W0 W := (HB.out.trans (HB1.out.mono (by omega))).trans (HWB.out.mono (by omega))
      have HBW := Lib.hid hbW
      have HXW := Lib.hid ((HWB.out.block _ (by omega)).trans ((HB1.out.block _ s0).trans HX.out))
      have HWW := Lib.hid (HB0.out.trans (hbW.mono (by omega)))
      have hA2 := agree_any g φ (bitv P.length k) W (HF.out.below HWW.out (Nat.le_refl _)) HD.out
      have hwt := wt_le HN.out (bitv_Bits P.length k) P.length (Nat.le_refl _)
      obtain ⟨x0, x1, -, -⟩ := cells_of2 ((HBW.out.block _ (by omega)).trans HX0.out)
      clear hbW
      cases e : agr φ (bitv P.length k)
      · rw [e] at hA2
        have HA2 := Lib.hid hA2
        have HS := Lib.hid (hv_ag (P := P) (T := T) e)
        clear hA2 e x0 x1
        go_wp2_with (first
          | (refine wpList_store_row rfl 78 (.tmp 10) (.tmp 22) rfl w1.heap.size _ rfl rfl 78 _ (heap_alloc_new _ _) (by kernel_rfl) rfl (arrC_all _) ?_; rw [← HW.out])
          | (refine wpList_load_row rfl 78 (.tmp 10) rfl w1.heap.size rfl 78 _ _ _ HWR.out Try.underlying78 rfl (by kernel_rfl) ?_)
          | (go_at_call 75; refine HA2.out.mono ?_; rintro e w3 ⟨rfl, hb3⟩; have HB3 := Lib.hid hb3; clear hb3))
        go_roundw
        case rel => exact ⟨k + 1, by omega, by go_num, by rw [HS.out], HBW.out.trans (HB3.out.mono (by omega)), by rw [HS.out]; exact (HB3.out.block _ (by omega)).trans HXW.out⟩
        case measure => simp [intOf]; omega
      · rw [e] at hA2
        have HA2 := Lib.hid hA2
        have HE := Lib.hid e
        clear hA2 e x0 x1
        obtain ⟨wk, hwk⟩ : ∃ wk, wt P T (bitv P.length k) P.length = wk := ⟨_, rfl⟩
        have HWK := Lib.hid hwk
        obtain ⟨bt, hbt⟩ : ∃ bt, (hvTo P T (agr φ) k).2 = bt := ⟨_, rfl⟩
        have HBT := Lib.hid hbt
        rw [hwk] at hwt
        rw [hbt] at hbd ⊢
        clear hwk hbt
        by_cases hgt : bt < wk
        · have HS := Lib.hid (hv_yes (P := P) (T := T) HE.out (by rw [HBT.out, HWK.out]; exact hgt))
          go_wp2_with (first
            | (refine wpList_store_row rfl 78 (.tmp 10) (.tmp 22) rfl w1.heap.size _ rfl rfl 78 _ (heap_alloc_new _ _) (by kernel_rfl) rfl (arrC_all _) ?_; rw [← HW.out])
            | (refine wpList_load_row rfl 78 (.tmp 10) rfl w1.heap.size rfl 78 _ _ _ HWR.out Try.underlying78 rfl (by kernel_rfl) ?_)
            | (refine wpList_load_row rfl 78 (.tmp 10) rfl w1.heap.size rfl 78 _ _ _ HR3.out Try.underlying78 rfl (by kernel_rfl) ?_)
            | (refine wpList_load_row rfl 78 (.tmp 10) rfl w1.heap.size rfl 78 _ _ _ HR4.out Try.underlying78 rfl (by kernel_rfl) ?_)
            | (refine wpList_store_row rfl 78 (.tmp 7) (.tmp 33) rfl (w.heap.size + 2) _ rfl rfl 78 _ HX4.out (by kernel_rfl) rfl (arrC_all _) ?_)
            | (go_at_call 75; refine HA2.out.mono ?_; rintro e w3 ⟨rfl, hb3⟩; obtain ⟨y0, y1, -, -⟩ := cells_of2 (((HBW.out.trans (hb3.mono (by omega))).block _ (by omega)).trans HX0.out); have HR3 := Lib.hid ((hb3.block _ (lt_of_block HWR.out)).trans HWR.out); have HB3 := Lib.hid hb3; have HX3 := Lib.hid ((hb3.block _ (by omega)).trans HXW.out); clear hb3)
            | (go_at_call 48; refine (weight_any P T _ (bitv P.length k) _ (HNet.out.below (HWW.out.trans (HB3.out.mono (by omega))) (Nat.le_refl _)) HN.out (bitv_Bits _ _)).mono ?_; rw [HWK.out]; rintro e w4 ⟨rfl, hb4⟩; have HR4 := Lib.hid ((hb4.block _ (lt_of_block HR3.out)).trans HR3.out); have HB4 := Lib.hid hb4; have HX4 := Lib.hid ((hb4.block _ (lt_of_block HX3.out)).trans HX3.out); clear hb4 y0 y1))
          have s3 := HB3.out.size
          have s4 := HB4.out.size
          go_roundw
          case rel => exact ⟨k + 1, by omega, by go_num, by rw [HS.out, HWK.out], below_setRow ((HBW.out.trans (HB3.out.mono (by omega))).trans (HB4.out.mono (by omega))) (Nat.le_refl _) _, by rw [HS.out]; exact setRow_heap _ _ _ _ _ _ HX4.out⟩
          case measure => simp [intOf]; omega
        · have HS := Lib.hid (hv_no (P := P) (T := T) (ag := agr φ) (k := k) (by rw [HBT.out, HWK.out]; exact hgt))
          go_wp2_with (first
            | (refine wpList_store_row rfl 78 (.tmp 10) (.tmp 22) rfl w1.heap.size _ rfl rfl 78 _ (heap_alloc_new _ _) (by kernel_rfl) rfl (arrC_all _) ?_; rw [← HW.out])
            | (refine wpList_load_row rfl 78 (.tmp 10) rfl w1.heap.size rfl 78 _ _ _ HWR.out Try.underlying78 rfl (by kernel_rfl) ?_)
            | (refine wpList_load_row rfl 78 (.tmp 10) rfl w1.heap.size rfl 78 _ _ _ HR3.out Try.underlying78 rfl (by kernel_rfl) ?_)
            | (go_at_call 75; refine HA2.out.mono ?_; rintro e w3 ⟨rfl, hb3⟩; obtain ⟨y0, y1, -, -⟩ := cells_of2 (((HBW.out.trans (hb3.mono (by omega))).block _ (by omega)).trans HX0.out); have HR3 := Lib.hid ((hb3.block _ (lt_of_block HWR.out)).trans HWR.out); have HB3 := Lib.hid hb3; have HX3 := Lib.hid ((hb3.block _ (by omega)).trans HXW.out); clear hb3)
            | (go_at_call 48; refine (weight_any P T _ (bitv P.length k) _ (HNet.out.below (HWW.out.trans (HB3.out.mono (by omega))) (Nat.le_refl _)) HN.out (bitv_Bits _ _)).mono ?_; rw [HWK.out]; rintro e w4 ⟨rfl, hb4⟩; have HB4 := Lib.hid hb4; have HX4 := Lib.hid ((hb4.block _ (lt_of_block HX3.out)).trans HX3.out); clear hb4 y0 y1))
          have s3 := HB3.out.size
          have s4 := HB4.out.size
          go_roundw
          case rel => exact ⟨k + 1, by omega, by go_num, by rw [HS.out, HBT.out], (HBW.out.trans (HB3.out.mono (by omega))).trans (HB4.out.mono (by omega)), by rw [HS.out]; exact HX4.out⟩
          case measure => simp [intOf]; omega
    · have e : k = 2 ^ P.length := by have := HM.out; omega
      have HE := Lib.hid e
      have HX1' := Lib.hid ((HB.out.block _ (by omega)).trans HX1.out)
      obtain ⟨bt, hbt⟩ : ∃ bt, (hvTo P T (agr φ) k).2 = bt := ⟨_, rfl⟩
      have HBT := Lib.hid hbt
      rw [hbt]
      clear e hbt
      go_wp2_with (first | (refine wpList_load_row rfl 78 (.tmp 7) rfl (w.heap.size + 2) rfl 78 _ _ _ HX.out Try.underlying78 rfl (by kernel_rfl) ?_) | (refine wpList_store_row rfl 78 (.tmp 4) (.tmp 36) rfl (w.heap.size + 1) _ rfl rfl 78 _ HX1'.out (by kernel_rfl) rfl (arrC_all _) ?_))
      refine bodyPost_ret (v := .tuple #[.agg (arrC (bitv P.length (hvI P T (agr φ)))), .int .i64 (hvW P T (agr φ))]) ?_ rfl ⟨rfl, below_setRow (HB0.out.trans (HB.out.mono (by omega))) (by omega) _⟩
      unfold hvI hvW
      rw [← HE.out, HBT.out]
      exact results_cell_row2 (ty := 78) (p := 4) (u := 5) rfl _ _ (w.heap.size + 1) 78 _ (0, 0) _ rfl (setRow_heap _ _ _ _ _ _ HX1'.out) Try.underlying78 rfl (by kernel_rfl)

end Go.Proofs.Ytghffnjnpgiicaa

/- Likely. -/
namespace Go.Proofs.Ytghffnjnpgiicaa
open Go.RowKit Go.Maps

theorem newInts_of_cells {B : Nat} {w : World} {g : Nat} {xs : List Int} (h : w.heap[g]? = some (.cells ((xs.map (Value.int .i64)).toArray) 3 (0, 0))) (hB : B ≤ g) (hl : xs.length ≤ 140737488351232)
    (hwf : ∀ i, -9223372036854775808 ≤ nth xs i ∧ nth xs i ≤ 9223372036854775807) : NewInts B w (.slice (some ⟨g, 0, none⟩) xs.length xs.length) xs := by
  refine ⟨⟨by simp, .inr ⟨g, xs.length, _, rfl, hB, h, Nat.le_refl _, by unfold maxLen; omega, by simp, ?_⟩⟩, hwf, hl⟩
  simp only [Nat.mul_one]
  exact List.take_of_length_le (by simp)

theorem newInts_of_row {B : Nat} {w : World} {g : Nat} {xs : List Int} (h : w.rowIs g 3 xs.length (fun i => .int .i64 (nth xs i))) (hB : B ≤ g) (hl : xs.length ≤ 140737488351232)
    (hwf : ∀ i, -9223372036854775808 ≤ nth xs i ∧ nth xs i ≤ 9223372036854775807) : NewInts B w (.slice (some ⟨g, 0, none⟩) xs.length xs.length) xs := by
  obtain ⟨c, hc, hs, he⟩ := h
  refine newInts_of_cells ?_ hB hl hwf
  rw [hc]
  refine congrArg (fun x => some (Obj.cells x 3 (0, 0))) (Array.ext' ?_)
  refine List.ext_getElem? fun i => ?_
  by_cases hi : i < xs.length
  · have := he i hi
    rw [Array.getElem?_toList, this, nth_map xs i hi]
  · rw [List.getElem?_eq_none (by simp; omega), List.getElem?_eq_none (by simp; omega)]

theorem bitv_bd (n k i : Nat) : -9223372036854775808 ≤ bitv n k i ∧ bitv n k i ≤ 9223372036854775807 := by rcases bitv_Bits n k i with e | e <;> rw [e] <;> omega
theorem vals_wf (n k : Nat) : ∀ i, -9223372036854775808 ≤ nth (vals n k) i ∧ nth (vals n k) i ≤ 9223372036854775807 := fun i => by rw [nth_vals]; exact bitv_bd n k i

/-- The results of Likely, for a network. -/
def lkOK (P T : List (List Int)) (gs : List (Int × Int)) : Bool := okFacts gs P.length && decide (hvW P T (agL gs) ≠ 0)
def lkL (P T : List (List Int)) (gs : List (Int × Int)) : List Int := if lkOK P T gs = true then vals P.length (hvI P T (agL gs)) else []
def lkV (P T : List (List Int)) (gs : List (Int × Int)) : Value := if lkOK P T gs = true then fracV (hvW P T (agL gs)) (16 ^ P.length) else zeroF
def lkE (P T : List (List Int)) (gs : List (Int × Int)) : Int := if lkOK P T gs = true then 0 else if okFacts gs P.length = true then 6 else 2

theorem lk_bad {P T : List (List Int)} {gs : List (Int × Int)} (h : okFacts gs P.length = false) : lkL P T gs = [] ∧ lkV P T gs = zeroF ∧ lkE P T gs = 2 := by
  have : lkOK P T gs = false := by simp [lkOK, h]
  simp [lkL, lkV, lkE, this, h]
theorem lk_zero {P T : List (List Int)} {gs : List (Int × Int)} (h : okFacts gs P.length = true) (h2 : hvW P T (agL gs) = 0) : lkL P T gs = [] ∧ lkV P T gs = zeroF ∧ lkE P T gs = 6 := by
  have : lkOK P T gs = false := by simp [lkOK, h2]
  simp [lkL, lkV, lkE, this, h]
theorem lk_yes {P T : List (List Int)} {gs : List (Int × Int)} (h : okFacts gs P.length = true) (h2 : hvW P T (agL gs) ≠ 0) :
    lkL P T gs = vals P.length (hvI P T (agL gs)) ∧ lkV P T gs = fracV (hvW P T (agL gs)) (16 ^ P.length) ∧ lkE P T gs = 0 := by
  have : lkOK P T gs = true := by simp [lkOK, h, h2]
  simp [lkL, lkV, lkE, this]

theorem hv_look {P T : List (List Int)} {gs : List (Int × Int)} (h : okFacts gs P.length = true) (hn : P.length ≤ 10) : hvI P T (agr (look gs)) = hvI P T (agL gs) ∧ hvW P T (agr (look gs)) = hvW P T (agL gs) := by
  unfold hvI hvW
  rw [hvTo_congr (ag' := agL gs) (fun a => agr_look h hn a)]
  exact ⟨rfl, rfl⟩

theorem hvW_bd {P T : List (List Int)} {ag : (Nat → Int) → Bool} (h : IsNet P T) : 0 ≤ hvW P T ag ∧ hvW P T ag ≤ 1099511627776 ∧ hvI P T ag ≤ 1024 := by
  have h1 := hvTo_bd (ag := ag) h (2 ^ P.length)
  have h2 := two_pow_le h.le
  unfold hvW hvI
  generalize 2 ^ P.length = m at *
  omega

/-- Slots 4 (the list), 5 (a struct) and 6 of the results. -/
theorem results_slot_cell2 {P : Program} {fn : Func} {p s u : Tmp} {ty : TypeId} (h : fn.results = #[.tmp s, .cell p ty, .tmp u]) (tmps : Array Value) (w : World) (g : Nat) (t : TypeId) (cs : Array Value) (fr : Nat × Nat) (d : TypeDesc)
    (hp : tmps.getD p undef = .pointer (some ⟨g, 0, none⟩)) (hg : w.heap[g]? = some (.cells cs t fr))
    (hu : P.underlying ty = some d) (hd : (match d with | .struct _ | .array _ _ => true | _ => false) = true) (hi : (P.info? ty).map (·.size) = some cs.size) :
    (results fn tmps).run P w = .ok (.tuple #[tmps.getD s undef, .agg cs, tmps.getD u undef]) w := by
  have hp' : tmps[p]?.getD undef = .pointer (some ⟨g, 0, none⟩) := by simpa using hp
  simp only [results, h]
  simp [Result.andThen, hp', asAddr, run_loadVar_row w g t ty cs fr d hg hu hd hi]

set_option maxHeartbeats 2000000 in
set_option maxRecDepth 100000 in
theorem likely_noNet (P T : List (List Int)) (v x : Value) (w : World) (h : NetAt w v P T) (hn : isNet P T = false) :
    Calls Try.prog 24 #[v, x] w fun e w' => e = .returned (.tuple #[.slice none 0 0, zeroF, .int .i64 2]) ∧ Below w.heap.size w w' := by
  have HNet := Lib.hid h
  have HN' := Lib.hid hn
  obtain ⟨pa, b, o, pc, A, B, O, C, ta, b', o', tc, A', B', O', C', rfl, hP, hT⟩ := h.ex
  clear hP hT h hn
  go_enter Try.func24, Try.ntmps24
  go_wp2_with fail
  refine (isNetwork_any P T _ _ ((HNet.out.alloc _).alloc _)).mono ?_
  rw [HN'.out]
  rintro e w1 ⟨rfl, hb1⟩
  obtain ⟨k0, k1⟩ := two2 hb1 (by simp)
  have HB1 := Lib.hid hb1
  have K1 := Lib.hid k1
  clear k0 k1 hb1
  go_wp2_with (refine wpList_store_row rfl 29 (.tmp 5) (.tmp 16) rfl (w.heap.size + 1) _ rfl rfl 29 _ K1.out (by kernel_rfl) rfl (by simp [Value.oneCell']) ?_)
  refine bodyPost_ret (v := .tuple #[.slice none 0 0, zeroF, .int .i64 2]) ?_ rfl ⟨rfl, below_setRow ((((Below.refl _ _).alloc (Nat.le_refl _) _).alloc (by simp) _).trans (HB1.out.mono (by simp; omega))) (by omega) _⟩
  exact results_slot_cell2 (ty := 29) (s := 4) (p := 5) (u := 6) rfl _ _ (w.heap.size + 1) 29 _ (0, 0) _ rfl (setRow_heap _ _ _ _ _ _ K1.out) Try.underlying29 rfl (by kernel_rfl)

theorem vals_get (n k : Nat) (j : Nat) (x : Int) (h : (vals n k)[j]? = some x) : x = bitv n k j ∧ j < n := by
  have hlt := (List.getElem?_eq_some_iff.1 h).1
  rw [vals_length] at hlt
  refine ⟨?_, hlt⟩
  rw [← nth_vals, nth, List.getD_eq_getElem?_getD, h]; rfl

theorem made_vals (n k : Nat) : splice (madeCells #[Value.int .i64 0] n).toList 0 ((vals n k).map (Value.int .i64)) = (vals n k).map (Value.int .i64) := by
  unfold splice
  rw [List.take_zero, List.nil_append, List.drop_eq_nil_of_le (by simp [vals_length, size_madeCells]), List.append_nil]

set_option maxHeartbeats 4000000 in
set_option maxRecDepth 100000 in
theorem likely_net (P T : List (List Int)) (v : Value) (gs : List (Int × Int)) (bo : Option Addr) (bb boff bc : Nat) (w : World) (h : NetAt w v P T) (hn : isNet P T = true)
    (hg : PairsAt w bo bb boff gs) (hlg : gs.length ≤ 1000) :
    Calls Try.prog 24 #[v, .slice bo gs.length bc] w fun e w' => (∃ u, e = .returned (.tuple #[u, lkV P T gs, .int .i64 (lkE P T gs)]) ∧ NewInts w.heap.size w' u (lkL P T gs)) ∧ Below w.heap.size w w' := by
  have HNet := Lib.hid h
  have HN' := Lib.hid hn
  have HN := Lib.hid (of_decide_eq_true hn : IsNet P T)
  have HG := Lib.hid hg
  obtain ⟨pa, b, o, pc, A, B, O, C, ta, b', o', tc, A', B', O', C', rfl, hP, hT⟩ := h.ex
  have h10 := HN.out.le
  clear hP hT h hn hg
  have W0n : w.heap.size + 2 ≤ ((w.alloc (.cells #[.slice pa P.length pc, .slice ta T.length tc] 24)).alloc (.cells #[.int .i64 0, .int .i64 0] 29)).heap.size := by simp
  have W0b : Below w.heap.size w ((w.alloc (.cells #[.slice pa P.length pc, .slice ta T.length tc] 24)).alloc (.cells #[.int .i64 0, .int .i64 0] 29)) := ((Below.refl _ _).alloc (Nat.le_refl _) _).alloc (by simp) _
  have HW0n := Lib.hid W0n
  have HW0b := Lib.hid W0b
  clear W0n W0b
  have HMK := Lib.hid (fun w => run_make_row' (P := Try.prog) 25 3 (.int .i64 0) 8 Try.underlying25 Try.info3 rfl .i64 .i64 P.length (by omega) (by omega) w)
  go_enter Try.func24, Try.ntmps24
  go_wp2_with fail
  refine (isNetwork_any P T _ _ ((HNet.out.alloc _).alloc _)).mono ?_
  rw [HN'.out]
  rintro e w1 ⟨rfl, hb1⟩
  have HB1 : Hid (Below (w.heap.size + 2) _ w1) := hb1.mono (by simp)
  obtain ⟨k0, k1⟩ := two2 HB1.out (Nat.le_refl _)
  obtain ⟨c0, c1, -, -⟩ := cells_of2 k0
  clear k0 k1 hb1
  go_wp2_with fail
  refine (toFacts_any gs P.length bo bb boff bc _ (((HG.out.alloc _).alloc _).below HB1.out (by simp)) h10 hlg).mono ?_
  rintro e w2 ⟨⟨mo, rfl, hf1⟩, hb2⟩
  have HB2 := Lib.hid (Below.thenW HB1.out hb2 HW0n.out)
  obtain ⟨k0, k1⟩ := two2 HB2.out (Nat.le_refl _)
  obtain ⟨d0, d1, -, -⟩ := cells_of2 k0
  have K2 := Lib.hid k1
  have HF1 := Lib.hid hf1
  clear k0 k1 hb2 c0 c1 hf1
  cases e1 : okFacts gs P.length
  · have HX := Lib.hid (lk_bad (T := T) e1)
    clear e1
    go_wp2_with (refine wpList_store_row rfl 29 (.tmp 5) (.tmp 28) rfl (w.heap.size + 1) _ rfl rfl 29 _ K2.out (by kernel_rfl) rfl (by simp [Value.oneCell']) ?_)
    refine bodyPost_ret (v := .tuple #[.slice none 0 0, zeroF, .int .i64 2]) ?_ rfl ⟨⟨.slice none 0 0, by rw [HX.out.2.1, HX.out.2.2], by rw [HX.out.1]; exact NewInts.nil _ _⟩, below_setRow (HW0b.out.trans (HB2.out.mono (by omega))) (by omega) _⟩
    exact results_slot_cell2 (ty := 29) (s := 4) (p := 5) (u := 6) rfl _ _ (w.heap.size + 1) 29 _ (0, 0) _ rfl (setRow_heap _ _ _ _ _ _ K2.out) Try.underlying29 rfl (by kernel_rfl)
  · obtain ⟨g1, rfl, hfa⟩ := HF1.out e1
    have HFA := Lib.hid hfa
    have HD1 := Lib.hid (look_dom e1 h10)
    have E1 := Lib.hid e1
    have HLK := Lib.hid (hv_look (T := T) e1 h10)
    have hbd := hvW_bd (ag := agL gs) HN.out
    obtain ⟨hi, hhi⟩ : ∃ hi, hvI P T (agL gs) = hi := ⟨_, rfl⟩
    obtain ⟨hw, hhw⟩ : ∃ hw, hvW P T (agL gs) = hw := ⟨_, rfl⟩
    have HHI := Lib.hid hhi
    have HHW := Lib.hid hhw
    rw [hhi, hhw] at hbd
    clear hfa e1 hhi hhw
    go_wp2_with fail
    have hh := heaviest_any P T (.agg #[.slice pa P.length pc, .slice ta T.length tc]) g1 (look gs) w2 (((HNet.out.alloc _).alloc _).below HB2.out (by simp)) HN.out HFA.out HD1.out
    rw [HLK.out.1, HLK.out.2, HHI.out, HHW.out] at hh
    refine hh.mono ?_
    rintro e w3 ⟨rfl, hb3⟩
    have HB3 := Lib.hid (Below.thenW HB2.out hb3 HW0n.out)
    obtain ⟨k0, k1⟩ := two2 HB3.out (Nat.le_refl _)
    have K0 := Lib.hid k0
    have K3 := Lib.hid k1
    have s3 := lt_of_block k1
    obtain ⟨W, hW⟩ : ∃ W, W = (w3.alloc (Obj.cells #[.int .i64 0, .int .i64 0, .int .i64 0, .int .i64 0, .int .i64 0, .int .i64 0, .int .i64 0, .int .i64 0, .int .i64 0, .int .i64 0] 78)).setRow w3.heap.size (arrC (bitv P.length hi)) := ⟨_, rfl⟩
    have hWb : Below w3.heap.size w3 W := by rw [hW]; exact below_setRow ((Below.refl _ _).alloc (Nat.le_refl _) _) (Nat.le_refl _) _
    have hWr : W.heap[w3.heap.size]? = some (.cells (arrC (bitv P.length hi)) 78 (0, 0)) := by rw [hW]; exact setRow_heap _ _ _ _ _ _ (heap_alloc_new _ _)
    have HW := Lib.hid hW
    have HWB := Lib.hid (HB3.out.trans (hWb.mono (by omega)))
    have HWR := Lib.hid hWr
    have HWs := Lib.hid (lt_of_block hWr)
    clear hW hWb hWr k0 k1 hb3 d0 d1 hh
    obtain ⟨k0, k1⟩ := two2 HWB.out (Nat.le_refl _)
    have KW := Lib.hid k1
    clear k1
    by_cases hz : hw = 0
    · have HX := Lib.hid (lk_zero E1.out (HHW.out.trans hz))
      subst hz
      go_wp2_with (first
        | (refine wpList_store_row rfl 78 (.tmp 10) (.tmp 33) rfl w3.heap.size _ rfl rfl 78 _ (heap_alloc_new _ _) (by kernel_rfl) rfl (arrC_all _) ?_; rw [← HW.out])
        | (refine wpList_store_row rfl 29 (.tmp 5) (.tmp 37) rfl (w.heap.size + 1) _ rfl rfl 29 _ KW.out (by kernel_rfl) rfl (by simp [Value.oneCell']) ?_))
      refine bodyPost_ret (v := .tuple #[.slice none 0 0, zeroF, .int .i64 6]) ?_ rfl ⟨⟨.slice none 0 0, by rw [HX.out.2.1, HX.out.2.2], by rw [HX.out.1]; exact NewInts.nil _ _⟩, below_setRow (HW0b.out.trans (HWB.out.mono (by omega))) (by omega) _⟩
      exact results_slot_cell2 (ty := 29) (s := 4) (p := 5) (u := 6) rfl _ _ (w.heap.size + 1) 29 _ (0, 0) _ rfl (setRow_heap _ _ _ _ _ _ KW.out) Try.underlying29 rfl (by kernel_rfl)
    · have HX := Lib.hid (lk_yes E1.out (by rw [HHW.out]; exact hz))
      have hz0 : (hw == 0) = false := by rw [beq_eq_false_iff_ne]; exact hz
      have hpos : 1 ≤ hw := by omega
      have hmk := HMK.out
      clear hz
      go_wp2_with (first
        | (refine wpList_store_row rfl 78 (.tmp 10) (.tmp 33) rfl w3.heap.size _ rfl rfl 78 _ (heap_alloc_new _ _) (by kernel_rfl) rfl (arrC_all _) ?_; rw [← HW.out])
        | (refine wpList_copy_splice rfl (.tmp 40) (.tmp 41) 25 25 rfl 3 Try.underlying25 (by kernel_rfl) (some ⟨W.heap.size, 0, none⟩) (some ⟨w3.heap.size, 0, none⟩) P.length P.length 10 10 rfl rfl W.heap.size 0 (madeCells #[Value.int .i64 0] P.length).toList 3 ?c1 ((vals P.length hi).map (Value.int .i64)) ?c2 ?c3 ?c4 (oneCell_ints _) W.heap.size W ?c5 (Nat.le_refl _) ?_))
      case c1 => simpa using heap_alloc_new W _
      case c2 => rw [List.length_map, vals_length]; show P.length = min 10 P.length; omega
      case c3 =>
        intro _
        intro j x hx
        obtain ⟨rfl, hj⟩ := vals_get _ _ _ _ hx
        rw [World.cell?_alloc_old _ _ _ (by show w3.heap.size ≠ W.heap.size; exact Nat.ne_of_lt HWs.out)]
        rw [cell_of_row _ _ _ _ _ _ HWR.out, arrC_get _ _ (by omega)]
      case c4 => simp [vals_length, size_madeCells]
      case c5 => exact (Below.refl _ _).alloc (Nat.le_refl _) _
      intro w4 hg4 hb4
      have hg4' : w4.heap[W.heap.size]? = some (.cells (((vals P.length hi).map (Value.int .i64)).toArray) 3 (0, 0)) := by rw [← made_vals]; exact hg4
      have HG4 := Lib.hid hg4'
      have HB4 := Lib.hid hb4
      have s4 := lt_of_block hg4'
      have sW := HWs.out
      obtain ⟨k4, l4⟩ := two2 (HWB.out.trans (hb4.mono (by omega))) (Nat.le_refl _)
      obtain ⟨e0, e1, -, -⟩ := cells_of2 k4
      have K4 := Lib.hid l4
      clear hg4 hg4' hb4 k4 l4 k0
      have htab := HN.out.tab
      have HT := Lib.hid htab
      have hT10 : T.length ≤ 10 := by omega
      have h16 := pow16_le (k := T.length) hT10
      have h16' := Int.pow_pos (n := 16) (m := T.length) (by omega)
      have HNet4 := Lib.hid ((((HNet.out.alloc _).alloc _).below (HWB.out.trans (HB4.out.mono (by omega))) (by simp)) : NetAt w4 (.agg #[.slice pa P.length pc, .slice ta T.length tc]) P T)
      clear htab
      go_wp2_with fail
      refine (fullWeight_any P T _ w4 HNet4.out hT10).mono ?_
      rintro e w5 ⟨rfl, hb5⟩
      have HB5 := Lib.hid hb5
      clear hb5 e0 e1
      obtain ⟨q, hq⟩ : ∃ q : Int, q = 16 ^ T.length := ⟨_, rfl⟩
      rw [← hq] at h16 h16' ⊢
      have HQ := Lib.hid hq
      clear hq
      go_wp2_with fail
      refine (fraction_any _ _ _ (by omega) (by omega) (by omega) (by omega)).mono ?_
      rintro e w6 ⟨rfl, hb6⟩
      have s5 := HB5.out.size
      have s6 := hb6.size
      have K6 := Lib.hid ((hb6.block _ (by omega)).trans ((HB5.out.block _ (by omega)).trans K4.out))
      have HG6 := Lib.hid ((hb6.block _ (by omega)).trans ((HB5.out.block _ (by omega)).trans HG4.out))
      have HB6 := Lib.hid (hb6.mono (B' := w.heap.size + 2) (by omega))
      clear hb6
      go_wp2_with (first
        | (refine wpList_store_row rfl 29 (.tmp 5) (.tmp 47) rfl (w.heap.size + 1) _ rfl rfl 29 _ K6.out (by kernel_rfl) rfl (fracC_all _ _) ?_))
      refine bodyPost_ret (v := .tuple #[.slice (some ⟨W.heap.size, 0, none⟩) P.length P.length, fracV hw q, .int .i64 0]) ?_ rfl ⟨⟨.slice (some ⟨W.heap.size, 0, none⟩) P.length P.length, ?_, ?_⟩, below_setRow (HW0b.out.trans ((HWB.out.mono (by omega)).trans ((HB4.out.mono (by omega)).trans ((HB5.out.mono (by omega)).trans (HB6.out.mono (by omega)))))) (by omega) _⟩
      · exact results_slot_cell2 (ty := 29) (s := 4) (p := 5) (u := 6) rfl _ _ (w.heap.size + 1) 29 _ (0, 0) _ rfl (setRow_heap _ _ _ _ _ _ K6.out) Try.underlying29 rfl (by kernel_rfl)
      · rw [HX.out.2.1, HX.out.2.2, HHW.out, HQ.out, HT.out]
      · rw [HX.out.1, HHI.out]
        have hv := newInts_of_cells (B := w.heap.size) (xs := vals P.length hi) (g := W.heap.size) (w := w6.setRow (w.heap.size + 1) (fracC hw q)) (by rw [Go.setRow_other _ _ _ _ (by omega)]; exact HG6.out) (by omega) (by rw [vals_length]; omega) (vals_wf _ _)
        rw [vals_length] at hv
        exact hv

end Go.Proofs.Ytghffnjnpgiicaa

