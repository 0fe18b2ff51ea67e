/- B1 B2 B3 -/
import Derived.Test.YtjibdolhipddbaaQc
import Derived.Laws.StructEq
/- The colourings that are kept. -/
namespace Go.Proofs.Ytjibdolhipddbaa
open Go.RowKit

/-- The first j colourings without the struck ones. -/
def flt (k d : Int) (X : List (List Int)) (j : Nat) : List (List Int) := (X.take j).filter fun x => !delF k d (nth x)
theorem flt_len (k d : Int) (X : List (List Int)) (j : Nat) : (flt k d X j).length ≤ j := by
  have h1 := List.length_filter_le (fun x => !delF k d (nth x)) (X.take j)
  have h2 : (X.take j).length ≤ j := by rw [List.length_take]; omega
  exact Nat.le_trans h1 h2
theorem flt_succ {k d : Int} {X : List (List Int)} {j : Nat} (h : j < X.length) : flt k d X (j + 1) = flt k d X j ++ if delF k d (nth (row X j)) then [] else [row X j] := by
  unfold flt
  rw [List.take_succ_eq_append_getElem h, List.filter_append, show X[j] = row X j by simp [row, List.getD_eq_getElem?_getD, h]]
  congr 1
  simp only [List.filter_cons, List.filter_nil]
  cases delF k d (nth (row X j)) <;> simp
theorem flt_none {k d : Int} {X : List (List Int)} : ∀ {j : Nat}, j ≤ X.length → NoneTo k d X j → flt k d X j = X.take j
  | 0, _, _ => by simp [flt]
  | j + 1, h, hn => by
    rw [flt_succ (by omega), flt_none (by omega) (fun i hi => hn i (by omega)), if_neg (by rw [hn j (by omega)]; decide), List.take_succ_eq_append_getElem (by omega)]
    simp [row, List.getD_eq_getElem?_getD, show j < X.length by omega]

theorem below_cellsB {B : Nat} {a : World} (b : Nat) (hb : B ≤ b) : ∀ (vs : List Value) (o : Nat) {w : World}, Below B a w → Below B a (w.setCells b o vs)
  | [], _, _, h => h
  | v :: r, o, _, h => below_cellsB b hb r (o + 1) (h.setCell hb v)
theorem sz_cells (b : Nat) : ∀ (vs : List Value) (o : Nat) (w : World), (w.setCells b o vs).heap.size = w.heap.size
  | [], _, _ => rfl
  | v :: r, o, w => by
    rw [World.setCells, sz_cells b r]
    simp
theorem there_below {B M : Nat} {w w' : World} {b o n : Nat} (h : w.there b o n) (hb : Below M w w') (hM : b < M) (hB : B = B) : w'.there b o n := fun j hj => by
  have h1 := h j hj
  have := hb.block b hM
  constructor
  · rw [hb.cell (p := ⟨b, o + j, none⟩) hM]; exact h1.1
  · have h2 := h1.2
    unfold World.frozen? at h2 ⊢
    rw [this]; exact h2
theorem range_below {M : Nat} {w w' : World} {b o : Nat} {cs : List Value} (h : w.rangeAt b o cs) (hb : Below M w w') (hM : b < M) : w'.rangeAt b o cs := fun j v hv => by
  rw [hb.cell (p := ⟨b, o + j, none⟩) hM]; exact h j v hv

/-- The cells that 'clear' leaves. -/
def zer (m : Nat) : List Value := (Builtin.zeroCells (Value.agg #[.int .i64 0, .int .i64 0, .int .i64 0, .int .i64 0, .int .i64 0, .int .i64 0]).cells m).toList
theorem zer_len (m : Nat) : (zer m).length = m * 6 := by simp [zer, Builtin.zeroCells, Value.cells]
theorem zer_one (m : Nat) : ∀ v ∈ zer m, v.oneCell' = true := by
  intro v hv
  simp only [zer, Builtin.zeroCells, Array.toList_map, List.mem_map] at hv
  obtain ⟨i, -, rfl⟩ := hv
  have h6 : i % 6 < 6 := Nat.mod_lt _ (by omega)
  simp only [Value.cells]
  have : ∀ q, q < 6 → (#[Value.int .i64 0, .int .i64 0, .int .i64 0, .int .i64 0, .int .i64 0, .int .i64 0][q]!).oneCell' = true := by
    intro q hq
    obtain rfl | rfl | rfl | rfl | rfl | rfl : q = 0 ∨ q = 1 ∨ q = 2 ∨ q = 3 ∨ q = 4 ∨ q = 5 := by omega
    all_goals rfl
  exact this _ h6
theorem clear_cols {w : World} {b o m c : Nat} (hm : m ≠ 0) (ht : w.there b o (m * 6)) : ∀ ty, (Builtin.clear_ #[67] ty #[.slice (some ⟨b, o, none⟩) m c]).run Try.prog w = .ok (.tuple #[]) (w.setCells b o (zer m)) := fun ty => by
  have hz : (zeroValue 84).run Try.prog w = .ok (.agg #[.int .i64 0, .int .i64 0, .int .i64 0, .int .i64 0, .int .i64 0, .int .i64 0]) w := by kernel_rfl
  have hs := run_storeCells_cells (P := Try.prog) b o (zer m) 0 w (fun j hj => by rw [zer_len] at hj; exact (ht j hj).1) (fun j hj => by rw [zer_len] at hj; exact (ht j hj).2) (zer_one m)
  simp only [Nat.add_zero] at hs
  unfold Builtin.clear_
  obtain ⟨n, rfl⟩ : ∃ n, m = n + 1 := ⟨m - 1, by omega⟩
  simp only [List.getElem?_toArray, List.getElem?_cons_zero, Sem.run_bind, run_underlying Try.underlying67, Result.andThen_ok, hz, Sem.run_pure]
  show ((storeCells ⟨b, o, none⟩ (zer (n + 1))).run Try.prog w).andThen _ = _
  rw [hs]
  rfl

set_option maxHeartbeats 4000000 in
set_option maxRecDepth 100000 in
theorem delete_any (k d : Int) (X : List (List Int)) (v : Value) (B : Nat) (p q : Nat) (w : World) (hX0 : 0 < X.length) (hlX : X.length ≤ 1048576)
    (hat : ∃ ao b cap, v = .slice ao X.length cap ∧ ColsAt w ao b 0 X ∧ B ≤ b ∧ X.length ≤ cap ∧ (∀ i, i < X.length → w.there b (i * 6) 6)) (hBw : B ≤ w.heap.size) (hp : w.cell? ⟨p, 0, none⟩ = some (.int .i64 k)) (hq : w.cell? ⟨q, 0, none⟩ = some (.int .i64 d)) (hpw : p < B) (hqw : q < B) :
    Calls Try.prog 57 #[v, .func (.func 58) #[] #[.pointer (some ⟨p, 0, none⟩), .pointer (some ⟨q, 0, none⟩)]] w fun e w' =>
      (∃ ao b cap, e = .returned (.slice ao (flt k d X X.length).length cap) ∧ ColsAt w' ao b 0 (flt k d X X.length)) ∧ Below B w w' := by
  obtain ⟨ao, b, cap, rfl, hc, hBb, hcap, hth⟩ := hat
  have hid := idx_any k d X ao b 0 cap p q w hc hp hq (by omega) (by omega)
  obtain ⟨rfl, hbw⟩ := hc.ptr hX0
  have HI := Lib.hid hid
  have HX := Lib.hid hc
  have HT := Lib.hid hth
  have HP := Lib.hid (And.intro hp hq)
  clear hid hc hth hp hq
  go_enter Try.func57, Try.ntmps57
  go_wp2_with fail
  refine HI.out.mono ?_
  rintro e w1 ⟨hres, hb1⟩
  have HB1 := Lib.hid hb1
  clear hb1
  rcases hres with ⟨rfl, hn⟩ | ⟨i0, hi0, rfl, hn, hdel⟩
  · have HF := Lib.hid (show flt k d X X.length = X by rw [flt_none (Nat.le_refl _) hn, List.take_length])
    clear hn
    go_wp2
    go_ret
    rw [HF.out]
    exact ⟨⟨_, b, cap, rfl, HX.out.below HB1.out (Nat.le_refl _)⟩, HB1.out.mono hBw⟩
  · have HN := Lib.hid hn
    have HD := Lib.hid hdel
    clear hn hdel
    have t0 : ((i0 : Int) == -1) = false := beq_eq_false_iff_ne.2 (by omega)
    have hlc : (X.length : Int) ≤ 1048576 := by omega
    go_wp2
    go_loopw [5, 6, 7] (fun x y _ wr => ∃ i j : Nat, i < j ∧ j ≤ X.length ∧ x = .int .i64 i ∧ y = .int .i64 j ∧ i = (flt k d X j).length ∧ Below B w wr ∧ b < wr.heap.size ∧ (∀ r, r < i → wr.rangeAt b (r * 6) (colL (nth (row (flt k d X j) r)))) ∧ (∀ r, j ≤ r → r < X.length → wr.rangeAt b (r * 6) (colL (nth (row X r)))) ∧ (∀ r, r < X.length → wr.there b (r * 6) 6)) (fun _ y _ _ => X.length - (intOf y).toNat)
    case atStart =>
      have hfl : flt k d X (i0 + 1) = X.take i0 := by rw [flt_succ hi0, flt_none (by omega) HN.out, HD.out, if_pos rfl, List.append_nil]
      have hx := HX.out.below HB1.out (Nat.le_refl _)
      refine ⟨i0, i0 + 1, by omega, by omega, rfl, by go_num, by rw [hfl, List.length_take]; omega, HB1.out.mono hBw, Nat.lt_of_lt_of_le hbw HB1.out.size, fun r hr => ?_, fun r _ hr => ?_, fun r hr => there_below (HT.out r hr) HB1.out hbw (rfl : 0 = 0)⟩
      · have := hx.rng r (by omega)
        rw [hfl, show row (X.take i0) r = row X r by simp [row, List.getD_eq_getElem?_getD, hr]]
        simpa using this
      · simpa using hx.rng r hr
    case round =>
      obtain ⟨i, j, hij, hj, rfl, rfl, hil, hb, hbr, hlo, hhi, hth⟩ := hrel
      have HIL := Lib.hid hil
      have HB := Lib.hid hb
      have HLO := Lib.hid hlo
      have HHI := Lib.hid hhi
      have HTH := Lib.hid hth
      clear hil hb hlo hhi hth HB1 HX HT HI
      by_cases hlt : j < X.length
      · have HR := Lib.hid (HHI.out j (Nat.le_refl _) hlt)
        obtain ⟨wq, hwq⟩ : ∃ wq, (wr.alloc (.cells #[.int .i64 0, .int .i64 0, .int .i64 0, .int .i64 0, .int .i64 0, .int .i64 0] 84)).setRow wr.heap.size (colC (nth (row X j))) = wq := ⟨_, rfl⟩
        have HQ := Lib.hid (show Below wr.heap.size wr wq by rw [← hwq]; exact below_setRow ((Below.refl _ wr).alloc (Nat.le_refl _) _) (Nat.le_refl _) _)
        have H7 := Lib.hid (show wq.heap[wr.heap.size]? = some (.cells (colC (nth (row X j))) 84 (0, 0)) by rw [← hwq]; exact setRow_heap _ wr.heap.size _ _ _ _ (heap_alloc_new wr _))
        have hBq := HB.out.trans (HQ.out.mono (Nat.le_trans hBw HB.out.size))
        have HS := Lib.hid (struck_any k d (nth (row X j)) p q wq (by rw [hBq.cell (p := ⟨p, 0, none⟩) hpw]; exact HP.out.1) (by rw [hBq.cell (p := ⟨q, 0, none⟩) hqw]; exact HP.out.2) (by have := hBq.size; omega) (by have := hBq.size; omega))
        have HBq := Lib.hid hBq
        have HWQ := Lib.hid hwq
        clear hBq hwq
        go_wp2_with (first
          | (refine wpList_load_mid rfl 84 (.tmp 24) rfl b (j * 6) rfl _ _ HR.out Try.underlying84 rfl (info_col _) ?_; rw [colL_arr])
          | (refine wpList_store_row rfl 84 (.tmp 7) (.tmp 25) rfl wr.heap.size _ rfl rfl 84 _ (heap_alloc_new _ _) (info_colC _) (by rw [colC_size]; rfl) (colC_all _) ?_; rw [HWQ.out])
          | (refine wpList_load_row rfl 84 (.tmp 7) rfl wr.heap.size rfl 84 _ _ _ H7.out Try.underlying84 rfl (info_colC _) ?_))
        refine (HS.out).mono ?_
        rintro e w2 ⟨rfl, hb⟩
        have HB2 := Lib.hid (show Below wr.heap.size wr w2 from HQ.out.trans (hb.mono HQ.out.size))
        have H72 := Lib.hid ((hb.block _ (lt_of_block H7.out)).trans H7.out)
        clear hb
        obtain ⟨t, ht⟩ : ∃ t, delF k d (nth (row X j)) = t := ⟨_, rfl⟩
        rw [ht]
        have HF := Lib.hid (flt_succ (k := k) (d := d) hlt)
        unfold Hid at HF
        rw [ht] at HF
        have HF := Lib.hid HF
        clear ht
        have HBB := Lib.hid (HB.out.trans (HB2.out.mono (Nat.le_trans hBw HB.out.size)))
        cases t
        · have hF : flt k d X (j + 1) = flt k d X j ++ [row X j] := by have := HF.out; simpa using this
          have HF := Lib.hid hF
          clear hF
          have hiX : i < X.length := by omega
          have HTI := Lib.hid (show w2.there b (i * 6) (colC (nth (row X j))).size by rw [colC_size]; exact there_below (HTH.out i (by omega)) HB2.out hbr (rfl : 0 = 0))
          obtain ⟨w3, hw3⟩ : ∃ w3, w2.setCells b (i * 6) (colC (nth (row X j))).toList = w3 := ⟨_, rfl⟩
          have HW3 := Lib.hid hw3
          clear hw3
          go_wp2_with (first
            | (refine wpList_load_row rfl 84 (.tmp 7) rfl wr.heap.size rfl 84 _ _ _ H72.out Try.underlying84 rfl (info_colC _) ?_)
            | (refine wpList_store_mid rfl 84 (.tmp 33) (.tmp 32) rfl b (i * 6) (colC (nth (row X j))) rfl rfl HTI.out (info_colC _) (colC_all _) ?_; rw [HW3.out]))
          go_roundw
          case rel =>
            have hb3 : Below B w w3 := by rw [← HW3.out]; exact below_cellsB b hBb _ _ HBB.out
            have hlen6 : (colC (nth (row X j))).toList.length = 6 := by rw [colC_list, colL_len]
            refine ⟨i + 1, j + 1, by omega, by omega, by go_num, by go_num, by rw [HF.out, List.length_append, ← HIL.out]; rfl, hb3, ?_, fun r hr => ?_, fun r h1 h2 => ?_, fun r hr => ?_⟩
            · rw [← HW3.out, sz_cells]; exact Nat.lt_of_lt_of_le hbr HB2.out.size
            · rw [← HW3.out, HF.out]
              by_cases e : r = i
              · subst e
                have := row_append_eq (xss := flt k d X j) (xs := row X j)
                rw [← HIL.out] at this
                rw [this, ← colC_list]
                exact World.rangeAt_setCells_same _ _ _ _ (by rw [hlen6]; have := HTI.out; rw [colC_size] at this; exact this)
              · rw [row_append_lt (by rw [← HIL.out]; omega)]
                exact World.rangeAt_setCells_apart (range_below (HLO.out r (by omega)) HB2.out hbr) _ _ _ (.inr (.inl (by rw [colL_len]; omega)))
            · rw [← HW3.out]
              exact World.rangeAt_setCells_apart (range_below (HHI.out r (by omega) h2) HB2.out hbr) _ _ _ (.inr (.inr (by rw [hlen6]; omega)))
            · rw [← HW3.out]
              exact World.there_setCells (there_below (HTH.out r hr) HB2.out hbr (rfl : 0 = 0)) _ _ _
          case measure => simp [intOf]; omega
        · have hF : flt k d X (j + 1) = flt k d X j := by have := HF.out; simpa using this
          have HFT := Lib.hid hF
          clear hF
          go_wp2
          go_roundw
          case rel => exact ⟨i, j + 1, by omega, by omega, rfl, by go_num, by rw [HFT.out]; exact HIL.out, HBB.out, Nat.lt_of_lt_of_le hbr HB2.out.size, fun r hr => by rw [HFT.out]; exact range_below (HLO.out r hr) HB2.out hbr, fun r h1 h2 => range_below (HHI.out r (by omega) h2) HB2.out hbr, fun r hr => there_below (HTH.out r hr) HB2.out hbr (rfl : 0 = 0)⟩
          case measure => simp [intOf]; omega
      · have hjl : j = X.length := by omega
        subst hjl
        have hne : X.length - i ≠ 0 := by omega
        have hto : wr.there b (i * 6) ((X.length - i) * 6) := fun t ht => by
          have := HTH.out (i + t / 6) (by omega) (t % 6) (by omega)
          rwa [show (i + t / 6) * 6 + t % 6 = i * 6 + t by omega] at this
        have HCL := fun c => clear_cols (c := c) hne hto
        obtain ⟨w3, hw3⟩ : ∃ w3, wr.setCells b (i * 6) (zer (X.length - i)) = w3 := ⟨_, rfl⟩
        rw [hw3] at HCL
        have HW3 := Lib.hid hw3
        have HTO := Lib.hid hto
        have hiX : i < X.length := by omega
        have hiC : i ≤ cap := by omega
        clear hw3 hto hne
        go_wp2
        go_ret
        have hb3 : Below B w w3 := by rw [← HW3.out]; exact below_cellsB b hBb _ _ HB.out
        refine ⟨⟨_, b, cap, by rw [← HIL.out]; rfl, ⟨fun _ => ⟨rfl, ?_⟩, fun r hr => ?_, ?_⟩⟩, hb3⟩
        · rw [← HW3.out, sz_cells]; exact hbr
        · rw [← HIL.out] at hr
          rw [← HW3.out, Nat.zero_add]
          exact World.rangeAt_setCells_apart (HLO.out r hr) _ _ _ (.inr (.inl (by rw [colL_len]; omega)))
        · rw [← HIL.out]; omega

end Go.Proofs.Ytjibdolhipddbaa

/- Lists of colourings in new memory; what a slice literal and a comparison of colourings do. -/
namespace Go.Proofs.Ytjibdolhipddbaa
open Go.RowKit

theorem Try.info84 : (Try.prog.info? 84).map (fun i => (i.zero, i.size, i.bytes)) = some (some (.agg #[.int .i64 0, .int .i64 0, .int .i64 0, .int .i64 0, .int .i64 0, .int .i64 0]), 6, 48) := by kernel_rfl

theorem build_col (c : Nat → Int) (w : World) : (Instr.buildSlice 67 1 #[(0, .agg (colC c))]).run Try.prog w = .ok (.slice (some ⟨w.heap.size, 0, none⟩) 1 1) (w.alloc (.cells (colC c) 84)) := by
  obtain ⟨i0, hi, hz0, hz1, hz2⟩ := info_parts Try.info84
  refine run_buildSlice w _ 84 1 _ (colC c) i0 _ Try.underlying67 hi hz0 (by rw [hz1]; omega) (by rw [hz1]; omega) ?_
  rw [hz1]
  kernel_rfl

theorem part_col (c : Nat → Int) (i : Nat) (hi : i < 6) (w : World) : (part 3 (colC c) (i * Try.prog.cellsOf 3)).run Try.prog w = .ok (.int .i64 (c i)) w := by
  obtain rfl | rfl | rfl | rfl | rfl | rfl : i = 0 ∨ i = 1 ∨ i = 2 ∨ i = 3 ∨ i = 4 ∨ i = 5 := by omega
  · kernel_rfl
  · kernel_rfl
  · kernel_rfl
  · kernel_rfl
  · kernel_rfl
  · kernel_rfl
theorem items_col (c d : Nat → Int) (w : World) (n : Nat) : ∀ is : List Nat, (∀ i ∈ is, i < 6) → (Op.eqItems (n + 1) 3 (Try.prog.cellsOf 3) (colC c) (colC d) is).run Try.prog w = .ok (is.all fun i => c i == d i) w
  | [], _ => rfl
  | i :: is, h => by
    simp only [Op.eqItems, Sem.run_bind, part_col c i (h i (by simp)) w, part_col d i (h i (by simp)) w, Result.andThen_ok, run_equalIn_int w n 3 .i64 .i64 (c i) (d i) Try.underlying3]
    cases e : c i == d i
    · simp [e]
    · simp only [Bool.not_true, Bool.false_eq_true, if_false, List.all_cons, e, Bool.true_and]
      exact items_col c d w n is fun j hj => h j (by simp [hj])
/-- Whether two colourings are the same. -/
def sameB (c d : Nat → Int) : Bool := (List.range 6).all fun i => c i == d i
theorem sameB_iff (c d : Nat → Int) : sameB c d = true ↔ ∀ i, i < 6 → c i = d i := by simp [sameB]
theorem eq_col (c d : Nat → Int) (w : World) : (Go.binOp .eql 84 (Value.agg (colC c)) (Value.agg (colC d))).run Try.prog w = Result.ok (Value.bool (sameB c d)) w := by
  obtain ⟨i0, hi, -⟩ := info_parts Try.info3
  rw [run_eql_struct, run_equalIn_array w 9999 (colC c) (colC d) Try.underlying84 hi, items_col c d w 9998 _ (fun i hi => List.mem_range.1 hi)]
  rfl

/-- The cells of colourings, one behind the other. -/
def flatC (X : List (List Int)) : List Value := X.flatMap fun x => colL (nth x)
theorem flatC_len (X : List (List Int)) : (flatC X).length = X.length * 6 := by
  induction X with
  | nil => rfl
  | cons x X ih =>
    have : flatC (x :: X) = colL (nth x) ++ flatC X := rfl
    rw [this, List.length_append, ih, colL_len, List.length_cons]; omega
theorem flatC_snoc (X : List (List Int)) (x : List Int) : flatC (X ++ [x]) = flatC X ++ colL (nth x) := by simp [flatC]
theorem flatC_get : ∀ (X : List (List Int)) (i j : Nat), i < X.length → j < 6 → (flatC X)[i * 6 + j]? = (colL (nth (row X i)))[j]?
  | [], i, _, h, _ => by simp at h
  | x :: X, 0, j, _, hj => by
    have : flatC (x :: X) = colL (nth x) ++ flatC X := rfl
    rw [this, Nat.zero_mul, Nat.zero_add, List.getElem?_append_left (by rw [colL_len]; exact hj)]
    rfl
  | x :: X, i + 1, j, h, hj => by
    have : flatC (x :: X) = colL (nth x) ++ flatC X := rfl
    rw [this, List.getElem?_append_right (by rw [colL_len]; omega), colL_len, show (i + 1) * 6 + j - 6 = i * 6 + j by omega, flatC_get X i j (by simpa using h) hj]
    rfl
theorem flatC_one (X : List (List Int)) : ∀ u ∈ flatC X, u.oneCell' = true := by
  intro u hu
  obtain ⟨x, -, hx⟩ := List.mem_flatMap.1 hu
  obtain ⟨i, -, rfl⟩ := List.mem_map.1 hx
  rfl

/-- A slice of colourings in memory that is new since the heap had B blocks. -/
structure NewCols (B : Nat) (w : World) (v : Value) (X : List (List Int)) : Prop where
  own : w.ownsRow B 84 6 v X.length (flatC X)
  len : X.length ≤ 1048576

theorem NewCols.nil (B : Nat) (w : World) : NewCols B w (.slice none 0 0) [] := ⟨⟨rfl, .inl ⟨rfl, rfl⟩⟩, by simp⟩
theorem NewCols.at {B : Nat} {w : World} {v : Value} {X : List (List Int)} (h : NewCols B w v X) :
    ∃ ao b cap, v = .slice ao X.length cap ∧ ColsAt w ao b 0 X ∧ (0 < X.length → B ≤ b) ∧ X.length ≤ cap ∧ (∀ i, i < X.length → w.there b (i * 6) 6) := by
  obtain ⟨⟨hl, h1⟩, hlen⟩ := h
  rcases h1 with ⟨rfl, h0⟩ | ⟨g, cap, cur, rfl, hg, hh, hcap, hm, hcs, htk⟩
  · exact ⟨none, 0, 0, by rw [h0], ⟨fun h => absurd h (by omega), fun i hi => absurd hi (by omega), hlen⟩, fun h => absurd h (by omega), by omega, fun i hi => absurd hi (by omega)⟩
  · have hget : ∀ j, j < X.length * 6 → cur[j]? = (flatC X)[j]? := fun j hj => by
      rw [← htk, List.getElem?_take, if_pos (by omega)]; simp
    refine ⟨some ⟨g, 0, none⟩, g, cap, rfl, ⟨fun _ => ⟨rfl, lt_of_block hh⟩, fun i hi j v hv => ?_, hlen⟩, fun _ => hg, hcap, fun i hi j hj => ?_⟩
    · have hj : j < 6 := by have := (List.getElem?_eq_some_iff.1 hv).1; rwa [colL_len] at this
      rw [cell_of_row _ _ _ _ _ _ hh, Nat.zero_add, hget _ (by omega), flatC_get X i j hi hj, hv]
    · refine ⟨?_, frozen_of_row _ _ _ _ _ hh⟩
      rw [cell_of_row _ _ _ _ _ _ hh]
      have : i * 6 + j < cur.size := by rw [hcs]; have := Nat.mul_le_mul_right 6 hcap; omega
      simp [this]
theorem NewCols.kept {B : Nat} {w w' : World} {u : Value} {X : List (List Int)} (h : NewCols B w u X) {r : Option Nat} (hg : w.grownBy w' r) (hne : u.ownBlock = none ∨ u.ownBlock ≠ r) : NewCols B w' u X :=
  ⟨h.own.kept hg hne, h.len⟩
theorem NewCols.below {B M : Nat} {w w' : World} {u : Value} {X : List (List Int)} (h : NewCols B w u X) (hb : Below M w w') (hM : w.heap.size ≤ M) : NewCols B w' u X := by
  refine ⟨⟨h.own.1, ?_⟩, h.len⟩
  rcases h.own.2 with h2 | ⟨g, cap, cur, h1, h2, h3, h4⟩
  · exact .inl h2
  · exact .inr ⟨g, cap, cur, h1, h2, (hb.block _ (by have := lt_of_block h3; omega)).trans h3, h4⟩
theorem NewCols.mono {B B' : Nat} {w : World} {u : Value} {X : List (List Int)} (h : NewCols B w u X) (hB : B' ≤ B) : NewCols B' w u X := by
  refine ⟨⟨h.own.1, ?_⟩, h.len⟩
  rcases h.own.2 with h2 | ⟨g, cap, cur, h1, h2, h3⟩
  · exact .inl h2
  · exact .inr ⟨g, cap, cur, h1, by omega, h3⟩
theorem NewCols.blocks {B : Nat} {w w' : World} {v : Value} {X : List (List Int)} (h : NewCols B w v X) (hh : ∀ g, B ≤ g → g < w.heap.size → w'.heap[g]? = w.heap[g]?) : NewCols B w' v X := by
  refine ⟨⟨h.own.1, ?_⟩, h.len⟩
  rcases h.own.2 with h2 | ⟨g, cap, cur, h1, h2, h3, h4⟩
  · exact .inl h2
  · exact .inr ⟨g, cap, cur, h1, h2, (hh g h2 (lt_of_block h3)).trans h3, h4⟩
theorem NewCols.lt {B : Nat} {w : World} {v : Value} {X : List (List Int)} (h : NewCols B w v X) : ∀ g, v.ownBlock = some g → B ≤ g := by
  intro g hg
  rcases h.own.2 with ⟨rfl, -⟩ | ⟨g', cap, cur, rfl, h2, -⟩
  · cases hg
  · simp [Value.ownBlock] at hg; omega

end Go.Proofs.Ytjibdolhipddbaa

/- The colourings that are worth a try. -/
namespace Go.Proofs.Ytjibdolhipddbaa
open Go.RowKit

def fixB (x : List Int) : Bool := sameB (nth x) (rnF (nth x))
def ext1 (key : Nat) (x : List Int) : Nat → List (List Int)
  | 0 => []
  | e + 1 => ext1 key x e ++ if fixB (x.set key ((e + 1 : Nat) : Int)) = true then [x.set key ((e + 1 : Nat) : Int)] else []
def ext (key d : Nat) (L : List (List Int)) : Nat → List (List Int)
  | 0 => []
  | n + 1 => ext key d L n ++ ext1 key (row L n) d
def cls (d : Nat) : Nat → List (List Int)
  | 0 => [[0, 0, 0, 0, 0, 0]]
  | k + 1 => ext k d (cls d k) (cls d k).length
/-- The list that the program makes. -/
def clsL (k d : Nat) : List (List Int) := flt k d (cls d k) (cls d k).length

theorem ext1_len (key : Nat) (x : List Int) : ∀ e, (ext1 key x e).length ≤ e
  | 0 => Nat.le_refl _
  | e + 1 => by
    have := ext1_len key x e
    rw [ext1, List.length_append]
    split <;> simp <;> omega
theorem ext_len (key d : Nat) (L : List (List Int)) : ∀ n, (ext key d L n).length ≤ n * d
  | 0 => by simp [ext]
  | n + 1 => by
    have h1 := ext_len key d L n
    have h2 := ext1_len key (row L n) d
    rw [ext, List.length_append, Nat.add_mul]
    omega

/-- What is true of all of them. -/
def goodX (x : List Int) : Bool := decide (x.length = 6) && (List.range 6).all fun i => decide (0 ≤ nth x i) && decide (nth x i ≤ 4)
def goodC (k d : Nat) : Bool := decide (0 < (cls d k).length) && decide ((cls d k).length ≤ 4096) && (cls d k).all goodX
theorem good_all : (List.range 7).all (fun k => (List.range 4).all fun d => goodC k (d + 1)) = true := by decide +kernel

theorem good_cls {k d : Nat} (hk : k ≤ 6) (hd : 1 ≤ d) (hd4 : d ≤ 4) : 0 < (cls d k).length ∧ (cls d k).length ≤ 4096 ∧ ∀ x ∈ cls d k, x.length = 6 ∧ ∀ i, i < 6 → 0 ≤ nth x i ∧ nth x i ≤ 4 := by
  have h := good_all
  rw [List.all_eq_true] at h
  have h := h k (List.mem_range.2 (by omega))
  rw [List.all_eq_true] at h
  have h := h (d - 1) (List.mem_range.2 (by omega))
  rw [show d - 1 + 1 = d by omega, goodC, Bool.and_eq_true, Bool.and_eq_true, decide_eq_true_eq, decide_eq_true_eq, List.all_eq_true] at h
  refine ⟨h.1.1, h.1.2, fun x hx => ?_⟩
  have hx := h.2 x hx
  rw [goodX, Bool.and_eq_true, decide_eq_true_eq, List.all_eq_true] at hx
  refine ⟨hx.1, fun i hi => ?_⟩
  have := hx.2 i (List.mem_range.2 hi)
  simpa using this

end Go.Proofs.Ytjibdolhipddbaa
