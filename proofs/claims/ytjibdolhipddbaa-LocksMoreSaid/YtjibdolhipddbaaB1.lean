/- The colourings that are kept. -/
import Derived.Test.YtjibdolhipddbaaA9
namespace Go.Proofs.Ytjibdolhipddbaa
open Go.RowKit

/-- The first j colourings without the struck ones. -/
def flt (k d : Int) (X : List (List Int)) (j : Nat) : List (List Int) := (X.take j).filter fun x => !delF k d (nth x)
theorem flt_len (k d : Int) (X : List (List Int)) (j : Nat) : (flt k d X j).length ≤ j := by
  have h1 := List.length_filter_le (fun x => !delF k d (nth x)) (X.take j)
  have h2 : (X.take j).length ≤ j := by rw [List.length_take]; omega
  exact Nat.le_trans h1 h2
theorem flt_succ {k d : Int} {X : List (List Int)} {j : Nat} (h : j < X.length) : flt k d X (j + 1) = flt k d X j ++ if delF k d (nth (row X j)) then [] else [row X j] := by
  unfold flt
  rw [List.take_succ_eq_append_getElem h, List.filter_append, show X[j] = row X j by simp [row, List.getD_eq_getElem?_getD, h]]
  congr 1
  simp only [List.filter_cons, List.filter_nil]
  cases delF k d (nth (row X j)) <;> simp
theorem flt_none {k d : Int} {X : List (List Int)} : ∀ {j : Nat}, j ≤ X.length → NoneTo k d X j → flt k d X j = X.take j
  | 0, _, _ => by simp [flt]
  | j + 1, h, hn => by
    rw [flt_succ (by omega), flt_none (by omega) (fun i hi => hn i (by omega)), if_neg (by rw [hn j (by omega)]; decide), List.take_succ_eq_append_getElem (by omega)]
    simp [row, List.getD_eq_getElem?_getD, show j < X.length by omega]

theorem below_cellsB {B : Nat} {a : World} (b : Nat) (hb : B ≤ b) : ∀ (vs : List Value) (o : Nat) {w : World}, Below B a w → Below B a (w.setCells b o vs)
  | [], _, _, h => h
  | v :: r, o, _, h => below_cellsB b hb r (o + 1) (h.setCell hb v)
theorem sz_cells (b : Nat) : ∀ (vs : List Value) (o : Nat) (w : World), (w.setCells b o vs).heap.size = w.heap.size
  | [], _, _ => rfl
  | v :: r, o, w => by
    rw [World.setCells, sz_cells b r]
    simp
theorem there_below {B M : Nat} {w w' : World} {b o n : Nat} (h : w.there b o n) (hb : Below M w w') (hM : b < M) (hB : B = B) : w'.there b o n := fun j hj => by
  have h1 := h j hj
  have := hb.block b hM
  constructor
  · rw [hb.cell (p := ⟨b, o + j, none⟩) hM]; exact h1.1
  · have h2 := h1.2
    unfold World.frozen? at h2 ⊢
    rw [this]; exact h2
theorem range_below {M : Nat} {w w' : World} {b o : Nat} {cs : List Value} (h : w.rangeAt b o cs) (hb : Below M w w') (hM : b < M) : w'.rangeAt b o cs := fun j v hv => by
  rw [hb.cell (p := ⟨b, o + j, none⟩) hM]; exact h j v hv

/-- The cells that 'clear' leaves. -/
def zer (m : Nat) : List Value := (Builtin.zeroCells (Value.agg #[.int .i64 0, .int .i64 0, .int .i64 0, .int .i64 0, .int .i64 0, .int .i64 0]).cells m).toList
theorem zer_len (m : Nat) : (zer m).length = m * 6 := by simp [zer, Builtin.zeroCells, Value.cells]
theorem zer_one (m : Nat) : ∀ v ∈ zer m, v.oneCell' = true := by
  intro v hv
  simp only [zer, Builtin.zeroCells, Array.toList_map, List.mem_map] at hv
  obtain ⟨i, -, rfl⟩ := hv
  have h6 : i % 6 < 6 := Nat.mod_lt _ (by omega)
  simp only [Value.cells]
  have : ∀ q, q < 6 → (#[Value.int .i64 0, .int .i64 0, .int .i64 0, .int .i64 0, .int .i64 0, .int .i64 0][q]!).oneCell' = true := by
    intro q hq
    obtain rfl | rfl | rfl | rfl | rfl | rfl : q = 0 ∨ q = 1 ∨ q = 2 ∨ q = 3 ∨ q = 4 ∨ q = 5 := by omega
    all_goals rfl
  exact this _ h6
theorem clear_cols {w : World} {b o m c : Nat} (hm : m ≠ 0) (ht : w.there b o (m * 6)) : ∀ ty, (Builtin.clear_ #[67] ty #[.slice (some ⟨b, o, none⟩) m c]).run Try.prog w = .ok (.tuple #[]) (w.setCells b o (zer m)) := fun ty => by
  have hz : (zeroValue 84).run Try.prog w = .ok (.agg #[.int .i64 0, .int .i64 0, .int .i64 0, .int .i64 0, .int .i64 0, .int .i64 0]) w := by kernel_rfl
  have hs := run_storeCells_cells (P := Try.prog) b o (zer m) 0 w (fun j hj => by rw [zer_len] at hj; exact (ht j hj).1) (fun j hj => by rw [zer_len] at hj; exact (ht j hj).2) (zer_one m)
  simp only [Nat.add_zero] at hs
  unfold Builtin.clear_
  obtain ⟨n, rfl⟩ : ∃ n, m = n + 1 := ⟨m - 1, by omega⟩
  simp only [List.getElem?_toArray, List.getElem?_cons_zero, Sem.run_bind, run_underlying Try.underlying67, Result.andThen_ok, hz, Sem.run_pure]
  show ((storeCells ⟨b, o, none⟩ (zer (n + 1))).run Try.prog w).andThen _ = _
  rw [hs]
  rfl

set_option maxHeartbeats 4000000 in
set_option maxRecDepth 100000 in
theorem delete_any (k d : Int) (X : List (List Int)) (v : Value) (B : Nat) (p q : Nat) (w : World) (hX0 : 0 < X.length) (hlX : X.length ≤ 1048576)
    (hat : ∃ ao b cap, v = .slice ao X.length cap ∧ ColsAt w ao b 0 X ∧ B ≤ b ∧ X.length ≤ cap ∧ (∀ i, i < X.length → w.there b (i * 6) 6)) (hBw : B ≤ w.heap.size) (hp : w.cell? ⟨p, 0, none⟩ = some (.int .i64 k)) (hq : w.cell? ⟨q, 0, none⟩ = some (.int .i64 d)) (hpw : p < B) (hqw : q < B) :
    Calls Try.prog 57 #[v, .func (.func 58) #[] #[.pointer (some ⟨p, 0, none⟩), .pointer (some ⟨q, 0, none⟩)]] w fun e w' =>
      (∃ ao b cap, e = .returned (.slice ao (flt k d X X.length).length cap) ∧ ColsAt w' ao b 0 (flt k d X X.length)) ∧ Below B w w' := by
  obtain ⟨ao, b, cap, rfl, hc, hBb, hcap, hth⟩ := hat
  have hid := idx_any k d X ao b 0 cap p q w hc hp hq (by omega) (by omega)
  obtain ⟨rfl, hbw⟩ := hc.ptr hX0
  have HI := Lib.hid hid
  have HX := Lib.hid hc
  have HT := Lib.hid hth
  have HP := Lib.hid (And.intro hp hq)
  clear hid hc hth hp hq
  go_enter Try.func57, Try.ntmps57
  go_wp2_with fail
  refine HI.out.mono ?_
  rintro e w1 ⟨hres, hb1⟩
  have HB1 := Lib.hid hb1
  clear hb1
  rcases hres with ⟨rfl, hn⟩ | ⟨i0, hi0, rfl, hn, hdel⟩
  · have HF := Lib.hid (show flt k d X X.length = X by rw [flt_none (Nat.le_refl _) hn, List.take_length])
    clear hn
    go_wp2
    go_ret
    rw [HF.out]
    exact ⟨⟨_, b, cap, rfl, HX.out.below HB1.out (Nat.le_refl _)⟩, HB1.out.mono hBw⟩
  · have HN := Lib.hid hn
    have HD := Lib.hid hdel
    clear hn hdel
    have t0 : ((i0 : Int) == -1) = false := beq_eq_false_iff_ne.2 (by omega)
    have hlc : (X.length : Int) ≤ 1048576 := by omega
    go_wp2
    go_loopw [5, 6, 7] (fun x y _ wr => ∃ i j : Nat, i < j ∧ j ≤ X.length ∧ x = .int .i64 i ∧ y = .int .i64 j ∧ i = (flt k d X j).length ∧ Below B w wr ∧ b < wr.heap.size ∧ (∀ r, r < i → wr.rangeAt b (r * 6) (colL (nth (row (flt k d X j) r)))) ∧ (∀ r, j ≤ r → r < X.length → wr.rangeAt b (r * 6) (colL (nth (row X r)))) ∧ (∀ r, r < X.length → wr.there b (r * 6) 6)) (fun _ y _ _ => X.length - (intOf y).toNat)
    case atStart =>
      have hfl : flt k d X (i0 + 1) = X.take i0 := by rw [flt_succ hi0, flt_none (by omega) HN.out, HD.out, if_pos rfl, List.append_nil]
      have hx := HX.out.below HB1.out (Nat.le_refl _)
      refine ⟨i0, i0 + 1, by omega, by omega, rfl, by go_num, by rw [hfl, List.length_take]; omega, HB1.out.mono hBw, Nat.lt_of_lt_of_le hbw HB1.out.size, fun r hr => ?_, fun r _ hr => ?_, fun r hr => there_below (HT.out r hr) HB1.out hbw (rfl : 0 = 0)⟩
      · have := hx.rng r (by omega)
        rw [hfl, show row (X.take i0) r = row X r by simp [row, List.getD_eq_getElem?_getD, hr]]
        simpa using this
      · simpa using hx.rng r hr
    case round =>
      obtain ⟨i, j, hij, hj, rfl, rfl, hil, hb, hbr, hlo, hhi, hth⟩ := hrel
      have HIL := Lib.hid hil
      have HB := Lib.hid hb
      have HLO := Lib.hid hlo
      have HHI := Lib.hid hhi
      have HTH := Lib.hid hth
      clear hil hb hlo hhi hth HB1 HX HT HI
      by_cases hlt : j < X.length
      · have HR := Lib.hid (HHI.out j (Nat.le_refl _) hlt)
        obtain ⟨wq, hwq⟩ : ∃ wq, (wr.alloc (.cells #[.int .i64 0, .int .i64 0, .int .i64 0, .int .i64 0, .int .i64 0, .int .i64 0] 84)).setRow wr.heap.size (colC (nth (row X j))) = wq := ⟨_, rfl⟩
        have HQ := Lib.hid (show Below wr.heap.size wr wq by rw [← hwq]; exact below_setRow ((Below.refl _ wr).alloc (Nat.le_refl _) _) (Nat.le_refl _) _)
        have H7 := Lib.hid (show wq.heap[wr.heap.size]? = some (.cells (colC (nth (row X j))) 84 (0, 0)) by rw [← hwq]; exact setRow_heap _ wr.heap.size _ _ _ _ (heap_alloc_new wr _))
        have hBq := HB.out.trans (HQ.out.mono (Nat.le_trans hBw HB.out.size))
        have HS := Lib.hid (struck_any k d (nth (row X j)) p q wq (by rw [hBq.cell (p := ⟨p, 0, none⟩) hpw]; exact HP.out.1) (by rw [hBq.cell (p := ⟨q, 0, none⟩) hqw]; exact HP.out.2) (by have := hBq.size; omega) (by have := hBq.size; omega))
        have HBq := Lib.hid hBq
        have HWQ := Lib.hid hwq
        clear hBq hwq
        go_wp2_with (first
          | (refine wpList_load_mid rfl 84 (.tmp 24) rfl b (j * 6) rfl _ _ HR.out Try.underlying84 rfl (info_col _) ?_; rw [colL_arr])
          | (refine wpList_store_row rfl 84 (.tmp 7) (.tmp 25) rfl wr.heap.size _ rfl rfl 84 _ (heap_alloc_new _ _) (info_colC _) (by rw [colC_size]; rfl) (colC_all _) ?_; rw [HWQ.out])
          | (refine wpList_load_row rfl 84 (.tmp 7) rfl wr.heap.size rfl 84 _ _ _ H7.out Try.underlying84 rfl (info_colC _) ?_))
        refine (HS.out).mono ?_
        rintro e w2 ⟨rfl, hb⟩
        have HB2 := Lib.hid (show Below wr.heap.size wr w2 from HQ.out.trans (hb.mono HQ.out.size))
        have H72 := Lib.hid ((hb.block _ (lt_of_block H7.out)).trans H7.out)
        clear hb
        obtain ⟨t, ht⟩ : ∃ t, delF k d (nth (row X j)) = t := ⟨_, rfl⟩
        rw [ht]
        have HF := Lib.hid (flt_succ (k := k) (d := d) hlt)
        unfold Hid at HF
        rw [ht] at HF
        have HF := Lib.hid HF
        clear ht
        have HBB := Lib.hid (HB.out.trans (HB2.out.mono (Nat.le_trans hBw HB.out.size)))
        cases t
        · have hF : flt k d X (j + 1) = flt k d X j ++ [row X j] := by have := HF.out; simpa using this
          have HF := Lib.hid hF
          clear hF
          have hiX : i < X.length := by omega
          have HTI := Lib.hid (show w2.there b (i * 6) (colC (nth (row X j))).size by rw [colC_size]; exact there_below (HTH.out i (by omega)) HB2.out hbr (rfl : 0 = 0))
          obtain ⟨w3, hw3⟩ : ∃ w3, w2.setCells b (i * 6) (colC (nth (row X j))).toList = w3 := ⟨_, rfl⟩
          have HW3 := Lib.hid hw3
          clear hw3
          go_wp2_with (first
            | (refine wpList_load_row rfl 84 (.tmp 7) rfl wr.heap.size rfl 84 _ _ _ H72.out Try.underlying84 rfl (info_colC _) ?_)
            | (refine wpList_store_mid rfl 84 (.tmp 33) (.tmp 32) rfl b (i * 6) (colC (nth (row X j))) rfl rfl HTI.out (info_colC _) (colC_all _) ?_; rw [HW3.out]))
          go_roundw
          case rel =>
            have hb3 : Below B w w3 := by rw [← HW3.out]; exact below_cellsB b hBb _ _ HBB.out
            have hlen6 : (colC (nth (row X j))).toList.length = 6 := by rw [colC_list, colL_len]
            refine ⟨i + 1, j + 1, by omega, by omega, by go_num, by go_num, by rw [HF.out, List.length_append, ← HIL.out]; rfl, hb3, ?_, fun r hr => ?_, fun r h1 h2 => ?_, fun r hr => ?_⟩
            · rw [← HW3.out, sz_cells]; exact Nat.lt_of_lt_of_le hbr HB2.out.size
            · rw [← HW3.out, HF.out]
              by_cases e : r = i
              · subst e
                have := row_append_eq (xss := flt k d X j) (xs := row X j)
                rw [← HIL.out] at this
                rw [this, ← colC_list]
                exact World.rangeAt_setCells_same _ _ _ _ (by rw [hlen6]; have := HTI.out; rw [colC_size] at this; exact this)
              · rw [row_append_lt (by rw [← HIL.out]; omega)]
                exact World.rangeAt_setCells_apart (range_below (HLO.out r (by omega)) HB2.out hbr) _ _ _ (.inr (.inl (by rw [colL_len]; omega)))
            · rw [← HW3.out]
              exact World.rangeAt_setCells_apart (range_below (HHI.out r (by omega) h2) HB2.out hbr) _ _ _ (.inr (.inr (by rw [hlen6]; omega)))
            · rw [← HW3.out]
              exact World.there_setCells (there_below (HTH.out r hr) HB2.out hbr (rfl : 0 = 0)) _ _ _
          case measure => simp [intOf]; omega
        · have hF : flt k d X (j + 1) = flt k d X j := by have := HF.out; simpa using this
          have HFT := Lib.hid hF
          clear hF
          go_wp2
          go_roundw
          case rel => exact ⟨i, j + 1, by omega, by omega, rfl, by go_num, by rw [HFT.out]; exact HIL.out, HBB.out, Nat.lt_of_lt_of_le hbr HB2.out.size, fun r hr => by rw [HFT.out]; exact range_below (HLO.out r hr) HB2.out hbr, fun r h1 h2 => range_below (HHI.out r (by omega) h2) HB2.out hbr, fun r hr => there_below (HTH.out r hr) HB2.out hbr (rfl : 0 = 0)⟩
          case measure => simp [intOf]; omega
      · have hjl : j = X.length := by omega
        subst hjl
        have hne : X.length - i ≠ 0 := by omega
        have hto : wr.there b (i * 6) ((X.length - i) * 6) := fun t ht => by
          have := HTH.out (i + t / 6) (by omega) (t % 6) (by omega)
          rwa [show (i + t / 6) * 6 + t % 6 = i * 6 + t by omega] at this
        have HCL := fun c => clear_cols (c := c) hne hto
        obtain ⟨w3, hw3⟩ : ∃ w3, wr.setCells b (i * 6) (zer (X.length - i)) = w3 := ⟨_, rfl⟩
        rw [hw3] at HCL
        have HW3 := Lib.hid hw3
        have HTO := Lib.hid hto
        have hiX : i < X.length := by omega
        have hiC : i ≤ cap := by omega
        clear hw3 hto hne
        go_wp2
        go_ret
        have hb3 : Below B w w3 := by rw [← HW3.out]; exact below_cellsB b hBb _ _ HB.out
        refine ⟨⟨_, b, cap, by rw [← HIL.out]; rfl, ⟨fun _ => ⟨rfl, ?_⟩, fun r hr => ?_, ?_⟩⟩, hb3⟩
        · rw [← HW3.out, sz_cells]; exact hbr
        · rw [← HIL.out] at hr
          rw [← HW3.out, Nat.zero_add]
          exact World.rangeAt_setCells_apart (HLO.out r hr) _ _ _ (.inr (.inl (by rw [colL_len]; omega)))
        · rw [← HIL.out]; omega

end Go.Proofs.Ytjibdolhipddbaa
