/- Depths numbered in the order in which they come. -/
import Derived.Test.YtjibdolhipddbaaA6
namespace Go.Proofs.Ytjibdolhipddbaa
open Go.RowKit

/-- One key more: the names of the depths, and how many there are. -/
def rnS (x : Int) (s : (Nat → Int) × Nat) : (Nat → Int) × Nat :=
  if x ≠ 0 ∧ s.1 x.toNat = 0 then (fun q => if q = x.toNat then ((s.2 + 1 : Nat) : Int) else s.1 q, s.2 + 1) else s
def rnN (c : Nat → Int) : Nat → (Nat → Int) × Nat
  | 0 => (fun _ => 0, 0)
  | i + 1 => rnS (c i) (rnN c i)
/-- The colouring with its depths renamed. -/
def rnF (c : Nat → Int) (i : Nat) : Int := (rnN c (i + 1)).1 (c i).toNat
theorem rnN_le (c : Nat → Int) : ∀ i, (rnN c i).2 ≤ i
  | 0 => Nat.le_refl _
  | i + 1 => by
    have := rnN_le c i
    simp only [rnN, rnS]
    split <;> simp <;> omega

/-- The names as cells. -/
def nmC (f : Nat → Int) : Array Value := ofN 5 fun i => .int .i64 (f i)

theorem colC_upd (f : Nat → Int) (i : Nat) (y : Int) : (colC fun t => if t = i then y else f t) = ofN 6 fun t => if t = i then .int .i64 y else .int .i64 (f t) := by
  unfold colC
  exact ofN_congr fun t _ => by by_cases e : t = i <;> simp [e]
theorem nmC_upd (f : Nat → Int) (i : Nat) (y : Int) : (nmC fun t => if t = i then y else f t) = ofN 5 fun t => if t = i then .int .i64 y else .int .i64 (f t) := by
  unfold nmC
  exact ofN_congr fun t _ => by by_cases e : t = i <;> simp [e]

theorem three_heap (w : World) (x y z : Obj) : (((w.alloc x).alloc y).alloc z).heap[w.heap.size]? = some x ∧ (((w.alloc x).alloc y).alloc z).heap[w.heap.size + 1]? = some y ∧ (((w.alloc x).alloc y).alloc z).heap[w.heap.size + 2]? = some z := by
  obtain ⟨h1, h2⟩ := two_heap w x y
  refine ⟨by rw [Below.heap_alloc _ _ _ (by simp; omega)]; exact h1, by rw [Below.heap_alloc _ _ _ (by simp)]; exact h2, ?_⟩
  have := heap_alloc_new ((w.alloc x).alloc y) z
  simpa using this

theorem index_col (c : Nat → Int) (i : Nat) (hi : i < 6) (w : World) : (Instr.index 84 (.agg (colC c)) (.int .i64 (i : Int))).run Try.prog w = .ok (.int .i64 (c i)) w := by
  obtain rfl | rfl | rfl | rfl | rfl | rfl : i = 0 ∨ i = 1 ∨ i = 2 ∨ i = 3 ∨ i = 4 ∨ i = 5 := by omega
  · kernel_rfl
  · kernel_rfl
  · kernel_rfl
  · kernel_rfl
  · kernel_rfl
  · kernel_rfl

set_option maxHeartbeats 4000000 in
set_option maxRecDepth 100000 in
theorem renamed_any (c : Nat → Int) (w : World) (hc : ∀ i, i < 6 → 0 ≤ c i ∧ c i ≤ 4) :
    Calls Try.prog 56 #[colV c] w fun e w' => e = .returned (colV (rnF c)) ∧ Below w.heap.size w w' := by
  obtain ⟨h0, h1, h2⟩ := three_heap w (.cells (colC c) 84) (.cells #[.int .i64 0, .int .i64 0, .int .i64 0, .int .i64 0, .int .i64 0, .int .i64 0] 84) (.cells #[.int .i64 0, .int .i64 0, .int .i64 0, .int .i64 0, .int .i64 0] 55)
  have HB := Lib.hid ((((Below.refl _ w).alloc (Nat.le_refl _) (.cells (colC c) 84)).alloc (by simp) (.cells #[.int .i64 0, .int .i64 0, .int .i64 0, .int .i64 0, .int .i64 0, .int .i64 0] 84)).alloc (by simp; omega) (.cells #[.int .i64 0, .int .i64 0, .int .i64 0, .int .i64 0, .int .i64 0] 55))
  obtain ⟨wa, hwa⟩ : ∃ wa, ((w.alloc (.cells (colC c) 84)).alloc (.cells #[.int .i64 0, .int .i64 0, .int .i64 0, .int .i64 0, .int .i64 0, .int .i64 0] 84)).alloc (.cells #[.int .i64 0, .int .i64 0, .int .i64 0, .int .i64 0, .int .i64 0] 55) = wa := ⟨_, rfl⟩
  rw [hwa] at HB h0 h1 h2
  have HWA := Lib.hid hwa
  have H0 := Lib.hid h0
  have H1 := Lib.hid h1
  have H2 := Lib.hid h2
  have HC := Lib.hid hc
  clear hwa h0 h1 h2 hc
  show Calls _ _ #[.agg (colC c)] _ _
  go_enter Try.func56, Try.ntmps56
  go_upto_region 2 with fail
  rw [HWA.out]
  go_wp2_with (refine wpList_load_row rfl 84 (.tmp 1) rfl w.heap.size rfl 84 _ _ _ H0.out Try.underlying84 rfl (info_colC _) ?_)
  go_loopw [4, 5, 6, 8] (fun u _ _ x wr => ∃ i : Nat, i ≤ 6 ∧ x = .int .i64 i ∧ u = .int .i64 ((rnN c i).2 : Nat) ∧ Below w.heap.size w wr ∧
    wr.heap[w.heap.size]? = some (.cells (colC fun t => if t < i then rnF c t else c t) 84 (0, 0)) ∧
    wr.heap[w.heap.size + 1]? = some (.cells #[.int .i64 0, .int .i64 0, .int .i64 0, .int .i64 0, .int .i64 0, .int .i64 0] 84 (0, 0)) ∧
    wr.heap[w.heap.size + 2]? = some (.cells (nmC (rnN c i).1) 55 (0, 0))) (fun _ _ _ x _ => 6 - (intOf x).toNat)
  case atStart => exact ⟨0, by omega, rfl, rfl, HB.out, by simpa using H0.out, H1.out, H2.out⟩
  case round =>
    obtain ⟨i, hi, rfl, rfl, hb, h0, h1, h2⟩ := hrel
    clear HB H0 H1 H2
    have HB := Lib.hid hb
    have H0 := Lib.hid h0
    have H1 := Lib.hid h1
    have H2 := Lib.hid h2
    clear hb h0 h1 h2
    by_cases hlt : i < 6
    · obtain ⟨hx0, hx4⟩ := HC.out i hlt
      have hget := fun w => index_col c i hlt w
      obtain ⟨x, hx⟩ : ∃ x : Nat, c i = (x : Int) := ⟨(c i).toNat, by omega⟩
      rw [hx] at hget hx0 hx4
      have hx5 : x < 5 := by omega
      have hxi : (x : Int) < 5 := by omega
      have hN := rnN_le c i
      obtain ⟨u, hu⟩ : ∃ u, (rnN c i).2 = u := ⟨_, rfl⟩
      obtain ⟨d0, e0⟩ := cell_ofN H2.out hx5
      obtain ⟨d1, e1⟩ := colC_cell H0.out hlt
      obtain ⟨y, hy⟩ : ∃ y, (rnN c i).1 x = y := ⟨_, rfl⟩
      rw [hy] at d0
      rw [hu] at hN ⊢
      have HY := Lib.hid hy
      have HU := Lib.hid hu
      have HX := Lib.hid hx
      clear hy hu hx
      by_cases hn : x ≠ 0 ∧ y = 0
      · obtain ⟨n1, rfl⟩ := hn
        have t1 : ((x : Int) != 0) = true := by rw [bne_iff_ne]; omega
        have HS := Lib.hid (show rnN c (i + 1) = (fun q => if q = x then ((u + 1 : Nat) : Int) else (rnN c i).1 q, u + 1) by
          rw [show rnN c (i + 1) = rnS (c i) (rnN c i) from rfl, rnS, HX.out, Int.toNat_natCast, HY.out, HU.out, if_pos ⟨by omega, rfl⟩])
        have HR := Lib.hid (show rnF c i = ((u + 1 : Nat) : Int) by rw [rnF, HS.out, HX.out]; simp)
        have HE := Lib.hid (show (fun t => if t < i + 1 then rnF c t else c t) = fun t => if t = i then ((u + 1 : Nat) : Int) else if t < i then rnF c t else c t from funext fun t => by
          by_cases e : t = i
          · rw [if_pos e, if_pos (by omega), e, HR.out]
          · rw [if_neg e]
            by_cases e2 : t < i
            · rw [if_pos e2, if_pos (by omega)]
            · rw [if_neg e2, if_neg (by omega)])
        go_wp2
        go_roundw
        case rel =>
          refine ⟨i + 1, by omega, by go_num, ?_, (HB.out.setCell (by show w.heap.size ≤ w.heap.size + 1 + 1; omega) _).setCell (by show w.heap.size ≤ w.heap.size; omega) _, ?_, ?_, ?_⟩
          · rw [HS.out]; go_num
          · rw [HE.out]
            have := set_ofN (w := wr.setCell ⟨w.heap.size + 1 + 1, x, none⟩ (.int .i64 (u + 1))) (g := w.heap.size) (by rw [heap_setCell_other _ _ _ _ (by show w.heap.size ≠ w.heap.size + 1 + 1; omega)]; exact H0.out) hlt (.int .i64 ((u + 1 : Nat) : Int))
            rw [colC_upd]
            exact this
          · rw [heap_setCell_other _ _ _ _ (by show w.heap.size + 1 ≠ w.heap.size; omega), heap_setCell_other _ _ _ _ (by show w.heap.size + 1 ≠ w.heap.size + 1 + 1; omega)]; exact H1.out
          · rw [heap_setCell_other _ _ _ _ (by show w.heap.size + 2 ≠ w.heap.size; omega), HS.out]
            have := set_ofN H2.out hx5 (.int .i64 ((u + 1 : Nat) : Int))
            rw [nmC_upd]
            exact this
        case measure => simp [intOf]; omega
      · have HS := Lib.hid (show rnN c (i + 1) = rnN c i by
          rw [show rnN c (i + 1) = rnS (c i) (rnN c i) from rfl, rnS, HX.out, Int.toNat_natCast, HY.out, if_neg fun q => hn ⟨by omega, q.2⟩])
        have HR := Lib.hid (show rnF c i = y by rw [rnF, HS.out, HX.out]; simpa using HY.out)
        have HE := Lib.hid (show (fun t => if t < i + 1 then rnF c t else c t) = fun t => if t = i then y else if t < i then rnF c t else c t from funext fun t => by
          by_cases e : t = i
          · rw [if_pos e, if_pos (by omega), e, HR.out]
          · rw [if_neg e]
            by_cases e2 : t < i
            · rw [if_pos e2, if_pos (by omega)]
            · rw [if_neg e2, if_neg (by omega)])
        have hcs : ((x : Int) != 0) = false ∨ (((x : Int) != 0) = true ∧ (y == 0) = false) := by
          by_cases e : x = 0
          · left; rw [e]; rfl
          · right; exact ⟨by rw [bne_iff_ne]; omega, beq_eq_false_iff_ne.2 fun q => hn ⟨e, q⟩⟩
        clear hn
        rcases hcs with t1 | ⟨t1, t2⟩
        all_goals (
          go_wp2
          go_roundw
          case rel =>
            refine ⟨i + 1, by omega, by go_num, ?_, HB.out.setCell (by show w.heap.size ≤ w.heap.size; omega) _, ?_, ?_, ?_⟩
            · rw [HS.out, HU.out]
            · rw [HE.out]
              have := set_ofN (g := w.heap.size) H0.out hlt (.int .i64 y)
              rw [colC_upd]
              exact this
            · rw [heap_setCell_other _ _ _ _ (by show w.heap.size + 1 ≠ w.heap.size; omega)]; exact H1.out
            · rw [heap_setCell_other _ _ _ _ (by show w.heap.size + 2 ≠ w.heap.size; omega), HS.out]; exact H2.out
          case measure => simp [intOf]; omega)
    · have hi6 : i = 6 := by omega
      subst hi6
      have HE := Lib.hid (show (colC fun t => if t < 6 then rnF c t else c t) = colC (rnF c) from colC_congr fun t ht => if_pos ht)
      rw [HE.out] at H0
      go_wp2_with (first
        | (refine wpList_load_row rfl 84 (.tmp 1) rfl w.heap.size rfl 84 _ _ _ H0.out Try.underlying84 rfl (info_colC _) ?_)
        | (refine wpList_store_row rfl 84 (.tmp 2) (.tmp 31) rfl (w.heap.size + 1) _ rfl rfl 84 _ H1.out (info_colC _) (by rw [colC_size]; rfl) (colC_all _) ?_))
      refine bodyPost_ret (v := colV (rnF c)) ?_ rfl ⟨rfl, below_setRow HB.out (by omega) _⟩
      exact results_cell_row (ty := 84) (p := 2) rfl _ _ (w.heap.size + 1) 84 (colC (rnF c)) (0, 0) _ rfl (setRow_heap _ _ _ _ _ _ H1.out) Try.underlying84 rfl (info_colC _)

end Go.Proofs.Ytjibdolhipddbaa
