/- A6 A7 A8 A9 -/
import Derived.Test.YtjibdolhipddbaaQb
import Derived.Deep.MidRow
import Derived.StillTailTactics
/- Lists of colourings in memory; the pairs that are wrong. -/
namespace Go.Proofs.Ytjibdolhipddbaa
open Go.RowKit

def colL (c : Nat → Int) : List Value := (List.range 6).map fun i => .int .i64 (c i)
theorem colL_arr (c : Nat → Int) : (colL c).toArray = colC c := rfl
theorem colL_len (c : Nat → Int) : (colL c).length = 6 := by simp [colL]
theorem colC_list (c : Nat → Int) : (colC c).toList = colL c := by simp [colC, ofN, colL]
theorem info_col (c : Nat → Int) : (Try.prog.info? 84).map (·.size) = some (colL c).length := by rw [colL_len]; kernel_rfl
theorem info_colC (c : Nat → Int) : (Try.prog.info? 84).map (·.size) = some (colC c).size := by rw [colC_size]; kernel_rfl

/-- A slice of colourings. -/
structure ColsAt (w : World) (ao : Option Addr) (b o : Nat) (X : List (List Int)) : Prop where
  ptr : 0 < X.length → ao = some ⟨b, o, none⟩ ∧ b < w.heap.size
  rng : ∀ i, i < X.length → w.rangeAt b (o + i * 6) (colL (nth (row X i)))
  len : X.length ≤ 1048576

theorem ColsAt.below {B : Nat} {w w' : World} {ao : Option Addr} {b o : Nat} {X : List (List Int)} (h : ColsAt w ao b o X) (hb : Below B w w') (hB : w.heap.size ≤ B) : ColsAt w' ao b o X := by
  refine ⟨fun hp => ⟨(h.ptr hp).1, Nat.lt_of_lt_of_le (h.ptr hp).2 hb.size⟩, fun i hi => ?_, h.len⟩
  have hlt := (h.ptr (by omega)).2
  intro j v hv
  rw [hb.cell (p := ⟨b, o + i * 6 + j, none⟩) (by show b < B; omega)]
  exact h.rng i hi j v hv

/-- The pairs of f that no chamber among the first n stops. -/
def lvF (k l : Nat) (f : Nat → Bool) (X : List (List Int)) (n : Nat) (i : Nat) : Bool := fbF k l f i && !decide (∃ q, q < n ∧ stF k l f (nth (row X q)) i = true)

set_option maxHeartbeats 4000000 in
set_option maxRecDepth 100000 in
theorem wrong_any (k l : Nat) (f : Nat → Bool) (X : List (List Int)) (ao : Option Addr) (b o cap : Nat) (w : World) (hk : k ≤ 6) (hl : l ≤ 6) (H : ColsAt w ao b o X) :
    Calls Try.prog 42 #[planV k l f, .slice ao X.length cap] w fun e w' => e = .returned (sv (lvF k l f X X.length)) ∧ Below w.heap.size w w' := by
  have HB := Lib.hid ((Below.refl _ w).alloc (Nat.le_refl _) (.cells (planC k l f) 63))
  have H0 := Lib.hid (heap_alloc_new w (.cells (planC k l f) 63))
  have hxl := H.len
  obtain ⟨wa, hwa⟩ : ∃ wa, w.alloc (.cells (planC k l f) 63) = wa := ⟨_, rfl⟩
  rw [hwa] at HB H0
  have HWA := Lib.hid hwa
  have HX := Lib.hid H
  have HF := Lib.hid (fun w => forbidden_any k l f w hk hl)
  clear hwa H
  go_enter Try.func42, Try.ntmps42
  rw [planV]
  go_upto_region 1 with fail
  rw [HWA.out]
  go_wp2_with (refine wpList_load_row rfl 63 (.tmp 2) rfl w.heap.size rfl 63 _ _ _ H0.out Try.underlying63 rfl (by kernel_rfl) ?_)
  refine (HF.out wa).mono ?_
  rintro e w1 ⟨rfl, hb⟩
  have HB1 := Lib.hid (HB.out.trans (hb.mono HB.out.size))
  have H01 := Lib.hid ((hb.block _ (lt_of_block H0.out)).trans H0.out)
  clear HB H0 hb HWA
  rw [sv]
  go_wp2
  go_loopw [5, 7, 12] (fun s _ x wr => ∃ n : Nat, n ≤ X.length ∧ x = .int .i64 n ∧ s = .int .u64 (S36 (lvF k l f X n) : Nat) ∧ Below w.heap.size w wr ∧ wr.heap[w.heap.size]? = some (.cells (planC k l f) 63 (0, 0))) (fun _ _ x _ => X.length - (intOf x).toNat)
  case atStart => exact ⟨0, by omega, rfl, sv_eq fun i hi => by simp [lvF], HB1.out, H01.out⟩
  case round =>
    obtain ⟨n, hn, rfl, rfl, hb, h0⟩ := hrel
    have HB := Lib.hid hb
    have H0 := Lib.hid h0
    clear hb h0 HB1 H01
    by_cases hlt : n < X.length
    · have hc := HX.out.below HB.out (Nat.le_refl _)
      obtain ⟨rfl, -⟩ := hc.ptr (by omega)
      have HR := Lib.hid (hc.rng n hlt)
      clear hc
      have HS := Lib.hid (fun w => stopped_any k l f (nth (row X n)) w hk hl)
      have HO := Lib.hid (show bits .andNot .u64 (S36 (lvF k l f X n) : Nat) (S36 (stF k l f (nth (row X n))) : Nat) = ((S36 (lvF k l f X (n + 1)) : Nat) : Int) by
        rw [sv_not, S36_congr fun i hi => ?_]
        unfold lvF
        rw [Bool.and_assoc]
        congr 1
        rw [Bool.eq_iff_iff]
        simp only [Bool.and_eq_true, Bool.not_eq_true', decide_eq_false_iff_not]
        constructor
        · rintro ⟨h1, h2⟩ ⟨q, hq, hs⟩
          by_cases e : q = n
          · rw [e, h2] at hs; cases hs
          · exact h1 ⟨q, by omega, hs⟩
        · intro h1
          refine ⟨fun ⟨q, hq, hs⟩ => h1 ⟨q, by omega, hs⟩, ?_⟩
          cases hs : stF k l f (nth (row X n)) i
          · rfl
          · exact absurd ⟨n, by omega, hs⟩ h1)
      have HB2 := Lib.hid (below_setRow (HB.out.alloc HB.out.size (.cells #[.int .i64 0, .int .i64 0, .int .i64 0, .int .i64 0, .int .i64 0, .int .i64 0] 84)) HB.out.size (colC (nth (row X n))) (g := wr.heap.size))
      have H7 := Lib.hid (setRow_heap _ wr.heap.size _ (colC (nth (row X n))) _ _ (heap_alloc_new wr (.cells #[.int .i64 0, .int .i64 0, .int .i64 0, .int .i64 0, .int .i64 0, .int .i64 0] 84)))
      have H2 := Lib.hid (show ((wr.alloc (.cells #[.int .i64 0, .int .i64 0, .int .i64 0, .int .i64 0, .int .i64 0, .int .i64 0] 84)).setRow wr.heap.size (colC (nth (row X n)))).heap[w.heap.size]? = some (.cells (planC k l f) 63 (0, 0)) by
        have := lt_of_block H0.out
        rw [setRow_other _ _ _ _ (by omega), Below.heap_alloc _ _ _ (by omega)]; exact H0.out)
      go_wp2_with (first
        | (refine wpList_load_mid rfl 84 (.tmp 14) rfl b (o + n * 6) rfl _ _ HR.out Try.underlying84 rfl (info_col _) ?_; rw [colL_arr])
        | (refine wpList_store_row rfl 84 (.tmp 7) (.tmp 15) rfl wr.heap.size _ rfl rfl 84 _ (heap_alloc_new _ _) (info_colC _) (by rw [colC_size]; rfl) (colC_all _) ?_)
        | (refine wpList_load_row rfl 63 (.tmp 2) rfl w.heap.size rfl 63 _ _ _ H2.out Try.underlying63 rfl (by kernel_rfl) ?_)
        | (refine wpList_load_row rfl 84 (.tmp 7) rfl wr.heap.size rfl 84 _ _ _ H7.out Try.underlying84 rfl (info_colC _) ?_))
      refine (HS.out _).mono ?_
      rintro e w2 ⟨rfl, hb⟩
      have HB3 := Lib.hid (HB2.out.trans (hb.mono HB2.out.size))
      have H3 := Lib.hid ((hb.block _ (lt_of_block H2.out)).trans H2.out)
      rw [sv]
      go_wp2
      go_roundw
      case rel => exact ⟨n + 1, by omega, by go_num, by rw [HO.out], HB3.out, H3.out⟩
      case measure => simp [intOf]; omega
    · have hnl : n = X.length := by omega
      subst hnl
      go_wp2
      go_ret
      exact ⟨rfl, HB.out⟩

end Go.Proofs.Ytjibdolhipddbaa

/- Depths numbered in the order in which they come. -/
namespace Go.Proofs.Ytjibdolhipddbaa
open Go.RowKit

/-- One key more: the names of the depths, and how many there are. -/
def rnS (x : Int) (s : (Nat → Int) × Nat) : (Nat → Int) × Nat :=
  if x ≠ 0 ∧ s.1 x.toNat = 0 then (fun q => if q = x.toNat then ((s.2 + 1 : Nat) : Int) else s.1 q, s.2 + 1) else s
def rnN (c : Nat → Int) : Nat → (Nat → Int) × Nat
  | 0 => (fun _ => 0, 0)
  | i + 1 => rnS (c i) (rnN c i)
/-- The colouring with its depths renamed. -/
def rnF (c : Nat → Int) (i : Nat) : Int := (rnN c (i + 1)).1 (c i).toNat
theorem rnN_le (c : Nat → Int) : ∀ i, (rnN c i).2 ≤ i
  | 0 => Nat.le_refl _
  | i + 1 => by
    have := rnN_le c i
    simp only [rnN, rnS]
    split <;> simp <;> omega

/-- The names as cells. -/
def nmC (f : Nat → Int) : Array Value := ofN 5 fun i => .int .i64 (f i)

theorem colC_upd (f : Nat → Int) (i : Nat) (y : Int) : (colC fun t => if t = i then y else f t) = ofN 6 fun t => if t = i then .int .i64 y else .int .i64 (f t) := by
  unfold colC
  exact ofN_congr fun t _ => by by_cases e : t = i <;> simp [e]
theorem nmC_upd (f : Nat → Int) (i : Nat) (y : Int) : (nmC fun t => if t = i then y else f t) = ofN 5 fun t => if t = i then .int .i64 y else .int .i64 (f t) := by
  unfold nmC
  exact ofN_congr fun t _ => by by_cases e : t = i <;> simp [e]

theorem three_heap (w : World) (x y z : Obj) : (((w.alloc x).alloc y).alloc z).heap[w.heap.size]? = some x ∧ (((w.alloc x).alloc y).alloc z).heap[w.heap.size + 1]? = some y ∧ (((w.alloc x).alloc y).alloc z).heap[w.heap.size + 2]? = some z := by
  obtain ⟨h1, h2⟩ := two_heap w x y
  refine ⟨by rw [Below.heap_alloc _ _ _ (by simp; omega)]; exact h1, by rw [Below.heap_alloc _ _ _ (by simp)]; exact h2, ?_⟩
  have := heap_alloc_new ((w.alloc x).alloc y) z
  simpa using this

theorem index_col (c : Nat → Int) (i : Nat) (hi : i < 6) (w : World) : (Instr.index 84 (.agg (colC c)) (.int .i64 (i : Int))).run Try.prog w = .ok (.int .i64 (c i)) w := by
  obtain rfl | rfl | rfl | rfl | rfl | rfl : i = 0 ∨ i = 1 ∨ i = 2 ∨ i = 3 ∨ i = 4 ∨ i = 5 := by omega
  · kernel_rfl
  · kernel_rfl
  · kernel_rfl
  · kernel_rfl
  · kernel_rfl
  · kernel_rfl

set_option maxHeartbeats 4000000 in
set_option maxRecDepth 100000 in
theorem renamed_any (c : Nat → Int) (w : World) (hc : ∀ i, i < 6 → 0 ≤ c i ∧ c i ≤ 4) :
    Calls Try.prog 56 #[colV c] w fun e w' => e = .returned (colV (rnF c)) ∧ Below w.heap.size w w' := by
  obtain ⟨h0, h1, h2⟩ := three_heap w (.cells (colC c) 84) (.cells #[.int .i64 0, .int .i64 0, .int .i64 0, .int .i64 0, .int .i64 0, .int .i64 0] 84) (.cells #[.int .i64 0, .int .i64 0, .int .i64 0, .int .i64 0, .int .i64 0] 55)
  have HB := Lib.hid ((((Below.refl _ w).alloc (Nat.le_refl _) (.cells (colC c) 84)).alloc (by simp) (.cells #[.int .i64 0, .int .i64 0, .int .i64 0, .int .i64 0, .int .i64 0, .int .i64 0] 84)).alloc (by simp; omega) (.cells #[.int .i64 0, .int .i64 0, .int .i64 0, .int .i64 0, .int .i64 0] 55))
  obtain ⟨wa, hwa⟩ : ∃ wa, ((w.alloc (.cells (colC c) 84)).alloc (.cells #[.int .i64 0, .int .i64 0, .int .i64 0, .int .i64 0, .int .i64 0, .int .i64 0] 84)).alloc (.cells #[.int .i64 0, .int .i64 0, .int .i64 0, .int .i64 0, .int .i64 0] 55) = wa := ⟨_, rfl⟩
  rw [hwa] at HB h0 h1 h2
  have HWA := Lib.hid hwa
  have H0 := Lib.hid h0
  have H1 := Lib.hid h1
  have H2 := Lib.hid h2
  have HC := Lib.hid hc
  clear hwa h0 h1 h2 hc
  show Calls _ _ #[.agg (colC c)] _ _
  go_enter Try.func56, Try.ntmps56
  go_upto_region 2 with fail
  rw [HWA.out]
  go_wp2_with (refine wpList_load_row rfl 84 (.tmp 1) rfl w.heap.size rfl 84 _ _ _ H0.out Try.underlying84 rfl (info_colC _) ?_)
  go_loopw [4, 5, 6, 8] (fun u _ _ x wr => ∃ i : Nat, i ≤ 6 ∧ x = .int .i64 i ∧ u = .int .i64 ((rnN c i).2 : Nat) ∧ Below w.heap.size w wr ∧
    wr.heap[w.heap.size]? = some (.cells (colC fun t => if t < i then rnF c t else c t) 84 (0, 0)) ∧
    wr.heap[w.heap.size + 1]? = some (.cells #[.int .i64 0, .int .i64 0, .int .i64 0, .int .i64 0, .int .i64 0, .int .i64 0] 84 (0, 0)) ∧
    wr.heap[w.heap.size + 2]? = some (.cells (nmC (rnN c i).1) 55 (0, 0))) (fun _ _ _ x _ => 6 - (intOf x).toNat)
  case atStart => exact ⟨0, by omega, rfl, rfl, HB.out, by simpa using H0.out, H1.out, H2.out⟩
  case round =>
    obtain ⟨i, hi, rfl, rfl, hb, h0, h1, h2⟩ := hrel
    clear HB H0 H1 H2
    have HB := Lib.hid hb
    have H0 := Lib.hid h0
    have H1 := Lib.hid h1
    have H2 := Lib.hid h2
    clear hb h0 h1 h2
    by_cases hlt : i < 6
    · obtain ⟨hx0, hx4⟩ := HC.out i hlt
      have hget := fun w => index_col c i hlt w
      obtain ⟨x, hx⟩ : ∃ x : Nat, c i = (x : Int) := ⟨(c i).toNat, by omega⟩
      rw [hx] at hget hx0 hx4
      have hx5 : x < 5 := by omega
      have hxi : (x : Int) < 5 := by omega
      have hN := rnN_le c i
      obtain ⟨u, hu⟩ : ∃ u, (rnN c i).2 = u := ⟨_, rfl⟩
      obtain ⟨d0, e0⟩ := cell_ofN H2.out hx5
      obtain ⟨d1, e1⟩ := colC_cell H0.out hlt
      obtain ⟨y, hy⟩ : ∃ y, (rnN c i).1 x = y := ⟨_, rfl⟩
      rw [hy] at d0
      rw [hu] at hN ⊢
      have HY := Lib.hid hy
      have HU := Lib.hid hu
      have HX := Lib.hid hx
      clear hy hu hx
      by_cases hn : x ≠ 0 ∧ y = 0
      · obtain ⟨n1, rfl⟩ := hn
        have t1 : ((x : Int) != 0) = true := by rw [bne_iff_ne]; omega
        have HS := Lib.hid (show rnN c (i + 1) = (fun q => if q = x then ((u + 1 : Nat) : Int) else (rnN c i).1 q, u + 1) by
          rw [show rnN c (i + 1) = rnS (c i) (rnN c i) from rfl, rnS, HX.out, Int.toNat_natCast, HY.out, HU.out, if_pos ⟨by omega, rfl⟩])
        have HR := Lib.hid (show rnF c i = ((u + 1 : Nat) : Int) by rw [rnF, HS.out, HX.out]; simp)
        have HE := Lib.hid (show (fun t => if t < i + 1 then rnF c t else c t) = fun t => if t = i then ((u + 1 : Nat) : Int) else if t < i then rnF c t else c t from funext fun t => by
          by_cases e : t = i
          · rw [if_pos e, if_pos (by omega), e, HR.out]
          · rw [if_neg e]
            by_cases e2 : t < i
            · rw [if_pos e2, if_pos (by omega)]
            · rw [if_neg e2, if_neg (by omega)])
        go_wp2
        go_roundw
        case rel =>
          refine ⟨i + 1, by omega, by go_num, ?_, (HB.out.setCell (by show w.heap.size ≤ w.heap.size + 1 + 1; omega) _).setCell (by show w.heap.size ≤ w.heap.size; omega) _, ?_, ?_, ?_⟩
          · rw [HS.out]; go_num
          · rw [HE.out]
            have := set_ofN (w := wr.setCell ⟨w.heap.size + 1 + 1, x, none⟩ (.int .i64 (u + 1))) (g := w.heap.size) (by rw [heap_setCell_other _ _ _ _ (by show w.heap.size ≠ w.heap.size + 1 + 1; omega)]; exact H0.out) hlt (.int .i64 ((u + 1 : Nat) : Int))
            rw [colC_upd]
            exact this
          · rw [heap_setCell_other _ _ _ _ (by show w.heap.size + 1 ≠ w.heap.size; omega), heap_setCell_other _ _ _ _ (by show w.heap.size + 1 ≠ w.heap.size + 1 + 1; omega)]; exact H1.out
          · rw [heap_setCell_other _ _ _ _ (by show w.heap.size + 2 ≠ w.heap.size; omega), HS.out]
            have := set_ofN H2.out hx5 (.int .i64 ((u + 1 : Nat) : Int))
            rw [nmC_upd]
            exact this
        case measure => simp [intOf]; omega
      · have HS := Lib.hid (show rnN c (i + 1) = rnN c i by
          rw [show rnN c (i + 1) = rnS (c i) (rnN c i) from rfl, rnS, HX.out, Int.toNat_natCast, HY.out, if_neg fun q => hn ⟨by omega, q.2⟩])
        have HR := Lib.hid (show rnF c i = y by rw [rnF, HS.out, HX.out]; simpa using HY.out)
        have HE := Lib.hid (show (fun t => if t < i + 1 then rnF c t else c t) = fun t => if t = i then y else if t < i then rnF c t else c t from funext fun t => by
          by_cases e : t = i
          · rw [if_pos e, if_pos (by omega), e, HR.out]
          · rw [if_neg e]
            by_cases e2 : t < i
            · rw [if_pos e2, if_pos (by omega)]
            · rw [if_neg e2, if_neg (by omega)])
        have hcs : ((x : Int) != 0) = false ∨ (((x : Int) != 0) = true ∧ (y == 0) = false) := by
          by_cases e : x = 0
          · left; rw [e]; rfl
          · right; exact ⟨by rw [bne_iff_ne]; omega, beq_eq_false_iff_ne.2 fun q => hn ⟨e, q⟩⟩
        clear hn
        rcases hcs with t1 | ⟨t1, t2⟩
        all_goals (
          go_wp2
          go_roundw
          case rel =>
            refine ⟨i + 1, by omega, by go_num, ?_, HB.out.setCell (by show w.heap.size ≤ w.heap.size; omega) _, ?_, ?_, ?_⟩
            · rw [HS.out, HU.out]
            · rw [HE.out]
              have := set_ofN (g := w.heap.size) H0.out hlt (.int .i64 y)
              rw [colC_upd]
              exact this
            · rw [heap_setCell_other _ _ _ _ (by show w.heap.size + 1 ≠ w.heap.size; omega)]; exact H1.out
            · rw [heap_setCell_other _ _ _ _ (by show w.heap.size + 2 ≠ w.heap.size; omega), HS.out]; exact H2.out
          case measure => simp [intOf]; omega)
    · have hi6 : i = 6 := by omega
      subst hi6
      have HE := Lib.hid (show (colC fun t => if t < 6 then rnF c t else c t) = colC (rnF c) from colC_congr fun t ht => if_pos ht)
      rw [HE.out] at H0
      go_wp2_with (first
        | (refine wpList_load_row rfl 84 (.tmp 1) rfl w.heap.size rfl 84 _ _ _ H0.out Try.underlying84 rfl (info_colC _) ?_)
        | (refine wpList_store_row rfl 84 (.tmp 2) (.tmp 31) rfl (w.heap.size + 1) _ rfl rfl 84 _ H1.out (info_colC _) (by rw [colC_size]; rfl) (colC_all _) ?_))
      refine bodyPost_ret (v := colV (rnF c)) ?_ rfl ⟨rfl, below_setRow HB.out (by omega) _⟩
      exact results_cell_row (ty := 84) (p := 2) rfl _ _ (w.heap.size + 1) 84 (colC (rnF c)) (0, 0) _ rfl (setRow_heap _ _ _ _ _ _ H1.out) Try.underlying84 rfl (info_colC _)

end Go.Proofs.Ytjibdolhipddbaa

/- The greatest depth of a colouring; which colourings are struck. -/
namespace Go.Proofs.Ytjibdolhipddbaa
open Go.RowKit

/-- The greatest of the first n + 1 depths. -/
def mxF (c : Nat → Int) : Nat → Int
  | 0 => c 0
  | n + 1 => if mxF c n < c (n + 1) then c (n + 1) else mxF c n

set_option maxHeartbeats 4000000 in
set_option maxRecDepth 100000 in
theorem max_any (c : Nat → Int) (b : Nat) (w : World) (h : w.heap[b]? = some (.cells (colC c) 84 (0, 0))) :
    Calls Try.prog 59 #[.slice (some ⟨b, 0, none⟩) 6 6] w fun e w' => e = .returned (.int .i64 (mxF c 5)) ∧ w' = w := by
  have H := Lib.hid h
  have c0 := (colC_cell h (show 0 < 6 by omega)).1
  clear h
  go_enter Try.func59, Try.ntmps59
  go_wp2
  go_loop [3, 4] (fun m x => ∃ i : Nat, i ≤ 5 ∧ x = .int .i64 (i + 1 : Nat) ∧ m = .int .i64 (mxF c i)) (fun _ x => 6 - (intOf x).toNat)
  case atStart => exact ⟨0, by omega, rfl, rfl⟩
  case round =>
    obtain ⟨i, hi, rfl, rfl⟩ := hrel
    by_cases hlt : i < 5
    · have c1 := (colC_cell H.out (show i + 1 < 6 by omega)).1
      obtain ⟨x, hx⟩ : ∃ x, c (i + 1) = x := ⟨_, rfl⟩
      rw [hx] at c1
      have HX := Lib.hid hx
      clear hx
      have HM := Lib.hid (show mxF c (i + 1) = if mxF c i < x then x else mxF c i by rw [mxF, HX.out])
      go_wp2
      go_round
      case rel => exact ⟨i + 1, by omega, by go_num, by rw [HM.out]⟩
      case measure => simp [intOf]; omega
    · have hi5 : i = 5 := by omega
      subst hi5
      go_wp2
      go_ret
      exact ⟨rfl, rfl⟩

/-- Whether a colouring is struck. -/
def delF (k d : Int) (c : Nat → Int) : Bool := decide (mxF c 5 < if d < k then d else k)

set_option maxHeartbeats 4000000 in
set_option maxRecDepth 100000 in
theorem struck_any (k d : Int) (c : Nat → Int) (p q : Nat) (w : World) (hp : w.cell? ⟨p, 0, none⟩ = some (.int .i64 k)) (hq : w.cell? ⟨q, 0, none⟩ = some (.int .i64 d)) (hpw : p < w.heap.size) (hqw : q < w.heap.size) :
    Calls Try.prog 58 #[colV c, .pointer (some ⟨p, 0, none⟩), .pointer (some ⟨q, 0, none⟩)] w fun e w' => e = .returned (.bool (delF k d c)) ∧ Below w.heap.size w w' := by
  have HB := Lib.hid ((Below.refl _ w).alloc (Nat.le_refl _) (.cells (colC c) 84))
  have hp' := HB.out.cell (p := ⟨p, 0, none⟩) hpw
  have hq' := HB.out.cell (p := ⟨q, 0, none⟩) hqw
  rw [hp] at hp'
  rw [hq] at hq'
  have H0 := Lib.hid (heap_alloc_new w (.cells (colC c) 84))
  obtain ⟨wa, hwa⟩ : ∃ wa, w.alloc (.cells (colC c) 84) = wa := ⟨_, rfl⟩
  rw [hwa] at HB hp' hq' H0
  have HWA := Lib.hid hwa
  have HM := Lib.hid (fun n => max_any c w.heap.size (wa.drewN n) H0.out)
  clear hwa hp hq hpw hqw
  show Calls _ _ #[.agg (colC c), _, _] _ _
  go_enter Try.func58, Try.ntmps58
  go_upto_region 1 with fail
  rw [HWA.out]
  go_quiet (exact Calls.quiet_of_same (HM.out _))
  obtain ⟨m, hm⟩ : ∃ m, (if d < k then d else k) = m := ⟨_, rfl⟩
  have HD := Lib.hid (show decide (mxF c 5 < m) = delF k d c by rw [← hm]; rfl)
  rw [hm]
  clear hm
  go_wp2
  go_ret
  exact ⟨ret_bool HD.out, below_drewN HB.out _⟩

end Go.Proofs.Ytjibdolhipddbaa

/- The first colouring that is struck. -/
namespace Go.Proofs.Ytjibdolhipddbaa
open Go.RowKit

/-- The place of the first struck one among those from place i on, with n of them. -/
def idxF (k d : Int) (X : List (List Int)) : Nat → Option Nat
  | 0 => none
  | n + 1 => match idxF k d X n with
    | some i => some i
    | none => if delF k d (nth (row X n)) then some n else none

/-- No colouring among the first n is struck. -/
def NoneTo (k d : Int) (X : List (List Int)) (n : Nat) : Prop := ∀ i, i < n → delF k d (nth (row X i)) = false

set_option maxHeartbeats 4000000 in
set_option maxRecDepth 100000 in
theorem idx_any (k d : Int) (X : List (List Int)) (ao : Option Addr) (b o cap : Nat) (p q : Nat) (w : World) (H : ColsAt w ao b o X) (hp : w.cell? ⟨p, 0, none⟩ = some (.int .i64 k)) (hq : w.cell? ⟨q, 0, none⟩ = some (.int .i64 d)) (hpw : p < w.heap.size) (hqw : q < w.heap.size) :
    Calls Try.prog 61 #[.slice ao X.length cap, .func (.func 58) #[] #[.pointer (some ⟨p, 0, none⟩), .pointer (some ⟨q, 0, none⟩)]] w fun e w' =>
      ((e = .returned (.int .i64 (-1)) ∧ NoneTo k d X X.length) ∨ ∃ i, i < X.length ∧ e = .returned (.int .i64 (i : Nat)) ∧ NoneTo k d X i ∧ delF k d (nth (row X i)) = true) ∧ Below w.heap.size w w' := by
  have HX := Lib.hid H
  have hxl := H.len
  have HP := Lib.hid (And.intro hp (And.intro hq (And.intro hpw hqw)))
  clear H hp hq hpw hqw
  go_enter Try.func61, Try.ntmps61
  go_wp2
  go_loopw [5, 8] (fun _ x wr => ∃ i : Nat, i ≤ X.length ∧ x = .int .i64 i ∧ NoneTo k d X i ∧ Below w.heap.size w wr) (fun _ x _ => X.length - (intOf x).toNat)
  case atStart => exact ⟨0, by omega, rfl, fun i hi => absurd hi (by omega), Below.refl _ _⟩
  case round =>
    obtain ⟨i, hi, rfl, hn, hb⟩ := hrel
    have HN := Lib.hid hn
    have HB := Lib.hid hb
    clear hn hb
    by_cases hlt : i < X.length
    · have hc := HX.out.below HB.out (Nat.le_refl _)
      obtain ⟨rfl, -⟩ := hc.ptr (by omega)
      have HR := Lib.hid (hc.rng i hlt)
      have HS := Lib.hid (struck_any k d (nth (row X i)) p q wr (by rw [HB.out.cell (p := ⟨p, 0, none⟩) HP.out.2.2.1]; exact HP.out.1) (by rw [HB.out.cell (p := ⟨q, 0, none⟩) HP.out.2.2.2]; exact HP.out.2.1) (Nat.lt_of_lt_of_le HP.out.2.2.1 HB.out.size) (Nat.lt_of_lt_of_le HP.out.2.2.2 HB.out.size))
      clear hc
      go_wp2_with (refine wpList_load_mid rfl 84 (.tmp 14) rfl b (o + i * 6) rfl _ _ HR.out Try.underlying84 rfl (info_col _) ?_; rw [colL_arr])
      refine (HS.out).mono ?_
      rintro e w2 ⟨rfl, hb⟩
      have HB2 := Lib.hid (HB.out.trans (hb.mono HB.out.size))
      clear hb
      obtain ⟨t, ht⟩ : ∃ t, delF k d (nth (row X i)) = t := ⟨_, rfl⟩
      rw [ht]
      have HT := Lib.hid ht
      clear ht
      cases t
      · go_wp2
        go_roundw
        case rel => exact ⟨i + 1, by omega, by go_num, fun j hj => by
          by_cases e : j = i
          · rw [e]; exact HT.out
          · exact HN.out j (by omega), HB2.out⟩
        case measure => simp [intOf]; omega
      · go_wp2
        go_ret
        exact ⟨.inr ⟨i, hlt, rfl, HN.out, HT.out⟩, HB2.out⟩
    · have hil : i = X.length := by omega
      subst hil
      go_wp2
      go_ret
      exact ⟨.inl ⟨rfl, HN.out⟩, HB.out⟩

end Go.Proofs.Ytjibdolhipddbaa
