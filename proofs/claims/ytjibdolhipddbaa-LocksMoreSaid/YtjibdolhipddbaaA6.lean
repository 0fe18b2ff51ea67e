/- Lists of colourings in memory; the pairs that are wrong. -/
import Derived.Test.YtjibdolhipddbaaA5
import Derived.Deep.MidRow
namespace Go.Proofs.Ytjibdolhipddbaa
open Go.RowKit

def colL (c : Nat → Int) : List Value := (List.range 6).map fun i => .int .i64 (c i)
theorem colL_arr (c : Nat → Int) : (colL c).toArray = colC c := rfl
theorem colL_len (c : Nat → Int) : (colL c).length = 6 := by simp [colL]
theorem colC_list (c : Nat → Int) : (colC c).toList = colL c := by simp [colC, ofN, colL]
theorem info_col (c : Nat → Int) : (Try.prog.info? 84).map (·.size) = some (colL c).length := by rw [colL_len]; kernel_rfl
theorem info_colC (c : Nat → Int) : (Try.prog.info? 84).map (·.size) = some (colC c).size := by rw [colC_size]; kernel_rfl

/-- A slice of colourings. -/
structure ColsAt (w : World) (ao : Option Addr) (b o : Nat) (X : List (List Int)) : Prop where
  ptr : 0 < X.length → ao = some ⟨b, o, none⟩ ∧ b < w.heap.size
  rng : ∀ i, i < X.length → w.rangeAt b (o + i * 6) (colL (nth (row X i)))
  len : X.length ≤ 1048576

theorem ColsAt.below {B : Nat} {w w' : World} {ao : Option Addr} {b o : Nat} {X : List (List Int)} (h : ColsAt w ao b o X) (hb : Below B w w') (hB : w.heap.size ≤ B) : ColsAt w' ao b o X := by
  refine ⟨fun hp => ⟨(h.ptr hp).1, Nat.lt_of_lt_of_le (h.ptr hp).2 hb.size⟩, fun i hi => ?_, h.len⟩
  have hlt := (h.ptr (by omega)).2
  intro j v hv
  rw [hb.cell (p := ⟨b, o + i * 6 + j, none⟩) (by show b < B; omega)]
  exact h.rng i hi j v hv

/-- The pairs of f that no chamber among the first n stops. -/
def lvF (k l : Nat) (f : Nat → Bool) (X : List (List Int)) (n : Nat) (i : Nat) : Bool := fbF k l f i && !decide (∃ q, q < n ∧ stF k l f (nth (row X q)) i = true)

set_option maxHeartbeats 4000000 in
set_option maxRecDepth 100000 in
theorem wrong_any (k l : Nat) (f : Nat → Bool) (X : List (List Int)) (ao : Option Addr) (b o cap : Nat) (w : World) (hk : k ≤ 6) (hl : l ≤ 6) (H : ColsAt w ao b o X) :
    Calls Try.prog 42 #[planV k l f, .slice ao X.length cap] w fun e w' => e = .returned (sv (lvF k l f X X.length)) ∧ Below w.heap.size w w' := by
  have HB := Lib.hid ((Below.refl _ w).alloc (Nat.le_refl _) (.cells (planC k l f) 63))
  have H0 := Lib.hid (heap_alloc_new w (.cells (planC k l f) 63))
  have hxl := H.len
  obtain ⟨wa, hwa⟩ : ∃ wa, w.alloc (.cells (planC k l f) 63) = wa := ⟨_, rfl⟩
  rw [hwa] at HB H0
  have HWA := Lib.hid hwa
  have HX := Lib.hid H
  have HF := Lib.hid (fun w => forbidden_any k l f w hk hl)
  clear hwa H
  go_enter Try.func42, Try.ntmps42
  rw [planV]
  go_upto_region 1 with fail
  rw [HWA.out]
  go_wp2_with (refine wpList_load_row rfl 63 (.tmp 2) rfl w.heap.size rfl 63 _ _ _ H0.out Try.underlying63 rfl (by kernel_rfl) ?_)
  refine (HF.out wa).mono ?_
  rintro e w1 ⟨rfl, hb⟩
  have HB1 := Lib.hid (HB.out.trans (hb.mono HB.out.size))
  have H01 := Lib.hid ((hb.block _ (lt_of_block H0.out)).trans H0.out)
  clear HB H0 hb HWA
  rw [sv]
  go_wp2
  go_loopw [5, 7, 12] (fun s _ x wr => ∃ n : Nat, n ≤ X.length ∧ x = .int .i64 n ∧ s = .int .u64 (S36 (lvF k l f X n) : Nat) ∧ Below w.heap.size w wr ∧ wr.heap[w.heap.size]? = some (.cells (planC k l f) 63 (0, 0))) (fun _ _ x _ => X.length - (intOf x).toNat)
  case atStart => exact ⟨0, by omega, rfl, sv_eq fun i hi => by simp [lvF], HB1.out, H01.out⟩
  case round =>
    obtain ⟨n, hn, rfl, rfl, hb, h0⟩ := hrel
    have HB := Lib.hid hb
    have H0 := Lib.hid h0
    clear hb h0 HB1 H01
    by_cases hlt : n < X.length
    · have hc := HX.out.below HB.out (Nat.le_refl _)
      obtain ⟨rfl, -⟩ := hc.ptr (by omega)
      have HR := Lib.hid (hc.rng n hlt)
      clear hc
      have HS := Lib.hid (fun w => stopped_any k l f (nth (row X n)) w hk hl)
      have HO := Lib.hid (show bits .andNot .u64 (S36 (lvF k l f X n) : Nat) (S36 (stF k l f (nth (row X n))) : Nat) = ((S36 (lvF k l f X (n + 1)) : Nat) : Int) by
        rw [sv_not, S36_congr fun i hi => ?_]
        unfold lvF
        rw [Bool.and_assoc]
        congr 1
        rw [Bool.eq_iff_iff]
        simp only [Bool.and_eq_true, Bool.not_eq_true', decide_eq_false_iff_not]
        constructor
        · rintro ⟨h1, h2⟩ ⟨q, hq, hs⟩
          by_cases e : q = n
          · rw [e, h2] at hs; cases hs
          · exact h1 ⟨q, by omega, hs⟩
        · intro h1
          refine ⟨fun ⟨q, hq, hs⟩ => h1 ⟨q, by omega, hs⟩, ?_⟩
          cases hs : stF k l f (nth (row X n)) i
          · rfl
          · exact absurd ⟨n, by omega, hs⟩ h1)
      have HB2 := Lib.hid (below_setRow (HB.out.alloc HB.out.size (.cells #[.int .i64 0, .int .i64 0, .int .i64 0, .int .i64 0, .int .i64 0, .int .i64 0] 84)) HB.out.size (colC (nth (row X n))) (g := wr.heap.size))
      have H7 := Lib.hid (setRow_heap _ wr.heap.size _ (colC (nth (row X n))) _ _ (heap_alloc_new wr (.cells #[.int .i64 0, .int .i64 0, .int .i64 0, .int .i64 0, .int .i64 0, .int .i64 0] 84)))
      have H2 := Lib.hid (show ((wr.alloc (.cells #[.int .i64 0, .int .i64 0, .int .i64 0, .int .i64 0, .int .i64 0, .int .i64 0] 84)).setRow wr.heap.size (colC (nth (row X n)))).heap[w.heap.size]? = some (.cells (planC k l f) 63 (0, 0)) by
        have := lt_of_block H0.out
        rw [setRow_other _ _ _ _ (by omega), Below.heap_alloc _ _ _ (by omega)]; exact H0.out)
      go_wp2_with (first
        | (refine wpList_load_mid rfl 84 (.tmp 14) rfl b (o + n * 6) rfl _ _ HR.out Try.underlying84 rfl (info_col _) ?_; rw [colL_arr])
        | (refine wpList_store_row rfl 84 (.tmp 7) (.tmp 15) rfl wr.heap.size _ rfl rfl 84 _ (heap_alloc_new _ _) (info_colC _) (by rw [colC_size]; rfl) (colC_all _) ?_)
        | (refine wpList_load_row rfl 63 (.tmp 2) rfl w.heap.size rfl 63 _ _ _ H2.out Try.underlying63 rfl (by kernel_rfl) ?_)
        | (refine wpList_load_row rfl 84 (.tmp 7) rfl wr.heap.size rfl 84 _ _ _ H7.out Try.underlying84 rfl (info_colC _) ?_))
      refine (HS.out _).mono ?_
      rintro e w2 ⟨rfl, hb⟩
      have HB3 := Lib.hid (HB2.out.trans (hb.mono HB2.out.size))
      have H3 := Lib.hid ((hb.block _ (lt_of_block H2.out)).trans H2.out)
      rw [sv]
      go_wp2
      go_roundw
      case rel => exact ⟨n + 1, by omega, by go_num, by rw [HO.out], HB3.out, H3.out⟩
      case measure => simp [intOf]; omega
    · have hnl : n = X.length := by omega
      subst hnl
      go_wp2
      go_ret
      exact ⟨rfl, HB.out⟩

end Go.Proofs.Ytjibdolhipddbaa
