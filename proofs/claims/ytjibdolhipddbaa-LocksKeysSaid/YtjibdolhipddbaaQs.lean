/- K1 K2 K3 -/
import Derived.Test.YtjibdolhipddbaaQk
import Derived.Test.YtjibdolhipddbaaQg
/- The law's residues. -/
namespace Go.Proofs.Ytjibdolhipddbaa
open Go.RowKit

def modI (x n : Int) : Int := (x % 18446744073709551616) % n
theorem modI_bd {x n : Int} (h : 1 ≤ n) : 0 ≤ modI x n ∧ modI x n < n := ⟨Int.emod_nonneg _ (by omega), Int.emod_lt_of_pos _ (by omega)⟩
theorem modI_id {x n : Int} (h : 0 ≤ x) (h2 : x < n) (h3 : n ≤ 9223372036854775807) : modI x n = x := by
  unfold modI
  rw [Int.emod_eq_of_lt h (by omega), Int.emod_eq_of_lt h h2]

set_option maxHeartbeats 1000000 in
set_option maxRecDepth 100000 in
theorem mod_any (x n : Int) (w : World) (_hx : -9223372036854775808 ≤ x ∧ x ≤ 9223372036854775807) (hn : 1 ≤ n) (hn2 : n ≤ 9223372036854775807) :
    Calls Try.prog 29 #[.int .i64 x, .int .i64 n] w fun e w' => e = .returned (.int .i64 (modI x n)) ∧ w' = w := by
  have hb := modI_bd (x := x) hn
  have e1 : IntKind.u64.wrap x = x % 18446744073709551616 := by first | rfl | (simp [IntKind.wrap]; done) | (rw [IntKind.wrap_u64]; done) | (rw [IntKind.wrap_u64]; rfl)
  have e2 : (IntKind.u64.wrap x).tmod n = modI x n := by rw [e1, Int.tmod_eq_emod_of_nonneg (Int.emod_nonneg _ (by omega))]; rfl
  have e3 : wrap64 (x % 18446744073709551616 % n) = x % 18446744073709551616 % n := by have : modI x n = x % 18446744073709551616 % n := rfl; rw [← this]; exact IntWalk.wrap64_in _ ⟨by omega, by omega⟩
  go_enter Try.func29, Try.ntmps29
  go_wp2
  go_ret
  exact ⟨congrArg (fun z => Ending.returned (.int .i64 z)) e3, rfl⟩

end Go.Proofs.Ytjibdolhipddbaa

/- The law's access plans. -/
namespace Go.Proofs.Ytjibdolhipddbaa
open Go.RowKit

def tmK (a : List (List Int)) (m : Int) : Nat := (1 + modI ((a.length : Int) - 1) m).toNat
def tmL (a : List (List Int)) : Nat := if 0 < a.length then (1 + modI (((row a 0).length : Int) - 1) 6).toNat else 6
def tmR (a : List (List Int)) (l i : Nat) : List Int := (List.range l).map fun j => modI (nth (row a i) j) 2
/-- The plan that is made of rows. -/
def tm (a : List (List Int)) (m : Int) : List (List Int) := (List.range (tmK a m)).map (tmR a (tmL a))
theorem tmK_bd (a : List (List Int)) {m : Int} (h : 1 ≤ m) : 1 ≤ tmK a m ∧ (tmK a m : Int) ≤ m ∧ ((tmK a m : Nat) : Int) = 1 + modI ((a.length : Int) - 1) m := by
  have := modI_bd (x := (a.length : Int) - 1) h
  unfold tmK
  omega
theorem tmL_bd (a : List (List Int)) : 1 ≤ tmL a ∧ tmL a ≤ 6 := by
  have := modI_bd (x := ((row a 0).length : Int) - 1) (n := 6) (by omega)
  unfold tmL
  split <;> omega
theorem tmR_len (a : List (List Int)) (l i : Nat) : (tmR a l i).length = l := by simp [tmR]
theorem tmR_nth (a : List (List Int)) {l i j : Nat} (h : j < l) : nth (tmR a l i) j = modI (nth (row a i) j) 2 := by
  simp [tmR, nth, List.getD_eq_getElem?_getD, h]
theorem tm_len (a : List (List Int)) (m : Int) : (tm a m).length = tmK a m := by simp [tm]
theorem tm_row (a : List (List Int)) (m : Int) {i : Nat} (h : i < tmK a m) : row (tm a m) i = tmR a (tmL a) i := by
  simp [tm, row, List.getD_eq_getElem?_getD, h]
theorem tm_plan (a : List (List Int)) : IsPlan (tm a 6) := by
  have hk := tmK_bd a (m := 6) (by omega)
  have hl := tmL_bd a
  refine ⟨by rw [tm_len]; omega, by rw [tm_len]; omega, ?_, ?_, fun i hi => ?_, fun i hi j hj => ?_⟩
  · rw [tm_row a 6 (by omega), tmR_len]; omega
  · rw [tm_row a 6 (by omega), tmR_len]; omega
  · rw [tm_len] at hi
    rw [tm_row a 6 hi, tm_row a 6 (by omega), tmR_len, tmR_len]
  · rw [tm_len] at hi
    rw [tm_row a 6 hi] at hj ⊢
    rw [tmR_len] at hj
    rw [tmR_nth a hj]
    have := modI_bd (x := nth (row a i) j) (n := 2) (by omega)
    omega

/-- A row of which the first j numbers are laid. -/
def tz (a : List (List Int)) (l i j : Nat) : List Int := (List.range l).map fun t => if t < j then modI (nth (row a i) t) 2 else 0
theorem tz_len (a : List (List Int)) (l i j : Nat) : (tz a l i j).length = l := by simp [tz]
theorem tz_nth (a : List (List Int)) {l i j t : Nat} (h : t < l) : nth (tz a l i j) t = if t < j then modI (nth (row a i) t) 2 else 0 := by
  simp [tz, nth, List.getD_eq_getElem?_getD, h]
theorem tz_zero (a : List (List Int)) (l i : Nat) : tz a l i 0 = List.replicate l 0 := by
  refine nth_eq (by simp [tz]) fun t ht => ?_
  rw [tz_len] at ht
  rw [tz_nth a ht, if_neg (by omega)]
  simp [nth, List.getD_eq_getElem?_getD, ht]
theorem tz_set (a : List (List Int)) {l i j : Nat} (h : j < l) : (tz a l i j).set j (modI (nth (row a i) j) 2) = tz a l i (j + 1) := by
  refine nth_eq (by simp [tz]) fun t ht => ?_
  rw [List.length_set, tz_len] at ht
  rw [nth_set _ _ _ _ (by rw [tz_len]; exact h), tz_nth a ht, tz_nth a ht]
  by_cases e : t = j
  · rw [if_pos e, if_pos (by omega), e]
  · rw [if_neg e]
    by_cases e2 : t < j
    · rw [if_pos e2, if_pos (by omega)]
    · rw [if_neg e2, if_neg (by omega)]
theorem tz_end (a : List (List Int)) {l i j : Nat} (h : ∀ t, j ≤ t → t < l → nth (row a i) t = 0) : tz a l i j = tmR a l i := by
  refine nth_eq (by rw [tz_len, tmR_len]) fun t ht => ?_
  rw [tz_len] at ht
  rw [tz_nth a ht, tmR_nth a ht]
  by_cases e : t < j
  · rw [if_pos e]
  · rw [if_neg e, h t (by omega) ht]; rfl
theorem row_out {a : List (List Int)} {i : Nat} (h : a.length ≤ i) : row a i = [] := by
  simp [row, List.getD_eq_getElem?_getD, h]

end Go.Proofs.Ytjibdolhipddbaa

/- The law's access plans, made. -/
namespace Go.Proofs.Ytjibdolhipddbaa
open Go.RowKit

set_option maxHeartbeats 4000000 in
set_option maxRecDepth 100000 in
theorem tame_any (a : List (List Int)) (ao : Option Addr) (b o cap : Nat) (A : Nat → Option Addr) (B O C : Nat → Nat) (w : World) (H : RowsAt w ao b o a A B O C) :
    Calls Try.prog 28 #[.slice ao a.length cap, .int .i64 6] w fun e w' => ∃ v, e = .returned v ∧ NewRows w.heap.size w' v (tm a 6) ∧ Below w.heap.size w w' := by
  have hla := H.len
  have hk := tmK_bd a (m := 6) (by omega)
  have hl := tmL_bd a
  have HM := Lib.hid (fun W => mod_any ((a.length : Int) - 1) 6 W ⟨by omega, by omega⟩ (by omega) (by omega))
  obtain ⟨i0, hi0, hz0, hz1, hz2⟩ := info_parts Try.info3
  obtain ⟨j0, hj0, jz0, jz1, jz2⟩ := info_parts Try.info34
  have HA := Lib.hid H
  clear H
  obtain ⟨k, hkk⟩ : ∃ k, tmK a 6 = k := ⟨_, rfl⟩
  obtain ⟨l, hll⟩ : ∃ l, tmL a = l := ⟨_, rfl⟩
  rw [hkk] at hk
  rw [hll] at hl
  have HK := Lib.hid hkk
  have HL := Lib.hid hll
  obtain ⟨hk1, hk6, hke⟩ := hk
  obtain ⟨mv, hmv⟩ : ∃ mv, modI ((a.length : Int) - 1) 6 = mv := ⟨_, rfl⟩
  unfold Hid at HM
  simp only [hmv] at HM
  have HM := Lib.hid HM
  rw [hmv] at hke
  have HKE := Lib.hid hke
  have hmb : 0 ≤ mv ∧ mv < 6 := by omega
  have hml : 0 < a.length → (row a 0).length ≤ 140737488351232 := fun h => (HA.out.rows 0 h).len
  clear hkk hll hke hmv
  go_enter Try.func28, Try.ntmps28
  go_wp2_with fail
  refine (HM.out _).mono ?_
  rintro e w1 ⟨rfl, rfl⟩
  have e1 : (1 : Int) + mv = (k : Int) := HKE.out.symm
  by_cases h0 : 0 < a.length
  · have t0 : decide (0 < (a.length : Int)) = true := decide_eq_true (by omega)
    obtain ⟨rfl, -⟩ := HA.out.ptr h0
    have c0 := HA.out.cell 0 h0
    rw [Nat.add_zero] at c0
    have hr0 := hml h0
    have HLE := Lib.hid (show ((l : Nat) : Int) = 1 + modI (((row a 0).length : Int) - 1) 6 by
      have := modI_bd (x := ((row a 0).length : Int) - 1) (n := 6) (by omega)
      rw [← HL.out, tmL, if_pos h0]; omega)
    obtain ⟨r0, hr0e⟩ : ∃ r0, (row a 0).length = r0 := ⟨_, rfl⟩
    rw [hr0e] at c0 hr0 HLE
    have HM2 := Lib.hid (fun W => mod_any ((r0 : Int) - 1) 6 W ⟨by omega, by omega⟩ (by omega) (by omega))
    obtain ⟨mw, hmw⟩ : ∃ mw, modI ((r0 : Int) - 1) 6 = mw := ⟨_, rfl⟩
    rw [hmw] at HLE
    unfold Hid at HM2
    simp only [hmw] at HM2
    have HM2 := Lib.hid HM2
    have hwb : 0 ≤ mw ∧ mw < 6 := by have := HLE.out; omega
    have e2 : (1 : Int) + mw = (l : Int) := HLE.out.symm
    clear hr0e hmw hml
    go_wp2_with fail
    refine (HM2.out _).mono ?_
    rintro e w2 ⟨rfl, rfl⟩
    go_wp2_with fail
    go_loopw [7, 8, 9, 10] (fun v x _ _ wr => ∃ i : Nat, i ≤ k ∧ x = .int .i64 i ∧ NewRows w2.heap.size wr v ((List.range i).map (tmR a l)) ∧ Below w2.heap.size w2 wr) (fun _ x _ _ _ => k - (intOf x).toNat)
    case atStart => exact ⟨0, by omega, rfl, NewRows.nil _ _, Below.refl _ _⟩
    case round =>
      obtain ⟨i, hi, rfl, hn, hb⟩ := hrel
      have HSN := Lib.hid (show (List.range (i + 1)).map (tmR a l) = (List.range i).map (tmR a l) ++ [tmR a l i] by rw [List.range_succ, List.map_append]; rfl)
      have hxl0 : ((List.range i).map (tmR a l)).length = i := by simp
      obtain ⟨XS, hXS⟩ : ∃ XS, (List.range i).map (tmR a l) = XS := ⟨_, rfl⟩
      rw [hXS] at hn HSN hxl0
      have HXS := Lib.hid hXS
      have HXL := Lib.hid hxl0
      clear hXS hxl0
      obtain ⟨vo, vb, vc, VA, VB, VO, VC, rfl, -⟩ := hn.at (by rw [HXL.out]; omega)
      have HN := Lib.hid hn
      have HB := Lib.hid hb
      clear hn hb
      by_cases hlt : i < k
      · obtain ⟨w6, hrun, hz, hb6⟩ := make_zeros wr l (by omega)
        obtain ⟨g, hg⟩ : ∃ g, wr.heap.size = g := ⟨_, rfl⟩
        rw [hg] at hrun hz hb6
        have HZ := Lib.hid hz
        have HB6 := Lib.hid hb6
        have HG := Lib.hid hg
        clear hz hb6 hg
        obtain ⟨ws, rfl⟩ : ∃ x, x = wr := ⟨_, rfl⟩
        go_wp2_with fail
        clear hrun
        go_loopw [10] (fun x wr => ∃ j : Nat, j ≤ l ∧ x = .int .i64 j ∧ NewInts g wr (.slice (some ⟨g, 0, none⟩) l l) (tz a l i j) ∧ Below g ws wr) (fun x _ => l - (intOf x).toNat)
        case atStart => exact ⟨0, by omega, rfl, by rw [tz_zero]; exact HZ.out, HB6.out⟩
        case round =>
          obtain ⟨j, hj, rfl, hz, hb⟩ := hrel
          have HZJ := Lib.hid hz
          have HBJ := Lib.hid hb
          have HBW := Lib.hid (HB.out.trans (hb.mono (by rw [← HG.out]; exact HB.out.size)))
          clear hz hb HZ HB6
          by_cases h1 : j < l
          · by_cases h2 : i < a.length
            · have ha := HA.out.below HBW.out (Nat.le_refl _)
              skip
              have ci := ha.cell i h2
              have hra := Lib.hid (ha.rows i h2)
              clear ha
              by_cases h3 : j < (row a i).length
              · obtain ⟨hAi, -⟩ := hra.out.ptr (by omega)
                have x0 := hra.out.cell j h3
                rw [hAi] at ci
                have hwf := hra.out.wf j
                have HSET := Lib.hid (tz_set a (i := i) h1)
                obtain ⟨x, hx⟩ : ∃ x, nth (row a i) j = x := ⟨_, rfl⟩
                obtain ⟨rl, hrl⟩ : ∃ rl, (row a i).length = rl := ⟨_, rfl⟩
                rw [hx] at x0 hwf HSET
                rw [hrl] at ci h3
                have hm2 := modI_bd (x := x) (n := 2) (by omega)
                have HMX := Lib.hid (fun W => mod_any x 2 W hwf (by omega) (by omega))
                obtain ⟨y, hy⟩ : ∃ y, modI x 2 = y := ⟨_, rfl⟩
                unfold Hid at HMX
                simp only [hy] at HMX
                have HMX := Lib.hid HMX
                rw [hy] at hm2 HSET
                have hjr : (j : Int) < (rl : Int) := by omega
                have hjl : (j : Int) < (l : Int) := by omega
                have d1 : wr.cell? ⟨g, j, none⟩ = some (.int .i64 (nth (tz a l i j) j)) := by
                  have := cell_of_row (j := j) _ _ _ _ _ (row_of_news HZJ.out (tz_len a l i j))
                  rw [this]
                  simpa using nth_map (tz a l i j) j (by rw [tz_len]; exact h1)
                have f1 := HZJ.out.frozen (tz_len a l i j).symm j
                obtain ⟨wq, hwq⟩ : ∃ wq, wr.setCell ⟨g, j, none⟩ (.int .i64 y) = wq := ⟨_, rfl⟩
                have HS := Lib.hid (show NewInts g wq (.slice (some ⟨g, 0, none⟩) l l) (tz a l i (j + 1)) by
                  rw [← hwq, ← HSET.out]; exact HZJ.out.stored (tz_len a l i j).symm j y (by omega) (by rw [tz_len]; exact h1))
                have HBQ := Lib.hid (show Below g ws wq by rw [← hwq]; exact HBJ.out.setCell (Nat.le_refl _) _)
                have HWQ := Lib.hid hwq
                clear hwq hx hrl hy hAi hwf
                go_wp2_with fail
                refine (HMX.out _).mono ?_
                rintro e w4 ⟨rfl, rfl⟩
                go_wp2
                rw [HWQ.out]
                go_roundw
                case rel =>
                  (repeat apply Exists.intro)
                  refine ⟨show j + 1 ≤ l by omega, ?_⟩
                  exact ⟨by go_num, HS.out, HBQ.out⟩
                case measure => simp [intOf]; omega
              · have HEND := Lib.hid (show tz a l i j = tmR a l i from tz_end a fun t ht _ => nth_out (by omega))
                obtain ⟨rl, hrl⟩ : ∃ rl, (row a i).length = rl := ⟨_, rfl⟩
                rw [hrl] at ci h3
                have hjr : ¬ (j : Int) < (rl : Int) := by omega
                have hjl : (j : Int) < (l : Int) := by omega
                clear hrl
                have HXR := Lib.hid (show NewInts g wr (.slice (some ⟨g, 0, none⟩) l l) (tmR a l i) by rw [← HEND.out]; exact HZJ.out)
                obtain ⟨vs, e1, e2, e3⟩ := (HN.out.below HBJ.out (by rw [HG.out]; exact Nat.le_refl _)).ex
                have HBC := Lib.hid (HB.out.trans (HBJ.out.mono (by rw [← HG.out]; exact HB.out.size)))
                have HX1 := Lib.hid ((HXR.out.mono (by rw [← HG.out]; exact HB.out.size)).below ((Below.refl _ wr).alloc (Nat.le_refl _) (.cells #[.slice (some ⟨g, 0, none⟩) l l] 34)) (Nat.le_refl _))
                have HE2 := Lib.hid (show ∀ j, j < XS.length → ∃ z, vs[j]? = some z ∧ NewInts w2.heap.size (wr.alloc (.cells #[.slice (some ⟨g, 0, none⟩) l l] 34)) z (row XS j) from fun j hj => let ⟨z, q1, q2⟩ := e2 j hj; ⟨z, q1, q2.below ((Below.refl _ _).alloc (Nat.le_refl _) _) (Nat.le_refl _)⟩)
                have HE3 := Lib.hid e3
                have HE1 := Lib.hid (ownsRow_below e1 ((Below.refl _ wr).alloc (Nat.le_refl _) (.cells #[.slice (some ⟨g, 0, none⟩) l l] 34)) (Nat.le_refl _))
                clear e1 e2 e3
                go_wp2_with (first
                  | (at_builtin; go_loud (refine wpList_append_own_at _ rfl _ _ 22 rfl w2.heap.size 34 j0 (.slice none 0 0) 1 24 Try.underlying22 hj0 jz0 jz1 jz2 rfl (by decide) (.slice vo XS.length vc) XS.length vs rfl HE1.out ⟨wr.heap.size, 0, none⟩ 1 1 [.slice (some ⟨g, 0, none⟩) l l] rfl rfl (cell_one_new _ _ _) (by simp [oneCell_slice]) ?q2 ?q3 ?q4 ?_))
                  | (fail))
                case q2 => have := HXL.out; unfold maxLen; omega
                case q3 => have := HXL.out; omega
                case q4 => have := HBC.out.size; simp; omega
                intro v' w12 hown hgrow _ _
                have HP := Lib.hid (NewRows.snoc HE1.out HE2.out HE3.out HX1.out rfl hown hgrow)
                have HBD := Lib.hid ((HBC.out.alloc HBC.out.size (.cells #[.slice (some ⟨g, 0, none⟩) l l] 34)).grown hgrow (by have := HBC.out.size; simp; omega) (fun r hr => (HE1.out.lt r hr).1))
                clear hown hgrow
                go_wp2
                go_roundw
                case rel => exact ⟨i + 1, by omega, by go_num, by rw [HSN.out]; exact HP.out, HBD.out⟩
                case measure => simp [intOf]; omega
            · have HEND := Lib.hid (show tz a l i j = tmR a l i from tz_end a fun t ht _ => by rw [row_out (by omega)]; simp [nth])
              have hjl : (j : Int) < (l : Int) := by omega
              have HXR := Lib.hid (show NewInts g wr (.slice (some ⟨g, 0, none⟩) l l) (tmR a l i) by rw [← HEND.out]; exact HZJ.out)
              obtain ⟨vs, e1, e2, e3⟩ := (HN.out.below HBJ.out (by rw [HG.out]; exact Nat.le_refl _)).ex
              have HBC := Lib.hid (HB.out.trans (HBJ.out.mono (by rw [← HG.out]; exact HB.out.size)))
              have HX1 := Lib.hid ((HXR.out.mono (by rw [← HG.out]; exact HB.out.size)).below ((Below.refl _ wr).alloc (Nat.le_refl _) (.cells #[.slice (some ⟨g, 0, none⟩) l l] 34)) (Nat.le_refl _))
              have HE2 := Lib.hid (show ∀ j, j < XS.length → ∃ z, vs[j]? = some z ∧ NewInts w2.heap.size (wr.alloc (.cells #[.slice (some ⟨g, 0, none⟩) l l] 34)) z (row XS j) from fun j hj => let ⟨z, q1, q2⟩ := e2 j hj; ⟨z, q1, q2.below ((Below.refl _ _).alloc (Nat.le_refl _) _) (Nat.le_refl _)⟩)
              have HE3 := Lib.hid e3
              have HE1 := Lib.hid (ownsRow_below e1 ((Below.refl _ wr).alloc (Nat.le_refl _) (.cells #[.slice (some ⟨g, 0, none⟩) l l] 34)) (Nat.le_refl _))
              clear e1 e2 e3
              go_wp2_with (first
                | (at_builtin; go_loud (refine wpList_append_own_at _ rfl _ _ 22 rfl w2.heap.size 34 j0 (.slice none 0 0) 1 24 Try.underlying22 hj0 jz0 jz1 jz2 rfl (by decide) (.slice vo XS.length vc) XS.length vs rfl HE1.out ⟨wr.heap.size, 0, none⟩ 1 1 [.slice (some ⟨g, 0, none⟩) l l] rfl rfl (cell_one_new _ _ _) (by simp [oneCell_slice]) ?q2 ?q3 ?q4 ?_))
                | (fail))
              case q2 => have := HXL.out; unfold maxLen; omega
              case q3 => have := HXL.out; omega
              case q4 => have := HBC.out.size; simp; omega
              intro v' w12 hown hgrow _ _
              have HP := Lib.hid (NewRows.snoc HE1.out HE2.out HE3.out HX1.out rfl hown hgrow)
              have HBD := Lib.hid ((HBC.out.alloc HBC.out.size (.cells #[.slice (some ⟨g, 0, none⟩) l l] 34)).grown hgrow (by have := HBC.out.size; simp; omega) (fun r hr => (HE1.out.lt r hr).1))
              clear hown hgrow
              go_wp2
              go_roundw
              case rel => exact ⟨i + 1, by omega, by go_num, by rw [HSN.out]; exact HP.out, HBD.out⟩
              case measure => simp [intOf]; omega
          · have HEND := Lib.hid (show tz a l i j = tmR a l i from tz_end a fun t ht h => absurd h (by omega))
            have HXR := Lib.hid (show NewInts g wr (.slice (some ⟨g, 0, none⟩) l l) (tmR a l i) by rw [← HEND.out]; exact HZJ.out)
            obtain ⟨vs, e1, e2, e3⟩ := (HN.out.below HBJ.out (by rw [HG.out]; exact Nat.le_refl _)).ex
            have HBC := Lib.hid (HB.out.trans (HBJ.out.mono (by rw [← HG.out]; exact HB.out.size)))
            have HX1 := Lib.hid ((HXR.out.mono (by rw [← HG.out]; exact HB.out.size)).below ((Below.refl _ wr).alloc (Nat.le_refl _) (.cells #[.slice (some ⟨g, 0, none⟩) l l] 34)) (Nat.le_refl _))
            have HE2 := Lib.hid (show ∀ j, j < XS.length → ∃ z, vs[j]? = some z ∧ NewInts w2.heap.size (wr.alloc (.cells #[.slice (some ⟨g, 0, none⟩) l l] 34)) z (row XS j) from fun j hj => let ⟨z, q1, q2⟩ := e2 j hj; ⟨z, q1, q2.below ((Below.refl _ _).alloc (Nat.le_refl _) _) (Nat.le_refl _)⟩)
            have HE3 := Lib.hid e3
            have HE1 := Lib.hid (ownsRow_below e1 ((Below.refl _ wr).alloc (Nat.le_refl _) (.cells #[.slice (some ⟨g, 0, none⟩) l l] 34)) (Nat.le_refl _))
            clear e1 e2 e3
            go_wp2_with (first
              | (at_builtin; go_loud (refine wpList_append_own_at _ rfl _ _ 22 rfl w2.heap.size 34 j0 (.slice none 0 0) 1 24 Try.underlying22 hj0 jz0 jz1 jz2 rfl (by decide) (.slice vo XS.length vc) XS.length vs rfl HE1.out ⟨wr.heap.size, 0, none⟩ 1 1 [.slice (some ⟨g, 0, none⟩) l l] rfl rfl (cell_one_new _ _ _) (by simp [oneCell_slice]) ?q2 ?q3 ?q4 ?_))
              | (fail))
            case q2 => have := HXL.out; unfold maxLen; omega
            case q3 => have := HXL.out; omega
            case q4 => have := HBC.out.size; simp; omega
            intro v' w12 hown hgrow _ _
            have HP := Lib.hid (NewRows.snoc HE1.out HE2.out HE3.out HX1.out rfl hown hgrow)
            have HBD := Lib.hid ((HBC.out.alloc HBC.out.size (.cells #[.slice (some ⟨g, 0, none⟩) l l] 34)).grown hgrow (by have := HBC.out.size; simp; omega) (fun r hr => (HE1.out.lt r hr).1))
            clear hown hgrow
            go_wp2
            go_roundw
            case rel => exact ⟨i + 1, by omega, by go_num, by rw [HSN.out]; exact HP.out, HBD.out⟩
            case measure => simp [intOf]; omega
      · have hik : i = k := by omega
        subst hik
        have HT := Lib.hid (show tm a 6 = (List.range i).map (tmR a l) by rw [tm, HK.out, HL.out])
        go_wp2
        go_ret
        exact ⟨_, rfl, by rw [HT.out, HXS.out]; exact HN.out, HB.out⟩
  · have t0 : decide (0 < (a.length : Int)) = false := decide_eq_false (by omega)
    have hl6 : l = 6 := by rw [← HL.out, tmL, if_neg h0]
    have H6 := Lib.hid (show Value.int .i64 6 = Value.int .i64 (l : Int) by rw [hl6]; rfl)
    clear hl6
    go_wp2_with fail
    rw [H6.out]
    go_loopw [7, 8, 9, 10] (fun v x _ _ wr => ∃ i : Nat, i ≤ k ∧ x = .int .i64 i ∧ NewRows w1.heap.size wr v ((List.range i).map (tmR a l)) ∧ Below w1.heap.size w1 wr) (fun _ x _ _ _ => k - (intOf x).toNat)
    case atStart => exact ⟨0, by omega, rfl, NewRows.nil _ _, Below.refl _ _⟩
    case round =>
      obtain ⟨i, hi, rfl, hn, hb⟩ := hrel
      have HSN := Lib.hid (show (List.range (i + 1)).map (tmR a l) = (List.range i).map (tmR a l) ++ [tmR a l i] by rw [List.range_succ, List.map_append]; rfl)
      have hxl0 : ((List.range i).map (tmR a l)).length = i := by simp
      obtain ⟨XS, hXS⟩ : ∃ XS, (List.range i).map (tmR a l) = XS := ⟨_, rfl⟩
      rw [hXS] at hn HSN hxl0
      have HXS := Lib.hid hXS
      have HXL := Lib.hid hxl0
      clear hXS hxl0
      obtain ⟨vo, vb, vc, VA, VB, VO, VC, rfl, -⟩ := hn.at (by rw [HXL.out]; omega)
      have HN := Lib.hid hn
      have HB := Lib.hid hb
      clear hn hb
      by_cases hlt : i < k
      · obtain ⟨w6, hrun, hz, hb6⟩ := make_zeros wr l (by omega)
        obtain ⟨g, hg⟩ : ∃ g, wr.heap.size = g := ⟨_, rfl⟩
        rw [hg] at hrun hz hb6
        have HZ := Lib.hid hz
        have HB6 := Lib.hid hb6
        have HG := Lib.hid hg
        clear hz hb6 hg
        obtain ⟨ws, rfl⟩ : ∃ x, x = wr := ⟨_, rfl⟩
        go_wp2_with fail
        clear hrun
        go_loopw [10] (fun x wr => ∃ j : Nat, j ≤ l ∧ x = .int .i64 j ∧ NewInts g wr (.slice (some ⟨g, 0, none⟩) l l) (tz a l i j) ∧ Below g ws wr) (fun x _ => l - (intOf x).toNat)
        case atStart => exact ⟨0, by omega, rfl, by rw [tz_zero]; exact HZ.out, HB6.out⟩
        case round =>
          obtain ⟨j, hj, rfl, hz, hb⟩ := hrel
          have HZJ := Lib.hid hz
          have HBJ := Lib.hid hb
          have HBW := Lib.hid (HB.out.trans (hb.mono (by rw [← HG.out]; exact HB.out.size)))
          clear hz hb HZ HB6
          by_cases h1 : j < l
          · by_cases h2 : i < a.length
            · exact absurd h2 (by omega)
            · have HEND := Lib.hid (show tz a l i j = tmR a l i from tz_end a fun t ht _ => by rw [row_out (by omega)]; simp [nth])
              have hjl : (j : Int) < (l : Int) := by omega
              have HXR := Lib.hid (show NewInts g wr (.slice (some ⟨g, 0, none⟩) l l) (tmR a l i) by rw [← HEND.out]; exact HZJ.out)
              obtain ⟨vs, e1, e2, e3⟩ := (HN.out.below HBJ.out (by rw [HG.out]; exact Nat.le_refl _)).ex
              have HBC := Lib.hid (HB.out.trans (HBJ.out.mono (by rw [← HG.out]; exact HB.out.size)))
              have HX1 := Lib.hid ((HXR.out.mono (by rw [← HG.out]; exact HB.out.size)).below ((Below.refl _ wr).alloc (Nat.le_refl _) (.cells #[.slice (some ⟨g, 0, none⟩) l l] 34)) (Nat.le_refl _))
              have HE2 := Lib.hid (show ∀ j, j < XS.length → ∃ z, vs[j]? = some z ∧ NewInts w1.heap.size (wr.alloc (.cells #[.slice (some ⟨g, 0, none⟩) l l] 34)) z (row XS j) from fun j hj => let ⟨z, q1, q2⟩ := e2 j hj; ⟨z, q1, q2.below ((Below.refl _ _).alloc (Nat.le_refl _) _) (Nat.le_refl _)⟩)
              have HE3 := Lib.hid e3
              have HE1 := Lib.hid (ownsRow_below e1 ((Below.refl _ wr).alloc (Nat.le_refl _) (.cells #[.slice (some ⟨g, 0, none⟩) l l] 34)) (Nat.le_refl _))
              clear e1 e2 e3
              go_wp2_with (first
                | (at_builtin; go_loud (refine wpList_append_own_at _ rfl _ _ 22 rfl w1.heap.size 34 j0 (.slice none 0 0) 1 24 Try.underlying22 hj0 jz0 jz1 jz2 rfl (by decide) (.slice vo XS.length vc) XS.length vs rfl HE1.out ⟨wr.heap.size, 0, none⟩ 1 1 [.slice (some ⟨g, 0, none⟩) l l] rfl rfl (cell_one_new _ _ _) (by simp [oneCell_slice]) ?q2 ?q3 ?q4 ?_))
                | (fail))
              case q2 => have := HXL.out; unfold maxLen; omega
              case q3 => have := HXL.out; omega
              case q4 => have := HBC.out.size; simp; omega
              intro v' w12 hown hgrow _ _
              have HP := Lib.hid (NewRows.snoc HE1.out HE2.out HE3.out HX1.out rfl hown hgrow)
              have HBD := Lib.hid ((HBC.out.alloc HBC.out.size (.cells #[.slice (some ⟨g, 0, none⟩) l l] 34)).grown hgrow (by have := HBC.out.size; simp; omega) (fun r hr => (HE1.out.lt r hr).1))
              clear hown hgrow
              go_wp2
              go_roundw
              case rel => exact ⟨i + 1, by omega, by go_num, by rw [HSN.out]; exact HP.out, HBD.out⟩
              case measure => simp [intOf]; omega
          · have HEND := Lib.hid (show tz a l i j = tmR a l i from tz_end a fun t ht h => absurd h (by omega))
            have HXR := Lib.hid (show NewInts g wr (.slice (some ⟨g, 0, none⟩) l l) (tmR a l i) by rw [← HEND.out]; exact HZJ.out)
            obtain ⟨vs, e1, e2, e3⟩ := (HN.out.below HBJ.out (by rw [HG.out]; exact Nat.le_refl _)).ex
            have HBC := Lib.hid (HB.out.trans (HBJ.out.mono (by rw [← HG.out]; exact HB.out.size)))
            have HX1 := Lib.hid ((HXR.out.mono (by rw [← HG.out]; exact HB.out.size)).below ((Below.refl _ wr).alloc (Nat.le_refl _) (.cells #[.slice (some ⟨g, 0, none⟩) l l] 34)) (Nat.le_refl _))
            have HE2 := Lib.hid (show ∀ j, j < XS.length → ∃ z, vs[j]? = some z ∧ NewInts w1.heap.size (wr.alloc (.cells #[.slice (some ⟨g, 0, none⟩) l l] 34)) z (row XS j) from fun j hj => let ⟨z, q1, q2⟩ := e2 j hj; ⟨z, q1, q2.below ((Below.refl _ _).alloc (Nat.le_refl _) _) (Nat.le_refl _)⟩)
            have HE3 := Lib.hid e3
            have HE1 := Lib.hid (ownsRow_below e1 ((Below.refl _ wr).alloc (Nat.le_refl _) (.cells #[.slice (some ⟨g, 0, none⟩) l l] 34)) (Nat.le_refl _))
            clear e1 e2 e3
            go_wp2_with (first
              | (at_builtin; go_loud (refine wpList_append_own_at _ rfl _ _ 22 rfl w1.heap.size 34 j0 (.slice none 0 0) 1 24 Try.underlying22 hj0 jz0 jz1 jz2 rfl (by decide) (.slice vo XS.length vc) XS.length vs rfl HE1.out ⟨wr.heap.size, 0, none⟩ 1 1 [.slice (some ⟨g, 0, none⟩) l l] rfl rfl (cell_one_new _ _ _) (by simp [oneCell_slice]) ?q2 ?q3 ?q4 ?_))
              | (fail))
            case q2 => have := HXL.out; unfold maxLen; omega
            case q3 => have := HXL.out; omega
            case q4 => have := HBC.out.size; simp; omega
            intro v' w12 hown hgrow _ _
            have HP := Lib.hid (NewRows.snoc HE1.out HE2.out HE3.out HX1.out rfl hown hgrow)
            have HBD := Lib.hid ((HBC.out.alloc HBC.out.size (.cells #[.slice (some ⟨g, 0, none⟩) l l] 34)).grown hgrow (by have := HBC.out.size; simp; omega) (fun r hr => (HE1.out.lt r hr).1))
            clear hown hgrow
            go_wp2
            go_roundw
            case rel => exact ⟨i + 1, by omega, by go_num, by rw [HSN.out]; exact HP.out, HBD.out⟩
            case measure => simp [intOf]; omega
      · have hik : i = k := by omega
        subst hik
        have HT := Lib.hid (show tm a 6 = (List.range i).map (tmR a l) by rw [tm, HK.out, HL.out])
        go_wp2
        go_ret
        exact ⟨_, rfl, by rw [HT.out, HXS.out]; exact HN.out, HB.out⟩

end Go.Proofs.Ytjibdolhipddbaa
