/- K4 K5 -/
import Derived.Test.YtjibdolhipddbaaQs
import Derived.Test.YtjibdolhipddbaaQi
/- The cuts that tamed makes, plain. -/
namespace Go.Proofs.Ytjibdolhipddbaa
open Go.RowKit

def tdC (a : List (List Int)) : Nat := if 0 < a.length then (1 + modI (((row a 0).length : Int) - 1) 4).toNat else 2
def tdV (a : List (List Int)) (d : Int) (i j : Nat) : Int := if i < a.length ∧ j < (row a i).length then 1 + modI (wrap64 (nth (row a i) j - 1)) d else 1
def tdR (a : List (List Int)) (d : Int) (c i : Nat) : List Int := (List.range c).map (tdV a d i)
/-- The cuts that are made of rows. -/
def td (a : List (List Int)) (k : Nat) (d : Int) : List (List Int) := (List.range k).map (tdR a d (tdC a))
theorem tdC_bd (a : List (List Int)) : 1 ≤ tdC a ∧ tdC a ≤ 4 := by
  have := modI_bd (x := ((row a 0).length : Int) - 1) (n := 4) (by omega)
  unfold tdC
  split <;> omega
theorem tdV_bd (a : List (List Int)) {d : Int} (hd : 1 ≤ d) (i j : Nat) : 1 ≤ tdV a d i j ∧ tdV a d i j ≤ d := by
  have := modI_bd (x := wrap64 (nth (row a i) j - 1)) (n := d) hd
  unfold tdV
  split <;> omega
theorem tdR_len (a : List (List Int)) (d : Int) (c i : Nat) : (tdR a d c i).length = c := by simp [tdR]
theorem tdR_nth (a : List (List Int)) (d : Int) {c i j : Nat} (h : j < c) : nth (tdR a d c i) j = tdV a d i j := by
  simp [tdR, nth, List.getD_eq_getElem?_getD, h]
theorem td_len (a : List (List Int)) (k : Nat) (d : Int) : (td a k d).length = k := by simp [td]
theorem td_row (a : List (List Int)) (d : Int) {k i : Nat} (h : i < k) : row (td a k d) i = tdR a d (tdC a) i := by
  simp [td, row, List.getD_eq_getElem?_getD, h]
theorem td_cuts (a : List (List Int)) {k : Nat} {d : Int} (hk : 1 ≤ k) (hd : 1 ≤ d) : OkCuts k (td a k d) d := by
  have hc := tdC_bd a
  refine ⟨td_len a k d, ?_, ?_, fun i hi => ?_, fun i hi j hj => ?_⟩
  · rw [td_row a d (by omega), tdR_len]; omega
  · rw [td_row a d (by omega), tdR_len]; omega
  · rw [td_row a d hi, td_row a d (by omega), tdR_len, tdR_len]
  · rw [td_row a d hi] at hj ⊢
    rw [tdR_len] at hj
    rw [tdR_nth a d hj]
    exact tdV_bd a hd i j

/-- A row of which the first j numbers are laid. -/
def dz (a : List (List Int)) (d : Int) (c i j : Nat) : List Int := (List.range c).map fun t => if t < j then tdV a d i t else 0
theorem dz_len (a : List (List Int)) (d : Int) (c i j : Nat) : (dz a d c i j).length = c := by simp [dz]
theorem dz_nth (a : List (List Int)) (d : Int) {c i j t : Nat} (h : t < c) : nth (dz a d c i j) t = if t < j then tdV a d i t else 0 := by
  simp [dz, nth, List.getD_eq_getElem?_getD, h]
theorem dz_zero (a : List (List Int)) (d : Int) (c i : Nat) : dz a d c i 0 = List.replicate c 0 := by
  refine nth_eq (by simp [dz]) fun t ht => ?_
  rw [dz_len] at ht
  rw [dz_nth a d ht, if_neg (by omega)]
  simp [nth, List.getD_eq_getElem?_getD, ht]
theorem dz_set (a : List (List Int)) (d : Int) {c i j : Nat} (h : j < c) : (dz a d c i j).set j (tdV a d i j) = dz a d c i (j + 1) := by
  refine nth_eq (by simp [dz]) fun t ht => ?_
  rw [List.length_set, dz_len] at ht
  rw [nth_set _ _ _ _ (by rw [dz_len]; exact h), dz_nth a d ht, dz_nth a d ht]
  by_cases e : t = j
  · rw [if_pos e, if_pos (by omega), e]
  · rw [if_neg e]
    by_cases e2 : t < j
    · rw [if_pos e2, if_pos (by omega)]
    · rw [if_neg e2, if_neg (by omega)]
theorem dz_set2 (a : List (List Int)) (d : Int) {c i j : Nat} (x : Int) (h : j < c) : ((dz a d c i j).set j x).set j (tdV a d i j) = dz a d c i (j + 1) := by
  rw [List.set_set]; exact dz_set a d h
theorem dz_end (a : List (List Int)) (d : Int) (c i : Nat) : dz a d c i c = tdR a d c i := by
  refine nth_eq (by rw [dz_len, tdR_len]) fun t ht => ?_
  rw [dz_len] at ht
  rw [dz_nth a d ht, tdR_nth a d ht, if_pos ht]

end Go.Proofs.Ytjibdolhipddbaa

/- The law's cuts, made. -/
namespace Go.Proofs.Ytjibdolhipddbaa
open Go.RowKit

set_option maxHeartbeats 4000000 in
set_option maxRecDepth 100000 in
theorem tamed_any (a : List (List Int)) (k D : Nat) (ao : Option Addr) (b o cap : Nat) (A : Nat → Option Addr) (B O C : Nat → Nat) (w : World) (H : RowsAt w ao b o a A B O C) (hk : 1 ≤ k ∧ k ≤ 6) (hD : 1 ≤ D ∧ D ≤ 4) :
    Calls Try.prog 30 #[.slice ao a.length cap, .int .i64 k, .int .i64 D] w fun e w' => ∃ v, e = .returned v ∧ NewRows w.heap.size w' v (td a k D) ∧ Below w.heap.size w w' := by
  have hla := H.len
  have hc := tdC_bd a
  obtain ⟨i0, hi0, hz0, hz1, hz2⟩ := info_parts Try.info3
  obtain ⟨j0, hj0, jz0, jz1, jz2⟩ := info_parts Try.info34
  have HA := Lib.hid H
  clear H
  obtain ⟨c, hcc⟩ : ∃ c, tdC a = c := ⟨_, rfl⟩
  rw [hcc] at hc
  have HC := Lib.hid hcc
  obtain ⟨d, hd⟩ : ∃ d : Int, (D : Int) = d := ⟨_, rfl⟩
  have hd14 : 1 ≤ d ∧ d ≤ 4 := by omega
  rw [hd]
  have HM := Lib.hid (fun x W (hx : -9223372036854775808 ≤ x ∧ x ≤ 9223372036854775807) => mod_any x d W hx (by omega) (by omega))
  clear hcc hd hD
  have hml : 0 < a.length → (row a 0).length ≤ 140737488351232 := fun h => (HA.out.rows 0 h).len
  by_cases h0 : 0 < a.length
  · have t0 : decide (0 < (a.length : Int)) = true := decide_eq_true (by omega)
    obtain ⟨rfl, -⟩ := HA.out.ptr h0
    have c0 := HA.out.cell 0 h0
    rw [Nat.add_zero] at c0
    have hr0 := hml h0
    have HLE := Lib.hid (show ((c : Nat) : Int) = 1 + modI (((row a 0).length : Int) - 1) 4 by
      have := modI_bd (x := ((row a 0).length : Int) - 1) (n := 4) (by omega)
      rw [← HC.out, tdC, if_pos h0]; omega)
    obtain ⟨r0, hr0e⟩ : ∃ r0, (row a 0).length = r0 := ⟨_, rfl⟩
    rw [hr0e] at c0 hr0 HLE
    have HM2 := Lib.hid (fun W => mod_any ((r0 : Int) - 1) 4 W ⟨by omega, by omega⟩ (by omega) (by omega))
    obtain ⟨mw, hmw⟩ : ∃ mw, modI ((r0 : Int) - 1) 4 = mw := ⟨_, rfl⟩
    rw [hmw] at HLE
    unfold Hid at HM2
    simp only [hmw] at HM2
    have HM2 := Lib.hid HM2
    have hwb : 0 ≤ mw ∧ mw < 4 := by have := HLE.out; omega
    have e2 : (1 : Int) + mw = (c : Int) := HLE.out.symm
    clear hr0e hmw hml
    go_enter Try.func30, Try.ntmps30
    go_wp2_with fail
    refine (HM2.out _).mono ?_
    rintro e w2 ⟨rfl, rfl⟩
    obtain ⟨w, rfl⟩ : ∃ x, x = w2 := ⟨_, rfl⟩
    go_wp2_with fail
    go_loopw [8, 9, 10, 11] (fun v x _ _ wr => ∃ i : Nat, i ≤ k ∧ x = .int .i64 i ∧ NewRows w.heap.size wr v ((List.range i).map (tdR a d c)) ∧ Below w.heap.size w wr) (fun _ x _ _ _ => k - (intOf x).toNat)
    case atStart => exact ⟨0, by omega, rfl, NewRows.nil _ _, Below.refl _ _⟩
    case round =>
      obtain ⟨i, hi, rfl, hn, hb⟩ := hrel
      have HSN := Lib.hid (show (List.range (i + 1)).map (tdR a d c) = (List.range i).map (tdR a d c) ++ [tdR a d c i] by rw [List.range_succ, List.map_append]; rfl)
      have hxl0 : ((List.range i).map (tdR a d c)).length = i := by simp
      obtain ⟨XS, hXS⟩ : ∃ XS, (List.range i).map (tdR a d c) = XS := ⟨_, rfl⟩
      rw [hXS] at hn HSN hxl0
      have HXS := Lib.hid hXS
      have HXL := Lib.hid hxl0
      clear hXS hxl0
      obtain ⟨vo, vb, vc, VA, VB, VO, VC, rfl, -⟩ := hn.at (by rw [HXL.out]; omega)
      have HN := Lib.hid hn
      have HB := Lib.hid hb
      clear hn hb
      by_cases hlt : i < k
      · obtain ⟨w6, hrun, hz, hb6⟩ := make_zeros wr c (by omega)
        obtain ⟨g, hg⟩ : ∃ g, wr.heap.size = g := ⟨_, rfl⟩
        rw [hg] at hrun hz hb6
        have HZ := Lib.hid hz
        have HB6 := Lib.hid hb6
        have HG := Lib.hid hg
        clear hz hb6 hg
        obtain ⟨ws, rfl⟩ : ∃ x, x = wr := ⟨_, rfl⟩
        go_wp2_with fail
        clear hrun
        go_loopw [11] (fun x wr => ∃ j : Nat, j ≤ c ∧ x = .int .i64 j ∧ NewInts g wr (.slice (some ⟨g, 0, none⟩) c c) (dz a d c i j) ∧ Below g ws wr) (fun x _ => c - (intOf x).toNat)
        case atStart => exact ⟨0, by omega, rfl, by rw [dz_zero]; exact HZ.out, HB6.out⟩
        case round =>
          obtain ⟨j, hj, rfl, hz, hb⟩ := hrel
          have HZJ := Lib.hid hz
          have HBJ := Lib.hid hb
          have HBW := Lib.hid (HB.out.trans (hb.mono (by rw [← HG.out]; exact HB.out.size)))
          clear hz hb HZ HB6
          by_cases h1 : j < c
          · have hjl : (j : Int) < (c : Int) := by omega
            have d1 : wr.cell? ⟨g, j, none⟩ = some (.int .i64 (nth (dz a d c i j) j)) := by
              have := cell_of_row (j := j) _ _ _ _ _ (row_of_news HZJ.out (dz_len a d c i j))
              rw [this]
              simpa using nth_map (dz a d c i j) j (by rw [dz_len]; exact h1)
            have f1 := HZJ.out.frozen (dz_len a d c i j).symm j
            obtain ⟨wq, hwq⟩ : ∃ wq, wr.setCell ⟨g, j, none⟩ (.int .i64 1) = wq := ⟨_, rfl⟩
            have HS1 := Lib.hid (show NewInts g wq (.slice (some ⟨g, 0, none⟩) c c) ((dz a d c i j).set j 1) by
              rw [← hwq]; exact HZJ.out.stored (dz_len a d c i j).symm j 1 (by omega) (by rw [dz_len]; exact h1))
            have HBQ := Lib.hid (show Below g ws wq by rw [← hwq]; exact HBJ.out.setCell (Nat.le_refl _) _)
            have HWQ := Lib.hid hwq
            clear hwq
            have hne : b ≠ g ∨ True := .inr trivial
            go_upto_region 13 with (fail)
            rw [HWQ.out]
            have HBWQ := Lib.hid (HB.out.trans (HBQ.out.mono (by rw [← HG.out]; exact HB.out.size)))
            by_cases h2 : i < a.length ∧ j < (row a i).length
            · obtain ⟨h2, h3⟩ := h2
              have ha := HA.out.below HBWQ.out (Nat.le_refl _)
              skip
              have ci := ha.cell i h2
              have hra := Lib.hid (ha.rows i h2)
              clear ha
              obtain ⟨hAi, -⟩ := hra.out.ptr (by omega)
              have x0 := hra.out.cell j h3
              rw [hAi] at ci
              have hwf := hra.out.wf j
              have HV := Lib.hid (show tdV a d i j = 1 + modI (wrap64 (nth (row a i) j - 1)) d by rw [tdV, if_pos ⟨h2, h3⟩])
              have HSET := Lib.hid (dz_set2 a d (i := i) 1 h1)
              obtain ⟨x, hx⟩ : ∃ x, nth (row a i) j = x := ⟨_, rfl⟩
              obtain ⟨rl, hrl⟩ : ∃ rl, (row a i).length = rl := ⟨_, rfl⟩
              rw [hx] at x0 hwf HV
              rw [hrl] at ci h3
              have hwr : -9223372036854775808 ≤ wrap64 (x - 1) ∧ wrap64 (x - 1) ≤ 9223372036854775807 := by unfold wrap64; omega
              have HMX := Lib.hid (fun W => HM.out (wrap64 (x - 1)) W hwr)
              obtain ⟨y, hy⟩ : ∃ y, modI (wrap64 (x - 1)) d = y := ⟨_, rfl⟩
              have hyb := modI_bd (x := wrap64 (x - 1)) (n := d) (by omega)
              unfold Hid at HMX
              simp only [hy] at HMX
              have HMX := Lib.hid HMX
              rw [hy] at HV hyb
              have hjr : (j : Int) < (rl : Int) := by omega
              have d2 : wq.cell? ⟨g, j, none⟩ = some (.int .i64 (nth ((dz a d c i j).set j 1) j)) := by
                have := cell_of_row (j := j) _ _ _ _ _ (row_of_news HS1.out (by rw [List.length_set, dz_len]))
                rw [this]
                simpa using nth_map ((dz a d c i j).set j 1) j (by rw [List.length_set, dz_len]; exact h1)
              have f2 := HS1.out.frozen (by rw [List.length_set, dz_len]) j
              obtain ⟨z, e3⟩ : ∃ z, 1 + y = z := ⟨_, rfl⟩
              rw [e3] at HV
              obtain ⟨w5, hw5⟩ : ∃ w5, wq.setCell ⟨g, j, none⟩ (.int .i64 z) = w5 := ⟨_, rfl⟩
              have HS5 := Lib.hid (show NewInts g w5 (.slice (some ⟨g, 0, none⟩) c c) (dz a d c i (j + 1)) by
                rw [← hw5, ← HSET.out, HV.out]; exact HS1.out.stored (by rw [List.length_set, dz_len]) j z (by omega) (by rw [List.length_set, dz_len]; exact h1))
              have HB5 := Lib.hid (show Below g ws w5 by rw [← hw5]; exact HBQ.out.setCell (Nat.le_refl _) _)
              have HW5 := Lib.hid hw5
              clear hw5 hx hrl hy hAi hwf d1 f1
              go_wp2_with fail
              refine (HMX.out _).mono ?_
              rintro e w4 ⟨rfl, rfl⟩
              go_wp2
              rw [HW5.out]
              go_roundw
              case rel => exact ⟨j + 1, by omega, by go_num, HS5.out, HB5.out⟩
              case measure => simp [intOf]; omega
            · have HV := Lib.hid (show tdV a d i j = 1 from if_neg h2)
              have HSET := Lib.hid (dz_set a d (i := i) h1)
              have HS5 := Lib.hid (show NewInts g wq (.slice (some ⟨g, 0, none⟩) c c) (dz a d c i (j + 1)) by rw [← HSET.out, HV.out]; exact HS1.out)
              by_cases h3 : i < a.length
              · have ha := HA.out.below HBWQ.out (Nat.le_refl _)
                skip
                have ci := ha.cell i h3
                clear ha
                have h4 : ¬ j < (row a i).length := fun q => h2 ⟨h3, q⟩
                obtain ⟨rl, hrl⟩ : ∃ rl, (row a i).length = rl := ⟨_, rfl⟩
                rw [hrl] at ci h4
                have hjr : ¬ (j : Int) < (rl : Int) := by omega
                clear hrl h2 d1 f1
                go_wp2
                go_roundw
                case rel => exact ⟨j + 1, by omega, by go_num, HS5.out, HBQ.out⟩
                case measure => simp [intOf]; omega
              · clear h2 d1 f1
                go_wp2
                go_roundw
                case rel => exact ⟨j + 1, by omega, by go_num, HS5.out, HBQ.out⟩
                case measure => simp [intOf]; omega
          · have hjc : j = c := by omega
            have HEND := Lib.hid (show dz a d c i j = tdR a d c i by rw [hjc]; exact dz_end a d c i)
            clear hjc
            have HXR := Lib.hid (show NewInts g wr (.slice (some ⟨g, 0, none⟩) c c) (tdR a d c i) by rw [← HEND.out]; exact HZJ.out)
            obtain ⟨vs, e1, e2, e3⟩ := (HN.out.below HBJ.out (by rw [HG.out]; exact Nat.le_refl _)).ex
            have HBC := Lib.hid (HB.out.trans (HBJ.out.mono (by rw [← HG.out]; exact HB.out.size)))
            have HX1 := Lib.hid ((HXR.out.mono (by rw [← HG.out]; exact HB.out.size)).below ((Below.refl _ wr).alloc (Nat.le_refl _) (.cells #[.slice (some ⟨g, 0, none⟩) c c] 34)) (Nat.le_refl _))
            have HE2 := Lib.hid (show ∀ j, j < XS.length → ∃ z, vs[j]? = some z ∧ NewInts w.heap.size (wr.alloc (.cells #[.slice (some ⟨g, 0, none⟩) c c] 34)) z (row XS j) from fun j hj => let ⟨z, q1, q2⟩ := e2 j hj; ⟨z, q1, q2.below ((Below.refl _ _).alloc (Nat.le_refl _) _) (Nat.le_refl _)⟩)
            have HE3 := Lib.hid e3
            have HE1 := Lib.hid (ownsRow_below e1 ((Below.refl _ wr).alloc (Nat.le_refl _) (.cells #[.slice (some ⟨g, 0, none⟩) c c] 34)) (Nat.le_refl _))
            clear e1 e2 e3
            go_wp2_with (first
              | (at_builtin; go_loud (refine wpList_append_own_at _ rfl _ _ 22 rfl w.heap.size 34 j0 (.slice none 0 0) 1 24 Try.underlying22 hj0 jz0 jz1 jz2 rfl (by decide) (.slice vo XS.length vc) XS.length vs rfl HE1.out ⟨wr.heap.size, 0, none⟩ 1 1 [.slice (some ⟨g, 0, none⟩) c c] rfl rfl (cell_one_new _ _ _) (by simp [oneCell_slice]) ?q2 ?q3 ?q4 ?_))
              | (fail))
            case q2 => have := HXL.out; unfold maxLen; omega
            case q3 => have := HXL.out; omega
            case q4 => have := HBC.out.size; simp; omega
            intro v' w12 hown hgrow _ _
            have HP := Lib.hid (NewRows.snoc HE1.out HE2.out HE3.out HX1.out rfl hown hgrow)
            have HBD := Lib.hid ((HBC.out.alloc HBC.out.size (.cells #[.slice (some ⟨g, 0, none⟩) c c] 34)).grown hgrow (by have := HBC.out.size; simp; omega) (fun r hr => (HE1.out.lt r hr).1))
            clear hown hgrow
            go_wp2
            go_roundw
            case rel => exact ⟨i + 1, by omega, by go_num, by rw [HSN.out]; exact HP.out, HBD.out⟩
            case measure => simp [intOf]; omega
      · have hik : i = k := by omega
        subst hik
        have HT := Lib.hid (show td a i d = (List.range i).map (tdR a d c) by rw [td, HC.out])
        go_wp2
        go_ret
        exact ⟨_, rfl, by rw [HT.out, HXS.out]; exact HN.out, HB.out⟩
  · have t0 : decide (0 < (a.length : Int)) = false := decide_eq_false (by omega)
    have H6 := Lib.hid (show Value.int .i64 2 = Value.int .i64 (c : Int) by rw [← HC.out, tdC, if_neg h0]; rfl)
    clear hml
    go_enter Try.func30, Try.ntmps30
    go_wp2_with fail
    rw [H6.out]
    go_loopw [8, 9, 10, 11] (fun v x _ _ wr => ∃ i : Nat, i ≤ k ∧ x = .int .i64 i ∧ NewRows w.heap.size wr v ((List.range i).map (tdR a d c)) ∧ Below w.heap.size w wr) (fun _ x _ _ _ => k - (intOf x).toNat)
    case atStart => exact ⟨0, by omega, rfl, NewRows.nil _ _, Below.refl _ _⟩
    case round =>
      obtain ⟨i, hi, rfl, hn, hb⟩ := hrel
      have HSN := Lib.hid (show (List.range (i + 1)).map (tdR a d c) = (List.range i).map (tdR a d c) ++ [tdR a d c i] by rw [List.range_succ, List.map_append]; rfl)
      have hxl0 : ((List.range i).map (tdR a d c)).length = i := by simp
      obtain ⟨XS, hXS⟩ : ∃ XS, (List.range i).map (tdR a d c) = XS := ⟨_, rfl⟩
      rw [hXS] at hn HSN hxl0
      have HXS := Lib.hid hXS
      have HXL := Lib.hid hxl0
      clear hXS hxl0
      obtain ⟨vo, vb, vc, VA, VB, VO, VC, rfl, -⟩ := hn.at (by rw [HXL.out]; omega)
      have HN := Lib.hid hn
      have HB := Lib.hid hb
      clear hn hb
      by_cases hlt : i < k
      · obtain ⟨w6, hrun, hz, hb6⟩ := make_zeros wr c (by omega)
        obtain ⟨g, hg⟩ : ∃ g, wr.heap.size = g := ⟨_, rfl⟩
        rw [hg] at hrun hz hb6
        have HZ := Lib.hid hz
        have HB6 := Lib.hid hb6
        have HG := Lib.hid hg
        clear hz hb6 hg
        obtain ⟨ws, rfl⟩ : ∃ x, x = wr := ⟨_, rfl⟩
        go_wp2_with fail
        clear hrun
        go_loopw [11] (fun x wr => ∃ j : Nat, j ≤ c ∧ x = .int .i64 j ∧ NewInts g wr (.slice (some ⟨g, 0, none⟩) c c) (dz a d c i j) ∧ Below g ws wr) (fun x _ => c - (intOf x).toNat)
        case atStart => exact ⟨0, by omega, rfl, by rw [dz_zero]; exact HZ.out, HB6.out⟩
        case round =>
          obtain ⟨j, hj, rfl, hz, hb⟩ := hrel
          have HZJ := Lib.hid hz
          have HBJ := Lib.hid hb
          have HBW := Lib.hid (HB.out.trans (hb.mono (by rw [← HG.out]; exact HB.out.size)))
          clear hz hb HZ HB6
          by_cases h1 : j < c
          · have hjl : (j : Int) < (c : Int) := by omega
            have d1 : wr.cell? ⟨g, j, none⟩ = some (.int .i64 (nth (dz a d c i j) j)) := by
              have := cell_of_row (j := j) _ _ _ _ _ (row_of_news HZJ.out (dz_len a d c i j))
              rw [this]
              simpa using nth_map (dz a d c i j) j (by rw [dz_len]; exact h1)
            have f1 := HZJ.out.frozen (dz_len a d c i j).symm j
            obtain ⟨wq, hwq⟩ : ∃ wq, wr.setCell ⟨g, j, none⟩ (.int .i64 1) = wq := ⟨_, rfl⟩
            have HS1 := Lib.hid (show NewInts g wq (.slice (some ⟨g, 0, none⟩) c c) ((dz a d c i j).set j 1) by
              rw [← hwq]; exact HZJ.out.stored (dz_len a d c i j).symm j 1 (by omega) (by rw [dz_len]; exact h1))
            have HBQ := Lib.hid (show Below g ws wq by rw [← hwq]; exact HBJ.out.setCell (Nat.le_refl _) _)
            have HWQ := Lib.hid hwq
            clear hwq
            have hne : b ≠ g ∨ True := .inr trivial
            go_upto_region 13 with (fail)
            rw [HWQ.out]
            have HBWQ := Lib.hid (HB.out.trans (HBQ.out.mono (by rw [← HG.out]; exact HB.out.size)))
            by_cases h2 : i < a.length ∧ j < (row a i).length
            · exact absurd h2.1 (by omega)
            · have HV := Lib.hid (show tdV a d i j = 1 from if_neg h2)
              have HSET := Lib.hid (dz_set a d (i := i) h1)
              have HS5 := Lib.hid (show NewInts g wq (.slice (some ⟨g, 0, none⟩) c c) (dz a d c i (j + 1)) by rw [← HSET.out, HV.out]; exact HS1.out)
              by_cases h3 : i < a.length
              · exact absurd h3 (by omega)
              · clear h2 d1 f1
                go_wp2
                go_roundw
                case rel => exact ⟨j + 1, by omega, by go_num, HS5.out, HBQ.out⟩
                case measure => simp [intOf]; omega
          · have hjc : j = c := by omega
            have HEND := Lib.hid (show dz a d c i j = tdR a d c i by rw [hjc]; exact dz_end a d c i)
            clear hjc
            have HXR := Lib.hid (show NewInts g wr (.slice (some ⟨g, 0, none⟩) c c) (tdR a d c i) by rw [← HEND.out]; exact HZJ.out)
            obtain ⟨vs, e1, e2, e3⟩ := (HN.out.below HBJ.out (by rw [HG.out]; exact Nat.le_refl _)).ex
            have HBC := Lib.hid (HB.out.trans (HBJ.out.mono (by rw [← HG.out]; exact HB.out.size)))
            have HX1 := Lib.hid ((HXR.out.mono (by rw [← HG.out]; exact HB.out.size)).below ((Below.refl _ wr).alloc (Nat.le_refl _) (.cells #[.slice (some ⟨g, 0, none⟩) c c] 34)) (Nat.le_refl _))
            have HE2 := Lib.hid (show ∀ j, j < XS.length → ∃ z, vs[j]? = some z ∧ NewInts w.heap.size (wr.alloc (.cells #[.slice (some ⟨g, 0, none⟩) c c] 34)) z (row XS j) from fun j hj => let ⟨z, q1, q2⟩ := e2 j hj; ⟨z, q1, q2.below ((Below.refl _ _).alloc (Nat.le_refl _) _) (Nat.le_refl _)⟩)
            have HE3 := Lib.hid e3
            have HE1 := Lib.hid (ownsRow_below e1 ((Below.refl _ wr).alloc (Nat.le_refl _) (.cells #[.slice (some ⟨g, 0, none⟩) c c] 34)) (Nat.le_refl _))
            clear e1 e2 e3
            go_wp2_with (first
              | (at_builtin; go_loud (refine wpList_append_own_at _ rfl _ _ 22 rfl w.heap.size 34 j0 (.slice none 0 0) 1 24 Try.underlying22 hj0 jz0 jz1 jz2 rfl (by decide) (.slice vo XS.length vc) XS.length vs rfl HE1.out ⟨wr.heap.size, 0, none⟩ 1 1 [.slice (some ⟨g, 0, none⟩) c c] rfl rfl (cell_one_new _ _ _) (by simp [oneCell_slice]) ?q2 ?q3 ?q4 ?_))
              | (fail))
            case q2 => have := HXL.out; unfold maxLen; omega
            case q3 => have := HXL.out; omega
            case q4 => have := HBC.out.size; simp; omega
            intro v' w12 hown hgrow _ _
            have HP := Lib.hid (NewRows.snoc HE1.out HE2.out HE3.out HX1.out rfl hown hgrow)
            have HBD := Lib.hid ((HBC.out.alloc HBC.out.size (.cells #[.slice (some ⟨g, 0, none⟩) c c] 34)).grown hgrow (by have := HBC.out.size; simp; omega) (fun r hr => (HE1.out.lt r hr).1))
            clear hown hgrow
            go_wp2
            go_roundw
            case rel => exact ⟨i + 1, by omega, by go_num, by rw [HSN.out]; exact HP.out, HBD.out⟩
            case measure => simp [intOf]; omega
      · have hik : i = k := by omega
        subst hik
        have HT := Lib.hid (show td a i d = (List.range i).map (tdR a d c) by rw [td, HC.out])
        go_wp2
        go_ret
        exact ⟨_, rfl, by rw [HT.out, HXS.out]; exact HN.out, HB.out⟩

end Go.Proofs.Ytjibdolhipddbaa
