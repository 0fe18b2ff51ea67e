/- The reference's blocks. -/
import Derived.Test.YtjibdolhipddbaaT2
namespace Go.Proofs.Ytjibdolhipddbaa
open Go.RowKit Go.Maps

def onesR (y : List Int) : List (List Int) := y.map fun x => [x]
theorem onesR_len (y : List Int) : (onesR y).length = y.length := by simp [onesR]
theorem onesR_row {y : List Int} {i : Nat} (h : i < y.length) : row (onesR y) i = [nth y i] := by
  simp [onesR, row, nth, List.getD_eq_getElem?_getD, h]
theorem onesR_succ {y : List Int} {i : Nat} (h : i < y.length) : onesR (y.take (i + 1)) = onesR (y.take i) ++ [[nth y i]] := by
  unfold onesR
  rw [List.take_succ_eq_append_getElem h, List.map_append]
  simp [nth, List.getD_eq_getElem?_getD, h]
theorem blF_at {a : List (List Int)} (ha : IsPlan a) {y : List Int} (hy : y.length = a.length) {i j : Nat} (hi : i < a.length) (hj : j < (row a 0).length) :
    blF a y (6 * i + j) = (decide (nth (row a i) j = 0) && !decide (PinR a (onesR y) j 0 (nth y i))) := by
  have hl := ha.le0
  unfold blF
  rw [glF_at ha hi hj]
  congr 1
  have h1 := stF_at (k := a.length) (l := (row a 0).length) (f := mt a) (c := nth y) hi hj hl
  rw [Bool.eq_iff_iff, h1, Bool.not_eq_true', decide_eq_false_iff_not]
  constructor
  · rintro h ⟨o, ho, k1, k2⟩
    rw [onesR_row (by omega)] at k2
    exact h o ho (by rw [mt_at _ _ _ (by omega), decide_eq_true k1]) k2
  · intro h o ho hm e
    rw [mt_at _ _ _ (by omega)] at hm
    exact h ⟨o, ho, of_decide_eq_true hm, by rw [onesR_row (by omega)]; exact e⟩

set_option maxHeartbeats 4000000 in
set_option maxRecDepth 100000 in
theorem blocks_any (a : List (List Int)) (y : List Int) (ao : Option Addr) (b o cap : Nat) (A : Nat → Option Addr) (B O C : Nat → Nat) (ko : Option Addr) (kb kq kc : Nat) (w : World) (H : RowsAt w ao b o a A B O C) (HY : IntsAt w ko kb kq y) (ha : IsPlan a) (hy : y.length = a.length) :
    Calls Try.prog 54 #[.slice ao a.length cap, .slice ko a.length kc] w fun e w' => e = .returned (.int .i64 (blN a y : Nat)) ∧ Below w.heap.size w w' := by
  have hk6 := ha.le
  have hk1 := ha.pos
  have hl6 := ha.le0
  have hl1 := ha.pos0
  obtain ⟨j0, hj0, jz0, jz1, jz2⟩ := info_parts Try.info34
  have HG := Lib.hid (fun i j (hi : i < a.length) (hj : j < (row a 0).length) => blF_at ha hy hi hj)
  have HLE := Lib.hid (show ∀ i, i < a.length → (row a i).length = (row a 0).length from ha.len)
  have HPL := Lib.hid ha
  obtain ⟨l, hl⟩ : ∃ l, (row a 0).length = l := ⟨_, rfl⟩
  have HSD := Lib.hid (fun i t (h1 : 6 * i + (row a 0).length ≤ t) (h2 : t < 6 * (i + 1)) => blF_none (y := y) (glF_side (a := a) h1 h2))
  have HED := Lib.hid (show bitsTo (blF a y) (6 * a.length) = blN a y from (bitsTo_none 36 (by omega) fun t h1 _ => blF_none (glF_end h1)).symm)
  rw [hl] at HG HLE HSD hl6 hl1
  have HA := Lib.hid H
  have HYA := Lib.hid HY
  obtain ⟨rfl, -⟩ := H.ptr (by omega)
  obtain ⟨rfl, -⟩ := HY.ptr (by omega)
  have HYL := Lib.hid hy
  clear H HY ha hl hy
  go_enter Try.func54, Try.ntmps54
  go_wp2
  go_loopw [5, 6] (fun v x wr => ∃ i : Nat, i ≤ a.length ∧ x = .int .i64 i ∧ NewRows w.heap.size wr v (onesR (y.take i)) ∧ Below w.heap.size w wr) (fun _ x _ => a.length - (intOf x).toNat)
  case atStart => exact ⟨0, by omega, rfl, NewRows.nil _ _, Below.refl _ _⟩
  case round =>
    obtain ⟨i, hi, rfl, hn, hb⟩ := hrel
    obtain ⟨wq, rfl⟩ : ∃ wq, wq = wr := ⟨_, rfl⟩
    have HN := Lib.hid hn
    have HB := Lib.hid hb
    have HTL := Lib.hid (show (onesR (y.take i)).length = i by rw [onesR_len, List.length_take, HYL.out]; omega)
    clear hn hb
    by_cases hlt : i < a.length
    · have HSU := Lib.hid (onesR_succ (y := y) (i := i) (by rw [HYL.out]; exact hlt))
      have y0 := (HYA.out.below HB.out (Nat.le_refl _)).cell i (by rw [HYL.out]; exact hlt)
      have hwf := HYA.out.wf i
      obtain ⟨x, hx⟩ : ∃ x, nth y i = x := ⟨_, rfl⟩
      rw [hx] at y0 hwf HSU
      have h1 := (Below.refl _ wq).alloc (Nat.le_refl _) (.cells #[.int .i64 x] 3)
      have hni : NewInts wq.heap.size (wq.alloc (.cells #[.int .i64 x] 3)) (.slice (some ⟨wq.heap.size, 0, none⟩) 1 1) [x] := by
        refine ⟨⟨rfl, .inr ⟨wq.heap.size, 1, #[.int .i64 x], rfl, Nat.le_refl _, heap_alloc_new _ _, Nat.le_refl _, by unfold maxLen; omega, rfl, rfl⟩⟩, fun q => ?_, by simp⟩
        by_cases e : q = 0
        · subst e; exact hwf
        · rw [nth_out (by simp; omega)]; omega
      have h2 := (Below.refl _ (wq.alloc (.cells #[.int .i64 x] 3))).alloc (Nat.le_refl _) (.cells #[.slice (some ⟨wq.heap.size, 0, none⟩) 1 1] 34)
      obtain ⟨ws, e1, e2, e3⟩ := ((HN.out.below h1 (Nat.le_refl _)).below h2 (Nat.le_refl _)).ex
      have HNI := Lib.hid ((hni.mono HB.out.size).below h2 (Nat.le_refl _))
      have HE1 := Lib.hid e1
      have HE2 := Lib.hid e2
      have HE3 := Lib.hid e3
      have HB2 := Lib.hid ((HB.out.alloc HB.out.size (.cells #[.int .i64 x] 3)).alloc (by have := HB.out.size; simp; omega) (.cells #[.slice (some ⟨wq.heap.size, 0, none⟩) 1 1] 34))
      have HNC := Lib.hid (show ∀ (t : Nat) (u : Value), [Value.slice (some ⟨wq.heap.size, 0, none⟩) 1 1][t]? = some u → ((wq.alloc (.cells #[.int .i64 x] 3)).alloc (.cells #[.slice (some ⟨wq.heap.size, 0, none⟩) 1 1] 34)).cell? ((⟨wq.heap.size + 1, 0, none⟩ : Addr).add t) = some u from fun t u ht => by
        have := cell_one_new (wq.alloc (.cells #[.int .i64 x] 3)) (.slice (some ⟨wq.heap.size, 0, none⟩) 1 1) 34 t u ht
        simpa using this)
      clear hx hni h1 h2 e1 e2 e3 hwf
      go_wp2_with (first
        | (at_builtin; refine wpList_append_own _ rfl (.tmp 16) (.tmp 22) 22 rfl w.heap.size 34 j0 (.slice none 0 0) 1 24 Try.underlying22 hj0 jz0 jz1 jz2 rfl (by decide) _ (onesR (y.take i)).length ws rfl HE1.out ⟨wq.heap.size + 1, 0, none⟩ 1 1 [.slice (some ⟨wq.heap.size, 0, none⟩) 1 1] rfl rfl HNC.out (by simp [oneCell_slice]) ?s2 ?s3 ?s4 ?_)
        | (fail))
      case s2 => have := HTL.out; unfold maxLen; omega
      case s3 => have := HTL.out; omega
      case s4 => exact HB2.out.size
      intro v9 w9 hown hg _
      have HN9 := Lib.hid (NewRows.snoc HE1.out HE2.out HE3.out HNI.out rfl hown hg)
      have HB9 := Lib.hid (HB2.out.grown hg HB2.out.size (fun r hr => (HE1.out.lt r hr).1))
      clear hown hg HE1 HE2 HE3 HNI HB2
      go_wp2
      go_roundw
      case rel => exact ⟨i + 1, by omega, by go_num, by rw [HSU.out]; exact HN9.out, HB9.out⟩
      case measure => simp [intOf]; omega
    · have hia : i = a.length := by omega
      subst hia
      have htk : y.take a.length = y := List.take_of_length_le (by rw [HYL.out]; exact Nat.le_refl _)
      rw [htk] at HN HTL
      obtain ⟨po, pb, pc, PA, PB, PO, PC, rfl, hpat⟩ := HN.out.at (by rw [HTL.out]; omega)
      have HPT := Lib.hid hpat
      have HPIN := Lib.hid (show ∀ j (v : Int) W, Below wq.heap.size wq W → j < l → Calls Try.prog 45 #[.slice (some ⟨b, o, none⟩) a.length cap, .slice po (onesR y).length pc, .int .i64 j, .int .i64 0, .int .i64 v] W fun e w' => e = .returned (.bool (decide (PinR a (onesR y) j 0 v))) ∧ ∃ m, w' = W.drewN m from
        fun j v W hW hj => refPin_any a (onesR y) j 0 v _ b o cap A B O C po pb 0 pc PA PB PO PC W ((HA.out.below HB.out (Nat.le_refl _)).below hW (Nat.le_refl _)) (HPT.out.below hW (Nat.le_refl _)) hk6 (by omega) (by omega) (fun i hi => by rw [HLE.out i hi]; exact hj) HTL.out (fun i hi => by rw [onesR_row (by rw [HYL.out]; exact hi)]; simp))
      rw [HTL.out] at HPIN ⊢
      clear hpat htk HN HPT
      go_wp2
      go_loopw [7, 8, 9] (fun v x _ wr => ∃ i : Nat, i ≤ a.length ∧ x = .int .i64 i ∧ v = .int .i64 (bitsTo (blF a y) (6 * i) : Nat) ∧ Below wq.heap.size wq wr) (fun _ x _ _ => a.length - (intOf x).toNat)
      case atStart => exact ⟨0, by omega, rfl, rfl, Below.refl _ _⟩
      case round =>
        obtain ⟨i, hi, rfl, rfl, hb⟩ := hrel
        have HBR := Lib.hid hb
        clear hb
        by_cases hlt : i < a.length
        · have hat := HA.out.below (HB.out.trans (HBR.out.mono HB.out.size)) (Nat.le_refl _)
          have ci := hat.cell i hlt
          have hAi := ((hat.rows i hlt).ptr (by rw [HLE.out i hlt]; omega)).1
          rw [HLE.out i hlt, hAi] at ci
          clear hat
          go_wp2
          go_loopw [7, 9] (fun v x wx => ∃ j : Nat, j ≤ l ∧ x = .int .i64 j ∧ v = .int .i64 (bitsTo (blF a y) (6 * i + j) : Nat) ∧ Below wq.heap.size wq wx) (fun _ x _ => l - (intOf x).toNat)
          case atStart => exact ⟨0, by omega, rfl, rfl, HBR.out⟩
          case round =>
            clear ci HBR
            obtain ⟨j, hj, rfl, rfl, hb⟩ := hrel
            have HBR := Lib.hid hb
            clear hb
            have hat := HA.out.below (HB.out.trans (HBR.out.mono HB.out.size)) (Nat.le_refl _)
            have ci := hat.cell i hlt
            rw [HLE.out i hlt, hAi] at ci
            by_cases hjl : j < l
            · have x0 := (hat.rows i hlt).cell j (by rw [HLE.out i hlt]; exact hjl)
              have y0 := (HYA.out.below (HB.out.trans (HBR.out.mono HB.out.size)) (Nat.le_refl _)).cell i (by rw [HYL.out]; exact hlt)
              have hg := HG.out i j hlt hjl
              have hbs := bitsTo_small (blF a y) (show 6 * i + j ≤ 36 by omega)
              obtain ⟨x, hx⟩ : ∃ x, nth (row a i) j = x := ⟨_, rfl⟩
              obtain ⟨z, hz⟩ : ∃ z, nth y i = z := ⟨_, rfl⟩
              rw [hx, hz] at hg
              rw [hx] at x0
              rw [hz] at y0
              obtain ⟨g, hgv⟩ : ∃ g, bitsTo (blF a y) (6 * i + j) = g := ⟨_, rfl⟩
              have HGV := Lib.hid hgv
              rw [hgv] at hbs ⊢
              have hji : (j : Int) < (l : Int) := by omega
              have HPC := Lib.hid (HPIN.out j z _ HBR.out hjl)
              clear hx hz hgv hat
              by_cases e0 : x = 0
              · have t0 : (x == 0) = true := beq_iff_eq.2 e0
                go_wp2_with fail
                refine HPC.out.mono ?_
                rintro e w9 ⟨rfl, m9, rfl⟩
                have HB9 := Lib.hid (below_drewN HBR.out m9)
                by_cases hp : PinR a (onesR y) j 0 z
                · have hd := decide_eq_true hp
                  rw [hd] at hg ⊢
                  have HE := Lib.hid (show bitsTo (blF a y) (6 * i + j + 1) = g by rw [bitsTo_no (by rw [hg]; simp), HGV.out])
                  clear hg hp hd
                  go_wp2
                  go_roundw
                  case rel => exact ⟨j + 1, by omega, by go_num, by rw [← Nat.add_assoc, HE.out], HB9.out⟩
                  case measure => simp [intOf]; omega
                · have hd := decide_eq_false hp
                  rw [hd] at hg ⊢
                  have HE := Lib.hid (show bitsTo (blF a y) (6 * i + j + 1) = g + 2 ^ (6 * i + j) by rw [bitsTo_yes (by rw [hg, decide_eq_true e0]; rfl), HGV.out])
                  have HV := Lib.hid (add_bit (by omega) HE.out hbs)
                  clear hg hp hd
                  go_wp2
                  go_roundw
                  case rel => exact ⟨j + 1, by omega, by go_num, by rw [← Nat.add_assoc, HV.out], HB9.out⟩
                  case measure => simp [intOf]; omega
              · have t0 : (x == 0) = false := beq_eq_false_iff_ne.2 e0
                have HE := Lib.hid (show bitsTo (blF a y) (6 * i + j + 1) = g by rw [bitsTo_no (by rw [hg, decide_eq_false e0]; rfl), HGV.out])
                clear hg e0
                go_wp2
                go_roundw
                case rel => exact ⟨j + 1, by omega, by go_num, by rw [← Nat.add_assoc, HE.out], HBR.out⟩
                case measure => simp [intOf]; omega
            · have hjl : j = l := by omega
              subst hjl
              have HE := Lib.hid (show bitsTo (blF a y) (6 * (i + 1)) = bitsTo (blF a y) (6 * i + j) from bitsTo_none _ (by omega) fun t h1 h2 => HSD.out i t h1 h2)
              clear hat
              go_wp2
              go_roundw
              case rel => exact ⟨i + 1, by omega, by go_num, by rw [HE.out], HBR.out⟩
              case measure => simp [intOf]; omega
        · have hia : i = a.length := by omega
          subst hia
          have HF := Lib.hid (HB.out.trans (HBR.out.mono HB.out.size))
          rw [HED.out]
          go_wp2
          go_ret
          exact ⟨rfl, HF.out⟩

end Go.Proofs.Ytjibdolhipddbaa
