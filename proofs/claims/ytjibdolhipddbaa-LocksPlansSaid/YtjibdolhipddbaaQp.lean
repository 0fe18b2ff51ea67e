/- I1 I2 I3 -/
import Derived.Test.YtjibdolhipddbaaQi
import Derived.Test.YtjibdolhipddbaaQo
/- What is no system of locks. -/
namespace Go.Proofs.Ytjibdolhipddbaa
open Go.RowKit

set_option maxHeartbeats 4000000 in
set_option maxRecDepth 100000 in
theorem toSystem_noplan (a P : List (List Int)) (d : Int) (ao : Option Addr) (b o cap : Nat) (A : Nat → Option Addr) (B O C : Nat → Nat) (po : Option Addr) (pcap : Nat) (w : World)
    (H : RowsAt w ao b o a A B O C) (ha : isPlan a = false) :
    Calls Try.prog 41 #[.slice ao a.length cap, .slice po P.length pcap, .int .i64 d] w fun e w' => e = .returned (.tuple #[zeroP, .slice none 0 0, .bool false]) ∧ Below w.heap.size w w' := by
  have hz := H.alloc (.cells #[.int .i64 0, .int .i64 0, .int .u64 0] 63)
  have HT := Lib.hid (toPlan_any a ao b o cap A B O C _ hz)
  rw [planR_no ha] at HT
  have HB0 := Lib.hid ((Below.refl _ w).alloc (Nat.le_refl _) (.cells #[.int .i64 0, .int .i64 0, .int .u64 0] 63))
  have HR0 := Lib.hid (heap_alloc_new w (.cells #[.int .i64 0, .int .i64 0, .int .u64 0] 63))
  have hsz0 : (w.alloc (.cells #[.int .i64 0, .int .i64 0, .int .u64 0] 63)).heap.size = w.heap.size + 1 := by simp
  obtain ⟨wa, hwa⟩ : ∃ wa, w.alloc (.cells #[.int .i64 0, .int .i64 0, .int .u64 0] 63) = wa := ⟨_, rfl⟩
  rw [hwa] at HB0 HR0 HT hsz0
  have HWA := Lib.hid hwa
  have HS0 := Lib.hid hsz0
  clear hz H ha hwa hsz0
  go_enter Try.func41, Try.ntmps41
  go_wp2_with fail
  rw [HWA.out]
  refine HT.out.mono ?_
  rintro e w1 ⟨rfl, hb1⟩
  have HB1 := Lib.hid (HB0.out.trans (hb1.mono HB0.out.size))
  have HR1 := Lib.hid ((hb1.block _ (lt_of_block HR0.out)).trans HR0.out)
  clear hb1 HT
  obtain ⟨zb, hzb⟩ : ∃ zb, w1.heap.size = zb := ⟨_, rfl⟩
  have HNEW := Lib.hid (show (w1.alloc (.cells #[.int .i64 0, .int .i64 0, .int .u64 0] 63)).heap[zb]? = some (.cells #[.int .i64 0, .int .i64 0, .int .u64 0] 63 (0, 0)) by rw [← hzb]; exact heap_alloc_new _ _)
  obtain ⟨wz, hwz⟩ : ∃ wz, (w1.alloc (.cells #[.int .i64 0, .int .i64 0, .int .u64 0] 63)).setRow zb #[.int .i64 0, .int .i64 0, .int .u64 0] = wz := ⟨_, rfl⟩
  have hzw : w.heap.size < zb := by rw [← hzb]; exact lt_of_block HR1.out
  have HBZ := Lib.hid (show Below w.heap.size w wz by rw [← hwz]; exact below_setRow (HB1.out.alloc HB1.out.size _) (by omega) _)
  have HRZ := Lib.hid (show wz.heap[w.heap.size]? = some (.cells #[.int .i64 0, .int .i64 0, .int .u64 0] 63 (0, 0)) by
    rw [← hwz, setRow_other _ _ _ _ (by omega), Below.heap_alloc _ _ _ (by omega)]; exact HR1.out)
  have HWZ := Lib.hid hwz
  clear hwz
  rw [zeroP]
  go_wp2_with (first
    | (refine wpList_store_row rfl 63 (.tmp 9) (.tmp 19) rfl zb _ rfl rfl 63 _ HNEW.out (by kernel_rfl) rfl (by simp [Value.oneCell']) ?_; rw [HWZ.out])
    | (refine wpList_store_row rfl 63 (.tmp 6) (.tmp 43) rfl w.heap.size _ rfl rfl 63 _ HRZ.out (by kernel_rfl) rfl (by simp [Value.oneCell']) ?_)
    | (fail))
  refine bodyPost_ret (v := .tuple #[.agg #[.int .i64 0, .int .i64 0, .int .u64 0], .slice none 0 0, .bool false]) ?_ rfl ⟨rfl, below_setRow HBZ.out (Nat.le_refl _) _⟩
  exact results_cell_row3 (ty := 63) (p := 6) (s := 7) (u := 8) rfl _ _ w.heap.size 63 _ (0, 0) _ rfl (setRow_heap _ _ _ _ _ _ HRZ.out) Try.underlying63 rfl (by kernel_rfl)

end Go.Proofs.Ytjibdolhipddbaa

/- What is no cuts. -/
namespace Go.Proofs.Ytjibdolhipddbaa
open Go.RowKit

set_option maxHeartbeats 4000000 in
set_option maxRecDepth 100000 in
theorem toSystem_nocuts (a P : List (List Int)) (d : Int) (ao : Option Addr) (b o cap : Nat) (A : Nat → Option Addr) (B O C : Nat → Nat) (po : Option Addr) (pb pq pcap : Nat) (A' : Nat → Option Addr) (B' O' C' : Nat → Nat) (w : World)
    (H : RowsAt w ao b o a A B O C) (HP : RowsAt w po pb pq P A' B' O' C') (ha : IsPlan a) (hbad : ¬ ((1 ≤ d ∧ d ≤ 4) ∧ OkCuts a.length P d)) :
    Calls Try.prog 41 #[.slice ao a.length cap, .slice po P.length pcap, .int .i64 d] w fun e w' => e = .returned (.tuple #[zeroP, .slice none 0 0, .bool false]) ∧ Below w.heap.size w w' := by
  have hz := H.alloc (.cells #[.int .i64 0, .int .i64 0, .int .u64 0] 63)
  have HT := Lib.hid (toPlan_any a ao b o cap A B O C _ hz)
  rw [planR_yes (decide_eq_true ha)] at HT
  have hk6 := ha.le
  have hk1 := ha.pos
  obtain ⟨k, hkk⟩ : ∃ k, a.length = k := ⟨_, rfl⟩
  obtain ⟨l, hl⟩ : ∃ l, (row a 0).length = l := ⟨_, rfl⟩
  obtain ⟨f, hf⟩ : ∃ f, mt a = f := ⟨_, rfl⟩
  obtain ⟨c, hcc⟩ : ∃ c, (row P 0).length = c := ⟨_, rfl⟩
  rw [hkk] at hk6 hk1 hbad
  rw [hkk, hl, hf] at HT
  have HBAD := Lib.hid hbad
  have hd : (1 ≤ d ∧ d ≤ 4) ∨ ¬ (1 ≤ d ∧ d ≤ 4) := Classical.em _
  obtain ⟨np, hnp⟩ : ∃ np, P.length = np := ⟨_, rfl⟩
  rw [hnp]
  have HNP := Lib.hid hnp
  have HD := Lib.hid (fun w => oneTo_any 4 d w)
  obtain ⟨db, hdb⟩ : ∃ db, decide (1 ≤ d ∧ d ≤ 4) = db := ⟨_, rfl⟩
  rw [hdb] at HD
  have HDB := Lib.hid hdb
  have HPP := Lib.hid HP
  have HCC := Lib.hid hcc
  have HB0 := Lib.hid ((Below.refl _ w).alloc (Nat.le_refl _) (.cells #[.int .i64 0, .int .i64 0, .int .u64 0] 63))
  have HR0 := Lib.hid (heap_alloc_new w (.cells #[.int .i64 0, .int .i64 0, .int .u64 0] 63))
  have hsz0 : (w.alloc (.cells #[.int .i64 0, .int .i64 0, .int .u64 0] 63)).heap.size = w.heap.size + 1 := by simp
  obtain ⟨wa, hwa⟩ : ∃ wa, w.alloc (.cells #[.int .i64 0, .int .i64 0, .int .u64 0] 63) = wa := ⟨_, rfl⟩
  rw [hwa] at HB0 HR0 HT hsz0
  have HWA := Lib.hid hwa
  have HS0 := Lib.hid hsz0
  rw [hkk]
  clear hz hkk hl hf hcc H HP ha hd hwa hsz0 hbad hnp hdb
  go_enter Try.func41, Try.ntmps41
  go_wp2_with fail
  rw [HWA.out]
  refine HT.out.mono ?_
  rintro e w1 ⟨rfl, hb1⟩
  rw [planV]
  obtain ⟨zb, hzb⟩ : ∃ zb, w1.heap.size = zb := ⟨_, rfl⟩
  have HNEW := Lib.hid (show (w1.alloc (.cells #[.int .i64 0, .int .i64 0, .int .u64 0] 63)).heap[zb]? = some (.cells #[.int .i64 0, .int .i64 0, .int .u64 0] 63 (0, 0)) by rw [← hzb]; exact heap_alloc_new _ _)
  obtain ⟨wz, hwz⟩ : ∃ wz, (w1.alloc (.cells #[.int .i64 0, .int .i64 0, .int .u64 0] 63)).setRow zb (planC k l f) = wz := ⟨_, rfl⟩
  have hB1 := HB0.out.trans (hb1.mono HB0.out.size)
  have HB := Lib.hid (show Below w.heap.size w wz by rw [← hwz]; exact below_setRow (hB1.alloc hB1.size _) (by rw [← hzb]; exact hB1.size) _)
  have HPL := Lib.hid (show wz.heap[zb]? = some (.cells (planC k l f) 63 (0, 0)) by rw [← hwz]; exact setRow_heap _ zb _ _ _ _ HNEW.out)
  have hzw : w.heap.size < zb := by have := hb1.size; have := HS0.out; omega
  have HRW := Lib.hid (show wz.heap[w.heap.size]? = some (.cells #[.int .i64 0, .int .i64 0, .int .u64 0] 63 (0, 0)) by
    rw [← hwz, setRow_other _ _ _ _ (by omega), Below.heap_alloc _ _ _ (by omega), hb1.block _ (lt_of_block HR0.out)]; exact HR0.out)
  have HWZ := Lib.hid hwz
  obtain ⟨p0, p1, p2⟩ := cells_of3 HPL.out
  clear hwz hb1 hB1 HT HB0 HR0
  go_wp2_with (first
    | (refine wpList_store_row rfl 63 (.tmp 9) (.tmp 19) rfl zb _ rfl rfl 63 _ HNEW.out (by kernel_rfl) rfl (by simp [Value.oneCell', planC, sv]) ?_; rw [HWZ.out])
    | (fail))
  clear hzb
  refine (HD.out _).mono ?_
  rintro e w2 ⟨rfl, rfl⟩
  rcases Bool.eq_false_or_eq_true db with e1 | e1
  · by_cases e2 : np = k
    · have hd : 1 ≤ d ∧ d ≤ 4 := of_decide_eq_true (by rw [HDB.out]; exact e1)
      have HDD := Lib.hid hd
      have HK0 := Lib.hid (show P.length = k by rw [HNP.out]; exact e2)
      have hp1 := HPP.out.below HB.out (Nat.le_refl _)
      have hpl : 0 < P.length := by rw [HK0.out]; omega
      obtain ⟨rfl, hpbw⟩ := hp1.ptr hpl
      have r0 : w2.cell? ⟨pb, pq, none⟩ = some (.slice (A' 0) c (C' 0)) := by rw [← HCC.out]; exact hp1.cell 0 hpl
      have e3 : k = np := e2.symm
      subst e3
      have t1 : ((k : Int) != (k : Int)) = false := by simp
      have hk0' : ((0 : Nat) : Int) < (k : Int) := by omega
      have HE := Lib.hid (fun w => oneTo_any 4 (c : Int) w)
      obtain ⟨cq, hcq⟩ : ∃ x, decide (1 ≤ (c : Int) ∧ (c : Int) ≤ 4) = x := ⟨_, rfl⟩
      rw [hcq] at HE
      have HCQ0 := Lib.hid hcq
      rw [e1]
      clear e1 e2 hd hp1 hcq
      go_wp2_with fail
      refine (HE.out _).mono ?_
      rintro e wz ⟨rfl, rfl⟩
      rcases Bool.eq_false_or_eq_true cq with e1 | e1
      case inr =>
        rw [e1]
        clear e1
        go_wp2_with (first
          | (refine wpList_store_row rfl 63 (.tmp 6) (.tmp 43) rfl w.heap.size _ rfl rfl 63 _ HRW.out (by kernel_rfl) rfl (by simp [Value.oneCell']) ?_)
          | (fail))
        refine bodyPost_ret (v := .tuple #[.agg #[.int .i64 0, .int .i64 0, .int .u64 0], .slice none 0 0, .bool false]) ?_ rfl ⟨rfl, below_setRow HB.out (Nat.le_refl _) _⟩
        exact results_cell_row3 (ty := 63) (p := 6) (s := 7) (u := 8) rfl _ _ w.heap.size 63 _ (0, 0) _ rfl (setRow_heap _ _ _ _ _ _ HRW.out) Try.underlying63 rfl (by kernel_rfl)
      have hc14 : 1 ≤ c ∧ c ≤ 4 := by
        have : 1 ≤ (c : Int) ∧ (c : Int) ≤ 4 := of_decide_eq_true (by rw [HCQ0.out]; exact e1)
        omega
      obtain ⟨hc1, hc4⟩ := hc14
      have HC14 := Lib.hid (And.intro hc1 hc4)
      rw [e1]
      clear e1
      obtain ⟨w3, hrun, hch, hb3⟩ := make_cols wz c hc1 hc4
      obtain ⟨cb, hcb⟩ : ∃ cb, wz.heap.size = cb := ⟨_, rfl⟩
      rw [hcb] at hch hrun
      have HB3 := Lib.hid (HB.out.trans (hb3.mono HB.out.size))
      have HC3 := Lib.hid (show w3.heap[cb]? = some (.cells (ofN (c * 6) fun t => .int .i64 (chG P 0 0 t)) 84 (0, 0)) by
        rw [hch, ofN_congr fun t _ => ?_]
        unfold chG
        rw [if_neg (by omega)])
      have HPL3 := Lib.hid ((hb3.block _ (lt_of_block HPL.out)).trans HPL.out)
      have HRW3 := Lib.hid ((hb3.block _ (lt_of_block HRW.out)).trans HRW.out)
      have hcz : zb < cb := by rw [← hcb]; exact lt_of_block HPL.out
      have hwsz : w.heap.size ≤ wz.heap.size := HB.out.size
      clear hb3 hch p0 p1 p2 HNEW HB HPL HRW
      go_wp2
      clear hrun hcb r0
      go_loopw [12, 13, 14, 15, 51] (fun _ _ _ _ x wr => ∃ i : Nat, i ≤ k ∧ x = .int .i64 i ∧ (∀ q, q < i → (row P q).length = c ∧ ∀ j, j < (row P q).length → 1 ≤ nth (row P q) j ∧ nth (row P q) j ≤ d) ∧ Below w.heap.size w wr ∧ wr.heap[cb]? = some (.cells (ofN (c * 6) fun t => .int .i64 (chG P i 0 t)) 84 (0, 0)) ∧
        wr.heap[zb]? = some (.cells (planC k l f) 63 (0, 0)) ∧ wr.heap[w.heap.size]? = some (.cells #[.int .i64 0, .int .i64 0, .int .u64 0] 63 (0, 0))) (fun _ _ _ _ x _ => k - (intOf x).toNat)
      case atStart => exact ⟨0, by omega, rfl, fun q hq => absurd hq (by omega), HB3.out, HC3.out, HPL3.out, HRW3.out⟩
      case round =>
        obtain ⟨i, hi, rfl, hgd, hb, hch, hpl2, hrw⟩ := hrel
        have HGD := Lib.hid hgd
        clear hgd
        have HB := Lib.hid hb
        have HCH := Lib.hid hch
        have HPL := Lib.hid hpl2
        have HRW := Lib.hid hrw
        clear hb hch hpl2 hrw HB3 HC3 HPL3 HRW3
        by_cases hlt : i < k
        · have hp' := HPP.out.below HB.out (Nat.le_refl _)
          have ck := hp'.cell i (by rw [HK0.out]; exact hlt)
          have HRI := Lib.hid (HPP.out.rows i (by rw [HK0.out]; exact hlt))
          clear hp'
          by_cases elen : (row P i).length = c
          case neg =>
            obtain ⟨rl, hrl⟩ : ∃ rl, (row P i).length = rl := ⟨_, rfl⟩
            rw [hrl] at ck elen
            have t2 : ((rl : Int) != (c : Int)) = true := by simp; omega
            clear hrl elen HRI
            go_wp2_with (first
              | (refine wpList_store_row rfl 63 (.tmp 6) (.tmp 61) rfl w.heap.size _ rfl rfl 63 _ HRW.out (by kernel_rfl) rfl (by simp [Value.oneCell']) ?_)
              | (fail))
            refine bodyPost_ret (v := .tuple #[.agg #[.int .i64 0, .int .i64 0, .int .u64 0], .slice none 0 0, .bool false]) ?_ rfl ⟨rfl, below_setRow HB.out (Nat.le_refl _) _⟩
            exact results_cell_row3 (ty := 63) (p := 6) (s := 7) (u := 8) rfl _ _ w.heap.size 63 _ (0, 0) _ rfl (setRow_heap _ _ _ _ _ _ HRW.out) Try.underlying63 rfl (by kernel_rfl)
          rw [elen] at ck
          have HLI := Lib.hid elen
          clear elen
          have t2 : ((c : Int) != (c : Int)) = false := by simp
          go_wp2
          clear ck
          go_loopw [14, 15, 64] (fun _ _ x wr => ∃ n : Nat, n ≤ c ∧ x = .int .i64 n ∧ (∀ q, q < n → 1 ≤ nth (row P i) q ∧ nth (row P i) q ≤ d) ∧ Below w.heap.size w wr ∧ wr.heap[cb]? = some (.cells (ofN (c * 6) fun t => .int .i64 (chG P i n t)) 84 (0, 0)) ∧
            wr.heap[zb]? = some (.cells (planC k l f) 63 (0, 0)) ∧ wr.heap[w.heap.size]? = some (.cells #[.int .i64 0, .int .i64 0, .int .u64 0] 63 (0, 0))) (fun _ _ x _ => c - (intOf x).toNat)
          case atStart => exact ⟨0, by omega, rfl, fun q hq => absurd hq (by omega), HB.out, HCH.out, HPL.out, HRW.out⟩
          case round =>
            obtain ⟨n, hn, rfl, hgn, hb, hch, hpl2, hrw⟩ := hrel
            have HGN := Lib.hid hgn
            clear hgn
            have HBN := Lib.hid hb
            have HCN := Lib.hid hch
            have HPN := Lib.hid hpl2
            have HRN := Lib.hid hrw
            clear hb hch hpl2 hrw HB HCH HPL HRW
            by_cases hln : n < c
            · have hri := HRI.out.below HBN.out (Nat.le_refl _)
              obtain ⟨hA, -⟩ := hri.ptr (by rw [HLI.out]; omega)
              have q0 := hri.cell n (by rw [HLI.out]; exact hln)
              rw [hA]
              have HD2 := Lib.hid (fun w => oneTo_any d (nth (row P i) n) w)
              obtain ⟨bb, hbb⟩ : ∃ bb, decide (1 ≤ nth (row P i) n ∧ nth (row P i) n ≤ d) = bb := ⟨_, rfl⟩
              rw [hbb] at HD2
              have HBD := Lib.hid hbb
              obtain ⟨x, hx⟩ : ∃ x, nth (row P i) n = x := ⟨_, rfl⟩
              rw [hx] at q0 HD2
              have HX := Lib.hid hx
              clear hri hA hx hbb
              obtain ⟨d1, f1⟩ := cell_ofN HCN.out (show n * 6 + i < c * 6 by omega)
              have hi6 : (i : Int) < 6 := by omega
              have hnc : (n : Int) < (c : Int) := by omega
              obtain ⟨wq, hwq⟩ : ∃ wq, wr.setCell ⟨cb, n * 6 + i, none⟩ (.int .i64 x) = wq := ⟨_, rfl⟩
              have HCQ := Lib.hid (show wq.heap[cb]? = some (.cells (ofN (c * 6) fun t => .int .i64 (chG P i (n + 1) t)) 84 (0, 0)) by
                rw [← hwq, set_ofN HCN.out (show n * 6 + i < c * 6 by omega)]
                rw [ofN_congr fun t ht => ?_]
                by_cases e : t = n * 6 + i
                · rw [if_pos e]
                  unfold chG
                  rw [if_pos (by omega), show t % 6 = i by omega, show t / 6 = n by omega, HX.out]
                · rw [if_neg e]
                  unfold chG
                  by_cases e2 : t % 6 < i ∨ (t % 6 = i ∧ t / 6 < n)
                  · rw [if_pos e2, if_pos (by omega)]
                  · rw [if_neg e2, if_neg (by omega)])
              have HBQ := Lib.hid (show Below w.heap.size w wq by rw [← hwq]; exact HBN.out.setCell (by show w.heap.size ≤ cb; omega) _)
              have HPQ := Lib.hid (show wq.heap[zb]? = some (.cells (planC k l f) 63 (0, 0)) by rw [← hwq, heap_setCell_other _ _ _ _ (by show zb ≠ cb; omega)]; exact HPN.out)
              have HRQ := Lib.hid (show wq.heap[w.heap.size]? = some (.cells #[.int .i64 0, .int .i64 0, .int .u64 0] 63 (0, 0)) by rw [← hwq, heap_setCell_other _ _ _ _ (by show w.heap.size ≠ cb; omega)]; exact HRN.out)
              have HWQ := Lib.hid hwq
              clear hwq
              rcases Bool.eq_false_or_eq_true bb with e1 | e1
              case inr =>
                rw [e1] at HD2
                clear e1
                go_wp2_with fail
                refine (HD2.out _).mono ?_
                rintro e w4 ⟨rfl, rfl⟩
                go_wp2_with (first
                  | (refine wpList_store_row rfl 63 (.tmp 6) (.tmp 73) rfl w.heap.size _ rfl rfl 63 _ HRN.out (by kernel_rfl) rfl (by simp [Value.oneCell']) ?_)
                  | (fail))
                refine bodyPost_ret (v := .tuple #[.agg #[.int .i64 0, .int .i64 0, .int .u64 0], .slice none 0 0, .bool false]) ?_ rfl ⟨rfl, below_setRow HBN.out (Nat.le_refl _) _⟩
                exact results_cell_row3 (ty := 63) (p := 6) (s := 7) (u := 8) rfl _ _ w.heap.size 63 _ (0, 0) _ rfl (setRow_heap _ _ _ _ _ _ HRN.out) Try.underlying63 rfl (by kernel_rfl)
              have HOKN := Lib.hid (show 1 ≤ nth (row P i) n ∧ nth (row P i) n ≤ d from of_decide_eq_true (by rw [HBD.out]; exact e1))
              rw [e1] at HD2
              clear e1
              go_wp2_with fail
              refine (HD2.out _).mono ?_
              rintro e w4 ⟨rfl, rfl⟩
              go_wp2
              rw [HWQ.out]
              go_roundw
              case rel => exact ⟨n + 1, by omega, by go_num, fun q hq => by
                by_cases e : q = n
                · rw [e]; exact HOKN.out
                · exact HGN.out q (by omega), HBQ.out, HCQ.out, HPQ.out, HRQ.out⟩
              case measure => simp [intOf]; omega
            · have hnc : n = c := by omega
              subst hnc
              have HCX := Lib.hid (show wr.heap[cb]? = some (.cells (ofN (n * 6) fun t => .int .i64 (chG P (i + 1) 0 t)) 84 (0, 0)) by
                rw [HCN.out, ofN_congr fun t ht => ?_]
                unfold chG
                by_cases e2 : t % 6 < i ∨ (t % 6 = i ∧ t / 6 < n)
                · rw [if_pos e2, if_pos (by omega)]
                · rw [if_neg e2, if_neg (by omega)])
              go_wp2
              go_roundw
              case rel => exact ⟨i + 1, by omega, by go_num, fun q hq => by
                by_cases e : q = i
                · rw [e]; exact ⟨HLI.out, fun j hj => HGN.out j (by rw [HLI.out] at hj; exact hj)⟩
                · exact HGD.out q (by omega), HBN.out, HCX.out, HPN.out, HRN.out⟩
              case measure => simp [intOf]; omega
        · exact absurd (And.intro HDD.out (⟨HK0.out, by rw [HCC.out]; exact HC14.out.1, by rw [HCC.out]; exact HC14.out.2, fun q hq => by rw [HCC.out]; exact (HGD.out q (by omega)).1, fun q hq => (HGD.out q (by omega)).2⟩ : OkCuts k P d)) HBAD.out
    · have t1 : ((np : Int) != (k : Int)) = true := by simp; omega
      rw [e1]
      clear e1 e2
      go_wp2_with (first
        | (refine wpList_store_row rfl 63 (.tmp 6) (.tmp 43) rfl w.heap.size _ rfl rfl 63 _ HRW.out (by kernel_rfl) rfl (by simp [Value.oneCell']) ?_)
        | (fail))
      refine bodyPost_ret (v := .tuple #[.agg #[.int .i64 0, .int .i64 0, .int .u64 0], .slice none 0 0, .bool false]) ?_ rfl ⟨rfl, below_setRow HB.out (Nat.le_refl _) _⟩
      exact results_cell_row3 (ty := 63) (p := 6) (s := 7) (u := 8) rfl _ _ w.heap.size 63 _ (0, 0) _ rfl (setRow_heap _ _ _ _ _ _ HRW.out) Try.underlying63 rfl (by kernel_rfl)
  · rw [e1]
    clear e1
    go_wp2_with (first
      | (refine wpList_store_row rfl 63 (.tmp 6) (.tmp 43) rfl w.heap.size _ rfl rfl 63 _ HRW.out (by kernel_rfl) rfl (by simp [Value.oneCell']) ?_)
      | (fail))
    refine bodyPost_ret (v := .tuple #[.agg #[.int .i64 0, .int .i64 0, .int .u64 0], .slice none 0 0, .bool false]) ?_ rfl ⟨rfl, below_setRow HB.out (Nat.le_refl _) _⟩
    exact results_cell_row3 (ty := 63) (p := 6) (s := 7) (u := 8) rfl _ _ w.heap.size 63 _ (0, 0) _ rfl (setRow_heap _ _ _ _ _ _ HRW.out) Try.underlying63 rfl (by kernel_rfl)

end Go.Proofs.Ytjibdolhipddbaa

/- Check, Wrong and Strangers where there is no system. -/
namespace Go.Proofs.Ytjibdolhipddbaa
open Go.RowKit

/-- An access plan, and cuts for its keys. -/
def IsSys (a P : List (List Int)) (d : Int) : Prop := IsPlan a ∧ (1 ≤ d ∧ d ≤ 4) ∧ OkCuts a.length P d
theorem toSystem_bad (a P : List (List Int)) (d : Int) (ao : Option Addr) (b o cap : Nat) (A : Nat → Option Addr) (B O C : Nat → Nat) (po : Option Addr) (pb pq pcap : Nat) (A' : Nat → Option Addr) (B' O' C' : Nat → Nat) (w : World)
    (H : RowsAt w ao b o a A B O C) (HP : RowsAt w po pb pq P A' B' O' C') (hbad : ¬ IsSys a P d) :
    Calls Try.prog 41 #[.slice ao a.length cap, .slice po P.length pcap, .int .i64 d] w fun e w' => e = .returned (.tuple #[zeroP, .slice none 0 0, .bool false]) ∧ Below w.heap.size w w' := by
  by_cases ha : IsPlan a
  · exact toSystem_nocuts a P d ao b o cap A B O C po pb pq pcap A' B' O' C' w H HP ha fun h => hbad ⟨ha, h⟩
  · exact toSystem_noplan a P d ao b o cap A B O C po pcap w H (not_plan ha)

set_option maxHeartbeats 4000000 in
set_option maxRecDepth 100000 in
theorem check_bad (a P : List (List Int)) (d : Int) (ao : Option Addr) (b o cap : Nat) (A : Nat → Option Addr) (B O C : Nat → Nat) (po : Option Addr) (pb pq pcap : Nat) (A' : Nat → Option Addr) (B' O' C' : Nat → Nat) (w : World)
    (H : RowsAt w ao b o a A B O C) (HP : RowsAt w po pb pq P A' B' O' C') (hbad : ¬ IsSys a P d) :
    Calls Try.prog 19 #[.slice ao a.length cap, .slice po P.length pcap, .int .i64 d] w fun e w' => e = .returned (.int .i64 2) ∧ Below w.heap.size w w' := by
  have HT := Lib.hid (toSystem_bad a P d ao b o cap A B O C po pb pq pcap A' B' O' C' w H HP hbad)
  clear H HP hbad
  go_enter Try.func19, Try.ntmps19
  go_wp2_with fail
  refine HT.out.mono ?_
  rintro e w1 ⟨rfl, hb1⟩
  obtain ⟨wz, hwz⟩ : ∃ wz, (w1.alloc (.cells #[.int .i64 0, .int .i64 0, .int .u64 0] 63)).setRow w1.heap.size #[.int .i64 0, .int .i64 0, .int .u64 0] = wz := ⟨_, rfl⟩
  have HBZ := Lib.hid (show Below w.heap.size w wz by rw [← hwz]; exact below_setRow (hb1.alloc hb1.size _) hb1.size _)
  have HWZ := Lib.hid hwz
  clear hwz hb1 HT
  rw [zeroP]
  go_wp2_with (first
    | (refine wpList_store_row rfl 63 _ _ rfl w1.heap.size _ rfl rfl 63 _ (heap_alloc_new _ _) (by kernel_rfl) rfl (by simp [Value.oneCell']) ?_; rw [HWZ.out])
    | (fail))
  go_ret
  exact ⟨rfl, HBZ.out⟩

set_option maxHeartbeats 4000000 in
set_option maxRecDepth 100000 in
theorem wrong_bad (a P : List (List Int)) (d : Int) (ao : Option Addr) (b o cap : Nat) (A : Nat → Option Addr) (B O C : Nat → Nat) (po : Option Addr) (pb pq pcap : Nat) (A' : Nat → Option Addr) (B' O' C' : Nat → Nat) (w : World)
    (H : RowsAt w ao b o a A B O C) (HP : RowsAt w po pb pq P A' B' O' C') (hbad : ¬ IsSys a P d) :
    Calls Try.prog 20 #[.slice ao a.length cap, .slice po P.length pcap, .int .i64 d] w fun e w' => e = .returned (.tuple #[.slice none 0 0, .int .i64 2]) ∧ Below w.heap.size w w' := by
  have HT := Lib.hid (toSystem_bad a P d ao b o cap A B O C po pb pq pcap A' B' O' C' w H HP hbad)
  clear H HP hbad
  go_enter Try.func20, Try.ntmps20
  go_wp2_with fail
  refine HT.out.mono ?_
  rintro e w1 ⟨rfl, hb1⟩
  obtain ⟨wz, hwz⟩ : ∃ wz, (w1.alloc (.cells #[.int .i64 0, .int .i64 0, .int .u64 0] 63)).setRow w1.heap.size #[.int .i64 0, .int .i64 0, .int .u64 0] = wz := ⟨_, rfl⟩
  have HBZ := Lib.hid (show Below w.heap.size w wz by rw [← hwz]; exact below_setRow (hb1.alloc hb1.size _) hb1.size _)
  have HWZ := Lib.hid hwz
  clear hwz hb1 HT
  rw [zeroP]
  go_wp2_with (first
    | (refine wpList_store_row rfl 63 _ _ rfl w1.heap.size _ rfl rfl 63 _ (heap_alloc_new _ _) (by kernel_rfl) rfl (by simp [Value.oneCell']) ?_; rw [HWZ.out])
    | (fail))
  go_ret2
  exact ⟨rfl, HBZ.out⟩

set_option maxHeartbeats 4000000 in
set_option maxRecDepth 100000 in
theorem strangers_bad (a P : List (List Int)) (d j : Int) (ao : Option Addr) (b o cap : Nat) (A : Nat → Option Addr) (B O C : Nat → Nat) (po : Option Addr) (pb pq pcap : Nat) (A' : Nat → Option Addr) (B' O' C' : Nat → Nat) (w : World)
    (H : RowsAt w ao b o a A B O C) (HP : RowsAt w po pb pq P A' B' O' C') (hbad : ¬ IsSys a P d) :
    Calls Try.prog 21 #[.slice ao a.length cap, .slice po P.length pcap, .int .i64 d, .int .i64 j] w fun e w' => e = .returned (.tuple #[.int .i64 0, .int .i64 2]) ∧ Below w.heap.size w w' := by
  have HT := Lib.hid (toSystem_bad a P d ao b o cap A B O C po pb pq pcap A' B' O' C' w H HP hbad)
  clear H HP hbad
  go_enter Try.func21, Try.ntmps21
  go_wp2_with fail
  refine HT.out.mono ?_
  rintro e w1 ⟨rfl, hb1⟩
  obtain ⟨wz, hwz⟩ : ∃ wz, (w1.alloc (.cells #[.int .i64 0, .int .i64 0, .int .u64 0] 63)).setRow w1.heap.size #[.int .i64 0, .int .i64 0, .int .u64 0] = wz := ⟨_, rfl⟩
  have HBZ := Lib.hid (show Below w.heap.size w wz by rw [← hwz]; exact below_setRow (hb1.alloc hb1.size _) hb1.size _)
  have HWZ := Lib.hid hwz
  clear hwz hb1 HT
  rw [zeroP]
  go_wp2_with (first
    | (refine wpList_store_row rfl 63 _ _ rfl w1.heap.size _ rfl rfl 63 _ (heap_alloc_new _ _) (by kernel_rfl) rfl (by simp [Value.oneCell']) ?_; rw [HWZ.out])
    | (fail))
  go_ret2
  exact ⟨rfl, HBZ.out⟩

end Go.Proofs.Ytjibdolhipddbaa
