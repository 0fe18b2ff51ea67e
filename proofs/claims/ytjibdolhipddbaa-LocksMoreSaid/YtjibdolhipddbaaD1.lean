/- Cuts: which lists are some, and the chambers that the program makes of them. -/
import Derived.Test.YtjibdolhipddbaaC4
namespace Go.Proofs.Ytjibdolhipddbaa
open Go.RowKit

/-- The lists are cuts for k keys with depths from 1 to d. -/
structure OkCuts (k : Nat) (P : List (List Int)) (d : Int) : Prop where
  keys : P.length = k
  pos : 1 ≤ (row P 0).length
  le : (row P 0).length ≤ 4
  len : ∀ i, i < k → (row P i).length = (row P 0).length
  dep : ∀ i, i < k → ∀ j, j < (row P i).length → 1 ≤ nth (row P i) j ∧ nth (row P i) j ≤ d
instance (k : Nat) (P : List (List Int)) (d : Int) : Decidable (OkCuts k P d) :=
  decidable_of_iff (P.length = k ∧ 1 ≤ (row P 0).length ∧ (row P 0).length ≤ 4 ∧ (∀ i, i < k → (row P i).length = (row P 0).length) ∧ (∀ i, i < k → ∀ j, j < (row P i).length → 1 ≤ nth (row P i) j ∧ nth (row P i) j ≤ d))
    ⟨fun ⟨a, b, c, d, e⟩ => ⟨a, b, c, d, e⟩, fun ⟨a, b, c, d, e⟩ => ⟨a, b, c, d, e⟩⟩

/-- The chambers of cuts. -/
def chs (P : List (List Int)) (k c : Nat) : List (List Int) := (List.range c).map fun n => (List.range 6).map fun q => if q < k then nth (row P q) n else 0
theorem chs_len (P : List (List Int)) (k c : Nat) : (chs P k c).length = c := by simp [chs]
theorem chs_nth (P : List (List Int)) (k c : Nat) {n q : Nat} (hn : n < c) (hq : q < 6) : nth (row (chs P k c) n) q = if q < k then nth (row P q) n else 0 := by
  simp [row, nth, chs, List.getD_eq_getElem?_getD, hn, hq]

/-- The cells of the chambers, where i keys are done, and n depths of the next one. -/
def chG (P : List (List Int)) (i n t : Nat) : Int := if t % 6 < i ∨ (t % 6 = i ∧ t / 6 < n) then nth (row P (t % 6)) (t / 6) else 0

set_option maxRecDepth 100000 in
theorem make_cols (wp : World) (N : Nat) (h1 : 1 ≤ N) (hN : N ≤ 4) : ∃ w', (Instr.makeSlice 67 (.int .i64 (N : Int)) (.int .i64 (N : Int))).run Try.prog wp = .ok (.slice (some ⟨wp.heap.size, 0, none⟩) N N) w' ∧
    w'.heap[wp.heap.size]? = some (.cells (ofN (N * 6) fun _ => .int .i64 0) 84 (0, 0)) ∧ Below wp.heap.size wp w' := by
  obtain ⟨j0, hj0, jz0, jz1, jz2⟩ := info_parts Try.info84
  obtain ⟨w6, hrun, hown, hg⟩ := run_make_full (P := Try.prog) wp wp.heap.size 67 84 j0 _ 6 Try.underlying67 hj0 jz0 jz1 .i64 .i64 N (by rw [jz2]; omega) (by unfold maxLen; omega) (Nat.le_refl _)
  have hm : (madeCells (Value.agg #[.int .i64 0, .int .i64 0, .int .i64 0, .int .i64 0, .int .i64 0, .int .i64 0]).cells (N * 6)).toList = List.replicate (N * 6) (.int .i64 0) := by
    obtain rfl | rfl | rfl | rfl : N = 1 ∨ N = 2 ∨ N = 3 ∨ N = 4 := by omega
    · kernel_rfl
    · kernel_rfl
    · kernel_rfl
    · kernel_rfl
  rw [hm] at hown
  refine ⟨w6, hrun, ?_, (Below.refl _ _).grown hg (Nat.le_refl _) (fun r hr => by cases hr)⟩
  rcases hown.2 with ⟨h1, -⟩ | ⟨g', cap, cur, h1, h2, h3, h4, h5, h6, h7⟩
  · cases h1
  · injection h1 with e1 e2 e3
    injection e1 with e1
    injection e1 with e1
    subst e1
    have : cur = ofN (N * 6) fun _ => .int .i64 0 := by
      rw [List.take_of_length_le (by simp [h6]; omega)] at h7
      unfold ofN
      rw [List.map_const', List.length_range, ← h7]
    rw [h3, this]

set_option maxHeartbeats 4000000 in
set_option maxRecDepth 100000 in
theorem toSystem_ok (a P : List (List Int)) (d : Int) (ao : Option Addr) (b o cap : Nat) (A : Nat → Option Addr) (B O C : Nat → Nat) (po : Option Addr) (pb pq pcap : Nat) (A' : Nat → Option Addr) (B' O' C' : Nat → Nat) (w : World)
    (H : RowsAt w ao b o a A B O C) (HP : RowsAt w po pb pq P A' B' O' C') (ha : IsPlan a) (hd : 1 ≤ d ∧ d ≤ 4) (hk : OkCuts a.length P d) :
    Calls Try.prog 41 #[.slice ao a.length cap, .slice po P.length pcap, .int .i64 d] w fun e w' =>
      ∃ cb ccap, e = .returned (.tuple #[planV a.length (row a 0).length (mt a), .slice (some ⟨cb, 0, none⟩) (row P 0).length ccap, .bool true]) ∧ ColsAt w' (some ⟨cb, 0, none⟩) cb 0 (chs P a.length (row P 0).length) ∧ Below w.heap.size w w' := by
  have hz := H.alloc (.cells #[.int .i64 0, .int .i64 0, .int .u64 0] 63)
  have HT := Lib.hid (toPlan_any a ao b o cap A B O C _ hz)
  rw [planR_yes (decide_eq_true ha)] at HT
  have hk6 := ha.le
  have hk1 := ha.pos
  obtain ⟨hk0, hc1, hc4, hlen, hdep⟩ := hk
  obtain ⟨k, hkk⟩ : ∃ k, a.length = k := ⟨_, rfl⟩
  obtain ⟨l, hl⟩ : ∃ l, (row a 0).length = l := ⟨_, rfl⟩
  obtain ⟨f, hf⟩ : ∃ f, mt a = f := ⟨_, rfl⟩
  obtain ⟨c, hcc⟩ : ∃ c, (row P 0).length = c := ⟨_, rfl⟩
  rw [hcc] at hc1 hc4 hlen ⊢
  rw [hkk] at hk6 hk1 hk0 hlen hdep ⊢
  rw [hkk, hl, hf] at HT
  rw [hl, hf]
  rw [hk0]
  have HD := Lib.hid (fun w => oneTo_any 4 d w)
  rw [show decide (1 ≤ d ∧ d ≤ 4) = true from decide_eq_true hd] at HD
  have HE := Lib.hid (fun w => oneTo_any 4 (c : Int) w)
  rw [show decide (1 ≤ (c : Int) ∧ (c : Int) ≤ 4) = true from decide_eq_true (by omega)] at HE
  have HPP := Lib.hid HP
  have HLEN := Lib.hid hlen
  have HDEP := Lib.hid hdep
  have HK0 := Lib.hid hk0
  have HCC := Lib.hid hcc
  have HB0 := Lib.hid ((Below.refl _ w).alloc (Nat.le_refl _) (.cells #[.int .i64 0, .int .i64 0, .int .u64 0] 63))
  have HR0 := Lib.hid (heap_alloc_new w (.cells #[.int .i64 0, .int .i64 0, .int .u64 0] 63))
  have hsz0 : (w.alloc (.cells #[.int .i64 0, .int .i64 0, .int .u64 0] 63)).heap.size = w.heap.size + 1 := by simp
  obtain ⟨wa, hwa⟩ : ∃ wa, w.alloc (.cells #[.int .i64 0, .int .i64 0, .int .u64 0] 63) = wa := ⟨_, rfl⟩
  rw [hwa] at HB0 HR0 HT hsz0
  have HWA := Lib.hid hwa
  have HS0 := Lib.hid hsz0
  clear hz hkk hl hf hcc H HP ha hd hlen hdep hk0 hwa hsz0
  go_enter Try.func41, Try.ntmps41
  go_wp2_with fail
  rw [HWA.out]
  refine HT.out.mono ?_
  rintro e w1 ⟨rfl, hb1⟩
  rw [planV]
  obtain ⟨zb, hzb⟩ : ∃ zb, w1.heap.size = zb := ⟨_, rfl⟩
  have HNEW := Lib.hid (show (w1.alloc (.cells #[.int .i64 0, .int .i64 0, .int .u64 0] 63)).heap[zb]? = some (.cells #[.int .i64 0, .int .i64 0, .int .u64 0] 63 (0, 0)) by rw [← hzb]; exact heap_alloc_new _ _)
  obtain ⟨wz, hwz⟩ : ∃ wz, (w1.alloc (.cells #[.int .i64 0, .int .i64 0, .int .u64 0] 63)).setRow zb (planC k l f) = wz := ⟨_, rfl⟩
  have hB1 := HB0.out.trans (hb1.mono HB0.out.size)
  have HB := Lib.hid (show Below w.heap.size w wz by rw [← hwz]; exact below_setRow (hB1.alloc hB1.size _) (by rw [← hzb]; exact hB1.size) _)
  have HPL := Lib.hid (show wz.heap[zb]? = some (.cells (planC k l f) 63 (0, 0)) by rw [← hwz]; exact setRow_heap _ zb _ _ _ _ HNEW.out)
  have hzw : w.heap.size < zb := by have := hb1.size; have := HS0.out; omega
  have HRW := Lib.hid (show wz.heap[w.heap.size]? = some (.cells #[.int .i64 0, .int .i64 0, .int .u64 0] 63 (0, 0)) by
    rw [← hwz, setRow_other _ _ _ _ (by omega), Below.heap_alloc _ _ _ (by omega), hb1.block _ (lt_of_block HR0.out)]; exact HR0.out)
  have HWZ := Lib.hid hwz
  have hp1 := HPP.out.below HB.out (Nat.le_refl _)
  have hpl : 0 < P.length := by have := HK0.out; omega
  obtain ⟨rfl, hpbw⟩ := hp1.ptr hpl
  obtain ⟨p0, p1, p2⟩ := cells_of3 HPL.out
  have r0 : wz.cell? ⟨pb, pq, none⟩ = some (.slice (A' 0) c (C' 0)) := by rw [← HCC.out]; exact hp1.cell 0 hpl
  have hk0' : ((0 : Nat) : Int) < (k : Int) := by omega
  have t1 : ((k : Int) != (k : Int)) = false := by simp
  clear hwz hb1 hB1 hp1 HT HB0 HR0
  go_wp2_with (first
    | (refine wpList_store_row rfl 63 (.tmp 9) (.tmp 19) rfl zb _ rfl rfl 63 _ HNEW.out (by kernel_rfl) rfl (by simp [Value.oneCell', planC, sv]) ?_; rw [HWZ.out])
    | (fail))
  clear hzb
  refine (HD.out _).mono ?_
  rintro e w2 ⟨rfl, rfl⟩
  go_wp2_with fail
  refine (HE.out _).mono ?_
  rintro e wz ⟨rfl, rfl⟩
  obtain ⟨w3, hrun, hch, hb3⟩ := make_cols wz c hc1 hc4
  obtain ⟨cb, hcb⟩ : ∃ cb, wz.heap.size = cb := ⟨_, rfl⟩
  rw [hcb] at hch hrun
  have HB3 := Lib.hid (HB.out.trans (hb3.mono HB.out.size))
  have HC3 := Lib.hid (show w3.heap[cb]? = some (.cells (ofN (c * 6) fun t => .int .i64 (chG P 0 0 t)) 84 (0, 0)) by
    rw [hch, ofN_congr fun t _ => ?_]
    unfold chG
    rw [if_neg (by omega)])
  have HPL3 := Lib.hid ((hb3.block _ (lt_of_block HPL.out)).trans HPL.out)
  have HRW3 := Lib.hid ((hb3.block _ (lt_of_block HRW.out)).trans HRW.out)
  have hcz : zb < cb := by rw [← hcb]; exact lt_of_block HPL.out
  have hwsz : w.heap.size ≤ wz.heap.size := HB.out.size
  clear hb3 hch p0 p1 p2 HNEW HB HPL HRW
  go_wp2
  clear hrun hcb r0
  go_loopw [12, 13, 14, 15, 51] (fun _ _ _ _ x wr => ∃ i : Nat, i ≤ k ∧ x = .int .i64 i ∧ Below w.heap.size w wr ∧ wr.heap[cb]? = some (.cells (ofN (c * 6) fun t => .int .i64 (chG P i 0 t)) 84 (0, 0)) ∧
    wr.heap[zb]? = some (.cells (planC k l f) 63 (0, 0)) ∧ wr.heap[w.heap.size]? = some (.cells #[.int .i64 0, .int .i64 0, .int .u64 0] 63 (0, 0))) (fun _ _ _ _ x _ => k - (intOf x).toNat)
  case atStart => exact ⟨0, by omega, rfl, HB3.out, HC3.out, HPL3.out, HRW3.out⟩
  case round =>
    obtain ⟨i, hi, rfl, hb, hch, hpl2, hrw⟩ := hrel
    have HB := Lib.hid hb
    have HCH := Lib.hid hch
    have HPL := Lib.hid hpl2
    have HRW := Lib.hid hrw
    clear hb hch hpl2 hrw HB3 HC3 HPL3 HRW3
    by_cases hlt : i < k
    · have hp' := HPP.out.below HB.out (Nat.le_refl _)
      have ck : wr.cell? ⟨pb, pq + i, none⟩ = some (.slice (A' i) c (C' i)) := by
        have := hp'.cell i (by rw [HK0.out]; exact hlt)
        rwa [HLEN.out i hlt] at this
      have HRI := Lib.hid (HPP.out.rows i (by rw [HK0.out]; exact hlt))
      have HDI := Lib.hid (HDEP.out i hlt)
      have HLI := Lib.hid (HLEN.out i hlt)
      have t2 : ((c : Int) != (c : Int)) = false := by simp
      clear hp'
      go_wp2
      clear ck
      go_loopw [14, 15, 64] (fun _ _ x wr => ∃ n : Nat, n ≤ c ∧ x = .int .i64 n ∧ Below w.heap.size w wr ∧ wr.heap[cb]? = some (.cells (ofN (c * 6) fun t => .int .i64 (chG P i n t)) 84 (0, 0)) ∧
        wr.heap[zb]? = some (.cells (planC k l f) 63 (0, 0)) ∧ wr.heap[w.heap.size]? = some (.cells #[.int .i64 0, .int .i64 0, .int .u64 0] 63 (0, 0))) (fun _ _ x _ => c - (intOf x).toNat)
      case atStart => exact ⟨0, by omega, rfl, HB.out, HCH.out, HPL.out, HRW.out⟩
      case round =>
        obtain ⟨n, hn, rfl, hb, hch, hpl2, hrw⟩ := hrel
        have HBN := Lib.hid hb
        have HCN := Lib.hid hch
        have HPN := Lib.hid hpl2
        have HRN := Lib.hid hrw
        clear hb hch hpl2 hrw HB HCH HPL HRW
        by_cases hln : n < c
        · have hri := HRI.out.below HBN.out (Nat.le_refl _)
          obtain ⟨hA, -⟩ := hri.ptr (by rw [HLI.out]; omega)
          have q0 := hri.cell n (by rw [HLI.out]; exact hln)
          have hx12 := HDI.out n (by rw [HLI.out]; exact hln)
          rw [hA]
          have HD2 := Lib.hid (fun w => oneTo_any d (nth (row P i) n) w)
          rw [show decide (1 ≤ nth (row P i) n ∧ nth (row P i) n ≤ d) = true from decide_eq_true hx12] at HD2
          obtain ⟨x, hx⟩ : ∃ x, nth (row P i) n = x := ⟨_, rfl⟩
          rw [hx] at q0 HD2
          have HX := Lib.hid hx
          clear hri hA hx hx12
          obtain ⟨d1, f1⟩ := cell_ofN HCN.out (show n * 6 + i < c * 6 by omega)
          have hi6 : (i : Int) < 6 := by omega
          have hnc : (n : Int) < (c : Int) := by omega
          obtain ⟨wq, hwq⟩ : ∃ wq, wr.setCell ⟨cb, n * 6 + i, none⟩ (.int .i64 x) = wq := ⟨_, rfl⟩
          have HCQ := Lib.hid (show wq.heap[cb]? = some (.cells (ofN (c * 6) fun t => .int .i64 (chG P i (n + 1) t)) 84 (0, 0)) by
            rw [← hwq, set_ofN HCN.out (show n * 6 + i < c * 6 by omega)]
            rw [ofN_congr fun t ht => ?_]
            by_cases e : t = n * 6 + i
            · rw [if_pos e]
              unfold chG
              rw [if_pos (by omega), show t % 6 = i by omega, show t / 6 = n by omega, HX.out]
            · rw [if_neg e]
              unfold chG
              by_cases e2 : t % 6 < i ∨ (t % 6 = i ∧ t / 6 < n)
              · rw [if_pos e2, if_pos (by omega)]
              · rw [if_neg e2, if_neg (by omega)])
          have HBQ := Lib.hid (show Below w.heap.size w wq by rw [← hwq]; exact HBN.out.setCell (by show w.heap.size ≤ cb; omega) _)
          have HPQ := Lib.hid (show wq.heap[zb]? = some (.cells (planC k l f) 63 (0, 0)) by rw [← hwq, heap_setCell_other _ _ _ _ (by show zb ≠ cb; omega)]; exact HPN.out)
          have HRQ := Lib.hid (show wq.heap[w.heap.size]? = some (.cells #[.int .i64 0, .int .i64 0, .int .u64 0] 63 (0, 0)) by rw [← hwq, heap_setCell_other _ _ _ _ (by show w.heap.size ≠ cb; omega)]; exact HRN.out)
          have HWQ := Lib.hid hwq
          clear hwq
          go_wp2_with fail
          refine (HD2.out _).mono ?_
          rintro e w4 ⟨rfl, rfl⟩
          go_wp2
          rw [HWQ.out]
          go_roundw
          case rel => exact ⟨n + 1, by omega, by go_num, HBQ.out, HCQ.out, HPQ.out, HRQ.out⟩
          case measure => simp [intOf]; omega
        · have hnc : n = c := by omega
          subst hnc
          have HCX := Lib.hid (show wr.heap[cb]? = some (.cells (ofN (n * 6) fun t => .int .i64 (chG P (i + 1) 0 t)) 84 (0, 0)) by
            rw [HCN.out, ofN_congr fun t ht => ?_]
            unfold chG
            by_cases e2 : t % 6 < i ∨ (t % 6 = i ∧ t / 6 < n)
            · rw [if_pos e2, if_pos (by omega)]
            · rw [if_neg e2, if_neg (by omega)])
          go_wp2
          go_roundw
          case rel => exact ⟨i + 1, by omega, by go_num, HBN.out, HCX.out, HPN.out, HRN.out⟩
          case measure => simp [intOf]; omega
    · have hik : i = k := by omega
      subst hik
      go_wp2_with (first
        | (refine wpList_load_row rfl 63 (.tmp 9) rfl zb rfl 63 _ _ _ HPL.out Try.underlying63 rfl (by kernel_rfl) ?_)
        | (refine wpList_store_row rfl 63 (.tmp 6) (.tmp 82) rfl w.heap.size _ rfl rfl 63 _ HRW.out (by kernel_rfl) rfl (by simp [Value.oneCell', planC, sv]) ?_)
        | (fail))
      refine bodyPost_ret (v := .tuple #[.agg (planC i l f), .slice (some ⟨cb, 0, none⟩) c c, .bool true]) ?_ rfl ⟨cb, c, rfl, ?_, below_setRow HB.out (by omega) _⟩
      · exact results_cell_row3 (ty := 63) (p := 6) (s := 7) (u := 8) rfl _ _ w.heap.size 63 (planC i l f) (0, 0) _ rfl (setRow_heap _ _ _ _ _ _ HRW.out) Try.underlying63 rfl (by kernel_rfl)
      · refine ⟨fun _ => ⟨rfl, by simpa [World.setRow] using lt_of_block HCH.out⟩, fun n hn j v hv => ?_, by rw [chs_len]; omega⟩
        rw [chs_len] at hn
        have hj : j < 6 := by have := (List.getElem?_eq_some_iff.1 hv).1; rwa [colL_len] at this
        rw [cell_setRow_other _ _ _ _ (by show cb ≠ w.heap.size; omega), Nat.zero_add, (cell_ofN HCH.out (show n * 6 + j < c * 6 by omega)).1]
        rw [show (colL (nth (row (chs P i c) n)))[j]? = some (.int .i64 (nth (row (chs P i c) n) j)) by simp [colL, hj], chs_nth _ _ _ hn hj] at hv
        rw [← hv]
        unfold chG
        by_cases e : j < i
        · rw [if_pos e, if_pos (by omega), show (n * 6 + j) % 6 = j by omega, show (n * 6 + j) / 6 = n by omega]
        · rw [if_neg e, if_neg (by omega)]

end Go.Proofs.Ytjibdolhipddbaa
