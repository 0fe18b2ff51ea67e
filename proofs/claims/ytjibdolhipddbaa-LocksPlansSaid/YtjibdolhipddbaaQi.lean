/- D1 D2 D3 -/
import Derived.Test.YtjibdolhipddbaaQh
/- Cuts: which lists are some, and the chambers that the program makes of them. -/
namespace Go.Proofs.Ytjibdolhipddbaa
open Go.RowKit

/-- The lists are cuts for k keys with depths from 1 to d. -/
structure OkCuts (k : Nat) (P : List (List Int)) (d : Int) : Prop where
  keys : P.length = k
  pos : 1 ≤ (row P 0).length
  le : (row P 0).length ≤ 4
  len : ∀ i, i < k → (row P i).length = (row P 0).length
  dep : ∀ i, i < k → ∀ j, j < (row P i).length → 1 ≤ nth (row P i) j ∧ nth (row P i) j ≤ d
instance (k : Nat) (P : List (List Int)) (d : Int) : Decidable (OkCuts k P d) :=
  decidable_of_iff (P.length = k ∧ 1 ≤ (row P 0).length ∧ (row P 0).length ≤ 4 ∧ (∀ i, i < k → (row P i).length = (row P 0).length) ∧ (∀ i, i < k → ∀ j, j < (row P i).length → 1 ≤ nth (row P i) j ∧ nth (row P i) j ≤ d))
    ⟨fun ⟨a, b, c, d, e⟩ => ⟨a, b, c, d, e⟩, fun ⟨a, b, c, d, e⟩ => ⟨a, b, c, d, e⟩⟩

/-- The chambers of cuts. -/
def chs (P : List (List Int)) (k c : Nat) : List (List Int) := (List.range c).map fun n => (List.range 6).map fun q => if q < k then nth (row P q) n else 0
theorem chs_len (P : List (List Int)) (k c : Nat) : (chs P k c).length = c := by simp [chs]
theorem chs_nth (P : List (List Int)) (k c : Nat) {n q : Nat} (hn : n < c) (hq : q < 6) : nth (row (chs P k c) n) q = if q < k then nth (row P q) n else 0 := by
  simp [row, nth, chs, List.getD_eq_getElem?_getD, hn, hq]

/-- The cells of the chambers, where i keys are done, and n depths of the next one. -/
def chG (P : List (List Int)) (i n t : Nat) : Int := if t % 6 < i ∨ (t % 6 = i ∧ t / 6 < n) then nth (row P (t % 6)) (t / 6) else 0

set_option maxRecDepth 100000 in
theorem make_cols (wp : World) (N : Nat) (h1 : 1 ≤ N) (hN : N ≤ 4) : ∃ w', (Instr.makeSlice 67 (.int .i64 (N : Int)) (.int .i64 (N : Int))).run Try.prog wp = .ok (.slice (some ⟨wp.heap.size, 0, none⟩) N N) w' ∧
    w'.heap[wp.heap.size]? = some (.cells (ofN (N * 6) fun _ => .int .i64 0) 84 (0, 0)) ∧ Below wp.heap.size wp w' := by
  obtain ⟨j0, hj0, jz0, jz1, jz2⟩ := info_parts Try.info84
  obtain ⟨w6, hrun, hown, hg⟩ := run_make_full (P := Try.prog) wp wp.heap.size 67 84 j0 _ 6 Try.underlying67 hj0 jz0 jz1 .i64 .i64 N (by rw [jz2]; omega) (by unfold maxLen; omega) (Nat.le_refl _)
  have hm : (madeCells (Value.agg #[.int .i64 0, .int .i64 0, .int .i64 0, .int .i64 0, .int .i64 0, .int .i64 0]).cells (N * 6)).toList = List.replicate (N * 6) (.int .i64 0) := by
    obtain rfl | rfl | rfl | rfl : N = 1 ∨ N = 2 ∨ N = 3 ∨ N = 4 := by omega
    · kernel_rfl
    · kernel_rfl
    · kernel_rfl
    · kernel_rfl
  rw [hm] at hown
  refine ⟨w6, hrun, ?_, (Below.refl _ _).grown hg (Nat.le_refl _) (fun r hr => by cases hr)⟩
  rcases hown.2 with ⟨h1, -⟩ | ⟨g', cap, cur, h1, h2, h3, h4, h5, h6, h7⟩
  · cases h1
  · injection h1 with e1 e2 e3
    injection e1 with e1
    injection e1 with e1
    subst e1
    have : cur = ofN (N * 6) fun _ => .int .i64 0 := by
      rw [List.take_of_length_le (by simp [h6]; omega)] at h7
      unfold ofN
      rw [List.map_const', List.length_range, ← h7]
    rw [h3, this]

set_option maxHeartbeats 4000000 in
set_option maxRecDepth 100000 in
theorem toSystem_ok (a P : List (List Int)) (d : Int) (ao : Option Addr) (b o cap : Nat) (A : Nat → Option Addr) (B O C : Nat → Nat) (po : Option Addr) (pb pq pcap : Nat) (A' : Nat → Option Addr) (B' O' C' : Nat → Nat) (w : World)
    (H : RowsAt w ao b o a A B O C) (HP : RowsAt w po pb pq P A' B' O' C') (ha : IsPlan a) (hd : 1 ≤ d ∧ d ≤ 4) (hk : OkCuts a.length P d) :
    Calls Try.prog 41 #[.slice ao a.length cap, .slice po P.length pcap, .int .i64 d] w fun e w' =>
      ∃ cb ccap, e = .returned (.tuple #[planV a.length (row a 0).length (mt a), .slice (some ⟨cb, 0, none⟩) (row P 0).length ccap, .bool true]) ∧ ColsAt w' (some ⟨cb, 0, none⟩) cb 0 (chs P a.length (row P 0).length) ∧ Below w.heap.size w w' := by
  have hz := H.alloc (.cells #[.int .i64 0, .int .i64 0, .int .u64 0] 63)
  have HT := Lib.hid (toPlan_any a ao b o cap A B O C _ hz)
  rw [planR_yes (decide_eq_true ha)] at HT
  have hk6 := ha.le
  have hk1 := ha.pos
  obtain ⟨hk0, hc1, hc4, hlen, hdep⟩ := hk
  obtain ⟨k, hkk⟩ : ∃ k, a.length = k := ⟨_, rfl⟩
  obtain ⟨l, hl⟩ : ∃ l, (row a 0).length = l := ⟨_, rfl⟩
  obtain ⟨f, hf⟩ : ∃ f, mt a = f := ⟨_, rfl⟩
  obtain ⟨c, hcc⟩ : ∃ c, (row P 0).length = c := ⟨_, rfl⟩
  rw [hcc] at hc1 hc4 hlen ⊢
  rw [hkk] at hk6 hk1 hk0 hlen hdep ⊢
  rw [hkk, hl, hf] at HT
  rw [hl, hf]
  rw [hk0]
  have HD := Lib.hid (fun w => oneTo_any 4 d w)
  rw [show decide (1 ≤ d ∧ d ≤ 4) = true from decide_eq_true hd] at HD
  have HE := Lib.hid (fun w => oneTo_any 4 (c : Int) w)
  rw [show decide (1 ≤ (c : Int) ∧ (c : Int) ≤ 4) = true from decide_eq_true (by omega)] at HE
  have HPP := Lib.hid HP
  have HLEN := Lib.hid hlen
  have HDEP := Lib.hid hdep
  have HK0 := Lib.hid hk0
  have HCC := Lib.hid hcc
  have HB0 := Lib.hid ((Below.refl _ w).alloc (Nat.le_refl _) (.cells #[.int .i64 0, .int .i64 0, .int .u64 0] 63))
  have HR0 := Lib.hid (heap_alloc_new w (.cells #[.int .i64 0, .int .i64 0, .int .u64 0] 63))
  have hsz0 : (w.alloc (.cells #[.int .i64 0, .int .i64 0, .int .u64 0] 63)).heap.size = w.heap.size + 1 := by simp
  obtain ⟨wa, hwa⟩ : ∃ wa, w.alloc (.cells #[.int .i64 0, .int .i64 0, .int .u64 0] 63) = wa := ⟨_, rfl⟩
  rw [hwa] at HB0 HR0 HT hsz0
  have HWA := Lib.hid hwa
  have HS0 := Lib.hid hsz0
  clear hz hkk hl hf hcc H HP ha hd hlen hdep hk0 hwa hsz0
  go_enter Try.func41, Try.ntmps41
  go_wp2_with fail
  rw [HWA.out]
  refine HT.out.mono ?_
  rintro e w1 ⟨rfl, hb1⟩
  rw [planV]
  obtain ⟨zb, hzb⟩ : ∃ zb, w1.heap.size = zb := ⟨_, rfl⟩
  have HNEW := Lib.hid (show (w1.alloc (.cells #[.int .i64 0, .int .i64 0, .int .u64 0] 63)).heap[zb]? = some (.cells #[.int .i64 0, .int .i64 0, .int .u64 0] 63 (0, 0)) by rw [← hzb]; exact heap_alloc_new _ _)
  obtain ⟨wz, hwz⟩ : ∃ wz, (w1.alloc (.cells #[.int .i64 0, .int .i64 0, .int .u64 0] 63)).setRow zb (planC k l f) = wz := ⟨_, rfl⟩
  have hB1 := HB0.out.trans (hb1.mono HB0.out.size)
  have HB := Lib.hid (show Below w.heap.size w wz by rw [← hwz]; exact below_setRow (hB1.alloc hB1.size _) (by rw [← hzb]; exact hB1.size) _)
  have HPL := Lib.hid (show wz.heap[zb]? = some (.cells (planC k l f) 63 (0, 0)) by rw [← hwz]; exact setRow_heap _ zb _ _ _ _ HNEW.out)
  have hzw : w.heap.size < zb := by have := hb1.size; have := HS0.out; omega
  have HRW := Lib.hid (show wz.heap[w.heap.size]? = some (.cells #[.int .i64 0, .int .i64 0, .int .u64 0] 63 (0, 0)) by
    rw [← hwz, setRow_other _ _ _ _ (by omega), Below.heap_alloc _ _ _ (by omega), hb1.block _ (lt_of_block HR0.out)]; exact HR0.out)
  have HWZ := Lib.hid hwz
  have hp1 := HPP.out.below HB.out (Nat.le_refl _)
  have hpl : 0 < P.length := by have := HK0.out; omega
  obtain ⟨rfl, hpbw⟩ := hp1.ptr hpl
  obtain ⟨p0, p1, p2⟩ := cells_of3 HPL.out
  have r0 : wz.cell? ⟨pb, pq, none⟩ = some (.slice (A' 0) c (C' 0)) := by rw [← HCC.out]; exact hp1.cell 0 hpl
  have hk0' : ((0 : Nat) : Int) < (k : Int) := by omega
  have t1 : ((k : Int) != (k : Int)) = false := by simp
  clear hwz hb1 hB1 hp1 HT HB0 HR0
  go_wp2_with (first
    | (refine wpList_store_row rfl 63 (.tmp 9) (.tmp 19) rfl zb _ rfl rfl 63 _ HNEW.out (by kernel_rfl) rfl (by simp [Value.oneCell', planC, sv]) ?_; rw [HWZ.out])
    | (fail))
  clear hzb
  refine (HD.out _).mono ?_
  rintro e w2 ⟨rfl, rfl⟩
  go_wp2_with fail
  refine (HE.out _).mono ?_
  rintro e wz ⟨rfl, rfl⟩
  obtain ⟨w3, hrun, hch, hb3⟩ := make_cols wz c hc1 hc4
  obtain ⟨cb, hcb⟩ : ∃ cb, wz.heap.size = cb := ⟨_, rfl⟩
  rw [hcb] at hch hrun
  have HB3 := Lib.hid (HB.out.trans (hb3.mono HB.out.size))
  have HC3 := Lib.hid (show w3.heap[cb]? = some (.cells (ofN (c * 6) fun t => .int .i64 (chG P 0 0 t)) 84 (0, 0)) by
    rw [hch, ofN_congr fun t _ => ?_]
    unfold chG
    rw [if_neg (by omega)])
  have HPL3 := Lib.hid ((hb3.block _ (lt_of_block HPL.out)).trans HPL.out)
  have HRW3 := Lib.hid ((hb3.block _ (lt_of_block HRW.out)).trans HRW.out)
  have hcz : zb < cb := by rw [← hcb]; exact lt_of_block HPL.out
  have hwsz : w.heap.size ≤ wz.heap.size := HB.out.size
  clear hb3 hch p0 p1 p2 HNEW HB HPL HRW
  go_wp2
  clear hrun hcb r0
  go_loopw [12, 13, 14, 15, 51] (fun _ _ _ _ x wr => ∃ i : Nat, i ≤ k ∧ x = .int .i64 i ∧ Below w.heap.size w wr ∧ wr.heap[cb]? = some (.cells (ofN (c * 6) fun t => .int .i64 (chG P i 0 t)) 84 (0, 0)) ∧
    wr.heap[zb]? = some (.cells (planC k l f) 63 (0, 0)) ∧ wr.heap[w.heap.size]? = some (.cells #[.int .i64 0, .int .i64 0, .int .u64 0] 63 (0, 0))) (fun _ _ _ _ x _ => k - (intOf x).toNat)
  case atStart => exact ⟨0, by omega, rfl, HB3.out, HC3.out, HPL3.out, HRW3.out⟩
  case round =>
    obtain ⟨i, hi, rfl, hb, hch, hpl2, hrw⟩ := hrel
    have HB := Lib.hid hb
    have HCH := Lib.hid hch
    have HPL := Lib.hid hpl2
    have HRW := Lib.hid hrw
    clear hb hch hpl2 hrw HB3 HC3 HPL3 HRW3
    by_cases hlt : i < k
    · have hp' := HPP.out.below HB.out (Nat.le_refl _)
      have ck : wr.cell? ⟨pb, pq + i, none⟩ = some (.slice (A' i) c (C' i)) := by
        have := hp'.cell i (by rw [HK0.out]; exact hlt)
        rwa [HLEN.out i hlt] at this
      have HRI := Lib.hid (HPP.out.rows i (by rw [HK0.out]; exact hlt))
      have HDI := Lib.hid (HDEP.out i hlt)
      have HLI := Lib.hid (HLEN.out i hlt)
      have t2 : ((c : Int) != (c : Int)) = false := by simp
      clear hp'
      go_wp2
      clear ck
      go_loopw [14, 15, 64] (fun _ _ x wr => ∃ n : Nat, n ≤ c ∧ x = .int .i64 n ∧ Below w.heap.size w wr ∧ wr.heap[cb]? = some (.cells (ofN (c * 6) fun t => .int .i64 (chG P i n t)) 84 (0, 0)) ∧
        wr.heap[zb]? = some (.cells (planC k l f) 63 (0, 0)) ∧ wr.heap[w.heap.size]? = some (.cells #[.int .i64 0, .int .i64 0, .int .u64 0] 63 (0, 0))) (fun _ _ x _ => c - (intOf x).toNat)
      case atStart => exact ⟨0, by omega, rfl, HB.out, HCH.out, HPL.out, HRW.out⟩
      case round =>
        obtain ⟨n, hn, rfl, hb, hch, hpl2, hrw⟩ := hrel
        have HBN := Lib.hid hb
        have HCN := Lib.hid hch
        have HPN := Lib.hid hpl2
        have HRN := Lib.hid hrw
        clear hb hch hpl2 hrw HB HCH HPL HRW
        by_cases hln : n < c
        · have hri := HRI.out.below HBN.out (Nat.le_refl _)
          obtain ⟨hA, -⟩ := hri.ptr (by rw [HLI.out]; omega)
          have q0 := hri.cell n (by rw [HLI.out]; exact hln)
          have hx12 := HDI.out n (by rw [HLI.out]; exact hln)
          rw [hA]
          have HD2 := Lib.hid (fun w => oneTo_any d (nth (row P i) n) w)
          rw [show decide (1 ≤ nth (row P i) n ∧ nth (row P i) n ≤ d) = true from decide_eq_true hx12] at HD2
          obtain ⟨x, hx⟩ : ∃ x, nth (row P i) n = x := ⟨_, rfl⟩
          rw [hx] at q0 HD2
          have HX := Lib.hid hx
          clear hri hA hx hx12
          obtain ⟨d1, f1⟩ := cell_ofN HCN.out (show n * 6 + i < c * 6 by omega)
          have hi6 : (i : Int) < 6 := by omega
          have hnc : (n : Int) < (c : Int) := by omega
          obtain ⟨wq, hwq⟩ : ∃ wq, wr.setCell ⟨cb, n * 6 + i, none⟩ (.int .i64 x) = wq := ⟨_, rfl⟩
          have HCQ := Lib.hid (show wq.heap[cb]? = some (.cells (ofN (c * 6) fun t => .int .i64 (chG P i (n + 1) t)) 84 (0, 0)) by
            rw [← hwq, set_ofN HCN.out (show n * 6 + i < c * 6 by omega)]
            rw [ofN_congr fun t ht => ?_]
            by_cases e : t = n * 6 + i
            · rw [if_pos e]
              unfold chG
              rw [if_pos (by omega), show t % 6 = i by omega, show t / 6 = n by omega, HX.out]
            · rw [if_neg e]
              unfold chG
              by_cases e2 : t % 6 < i ∨ (t % 6 = i ∧ t / 6 < n)
              · rw [if_pos e2, if_pos (by omega)]
              · rw [if_neg e2, if_neg (by omega)])
          have HBQ := Lib.hid (show Below w.heap.size w wq by rw [← hwq]; exact HBN.out.setCell (by show w.heap.size ≤ cb; omega) _)
          have HPQ := Lib.hid (show wq.heap[zb]? = some (.cells (planC k l f) 63 (0, 0)) by rw [← hwq, heap_setCell_other _ _ _ _ (by show zb ≠ cb; omega)]; exact HPN.out)
          have HRQ := Lib.hid (show wq.heap[w.heap.size]? = some (.cells #[.int .i64 0, .int .i64 0, .int .u64 0] 63 (0, 0)) by rw [← hwq, heap_setCell_other _ _ _ _ (by show w.heap.size ≠ cb; omega)]; exact HRN.out)
          have HWQ := Lib.hid hwq
          clear hwq
          go_wp2_with fail
          refine (HD2.out _).mono ?_
          rintro e w4 ⟨rfl, rfl⟩
          go_wp2
          rw [HWQ.out]
          go_roundw
          case rel => exact ⟨n + 1, by omega, by go_num, HBQ.out, HCQ.out, HPQ.out, HRQ.out⟩
          case measure => simp [intOf]; omega
        · have hnc : n = c := by omega
          subst hnc
          have HCX := Lib.hid (show wr.heap[cb]? = some (.cells (ofN (n * 6) fun t => .int .i64 (chG P (i + 1) 0 t)) 84 (0, 0)) by
            rw [HCN.out, ofN_congr fun t ht => ?_]
            unfold chG
            by_cases e2 : t % 6 < i ∨ (t % 6 = i ∧ t / 6 < n)
            · rw [if_pos e2, if_pos (by omega)]
            · rw [if_neg e2, if_neg (by omega)])
          go_wp2
          go_roundw
          case rel => exact ⟨i + 1, by omega, by go_num, HBN.out, HCX.out, HPN.out, HRN.out⟩
          case measure => simp [intOf]; omega
    · have hik : i = k := by omega
      subst hik
      go_wp2_with (first
        | (refine wpList_load_row rfl 63 (.tmp 9) rfl zb rfl 63 _ _ _ HPL.out Try.underlying63 rfl (by kernel_rfl) ?_)
        | (refine wpList_store_row rfl 63 (.tmp 6) (.tmp 82) rfl w.heap.size _ rfl rfl 63 _ HRW.out (by kernel_rfl) rfl (by simp [Value.oneCell', planC, sv]) ?_)
        | (fail))
      refine bodyPost_ret (v := .tuple #[.agg (planC i l f), .slice (some ⟨cb, 0, none⟩) c c, .bool true]) ?_ rfl ⟨cb, c, rfl, ?_, below_setRow HB.out (by omega) _⟩
      · exact results_cell_row3 (ty := 63) (p := 6) (s := 7) (u := 8) rfl _ _ w.heap.size 63 (planC i l f) (0, 0) _ rfl (setRow_heap _ _ _ _ _ _ HRW.out) Try.underlying63 rfl (by kernel_rfl)
      · refine ⟨fun _ => ⟨rfl, by simpa [World.setRow] using lt_of_block HCH.out⟩, fun n hn j v hv => ?_, by rw [chs_len]; omega⟩
        rw [chs_len] at hn
        have hj : j < 6 := by have := (List.getElem?_eq_some_iff.1 hv).1; rwa [colL_len] at this
        rw [cell_setRow_other _ _ _ _ (by show cb ≠ w.heap.size; omega), Nat.zero_add, (cell_ofN HCH.out (show n * 6 + j < c * 6 by omega)).1]
        rw [show (colL (nth (row (chs P i c) n)))[j]? = some (.int .i64 (nth (row (chs P i c) n) j)) by simp [colL, hj], chs_nth _ _ _ hn hj] at hv
        rw [← hv]
        unfold chG
        by_cases e : j < i
        · rw [if_pos e, if_pos (by omega), show (n * 6 + j) % 6 = j by omega, show (n * 6 + j) / 6 = n by omega]
        · rw [if_neg e, if_neg (by omega)]

end Go.Proofs.Ytjibdolhipddbaa

/- The pins of a lock in a chamber, counted; the strangers. -/
namespace Go.Proofs.Ytjibdolhipddbaa
open Go.RowKit Go.Maps

/-- How many depths have a pin. -/
def pinC (k : Nat) (f : Nat → Bool) (c : Nat → Int) (j : Nat) : Nat := (List.range 5).countP fun v : Nat => decide (PinF k f c j (v : Int))
theorem law3 : Keyed Try.prog 3 := int_keyed Try.underlying3
noncomputable abbrev RB : Value → Option (DataW Unit × List MemPlace) := plainElem Try.prog 4

theorem pinF_succ (i : Nat) (f : Nat → Bool) (c : Nat → Int) (j : Nat) (v : Int) : PinF (i + 1) f c j v ↔ PinF i f c j v ∨ (f (6 * i + j) = true ∧ c i = v) := by
  constructor
  · rintro ⟨o, ho, h⟩
    by_cases e : o = i
    · rw [e] at h; exact .inr h
    · exact .inl ⟨o, by omega, h⟩
  · rintro (⟨o, ho, h⟩ | h)
    · exact ⟨o, by omega, h⟩
    · exact ⟨i, by omega, h⟩
theorem pinC_no {i : Nat} {f : Nat → Bool} {c : Nat → Int} {j : Nat} (h : f (6 * i + j) = false) : pinC (i + 1) f c j = pinC i f c j := by
  unfold pinC
  congr 1
  funext v
  refine decide_eq_decide.2 ?_
  rw [pinF_succ, h]
  simp
theorem count_five (g : Nat → Bool) (v0 : Nat) (h : v0 < 5) : (List.range 5).countP (fun v => g v || v == v0) = if g v0 = true then (List.range 5).countP g else (List.range 5).countP g + 1 := by
  obtain rfl | rfl | rfl | rfl | rfl : v0 = 0 ∨ v0 = 1 ∨ v0 = 2 ∨ v0 = 3 ∨ v0 = 4 := by omega
  all_goals
    rw [show List.range 5 = [0, 1, 2, 3, 4] from rfl]
    simp only [List.countP_cons, List.countP_nil]
    cases g 0 <;> cases g 1 <;> cases g 2 <;> cases g 3 <;> cases g 4 <;> rfl
theorem pinC_yes {i : Nat} {f : Nat → Bool} {c : Nat → Int} {j : Nat} (h : f (6 * i + j) = true) (hc : 0 ≤ c i ∧ c i ≤ 4) : pinC (i + 1) f c j = if decide (PinF i f c j (c i)) = true then pinC i f c j else pinC i f c j + 1 := by
  obtain ⟨v0, hv⟩ : ∃ v0 : Nat, c i = v0 := ⟨(c i).toNat, by omega⟩
  have := count_five (fun v : Nat => decide (PinF i f c j (v : Int))) v0 (by omega)
  unfold pinC
  rw [hv, ← this]
  congr 1
  funext v
  rw [Bool.eq_iff_iff]
  simp only [decide_eq_true_eq, Bool.or_eq_true, beq_iff_eq]
  rw [pinF_succ, h, hv]
  constructor
  · rintro (q | ⟨-, q⟩)
    · exact .inl q
    · exact .inr (by omega)
  · rintro (q | q)
    · exact .inl q
    · exact .inr ⟨rfl, by omega⟩

set_option maxHeartbeats 4000000 in
set_option maxRecDepth 100000 in
theorem pins_any (k l j : Nat) (f : Nat → Bool) (c : Nat → Int) (w : World) (hk : k ≤ 6) (hj : j < 6) (hc : ∀ i, i < 6 → 0 ≤ c i ∧ c i ≤ 4) :
    Calls Try.prog 44 #[planV k l f, colV c, .int .i64 j] w fun e w' => e = .returned (.int .i64 (pinC k f c j : Nat)) ∧ Below w.heap.size w w' := by
  have HB := Lib.hid ((((Below.refl _ w).alloc (Nat.le_refl _) (.cells (planC k l f) 63)).alloc (by simp) (.cells (colC c) 84)).alloc (by simp; omega) (.map #[] 0))
  obtain ⟨h0, h1, h2⟩ := three_heap w (.cells (planC k l f) 63) (.cells (colC c) 84) (.map #[] 0)
  have hown := World.ownsMap_made ((w.alloc (.cells (planC k l f) 63)).alloc (.cells (colC c) 84)) Try.prog 3 RB
  rw [show ((w.alloc (.cells (planC k l f) 63)).alloc (.cells (colC c) 84)).heap.size = w.heap.size + 2 by simp] at hown
  obtain ⟨wa, hwa⟩ : ∃ wa, ((w.alloc (.cells (planC k l f) 63)).alloc (.cells (colC c) 84)).alloc (.map #[] 0) = wa := ⟨_, rfl⟩
  rw [hwa] at HB h0 h1 h2 hown
  rw [planC] at hwa
  have HWA := Lib.hid hwa
  have H0 := Lib.hid h0
  have H1 := Lib.hid h1
  have HOW := Lib.hid hown
  have HC := Lib.hid hc
  obtain ⟨c0, c1, c2⟩ := cells_of3 h0
  have hmm := @run_makeMap Try.prog
  clear hwa h0 h1 h2 hown hc
  show Calls _ _ #[.agg #[.int .i64 k, .int .i64 l, sv f], .agg (colC c), _] _ _
  go_enter Try.func44, Try.ntmps44
  go_upto_region 2 with fail
  rw [HWA.out]
  go_wp2
  go_loopw [8, 12] (fun _ y wr => ∃ (i : Nat) (D : DataW Unit), i ≤ k ∧ y = .int .i64 i ∧ Below w.heap.size w wr ∧ wr.heap[w.heap.size]? = some (.cells (planC k l f) 63 (0, 0)) ∧ wr.heap[w.heap.size + 1]? = some (.cells (colC c) 84 (0, 0)) ∧
    wr.ownsMap Try.prog 3 RB (w.heap.size + 1 + 1) i D ∧ Maps.size D = pinC i f c j ∧ ∀ v : Int, Maps.has D (.int .i64 v) = decide (PinF i f c j v)) (fun _ y _ => k - (intOf y).toNat)
  case atStart => exact ⟨0, .map [], by omega, rfl, HB.out, H0.out, H1.out, HOW.out, by
      rw [show pinC 0 f c j = 0 from List.countP_eq_zero.2 fun v _ => by rw [decide_eq_true_eq]; rintro ⟨o, ho, -⟩; omega]; rfl, fun v => by
      rw [show decide (PinF 0 f c j v) = false from decide_eq_false (by rintro ⟨o, ho, -⟩; omega)]; rfl⟩
  case round =>
    obtain ⟨i, D, hi, rfl, hb, h0, h1, hown, hsz, hhas⟩ := hrel
    have HB := Lib.hid hb
    have H0 := Lib.hid h0
    have H1 := Lib.hid h1
    have HOW := Lib.hid hown
    have HSZ := Lib.hid hsz
    have HHS := Lib.hid hhas
    clear c0 c1 c2 hmm
    obtain ⟨c0, c1, c2⟩ := cells_of3 h0
    clear hb h0 h1 hown hsz hhas
    by_cases hlt : i < k
    · have HHA := Lib.hid (fun w => has_any f i j w (by omega) hj)
      have d1 := (colC_cell H1.out (show i < 6 by omega)).1
      have hci := HC.out i (by omega)
      have hi6 : (i : Int) < 6 := by omega
      simp only [sv] at c2
      cases e : f (6 * i + j)
      · have HH := Lib.hid (fun w => by have := HHA.out w; rw [e] at this; exact this)
        have HN1 := Lib.hid (show Maps.size D = pinC (i + 1) f c j by rw [pinC_no e]; exact HSZ.out)
        have HN2 := Lib.hid (show ∀ v : Int, Maps.has D (.int .i64 v) = decide (PinF (i + 1) f c j v) from fun v => by
          rw [HHS.out v]
          refine decide_eq_decide.2 ?_
          rw [pinF_succ, e]
          simp)
        clear e HHA
        go_wp2_with fail
        refine (HH.out _).mono ?_
        rintro e w' ⟨rfl, rfl⟩
        go_wp2
        go_roundw
        case rel => exact ⟨i + 1, D, by omega, by go_num, HB.out, H0.out, H1.out, HOW.out.mono (by omega), HN1.out, HN2.out⟩
        case measure => simp [intOf]; omega
      · have HH := Lib.hid (fun w => by have := HHA.out w; rw [e] at this; exact this)
        have hkey : keyOf Try.prog 3 (.int .i64 (c i)) = some (.int .i64 (c i)) := keyOf_int_mk Try.underlying3 (WalkArith.wf_i64 (by omega))
        have HTD := HOW.out.tidy law3
        have HN1 := Lib.hid (show Maps.size (D.put (.int .i64 (c i)) (.lit (.bool true))) = pinC (i + 1) f c j by
          rw [size_put HTD, HHS.out, pinC_yes e hci, HSZ.out])
        have HN2 := Lib.hid (show ∀ v : Int, Maps.has (D.put (.int .i64 (c i)) (.lit (.bool true))) (.int .i64 v) = decide (PinF (i + 1) f c j v) from fun v => by
          by_cases q : v = c i
          · rw [q, has_put_same HTD.isMap (law3.key hkey)]
            exact (decide_eq_true ((pinF_succ i f c j (c i)).2 (.inr ⟨e, rfl⟩))).symm
          · rw [has_put_other (fun h => q (by injection h)), HHS.out v]
            refine decide_eq_decide.2 ?_
            rw [pinF_succ]
            constructor
            · exact .inl
            · rintro (h | h)
              · exact h
              · exact absurd h.2.symm q)
        have HKEY := Lib.hid hkey
        clear e HHA HTD hkey
        go_wp2_with fail
        refine (HH.out _).mono ?_
        rintro e w' ⟨rfl, rfl⟩
        go_wp2_with (first
          | (at_mapUpdate; refine wpList_mapUpdate_own _ rfl (.tmp 20) (.tmp 23) (.const (.bool true)) 93 rfl 3 4 law3 Try.underlying93 RB (w.heap.size + 1 + 1) i D rfl HOW.out (by unfold maxLen; omega) _ _ (.int .i64 (c i)) rfl rfl HKEY.out (.lit (.bool true)) [] (plainElem_bool Try.underlying4 true) ?_; intro w1 hown1 hgrow1)
          | (fail))
        have HO1 := Lib.hid hown1
        have HB1 := Lib.hid (show Below w.heap.size w w1 from HB.out.grown hgrow1 HB.out.size (fun r hr => by injection hr with hr; omega))
        have H01 := Lib.hid ((hgrow1.block _ (lt_of_block H0.out) (by intro h; injection h with h; omega)).trans H0.out)
        have H11 := Lib.hid ((hgrow1.block _ (lt_of_block H1.out) (by intro h; injection h with h; omega)).trans H1.out)
        clear hown1 hgrow1
        go_wp2
        go_roundw
        case rel => exact ⟨i + 1, _, by omega, by go_num, HB1.out, H01.out, H11.out, HO1.out, HN1.out, HN2.out⟩
        case measure => simp [intOf]; omega
    · have hik : i = k := by omega
      subst hik
      go_wp2_with (first
        | (at_len; refine wpList_len_own _ rfl (.tmp 25) 93 rfl 3 4 Try.underlying93 RB (w.heap.size + 1 + 1) i D rfl HOW.out ?_; rw [HSZ.out])
        | (fail))
      go_ret
      exact ⟨rfl, HB.out⟩

end Go.Proofs.Ytjibdolhipddbaa

/- The strangers of a lock. -/
namespace Go.Proofs.Ytjibdolhipddbaa
open Go.RowKit Go.Maps

theorem pinC_le (k : Nat) (f : Nat → Bool) (c : Nat → Int) (j : Nat) : pinC k f c j ≤ 5 := by
  have := List.countP_le_length (p := fun v : Nat => decide (PinF k f c j (v : Int))) (l := List.range 5)
  rwa [List.length_range] at this
/-- The keys that open a lock, the first n chambers alone. -/
def prodC (X : List (List Int)) (k : Nat) (f : Nat → Bool) (j : Nat) : Nat → Nat
  | 0 => 1
  | n + 1 => prodC X k f j n * pinC k f (nth (row X n)) j
theorem prodC_le (X : List (List Int)) (k : Nat) (f : Nat → Bool) (j : Nat) : ∀ n, n ≤ 4 → prodC X k f j n ≤ 5 ^ n
  | 0, _ => Nat.le_refl _
  | n + 1, h => by
    rw [prodC, Nat.pow_succ]
    exact Nat.mul_le_mul (prodC_le X k f j n (by omega)) (pinC_le _ _ _ _)

set_option maxHeartbeats 4000000 in
set_option maxRecDepth 100000 in
theorem strangers_ok (a P : List (List Int)) (d : Int) (j : Nat) (ao : Option Addr) (b o cap : Nat) (A : Nat → Option Addr) (B O C : Nat → Nat) (po : Option Addr) (pb pq pcap : Nat) (A' : Nat → Option Addr) (B' O' C' : Nat → Nat) (w : World)
    (H : RowsAt w ao b o a A B O C) (HP : RowsAt w po pb pq P A' B' O' C') (ha : IsPlan a) (hd : 1 ≤ d ∧ d ≤ 4) (hk : OkCuts a.length P d) (hj : j < (row a 0).length) :
    Calls Try.prog 21 #[.slice ao a.length cap, .slice po P.length pcap, .int .i64 d, .int .i64 j] w fun e w' =>
      e = .returned (.tuple #[.int .i64 (prodC (chs P a.length (row P 0).length) a.length (mt a) j (row P 0).length : Nat), .int .i64 0]) ∧ Below w.heap.size w w' := by
  have HT := Lib.hid (toSystem_ok a P d ao b o cap A B O C po pb pq pcap A' B' O' C' w H HP ha hd hk)
  have hk6 := ha.le
  have hl6 := ha.le0
  have hc4 := hk.le
  have HX4 := Lib.hid (show ∀ n, n < (row P 0).length → ∀ i, i < 6 → 0 ≤ nth (row (chs P a.length (row P 0).length) n) i ∧ nth (row (chs P a.length (row P 0).length) n) i ≤ 4 from fun n hn i hi => by
    rw [chs_nth _ _ _ hn hi]
    by_cases e : i < a.length
    · rw [if_pos e]
      have := hk.dep i e n (by rw [hk.len i e]; exact hn)
      omega
    · rw [if_neg e]; omega)
  have HXL := Lib.hid (chs_len P a.length (row P 0).length)
  obtain ⟨k, hkk⟩ : ∃ k, a.length = k := ⟨_, rfl⟩
  obtain ⟨l, hl⟩ : ∃ l, (row a 0).length = l := ⟨_, rfl⟩
  obtain ⟨f, hf⟩ : ∃ f, mt a = f := ⟨_, rfl⟩
  obtain ⟨c, hcc⟩ : ∃ c, (row P 0).length = c := ⟨_, rfl⟩
  obtain ⟨np, hnp⟩ : ∃ np, P.length = np := ⟨_, rfl⟩
  rw [hkk, hl, hf, hcc, hnp] at HT
  rw [hkk, hcc] at HX4 HXL
  rw [hkk, hf, hcc, hnp]
  rw [hl] at hj hl6
  rw [hkk] at hk6
  rw [hcc] at hc4
  obtain ⟨X, hX⟩ : ∃ X, chs P k c = X := ⟨_, rfl⟩
  rw [hX] at HT HX4 HXL ⊢
  have hjl : ¬ ((l : Int) ≤ (j : Int)) := by omega
  have t1 : decide ((j : Int) < 0) = false := decide_eq_false (by omega)
  have t2 : decide ((l : Int) ≤ (j : Int)) = false := decide_eq_false hjl
  have t3 : decide (l ≤ j) = false := decide_eq_false (by omega)
  clear hkk hl hf hcc hnp hX H HP ha hd hk hjl
  go_enter Try.func21, Try.ntmps21
  go_wp2_with fail
  refine HT.out.mono ?_
  rintro e w1 ⟨cb, ccap, rfl, hat, hb1⟩
  rw [planV]
  obtain ⟨zb, hzb⟩ : ∃ zb, w1.heap.size = zb := ⟨_, rfl⟩
  have HNEW := Lib.hid (show (w1.alloc (.cells #[.int .i64 0, .int .i64 0, .int .u64 0] 63)).heap[zb]? = some (.cells #[.int .i64 0, .int .i64 0, .int .u64 0] 63 (0, 0)) by rw [← hzb]; exact heap_alloc_new _ _)
  obtain ⟨wz, hwz⟩ : ∃ wz, (w1.alloc (.cells #[.int .i64 0, .int .i64 0, .int .u64 0] 63)).setRow zb (planC k l f) = wz := ⟨_, rfl⟩
  have hBz : Below w1.heap.size w1 wz := by rw [← hwz]; exact below_setRow ((Below.refl _ w1).alloc (Nat.le_refl _) _) (by rw [← hzb]; exact Nat.le_refl _) _
  have HB := Lib.hid (hb1.trans (hBz.mono hb1.size))
  have HAT := Lib.hid (hat.below hBz (Nat.le_refl _))
  have HPL := Lib.hid (show wz.heap[zb]? = some (.cells (planC k l f) 63 (0, 0)) by rw [← hwz]; exact setRow_heap _ zb _ _ _ _ HNEW.out)
  have HWZ := Lib.hid hwz
  obtain ⟨p0, p1, p2⟩ := cells_of3 HPL.out
  clear hat hb1 hBz hwz HT
  go_wp2_with (first
    | (refine wpList_store_row rfl 63 (.tmp 10) (.tmp 21) rfl zb _ rfl rfl 63 _ HNEW.out (by kernel_rfl) rfl (by simp [Value.oneCell', planC, sv]) ?_; rw [HWZ.out])
    | (fail))
  clear p0 p1 p2 hzb
  go_loopw [13, 15, 38] (fun s _ x wr => ∃ n : Nat, n ≤ c ∧ x = .int .i64 n ∧ s = .int .i64 (prodC X k f j n : Nat) ∧ Below wz.heap.size wz wr) (fun _ _ x _ => c - (intOf x).toNat)
  case atStart => exact ⟨0, by omega, rfl, rfl, Below.refl _ _⟩
  case round =>
    obtain ⟨n, hn, rfl, rfl, hb⟩ := hrel
    have HBN := Lib.hid hb
    clear hb
    by_cases hlt : n < c
    · have hat := HAT.out.below HBN.out (Nat.le_refl _)
      have HR := Lib.hid (hat.rng n (by rw [HXL.out]; exact hlt))
      have HPN := Lib.hid ((HBN.out.block _ (lt_of_block HPL.out)).trans HPL.out)
      have HPI := Lib.hid (fun w => pins_any k l j f (nth (row X n)) w hk6 (by omega) (HX4.out n hlt))
      have hp5 := pinC_le k f (nth (row X n)) j
      have hpr := prodC_le X k f j n (by omega)
      have hps : (5 : Nat) ^ n ≤ 625 := by
        have : (5 : Nat) ^ n ≤ 5 ^ 4 := Nat.pow_le_pow_right (by omega) (by omega)
        omega
      obtain ⟨pr, hpe⟩ : ∃ pr, prodC X k f j n = pr := ⟨_, rfl⟩
      obtain ⟨pc, hpce⟩ : ∃ pc, pinC k f (nth (row X n)) j = pc := ⟨_, rfl⟩
      have HPE := Lib.hid (show prodC X k f j (n + 1) = pr * pc by rw [← hpe, ← hpce]; rfl)
      rw [hpe] at hpr ⊢
      unfold Hid at HPI
      rw [hpce] at hp5
      simp only [hpce] at HPI
      have HPI := Lib.hid HPI
      have hmul : pr * pc ≤ 3125 := Nat.le_trans (Nat.mul_le_mul (show pr ≤ 625 by omega) hp5) (by omega)
      clear hat hpe hpce
      obtain ⟨x, hx⟩ : ∃ x, row X n = x := ⟨_, rfl⟩
      rw [hx] at HR HPI
      clear hx
      obtain ⟨ws, rfl⟩ : ∃ ws : World, ws = wr := ⟨_, rfl⟩
      obtain ⟨wq, hwq⟩ : ∃ wq, (ws.alloc (.cells #[.int .i64 0, .int .i64 0, .int .i64 0, .int .i64 0, .int .i64 0, .int .i64 0] 84)).setRow ws.heap.size (colC (nth x)) = wq := ⟨_, rfl⟩
      have HQ := Lib.hid (show Below ws.heap.size ws wq by rw [← hwq]; exact below_setRow ((Below.refl _ ws).alloc (Nat.le_refl _) _) (Nat.le_refl _) _)
      have H15 := Lib.hid (show wq.heap[ws.heap.size]? = some (.cells (colC (nth x)) 84 (0, 0)) by rw [← hwq]; exact setRow_heap _ ws.heap.size _ _ _ _ (heap_alloc_new ws _))
      have HPQ := Lib.hid ((HQ.out.block _ (lt_of_block HPN.out)).trans HPN.out)
      have HWQ := Lib.hid hwq
      clear hwq
      go_wp2_with (first
        | (refine wpList_load_mid rfl 84 (.tmp 40) rfl cb (0 + n * 6) (by simp [Act.eval]) _ _ HR.out Try.underlying84 rfl (info_col _) ?_; rw [colL_arr])
        | (refine wpList_store_row rfl 84 (.tmp 15) (.tmp 41) rfl ws.heap.size _ rfl rfl 84 _ (heap_alloc_new _ _) (info_colC _) (by rw [colC_size]; rfl) (colC_all _) ?_; rw [HWQ.out])
        | (refine wpList_load_row rfl 63 (.tmp 10) rfl zb rfl 63 _ _ _ HPQ.out Try.underlying63 rfl (by kernel_rfl) ?_)
        | (refine wpList_load_row rfl 84 (.tmp 15) rfl ws.heap.size rfl 84 _ _ _ H15.out Try.underlying84 rfl (info_colC _) ?_)
        | (fail))
      refine (HPI.out _).mono ?_
      rintro e w4 ⟨rfl, hb4⟩
      have HB4 := Lib.hid ((HBN.out.trans (HQ.out.mono HBN.out.size)).trans (hb4.mono (Nat.le_trans HBN.out.size HQ.out.size)))
      clear hb4
      go_wp2
      go_roundw
      case rel => exact ⟨n + 1, by omega, by go_num, by rw [HPE.out]; simp, HB4.out⟩
      case measure => simp [intOf]; omega
    · have hnc : n = c := by omega
      subst hnc
      go_wp2
      go_ret2
      exact ⟨rfl, HB.out.trans (HBN.out.mono HB.out.size)⟩

end Go.Proofs.Ytjibdolhipddbaa
