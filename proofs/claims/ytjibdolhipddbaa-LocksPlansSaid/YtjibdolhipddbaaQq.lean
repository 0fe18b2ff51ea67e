/- Check, Wrong and Strangers where there is a system. -/
import Derived.Test.YtjibdolhipddbaaQp
namespace Go.Proofs.Ytjibdolhipddbaa
open Go.RowKit

theorem ownsRow_mono2 {B B' : Nat} {w : World} {e : TypeId} {v : Value} {n : Nat} {vs : List Value} (h : w.ownsRow B e 2 v n vs) (hB : B' ≤ B) : w.ownsRow B' e 2 v n vs := by
  refine ⟨h.1, ?_⟩
  rcases h.2 with h2 | ⟨g, cap, cur, h1, h2, h3⟩
  · exact .inl h2
  · exact .inr ⟨g, cap, cur, h1, by omega, h3⟩
/-- The pairs that are wrong, as the program finds them. -/
def wrS (a P : List (List Int)) : Nat → Bool := lvF a.length (row a 0).length (mt a) (chs P a.length (row P 0).length) (chs P a.length (row P 0).length).length

set_option maxHeartbeats 4000000 in
set_option maxRecDepth 100000 in
theorem check_ok (a P : List (List Int)) (d : Int) (ao : Option Addr) (b o cap : Nat) (A : Nat → Option Addr) (B O C : Nat → Nat) (po : Option Addr) (pb pq pcap : Nat) (A' : Nat → Option Addr) (B' O' C' : Nat → Nat) (w : World)
    (H : RowsAt w ao b o a A B O C) (HP : RowsAt w po pb pq P A' B' O' C') (ha : IsPlan a) (hd : 1 ≤ d ∧ d ≤ 4) (hk : OkCuts a.length P d) :
    Calls Try.prog 19 #[.slice ao a.length cap, .slice po P.length pcap, .int .i64 d] w fun e w' => e = .returned (.int .i64 (if S36 (wrS a P) = 0 then 0 else 10)) ∧ Below w.heap.size w w' := by
  unfold wrS
  have HT := Lib.hid (toSystem_ok a P d ao b o cap A B O C po pb pq pcap A' B' O' C' w H HP ha hd hk)
  have hk6 := ha.le
  have hl6 := ha.le0
  have HXL := Lib.hid (chs_len P a.length (row P 0).length)
  obtain ⟨k, hkk⟩ : ∃ k, a.length = k := ⟨_, rfl⟩
  obtain ⟨l, hl⟩ : ∃ l, (row a 0).length = l := ⟨_, rfl⟩
  obtain ⟨f, hf⟩ : ∃ f, mt a = f := ⟨_, rfl⟩
  obtain ⟨c, hcc⟩ : ∃ c, (row P 0).length = c := ⟨_, rfl⟩
  obtain ⟨np, hnp⟩ : ∃ np, P.length = np := ⟨_, rfl⟩
  rw [hkk, hl, hf, hcc, hnp] at HT
  rw [hkk, hcc] at HXL
  rw [hkk, hl, hf, hcc, hnp]
  rw [hl] at hl6
  rw [hkk] at hk6
  obtain ⟨X, hX⟩ : ∃ X, chs P k c = X := ⟨_, rfl⟩
  rw [hX] at HT HXL
  rw [hX]
  rw [HXL.out]
  obtain ⟨s, hs⟩ : ∃ s, S36 (lvF k l f X c) = s := ⟨_, rfl⟩
  rw [hs]
  have HSS := Lib.hid hs
  obtain ⟨rv, hrv⟩ : ∃ rv : Int, (if s = 0 then 0 else 10) = rv := ⟨_, rfl⟩
  rw [hrv]
  have HRV := Lib.hid hrv
  clear hs hrv
  clear hkk hl hf hcc hnp hX H HP ha hd hk
  go_enter Try.func19, Try.ntmps19
  go_wp2_with fail
  refine HT.out.mono ?_
  rintro e w1 ⟨cb, ccap, rfl, hat, hb1⟩
  rw [planV]
  obtain ⟨zb, hzb⟩ : ∃ zb, w1.heap.size = zb := ⟨_, rfl⟩
  have HNEW := Lib.hid (show (w1.alloc (.cells #[.int .i64 0, .int .i64 0, .int .u64 0] 63)).heap[zb]? = some (.cells #[.int .i64 0, .int .i64 0, .int .u64 0] 63 (0, 0)) by rw [← hzb]; exact heap_alloc_new _ _)
  obtain ⟨wz, hwz⟩ : ∃ wz, (w1.alloc (.cells #[.int .i64 0, .int .i64 0, .int .u64 0] 63)).setRow zb (planC k l f) = wz := ⟨_, rfl⟩
  have hBz : Below w1.heap.size w1 wz := by rw [← hwz]; exact below_setRow ((Below.refl _ w1).alloc (Nat.le_refl _) _) (by rw [← hzb]; exact Nat.le_refl _) _
  have HB := Lib.hid (hb1.trans (hBz.mono hb1.size))
  have HAT := Lib.hid (hat.below hBz (Nat.le_refl _))
  have HPL := Lib.hid (show wz.heap[zb]? = some (.cells (planC k l f) 63 (0, 0)) by rw [← hwz]; exact setRow_heap _ zb _ _ _ _ HNEW.out)
  have HWZ := Lib.hid hwz
  obtain ⟨p0, p1, p2⟩ := cells_of3 HPL.out
  clear hat hb1 hBz hwz HT
  have HW := Lib.hid (wrong_any k l f X (some ⟨cb, 0, none⟩) cb 0 ccap wz hk6 hl6 HAT.out)
  rw [HXL.out] at HW
  unfold sv at HW
  rw [HSS.out] at HW
  go_wp2_with (first
    | (refine wpList_store_row rfl 63 _ _ rfl zb _ rfl rfl 63 _ HNEW.out (by kernel_rfl) rfl (by simp [Value.oneCell', planC, sv]) ?_; rw [HWZ.out])
    | (refine wpList_load_row rfl 63 _ rfl zb rfl 63 _ _ _ HPL.out Try.underlying63 rfl (by kernel_rfl) ?_)
    | (fail))
  refine HW.out.mono ?_
  rintro e w3 ⟨rfl, hb3⟩
  have HB3 := Lib.hid (HB.out.trans (hb3.mono HB.out.size))
  clear hb3 p0 p1 p2
  by_cases e : s = 0
  · have HI := Lib.hid (show Ending.returned (.int .i64 0) = .returned (.int .i64 rv) by rw [← HRV.out, if_pos e])
    subst e
    go_wp2
    go_ret
    exact ⟨HI.out, HB3.out⟩
  · have t1 : ((s : Int) != 0) = true := by simp; omega
    have HI := Lib.hid (show Ending.returned (.int .i64 10) = .returned (.int .i64 rv) by rw [← HRV.out, if_neg e])
    clear e
    go_wp2
    go_ret
    exact ⟨HI.out, HB3.out⟩

set_option maxHeartbeats 4000000 in
set_option maxRecDepth 100000 in
theorem wrong_ok (a P : List (List Int)) (d : Int) (ao : Option Addr) (b o cap : Nat) (A : Nat → Option Addr) (B O C : Nat → Nat) (po : Option Addr) (pb pq pcap : Nat) (A' : Nat → Option Addr) (B' O' C' : Nat → Nat) (w : World)
    (H : RowsAt w ao b o a A B O C) (HP : RowsAt w po pb pq P A' B' O' C') (ha : IsPlan a) (hd : 1 ≤ d ∧ d ≤ 4) (hk : OkCuts a.length P d) :
    Calls Try.prog 20 #[.slice ao a.length cap, .slice po P.length pcap, .int .i64 d] w fun e w' => ∃ v, e = .returned (.tuple #[v, .int .i64 0]) ∧ NewPairs w.heap.size w' v (wrL (wrS a P) 36) ∧ Below w.heap.size w w' := by
  unfold wrS
  have HT := Lib.hid (toSystem_ok a P d ao b o cap A B O C po pb pq pcap A' B' O' C' w H HP ha hd hk)
  have hk6 := ha.le
  have hl6 := ha.le0
  have HXL := Lib.hid (chs_len P a.length (row P 0).length)
  obtain ⟨k, hkk⟩ : ∃ k, a.length = k := ⟨_, rfl⟩
  obtain ⟨l, hl⟩ : ∃ l, (row a 0).length = l := ⟨_, rfl⟩
  obtain ⟨f, hf⟩ : ∃ f, mt a = f := ⟨_, rfl⟩
  obtain ⟨c, hcc⟩ : ∃ c, (row P 0).length = c := ⟨_, rfl⟩
  obtain ⟨np, hnp⟩ : ∃ np, P.length = np := ⟨_, rfl⟩
  rw [hkk, hl, hf, hcc, hnp] at HT
  rw [hkk, hcc] at HXL
  rw [hkk, hl, hf, hcc, hnp]
  rw [hl] at hl6
  rw [hkk] at hk6
  obtain ⟨X, hX⟩ : ∃ X, chs P k c = X := ⟨_, rfl⟩
  rw [hX] at HT HXL
  rw [hX]
  rw [HXL.out]
  obtain ⟨s, hs⟩ : ∃ s, lvF k l f X c = s := ⟨_, rfl⟩
  rw [hs]
  have HSS := Lib.hid hs
  clear hs
  clear hkk hl hf hcc hnp hX H HP ha hd hk
  go_enter Try.func20, Try.ntmps20
  go_wp2_with fail
  refine HT.out.mono ?_
  rintro e w1 ⟨cb, ccap, rfl, hat, hb1⟩
  rw [planV]
  obtain ⟨zb, hzb⟩ : ∃ zb, w1.heap.size = zb := ⟨_, rfl⟩
  have HNEW := Lib.hid (show (w1.alloc (.cells #[.int .i64 0, .int .i64 0, .int .u64 0] 63)).heap[zb]? = some (.cells #[.int .i64 0, .int .i64 0, .int .u64 0] 63 (0, 0)) by rw [← hzb]; exact heap_alloc_new _ _)
  obtain ⟨wz, hwz⟩ : ∃ wz, (w1.alloc (.cells #[.int .i64 0, .int .i64 0, .int .u64 0] 63)).setRow zb (planC k l f) = wz := ⟨_, rfl⟩
  have hBz : Below w1.heap.size w1 wz := by rw [← hwz]; exact below_setRow ((Below.refl _ w1).alloc (Nat.le_refl _) _) (by rw [← hzb]; exact Nat.le_refl _) _
  have HB := Lib.hid (hb1.trans (hBz.mono hb1.size))
  have HAT := Lib.hid (hat.below hBz (Nat.le_refl _))
  have HPL := Lib.hid (show wz.heap[zb]? = some (.cells (planC k l f) 63 (0, 0)) by rw [← hwz]; exact setRow_heap _ zb _ _ _ _ HNEW.out)
  have HWZ := Lib.hid hwz
  obtain ⟨p0, p1, p2⟩ := cells_of3 HPL.out
  clear hat hb1 hBz hwz HT
  have HW := Lib.hid (wrong_any k l f X (some ⟨cb, 0, none⟩) cb 0 ccap wz hk6 hl6 HAT.out)
  rw [HXL.out] at HW
  rw [HSS.out] at HW
  go_wp2_with (first
    | (refine wpList_store_row rfl 63 _ _ rfl zb _ rfl rfl 63 _ HNEW.out (by kernel_rfl) rfl (by simp [Value.oneCell', planC, sv]) ?_; rw [HWZ.out])
    | (refine wpList_load_row rfl 63 _ rfl zb rfl 63 _ _ _ HPL.out Try.underlying63 rfl (by kernel_rfl) ?_)
    | (fail))
  refine HW.out.mono ?_
  rintro e w3 ⟨rfl, hb3⟩
  have HB3 := Lib.hid (HB.out.trans (hb3.mono HB.out.size))
  have HL := Lib.hid (list_any s w3)
  clear hb3 p0 p1 p2
  go_wp2_with fail
  refine HL.out.mono ?_
  rintro e w4 ⟨v, rfl, hv, hb4⟩
  have HV := Lib.hid (show NewPairs w.heap.size w4 v (wrL s 36) from ⟨ownsRow_mono2 hv.own HB3.out.size, hv.wf, hv.len⟩)
  have HB4 := Lib.hid (HB3.out.trans (hb4.mono HB3.out.size))
  clear hv hb4
  go_wp2
  go_ret2
  exact ⟨v, rfl, HV.out, HB4.out⟩

set_option maxHeartbeats 4000000 in
set_option maxRecDepth 100000 in
theorem strangers_lock (a P : List (List Int)) (d j : Int) (ao : Option Addr) (b o cap : Nat) (A : Nat → Option Addr) (B O C : Nat → Nat) (po : Option Addr) (pb pq pcap : Nat) (A' : Nat → Option Addr) (B' O' C' : Nat → Nat) (w : World)
    (H : RowsAt w ao b o a A B O C) (HP : RowsAt w po pb pq P A' B' O' C') (ha : IsPlan a) (hd : 1 ≤ d ∧ d ≤ 4) (hk : OkCuts a.length P d) (hj : j < 0 ∨ ((row a 0).length : Int) ≤ j) :
    Calls Try.prog 21 #[.slice ao a.length cap, .slice po P.length pcap, .int .i64 d, .int .i64 j] w fun e w' => e = .returned (.tuple #[.int .i64 0, .int .i64 2]) ∧ Below w.heap.size w w' := by
  have HT := Lib.hid (toSystem_ok a P d ao b o cap A B O C po pb pq pcap A' B' O' C' w H HP ha hd hk)
  have hk6 := ha.le
  have hl6 := ha.le0
  have HXL := Lib.hid (chs_len P a.length (row P 0).length)
  obtain ⟨k, hkk⟩ : ∃ k, a.length = k := ⟨_, rfl⟩
  obtain ⟨l, hl⟩ : ∃ l, (row a 0).length = l := ⟨_, rfl⟩
  obtain ⟨f, hf⟩ : ∃ f, mt a = f := ⟨_, rfl⟩
  obtain ⟨c, hcc⟩ : ∃ c, (row P 0).length = c := ⟨_, rfl⟩
  obtain ⟨np, hnp⟩ : ∃ np, P.length = np := ⟨_, rfl⟩
  rw [hkk, hl, hf, hcc, hnp] at HT
  rw [hkk, hcc] at HXL
  rw [hkk, hnp]
  rw [hl] at hl6
  rw [hkk] at hk6
  obtain ⟨X, hX⟩ : ∃ X, chs P k c = X := ⟨_, rfl⟩
  rw [hX] at HT HXL
  rw [hl] at hj
  clear hkk hl hf hcc hnp hX H HP ha hd hk
  go_enter Try.func21, Try.ntmps21
  go_wp2_with fail
  refine HT.out.mono ?_
  rintro e w1 ⟨cb, ccap, rfl, hat, hb1⟩
  rw [planV]
  obtain ⟨zb, hzb⟩ : ∃ zb, w1.heap.size = zb := ⟨_, rfl⟩
  have HNEW := Lib.hid (show (w1.alloc (.cells #[.int .i64 0, .int .i64 0, .int .u64 0] 63)).heap[zb]? = some (.cells #[.int .i64 0, .int .i64 0, .int .u64 0] 63 (0, 0)) by rw [← hzb]; exact heap_alloc_new _ _)
  obtain ⟨wz, hwz⟩ : ∃ wz, (w1.alloc (.cells #[.int .i64 0, .int .i64 0, .int .u64 0] 63)).setRow zb (planC k l f) = wz := ⟨_, rfl⟩
  have hBz : Below w1.heap.size w1 wz := by rw [← hwz]; exact below_setRow ((Below.refl _ w1).alloc (Nat.le_refl _) _) (by rw [← hzb]; exact Nat.le_refl _) _
  have HB := Lib.hid (hb1.trans (hBz.mono hb1.size))
  have HAT := Lib.hid (hat.below hBz (Nat.le_refl _))
  have HPL := Lib.hid (show wz.heap[zb]? = some (.cells (planC k l f) 63 (0, 0)) by rw [← hwz]; exact setRow_heap _ zb _ _ _ _ HNEW.out)
  have HWZ := Lib.hid hwz
  obtain ⟨p0, p1, p2⟩ := cells_of3 HPL.out
  clear hat hb1 hBz hwz HT
  by_cases e : j < 0
  · have t1 : decide (j < 0) = true := decide_eq_true e
    clear e hj
    go_wp2_with (first
      | (refine wpList_store_row rfl 63 _ _ rfl zb _ rfl rfl 63 _ HNEW.out (by kernel_rfl) rfl (by simp [Value.oneCell', planC, sv]) ?_; rw [HWZ.out])
      | (refine wpList_load_row rfl 63 _ rfl zb rfl 63 _ _ _ HPL.out Try.underlying63 rfl (by kernel_rfl) ?_)
      | (fail))
    go_ret2
    exact ⟨rfl, HB.out⟩
  · have t1 : decide (j < 0) = false := decide_eq_false e
    have t2 : decide ((l : Int) ≤ j) = true := decide_eq_true (by omega)
    clear e hj
    go_wp2_with (first
      | (refine wpList_store_row rfl 63 _ _ rfl zb _ rfl rfl 63 _ HNEW.out (by kernel_rfl) rfl (by simp [Value.oneCell', planC, sv]) ?_; rw [HWZ.out])
      | (refine wpList_load_row rfl 63 _ rfl zb rfl 63 _ _ _ HPL.out Try.underlying63 rfl (by kernel_rfl) ?_)
      | (fail))
    go_ret2
    exact ⟨rfl, HB.out⟩

end Go.Proofs.Ytjibdolhipddbaa
