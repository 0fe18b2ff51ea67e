/- The strangers of a lock. -/
import Derived.Test.YtjibdolhipddbaaD2
namespace Go.Proofs.Ytjibdolhipddbaa
open Go.RowKit Go.Maps

theorem pinC_le (k : Nat) (f : Nat → Bool) (c : Nat → Int) (j : Nat) : pinC k f c j ≤ 5 := by
  have := List.countP_le_length (p := fun v : Nat => decide (PinF k f c j (v : Int))) (l := List.range 5)
  rwa [List.length_range] at this
/-- The keys that open a lock, the first n chambers alone. -/
def prodC (X : List (List Int)) (k : Nat) (f : Nat → Bool) (j : Nat) : Nat → Nat
  | 0 => 1
  | n + 1 => prodC X k f j n * pinC k f (nth (row X n)) j
theorem prodC_le (X : List (List Int)) (k : Nat) (f : Nat → Bool) (j : Nat) : ∀ n, n ≤ 4 → prodC X k f j n ≤ 5 ^ n
  | 0, _ => Nat.le_refl _
  | n + 1, h => by
    rw [prodC, Nat.pow_succ]
    exact Nat.mul_le_mul (prodC_le X k f j n (by omega)) (pinC_le _ _ _ _)

set_option maxHeartbeats 4000000 in
set_option maxRecDepth 100000 in
theorem strangers_ok (a P : List (List Int)) (d : Int) (j : Nat) (ao : Option Addr) (b o cap : Nat) (A : Nat → Option Addr) (B O C : Nat → Nat) (po : Option Addr) (pb pq pcap : Nat) (A' : Nat → Option Addr) (B' O' C' : Nat → Nat) (w : World)
    (H : RowsAt w ao b o a A B O C) (HP : RowsAt w po pb pq P A' B' O' C') (ha : IsPlan a) (hd : 1 ≤ d ∧ d ≤ 4) (hk : OkCuts a.length P d) (hj : j < (row a 0).length) :
    Calls Try.prog 21 #[.slice ao a.length cap, .slice po P.length pcap, .int .i64 d, .int .i64 j] w fun e w' =>
      e = .returned (.tuple #[.int .i64 (prodC (chs P a.length (row P 0).length) a.length (mt a) j (row P 0).length : Nat), .int .i64 0]) ∧ Below w.heap.size w w' := by
  have HT := Lib.hid (toSystem_ok a P d ao b o cap A B O C po pb pq pcap A' B' O' C' w H HP ha hd hk)
  have hk6 := ha.le
  have hl6 := ha.le0
  have hc4 := hk.le
  have HX4 := Lib.hid (show ∀ n, n < (row P 0).length → ∀ i, i < 6 → 0 ≤ nth (row (chs P a.length (row P 0).length) n) i ∧ nth (row (chs P a.length (row P 0).length) n) i ≤ 4 from fun n hn i hi => by
    rw [chs_nth _ _ _ hn hi]
    by_cases e : i < a.length
    · rw [if_pos e]
      have := hk.dep i e n (by rw [hk.len i e]; exact hn)
      omega
    · rw [if_neg e]; omega)
  have HXL := Lib.hid (chs_len P a.length (row P 0).length)
  obtain ⟨k, hkk⟩ : ∃ k, a.length = k := ⟨_, rfl⟩
  obtain ⟨l, hl⟩ : ∃ l, (row a 0).length = l := ⟨_, rfl⟩
  obtain ⟨f, hf⟩ : ∃ f, mt a = f := ⟨_, rfl⟩
  obtain ⟨c, hcc⟩ : ∃ c, (row P 0).length = c := ⟨_, rfl⟩
  obtain ⟨np, hnp⟩ : ∃ np, P.length = np := ⟨_, rfl⟩
  rw [hkk, hl, hf, hcc, hnp] at HT
  rw [hkk, hcc] at HX4 HXL
  rw [hkk, hf, hcc, hnp]
  rw [hl] at hj hl6
  rw [hkk] at hk6
  rw [hcc] at hc4
  obtain ⟨X, hX⟩ : ∃ X, chs P k c = X := ⟨_, rfl⟩
  rw [hX] at HT HX4 HXL ⊢
  have hjl : ¬ ((l : Int) ≤ (j : Int)) := by omega
  have t1 : decide ((j : Int) < 0) = false := decide_eq_false (by omega)
  have t2 : decide ((l : Int) ≤ (j : Int)) = false := decide_eq_false hjl
  have t3 : decide (l ≤ j) = false := decide_eq_false (by omega)
  clear hkk hl hf hcc hnp hX H HP ha hd hk hjl
  go_enter Try.func21, Try.ntmps21
  go_wp2_with fail
  refine HT.out.mono ?_
  rintro e w1 ⟨cb, ccap, rfl, hat, hb1⟩
  rw [planV]
  obtain ⟨zb, hzb⟩ : ∃ zb, w1.heap.size = zb := ⟨_, rfl⟩
  have HNEW := Lib.hid (show (w1.alloc (.cells #[.int .i64 0, .int .i64 0, .int .u64 0] 63)).heap[zb]? = some (.cells #[.int .i64 0, .int .i64 0, .int .u64 0] 63 (0, 0)) by rw [← hzb]; exact heap_alloc_new _ _)
  obtain ⟨wz, hwz⟩ : ∃ wz, (w1.alloc (.cells #[.int .i64 0, .int .i64 0, .int .u64 0] 63)).setRow zb (planC k l f) = wz := ⟨_, rfl⟩
  have hBz : Below w1.heap.size w1 wz := by rw [← hwz]; exact below_setRow ((Below.refl _ w1).alloc (Nat.le_refl _) _) (by rw [← hzb]; exact Nat.le_refl _) _
  have HB := Lib.hid (hb1.trans (hBz.mono hb1.size))
  have HAT := Lib.hid (hat.below hBz (Nat.le_refl _))
  have HPL := Lib.hid (show wz.heap[zb]? = some (.cells (planC k l f) 63 (0, 0)) by rw [← hwz]; exact setRow_heap _ zb _ _ _ _ HNEW.out)
  have HWZ := Lib.hid hwz
  obtain ⟨p0, p1, p2⟩ := cells_of3 HPL.out
  clear hat hb1 hBz hwz HT
  go_wp2_with (first
    | (refine wpList_store_row rfl 63 (.tmp 10) (.tmp 21) rfl zb _ rfl rfl 63 _ HNEW.out (by kernel_rfl) rfl (by simp [Value.oneCell', planC, sv]) ?_; rw [HWZ.out])
    | (fail))
  clear p0 p1 p2 hzb
  go_loopw [13, 15, 38] (fun s _ x wr => ∃ n : Nat, n ≤ c ∧ x = .int .i64 n ∧ s = .int .i64 (prodC X k f j n : Nat) ∧ Below wz.heap.size wz wr) (fun _ _ x _ => c - (intOf x).toNat)
  case atStart => exact ⟨0, by omega, rfl, rfl, Below.refl _ _⟩
  case round =>
    obtain ⟨n, hn, rfl, rfl, hb⟩ := hrel
    have HBN := Lib.hid hb
    clear hb
    by_cases hlt : n < c
    · have hat := HAT.out.below HBN.out (Nat.le_refl _)
      have HR := Lib.hid (hat.rng n (by rw [HXL.out]; exact hlt))
      have HPN := Lib.hid ((HBN.out.block _ (lt_of_block HPL.out)).trans HPL.out)
      have HPI := Lib.hid (fun w => pins_any k l j f (nth (row X n)) w hk6 (by omega) (HX4.out n hlt))
      have hp5 := pinC_le k f (nth (row X n)) j
      have hpr := prodC_le X k f j n (by omega)
      have hps : (5 : Nat) ^ n ≤ 625 := by
        have : (5 : Nat) ^ n ≤ 5 ^ 4 := Nat.pow_le_pow_right (by omega) (by omega)
        omega
      obtain ⟨pr, hpe⟩ : ∃ pr, prodC X k f j n = pr := ⟨_, rfl⟩
      obtain ⟨pc, hpce⟩ : ∃ pc, pinC k f (nth (row X n)) j = pc := ⟨_, rfl⟩
      have HPE := Lib.hid (show prodC X k f j (n + 1) = pr * pc by rw [← hpe, ← hpce]; rfl)
      rw [hpe] at hpr ⊢
      unfold Hid at HPI
      rw [hpce] at hp5
      simp only [hpce] at HPI
      have HPI := Lib.hid HPI
      have hmul : pr * pc ≤ 3125 := Nat.le_trans (Nat.mul_le_mul (show pr ≤ 625 by omega) hp5) (by omega)
      clear hat hpe hpce
      obtain ⟨x, hx⟩ : ∃ x, row X n = x := ⟨_, rfl⟩
      rw [hx] at HR HPI
      clear hx
      obtain ⟨ws, rfl⟩ : ∃ ws : World, ws = wr := ⟨_, rfl⟩
      obtain ⟨wq, hwq⟩ : ∃ wq, (ws.alloc (.cells #[.int .i64 0, .int .i64 0, .int .i64 0, .int .i64 0, .int .i64 0, .int .i64 0] 84)).setRow ws.heap.size (colC (nth x)) = wq := ⟨_, rfl⟩
      have HQ := Lib.hid (show Below ws.heap.size ws wq by rw [← hwq]; exact below_setRow ((Below.refl _ ws).alloc (Nat.le_refl _) _) (Nat.le_refl _) _)
      have H15 := Lib.hid (show wq.heap[ws.heap.size]? = some (.cells (colC (nth x)) 84 (0, 0)) by rw [← hwq]; exact setRow_heap _ ws.heap.size _ _ _ _ (heap_alloc_new ws _))
      have HPQ := Lib.hid ((HQ.out.block _ (lt_of_block HPN.out)).trans HPN.out)
      have HWQ := Lib.hid hwq
      clear hwq
      go_wp2_with (first
        | (refine wpList_load_mid rfl 84 (.tmp 40) rfl cb (0 + n * 6) (by simp [Act.eval]) _ _ HR.out Try.underlying84 rfl (info_col _) ?_; rw [colL_arr])
        | (refine wpList_store_row rfl 84 (.tmp 15) (.tmp 41) rfl ws.heap.size _ rfl rfl 84 _ (heap_alloc_new _ _) (info_colC _) (by rw [colC_size]; rfl) (colC_all _) ?_; rw [HWQ.out])
        | (refine wpList_load_row rfl 63 (.tmp 10) rfl zb rfl 63 _ _ _ HPQ.out Try.underlying63 rfl (by kernel_rfl) ?_)
        | (refine wpList_load_row rfl 84 (.tmp 15) rfl ws.heap.size rfl 84 _ _ _ H15.out Try.underlying84 rfl (info_colC _) ?_)
        | (fail))
      refine (HPI.out _).mono ?_
      rintro e w4 ⟨rfl, hb4⟩
      have HB4 := Lib.hid ((HBN.out.trans (HQ.out.mono HBN.out.size)).trans (hb4.mono (Nat.le_trans HBN.out.size HQ.out.size)))
      clear hb4
      go_wp2
      go_roundw
      case rel => exact ⟨n + 1, by omega, by go_num, by rw [HPE.out]; simp, HB4.out⟩
      case measure => simp [intOf]; omega
    · have hnc : n = c := by omega
      subst hnc
      go_wp2
      go_ret2
      exact ⟨rfl, HB.out.trans (HBN.out.mono HB.out.size)⟩

end Go.Proofs.Ytjibdolhipddbaa
