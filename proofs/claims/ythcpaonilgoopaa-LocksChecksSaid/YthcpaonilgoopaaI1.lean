/- What is no system of locks. -/
import Derived.Test.YthcpaonilgoopaaD1
namespace Go.Proofs.Ythcpaonilgoopaa
open Go.RowKit

set_option maxHeartbeats 4000000 in
set_option maxRecDepth 100000 in
theorem toSystem_noplan (a P : List (List Int)) (d : Int) (ao : Option Addr) (b o cap : Nat) (A : Nat → Option Addr) (B O C : Nat → Nat) (po : Option Addr) (pcap : Nat) (w : World)
    (H : RowsAt w ao b o a A B O C) (ha : isPlan a = false) :
    Calls Try.prog 41 #[.slice ao a.length cap, .slice po P.length pcap, .int .i64 d] w fun e w' => e = .returned (.tuple #[zeroP, .slice none 0 0, .bool false]) ∧ Below w.heap.size w w' := by
  have hz := H.alloc (.cells #[.int .i64 0, .int .i64 0, .int .u64 0] 63)
  have HT := Lib.hid (toPlan_any a ao b o cap A B O C _ hz)
  rw [planR_no ha] at HT
  have HB0 := Lib.hid ((Below.refl _ w).alloc (Nat.le_refl _) (.cells #[.int .i64 0, .int .i64 0, .int .u64 0] 63))
  have HR0 := Lib.hid (heap_alloc_new w (.cells #[.int .i64 0, .int .i64 0, .int .u64 0] 63))
  have hsz0 : (w.alloc (.cells #[.int .i64 0, .int .i64 0, .int .u64 0] 63)).heap.size = w.heap.size + 1 := by simp
  obtain ⟨wa, hwa⟩ : ∃ wa, w.alloc (.cells #[.int .i64 0, .int .i64 0, .int .u64 0] 63) = wa := ⟨_, rfl⟩
  rw [hwa] at HB0 HR0 HT hsz0
  have HWA := Lib.hid hwa
  have HS0 := Lib.hid hsz0
  clear hz H ha hwa hsz0
  go_enter Try.func41, Try.ntmps41
  go_wp2_with fail
  rw [HWA.out]
  refine HT.out.mono ?_
  rintro e w1 ⟨rfl, hb1⟩
  have HB1 := Lib.hid (HB0.out.trans (hb1.mono HB0.out.size))
  have HR1 := Lib.hid ((hb1.block _ (lt_of_block HR0.out)).trans HR0.out)
  clear hb1 HT
  obtain ⟨zb, hzb⟩ : ∃ zb, w1.heap.size = zb := ⟨_, rfl⟩
  have HNEW := Lib.hid (show (w1.alloc (.cells #[.int .i64 0, .int .i64 0, .int .u64 0] 63)).heap[zb]? = some (.cells #[.int .i64 0, .int .i64 0, .int .u64 0] 63 (0, 0)) by rw [← hzb]; exact heap_alloc_new _ _)
  obtain ⟨wz, hwz⟩ : ∃ wz, (w1.alloc (.cells #[.int .i64 0, .int .i64 0, .int .u64 0] 63)).setRow zb #[.int .i64 0, .int .i64 0, .int .u64 0] = wz := ⟨_, rfl⟩
  have hzw : w.heap.size < zb := by rw [← hzb]; exact lt_of_block HR1.out
  have HBZ := Lib.hid (show Below w.heap.size w wz by rw [← hwz]; exact below_setRow (HB1.out.alloc HB1.out.size _) (by omega) _)
  have HRZ := Lib.hid (show wz.heap[w.heap.size]? = some (.cells #[.int .i64 0, .int .i64 0, .int .u64 0] 63 (0, 0)) by
    rw [← hwz, setRow_other _ _ _ _ (by omega), Below.heap_alloc _ _ _ (by omega)]; exact HR1.out)
  have HWZ := Lib.hid hwz
  clear hwz
  rw [zeroP]
  go_wp2_with (first
    | (refine wpList_store_row rfl 63 (.tmp 9) (.tmp 19) rfl zb _ rfl rfl 63 _ HNEW.out (by kernel_rfl) rfl (by simp [Value.oneCell']) ?_; rw [HWZ.out])
    | (refine wpList_store_row rfl 63 (.tmp 6) (.tmp 43) rfl w.heap.size _ rfl rfl 63 _ HRZ.out (by kernel_rfl) rfl (by simp [Value.oneCell']) ?_)
    | (fail))
  refine bodyPost_ret (v := .tuple #[.agg #[.int .i64 0, .int .i64 0, .int .u64 0], .slice none 0 0, .bool false]) ?_ rfl ⟨rfl, below_setRow HBZ.out (Nat.le_refl _) _⟩
  exact results_cell_row3 (ty := 63) (p := 6) (s := 7) (u := 8) rfl _ _ w.heap.size 63 _ (0, 0) _ rfl (setRow_heap _ _ _ _ _ _ HRZ.out) Try.underlying63 rfl (by kernel_rfl)

end Go.Proofs.Ythcpaonilgoopaa
