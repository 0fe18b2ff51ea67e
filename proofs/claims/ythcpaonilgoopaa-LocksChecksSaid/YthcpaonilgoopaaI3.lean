/- Check, Wrong and Strangers where there is no system. -/
import Derived.Test.YthcpaonilgoopaaI2
import Derived.Test.YthcpaonilgoopaaH2
import Derived.Test.YthcpaonilgoopaaH4
namespace Go.Proofs.Ythcpaonilgoopaa
open Go.RowKit

/-- An access plan, and cuts for its keys. -/
def IsSys (a P : List (List Int)) (d : Int) : Prop := IsPlan a ∧ (1 ≤ d ∧ d ≤ 4) ∧ OkCuts a.length P d
theorem toSystem_bad (a P : List (List Int)) (d : Int) (ao : Option Addr) (b o cap : Nat) (A : Nat → Option Addr) (B O C : Nat → Nat) (po : Option Addr) (pb pq pcap : Nat) (A' : Nat → Option Addr) (B' O' C' : Nat → Nat) (w : World)
    (H : RowsAt w ao b o a A B O C) (HP : RowsAt w po pb pq P A' B' O' C') (hbad : ¬ IsSys a P d) :
    Calls Try.prog 41 #[.slice ao a.length cap, .slice po P.length pcap, .int .i64 d] w fun e w' => e = .returned (.tuple #[zeroP, .slice none 0 0, .bool false]) ∧ Below w.heap.size w w' := by
  by_cases ha : IsPlan a
  · exact toSystem_nocuts a P d ao b o cap A B O C po pb pq pcap A' B' O' C' w H HP ha fun h => hbad ⟨ha, h⟩
  · exact toSystem_noplan a P d ao b o cap A B O C po pcap w H (not_plan ha)

set_option maxHeartbeats 4000000 in
set_option maxRecDepth 100000 in
theorem check_bad (a P : List (List Int)) (d : Int) (ao : Option Addr) (b o cap : Nat) (A : Nat → Option Addr) (B O C : Nat → Nat) (po : Option Addr) (pb pq pcap : Nat) (A' : Nat → Option Addr) (B' O' C' : Nat → Nat) (w : World)
    (H : RowsAt w ao b o a A B O C) (HP : RowsAt w po pb pq P A' B' O' C') (hbad : ¬ IsSys a P d) :
    Calls Try.prog 19 #[.slice ao a.length cap, .slice po P.length pcap, .int .i64 d] w fun e w' => e = .returned (.int .i64 2) ∧ Below w.heap.size w w' := by
  have HT := Lib.hid (toSystem_bad a P d ao b o cap A B O C po pb pq pcap A' B' O' C' w H HP hbad)
  clear H HP hbad
  go_enter Try.func19, Try.ntmps19
  go_wp2_with fail
  refine HT.out.mono ?_
  rintro e w1 ⟨rfl, hb1⟩
  obtain ⟨wz, hwz⟩ : ∃ wz, (w1.alloc (.cells #[.int .i64 0, .int .i64 0, .int .u64 0] 63)).setRow w1.heap.size #[.int .i64 0, .int .i64 0, .int .u64 0] = wz := ⟨_, rfl⟩
  have HBZ := Lib.hid (show Below w.heap.size w wz by rw [← hwz]; exact below_setRow (hb1.alloc hb1.size _) hb1.size _)
  have HWZ := Lib.hid hwz
  clear hwz hb1 HT
  rw [zeroP]
  go_wp2_with (first
    | (refine wpList_store_row rfl 63 _ _ rfl w1.heap.size _ rfl rfl 63 _ (heap_alloc_new _ _) (by kernel_rfl) rfl (by simp [Value.oneCell']) ?_; rw [HWZ.out])
    | (fail))
  go_ret
  exact ⟨rfl, HBZ.out⟩

set_option maxHeartbeats 4000000 in
set_option maxRecDepth 100000 in
theorem wrong_bad (a P : List (List Int)) (d : Int) (ao : Option Addr) (b o cap : Nat) (A : Nat → Option Addr) (B O C : Nat → Nat) (po : Option Addr) (pb pq pcap : Nat) (A' : Nat → Option Addr) (B' O' C' : Nat → Nat) (w : World)
    (H : RowsAt w ao b o a A B O C) (HP : RowsAt w po pb pq P A' B' O' C') (hbad : ¬ IsSys a P d) :
    Calls Try.prog 20 #[.slice ao a.length cap, .slice po P.length pcap, .int .i64 d] w fun e w' => e = .returned (.tuple #[.slice none 0 0, .int .i64 2]) ∧ Below w.heap.size w w' := by
  have HT := Lib.hid (toSystem_bad a P d ao b o cap A B O C po pb pq pcap A' B' O' C' w H HP hbad)
  clear H HP hbad
  go_enter Try.func20, Try.ntmps20
  go_wp2_with fail
  refine HT.out.mono ?_
  rintro e w1 ⟨rfl, hb1⟩
  obtain ⟨wz, hwz⟩ : ∃ wz, (w1.alloc (.cells #[.int .i64 0, .int .i64 0, .int .u64 0] 63)).setRow w1.heap.size #[.int .i64 0, .int .i64 0, .int .u64 0] = wz := ⟨_, rfl⟩
  have HBZ := Lib.hid (show Below w.heap.size w wz by rw [← hwz]; exact below_setRow (hb1.alloc hb1.size _) hb1.size _)
  have HWZ := Lib.hid hwz
  clear hwz hb1 HT
  rw [zeroP]
  go_wp2_with (first
    | (refine wpList_store_row rfl 63 _ _ rfl w1.heap.size _ rfl rfl 63 _ (heap_alloc_new _ _) (by kernel_rfl) rfl (by simp [Value.oneCell']) ?_; rw [HWZ.out])
    | (fail))
  go_ret2
  exact ⟨rfl, HBZ.out⟩

set_option maxHeartbeats 4000000 in
set_option maxRecDepth 100000 in
theorem strangers_bad (a P : List (List Int)) (d j : Int) (ao : Option Addr) (b o cap : Nat) (A : Nat → Option Addr) (B O C : Nat → Nat) (po : Option Addr) (pb pq pcap : Nat) (A' : Nat → Option Addr) (B' O' C' : Nat → Nat) (w : World)
    (H : RowsAt w ao b o a A B O C) (HP : RowsAt w po pb pq P A' B' O' C') (hbad : ¬ IsSys a P d) :
    Calls Try.prog 21 #[.slice ao a.length cap, .slice po P.length pcap, .int .i64 d, .int .i64 j] w fun e w' => e = .returned (.tuple #[.int .i64 0, .int .i64 2]) ∧ Below w.heap.size w w' := by
  have HT := Lib.hid (toSystem_bad a P d ao b o cap A B O C po pb pq pcap A' B' O' C' w H HP hbad)
  clear H HP hbad
  go_enter Try.func21, Try.ntmps21
  go_wp2_with fail
  refine HT.out.mono ?_
  rintro e w1 ⟨rfl, hb1⟩
  obtain ⟨wz, hwz⟩ : ∃ wz, (w1.alloc (.cells #[.int .i64 0, .int .i64 0, .int .u64 0] 63)).setRow w1.heap.size #[.int .i64 0, .int .i64 0, .int .u64 0] = wz := ⟨_, rfl⟩
  have HBZ := Lib.hid (show Below w.heap.size w wz by rw [← hwz]; exact below_setRow (hb1.alloc hb1.size _) hb1.size _)
  have HWZ := Lib.hid hwz
  clear hwz hb1 HT
  rw [zeroP]
  go_wp2_with (first
    | (refine wpList_store_row rfl 63 _ _ rfl w1.heap.size _ rfl rfl 63 _ (heap_alloc_new _ _) (by kernel_rfl) rfl (by simp [Value.oneCell']) ?_; rw [HWZ.out])
    | (fail))
  go_ret2
  exact ⟨rfl, HBZ.out⟩

end Go.Proofs.Ythcpaonilgoopaa
