/- The law's equality of two networks. -/
import Derived.Test.YtaphmjccdokiiaaRb
import Derived.Test.YtaphmjccdokiiaaBa
namespace Go.Proofs.Ytaphmjccdokiiaa
open Go.RowKit

set_option maxHeartbeats 4000000 in
set_option maxRecDepth 100000 in
theorem same_any (P T : List (List Int)) (pa : Option Addr) (pb po pc : Nat) (A : Nat → Option Addr) (B O C : Nat → Nat) (ta : Option Addr) (tb tz tc : Nat) (A' : Nat → Option Addr) (B' O' C' : Nat → Nat)
    (qa : Option Addr) (qb qo qc : Nat) (D : Nat → Option Addr) (E F G : Nat → Nat) (sa : Option Addr) (sb so sc : Nat) (D' : Nat → Option Addr) (E' F' G' : Nat → Nat) (w : World)
    (hP : RowsAt w pa pb po P A B O C) (hT : RowsAt w ta tb tz T A' B' O' C') (hQ : RowsAt w qa qb qo P D E F G) (hS : RowsAt w sa sb so T D' E' F' G') :
    Calls Try.prog 35 #[.agg #[.slice pa P.length pc, .slice ta T.length tc], .agg #[.slice qa P.length qc, .slice sa T.length sc]] w fun e w' => e = .returned (.bool true) ∧ Below w.heap.size w w' := by
  obtain ⟨wA, hwA⟩ : ∃ wA, (w.alloc (.cells #[.slice pa P.length pc, .slice ta T.length tc] 24)).alloc (.cells #[.slice qa P.length qc, .slice sa T.length sc] 24) = wA := ⟨_, rfl⟩
  have HWA := Lib.hid hwA
  have hsA : wA.heap.size = w.heap.size + 2 := by rw [← hwA]; simp
  have HSA := Lib.hid hsA
  have HB0 : Hid (Below w.heap.size w wA) := by rw [← hwA]; exact ((Below.refl _ _).alloc (Nat.le_refl _) _).alloc (by simp) _
  have HP := Lib.hid (hP.below HB0.out (Nat.le_refl _))
  have HT := Lib.hid (hT.below HB0.out (Nat.le_refl _))
  have HQ := Lib.hid (hQ.below HB0.out (Nat.le_refl _))
  have HS := Lib.hid (hS.below HB0.out (Nat.le_refl _))
  have hb0 : wA.heap[w.heap.size]? = some (.cells #[.slice pa P.length pc, .slice ta T.length tc] 24 (0, 0)) ∧ wA.heap[w.heap.size + 1]? = some (.cells #[.slice qa P.length qc, .slice sa T.length sc] 24 (0, 0)) := by
    rw [← hwA]
    exact ⟨(Below.heap_alloc _ _ _ (by simp)).trans (heap_alloc_new _ _), by have := heap_alloc_new (w.alloc (.cells #[.slice pa P.length pc, .slice ta T.length tc] 24)) (.cells #[.slice qa P.length qc, .slice sa T.length sc] 24); simpa using this⟩
  have HBX := Lib.hid hb0
  have HTC := Lib.hid (show ∀ w', Below wA.heap.size wA w' → w'.cell? ⟨w.heap.size, 0, none⟩ = some (.slice pa P.length pc) ∧ w'.cell? ⟨w.heap.size, 1, none⟩ = some (.slice ta T.length tc) ∧ w'.cell? ⟨w.heap.size + 1, 0, none⟩ = some (.slice qa P.length qc) ∧ w'.cell? ⟨w.heap.size + 1, 1, none⟩ = some (.slice sa T.length sc) from
    fun w' h => by
      obtain ⟨x0, x1, -, -⟩ := cells_of2 ((h.block _ (by omega)).trans HBX.out.1)
      obtain ⟨y0, y1, -, -⟩ := cells_of2 ((h.block _ (by omega)).trans HBX.out.2)
      exact ⟨x0, x1, y0, y1⟩)
  have lP := hP.len
  have lT := hT.len
  have q1 : ((P.length : Int) != (P.length : Int)) = false := by simp
  have q2 : ((T.length : Int) != (T.length : Int)) = false := by simp
  clear hP hT hQ hS hwA hb0
  go_enter Try.func35, Try.ntmps35
  go_upto_region 1 with fail
  rw [HWA.out]
  have htc := HTC.out _ (Below.refl _ _)
  obtain ⟨x0, x1, y0, y1⟩ := htc
  go_wp2
  clear x0 x1 y0 y1
  go_loopw [5] (fun i wr => ∃ k : Nat, k ≤ P.length ∧ i = .int .i64 k ∧ Below wA.heap.size wA wr) (fun i _ => P.length - (intOf i).toNat)
  case atStart => exact ⟨0, by omega, rfl, Below.refl _ _⟩
  case round =>
    obtain ⟨k, hk, rfl, hb⟩ := hrel
    have HB := Lib.hid hb
    have s0 := hb.size
    obtain ⟨x0, x1, y0, y1⟩ := HTC.out _ hb
    clear hb
    by_cases hlt : k < P.length
    · have hPw := HP.out.below HB.out (Nat.le_refl _)
      have hQw := HQ.out.below HB.out (Nat.le_refl _)
      obtain ⟨rfl, hpb⟩ := hPw.ptr (by omega)
      obtain ⟨rfl, hqb⟩ := hQw.ptr (by omega)
      have r0 := hPw.cell k hlt
      have r1 := hQw.cell k hlt
      have i0 := hPw.rows k hlt
      have i1 := hQw.rows k hlt
      obtain ⟨xs, hxs⟩ : ∃ xs, row P k = xs := ⟨_, rfl⟩
      rw [hxs] at r0 r1 i0 i1
      have R0 := Lib.hid r0
      have R1 := Lib.hid r1
      have HT2 := Lib.hid (show ∀ w', Below wr.heap.size wr w' → w'.cell? ⟨w.heap.size, 0, none⟩ = some (.slice (some ⟨pb, po, none⟩) P.length pc) ∧ w'.cell? ⟨w.heap.size + 1, 0, none⟩ = some (.slice (some ⟨qb, qo, none⟩) P.length qc) ∧ w'.cell? ⟨pb, po + k, none⟩ = some (.slice (A k) xs.length (C k)) ∧ w'.cell? ⟨qb, qo + k, none⟩ = some (.slice (D k) xs.length (G k)) from
        fun w' h => by
          obtain ⟨x0, x1, y0, y1⟩ := HTC.out _ (HB.out.trans (h.mono s0))
          exact ⟨x0, y0, (h.cell (p := ⟨pb, po + k, none⟩) hpb).trans R0.out, (h.cell (p := ⟨qb, qo + k, none⟩) hqb).trans R1.out⟩)
      have HD := Lib.hid (below_dr (Below.refl wr.heap.size wr))
      have HCL := Lib.hid (show ∀ W, Below wr.heap.size wr W → Calls Try.prog 26 #[.slice (A k) xs.length (C k), .slice (D k) xs.length (G k)] W fun e w' => e = .returned (.bool true) ∧ Below wr.heap.size wr w' from
        fun W hW => (ints_any xs xs (A k) (D k) _ _ _ _ _ _ W (i0.below hW (Nat.le_refl _)) (i1.below hW (Nat.le_refl _))).mono fun e w' h => ⟨h.1.trans (by simp), hW.trans (h.2.mono hW.size)⟩)
      have j0 : (0 : Int) ≤ (k : Int) := by omega
      have j1 : (k : Int) < (P.length : Int) := by omega
      clear hPw hQw i0 i1 hxs r0 r1 x1 y1
      go_wp2
      go_region_held3 (fun w' => w'.cell? ⟨w.heap.size, 0, none⟩ = some (.slice (some ⟨pb, po, none⟩) P.length pc) ∧ w'.cell? ⟨w.heap.size + 1, 0, none⟩ = some (.slice (some ⟨qb, qo, none⟩) P.length qc) ∧ w'.cell? ⟨pb, po + k, none⟩ = some (.slice (A k) xs.length (C k)) ∧ w'.cell? ⟨qb, qo + k, none⟩ = some (.slice (D k) xs.length (G k)))
        (first | exact HT2.out _ HB1.out | exact HT2.out _ HD.out)
        ((go_simp; go_at_call 26; with_reducible refine (HCL.out _ HD.out).mono ?_; rintro e w1 ⟨rfl, hb1⟩; have HB1 := Lib.hid hb1; clear hb1))
      all_goals go_wp2
      all_goals go_roundw
      case rel => exact ⟨k + 1, by omega, by go_num, HB.out.trans (HB1.out.mono s0)⟩
      case measure => simp [intOf]; omega
    · go_wp2
      clear x0 x1 y0 y1
      go_loopw [6] (fun i wr => ∃ k : Nat, k ≤ T.length ∧ i = .int .i64 k ∧ Below wA.heap.size wA wr) (fun i _ => T.length - (intOf i).toNat)
      case atStart => exact ⟨0, by omega, rfl, HB.out⟩
      case round =>
        obtain ⟨k2, hk2, rfl, hb⟩ := hrel
        have HBZ := Lib.hid hb
        have s1 := hb.size
        obtain ⟨x0, x1, y0, y1⟩ := HTC.out _ hb
        clear hb
        by_cases hlt2 : k2 < T.length
        · have hPw := HT.out.below HBZ.out (Nat.le_refl _)
          have hQw := HS.out.below HBZ.out (Nat.le_refl _)
          obtain ⟨rfl, hpb⟩ := hPw.ptr (by omega)
          obtain ⟨rfl, hqb⟩ := hQw.ptr (by omega)
          have r0 := hPw.cell k2 hlt2
          have r1 := hQw.cell k2 hlt2
          have i0 := hPw.rows k2 hlt2
          have i1 := hQw.rows k2 hlt2
          obtain ⟨xs, hxs⟩ : ∃ xs, row T k2 = xs := ⟨_, rfl⟩
          rw [hxs] at r0 r1 i0 i1
          have R0 := Lib.hid r0
          have R1 := Lib.hid r1
          have HT2 := Lib.hid (show ∀ w', Below wr.heap.size wr w' → w'.cell? ⟨w.heap.size, 1, none⟩ = some (.slice (some ⟨tb, tz, none⟩) T.length tc) ∧ w'.cell? ⟨w.heap.size + 1, 1, none⟩ = some (.slice (some ⟨sb, so, none⟩) T.length sc) ∧ w'.cell? ⟨tb, tz + k2, none⟩ = some (.slice (A' k2) xs.length (C' k2)) ∧ w'.cell? ⟨sb, so + k2, none⟩ = some (.slice (D' k2) xs.length (G' k2)) from
            fun w' h => by
              obtain ⟨x0, x1, y0, y1⟩ := HTC.out _ (HBZ.out.trans (h.mono s1))
              exact ⟨x1, y1, (h.cell (p := ⟨tb, tz + k2, none⟩) hpb).trans R0.out, (h.cell (p := ⟨sb, so + k2, none⟩) hqb).trans R1.out⟩)
          have HD := Lib.hid (below_dr (Below.refl wr.heap.size wr))
          have HCL := Lib.hid (show ∀ W, Below wr.heap.size wr W → Calls Try.prog 26 #[.slice (A' k2) xs.length (C' k2), .slice (D' k2) xs.length (G' k2)] W fun e w' => e = .returned (.bool true) ∧ Below wr.heap.size wr w' from
            fun W hW => (ints_any xs xs (A' k2) (D' k2) _ _ _ _ _ _ W (i0.below hW (Nat.le_refl _)) (i1.below hW (Nat.le_refl _))).mono fun e w' h => ⟨h.1.trans (by simp), hW.trans (h.2.mono hW.size)⟩)
          have j0 : (0 : Int) ≤ (k2 : Int) := by omega
          have j1 : (k2 : Int) < (T.length : Int) := by omega
          clear hPw hQw i0 i1 hxs r0 r1 x0 y0
          go_wp2
          go_region_held3 (fun w' => w'.cell? ⟨w.heap.size, 1, none⟩ = some (.slice (some ⟨tb, tz, none⟩) T.length tc) ∧ w'.cell? ⟨w.heap.size + 1, 1, none⟩ = some (.slice (some ⟨sb, so, none⟩) T.length sc) ∧ w'.cell? ⟨tb, tz + k2, none⟩ = some (.slice (A' k2) xs.length (C' k2)) ∧ w'.cell? ⟨sb, so + k2, none⟩ = some (.slice (D' k2) xs.length (G' k2)))
            (first | exact HT2.out _ HB1.out | exact HT2.out _ HD.out)
            ((go_simp; go_at_call 26; with_reducible refine (HCL.out _ HD.out).mono ?_; rintro e w1 ⟨rfl, hb1⟩; have HB1 := Lib.hid hb1; clear hb1))
          all_goals go_wp2
          all_goals go_roundw
          case rel => exact ⟨k2 + 1, by omega, by go_num, HBZ.out.trans (HB1.out.mono s1)⟩
          case measure => simp [intOf]; omega
        · go_wp2
          go_ret
          exact ⟨rfl, HB0.out.trans (HBZ.out.mono (by omega))⟩

end Go.Proofs.Ytaphmjccdokiiaa
