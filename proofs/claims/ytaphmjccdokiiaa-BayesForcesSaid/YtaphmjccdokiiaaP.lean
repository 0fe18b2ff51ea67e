/- The weight of facts. -/
import Derived.Test.YtaphmjccdokiiaaL
namespace Go.Proofs.Ytaphmjccdokiiaa
open Go.RowKit Go.Maps

/-- The weight of those of the first k assignments that agree with the facts. -/
def fwTo (P T : List (List Int)) (φ : Int → Option Int) : Nat → Int
  | 0 => 0
  | k + 1 => fwTo P T φ k + if agr φ (bitv P.length k) = true then wt P T (bitv P.length k) P.length else 0
def fw (P T : List (List Int)) (φ : Int → Option Int) : Int := fwTo P T φ (2 ^ P.length)

theorem fwTo_bd {P T : List (List Int)} {φ : Int → Option Int} (h : IsNet P T) (k : Nat) : 0 ≤ fwTo P T φ k ∧ fwTo P T φ k ≤ k * 1099511627776 := by
  induction k with
  | zero => simp [fwTo]
  | succ k ih =>
    have := wt_le h (bitv_Bits P.length k) P.length (Nat.le_refl _)
    simp only [fwTo]
    split <;> omega

theorem two_pow_le {n : Nat} (h : n ≤ 10) : 2 ^ n ≤ 1024 := by have := Nat.pow_le_pow_right (n := 2) (by omega) h; simpa using this

set_option maxHeartbeats 2000000 in
set_option maxRecDepth 100000 in
theorem factsWeight_any {N : Nat} (P T : List (List Int)) (v : Value) (g : Nat) (φ : Int → Option Int) (w : World) (h : NetAt w v P T) (hn : IsNet P T) (hf : FactsAt N w g φ) (hd : Dom φ) :
    Calls Try.prog 52 #[v, .map (some g)] w fun e w' => e = .returned (.int .i64 (fw P T φ)) ∧ Below w.heap.size w w' := by
  have HN := Lib.hid hn
  have HF := Lib.hid hf
  have HD := Lib.hid hd
  obtain ⟨pa, b, o, pc, A, B, O, C, ta, b', o', tc, A', B', O', C', rfl, hP, hT⟩ := h.ex
  have h10 := hn.le
  rw [hn.tab] at h ⊢
  have HNet := Lib.hid h
  have h2 := two_pow_le h10
  obtain ⟨m, hm⟩ : ∃ m : Nat, m = 2 ^ P.length := ⟨_, rfl⟩
  rw [← hm] at h2
  have HM := Lib.hid hm
  have hA := assignments_any P.length
  have HA := Lib.hid hA
  clear hP hT h hn hf hd hm hA
  go_enter Try.func52, Try.ntmps52
  go_wp2_with (go_at_call 73; refine (HA.out _ (by omega)).mono ?_; rw [← HM.out]; rintro e w' ⟨rfl, rfl⟩)
  go_loopw [6, 7, 8, 14] (fun s _ _ i wr => ∃ k : Nat, k ≤ m ∧ i = .int .i64 k ∧ s = .int .i64 (fwTo P T φ k) ∧ Below (w.heap.size + 1) (w.alloc (.cells #[.slice pa P.length pc, .slice ta P.length tc] 24)) wr) (fun _ _ _ i _ => m - (intOf i).toNat)
  case atStart => exact ⟨0, by omega, rfl, rfl, Below.refl _ _⟩
  case round =>
    obtain ⟨k, hk, rfl, rfl, hb⟩ := hrel
    have HB := Lib.hid hb
    have hbd := fwTo_bd (φ := φ) HN.out k
    clear hb
    by_cases hlt : k < m
    · go_wp2_with fail
      refine (assignmentAt_any k P.length _ h10 (by omega)).mono ?_
      rintro e w1 ⟨rfl, hb1⟩
      have HB1 := Lib.hid hb1
      clear hb1
      obtain ⟨W, hW⟩ : ∃ W, W = (w1.alloc (Obj.cells #[.int .i64 0, .int .i64 0, .int .i64 0, .int .i64 0, .int .i64 0, .int .i64 0, .int .i64 0, .int .i64 0, .int .i64 0, .int .i64 0] 78)).setRow w1.heap.size (arrC (bitv P.length k)) := ⟨_, rfl⟩
      have hWb : Below w1.heap.size w1 W := by rw [hW]; exact below_setRow ((Below.refl _ _).alloc (Nat.le_refl _) _) (Nat.le_refl _) _
      have hWr : W.heap[w1.heap.size]? = some (.cells (arrC (bitv P.length k)) 78 (0, 0)) := by rw [hW]; exact setRow_heap _ _ _ _ _ _ (heap_alloc_new _ _)
      have HW := Lib.hid hW
      have HWB := Lib.hid hWb
      have HWR := Lib.hid hWr
      clear hW hWb hWr
      have s0 := HB.out.size
      have s1 := HB1.out.size
      have s2 := HWB.out.size
      simp only [World.size_alloc] at s0
      have hbW : Below (w.heap.size + 1) (w.alloc (.cells #[.slice pa P.length pc, .slice ta P.length tc] 24)) W := (HB.out.trans (HB1.out.mono s0)).trans (HWB.out.mono (by omega))
      have HBW := Lib.hid hbW
      obtain ⟨x0, x1⟩ := box2 hbW
      have hfW := (HF.out.below ((Below.refl _ _).alloc (Nat.le_refl _) _) (Nat.le_refl _)).below hbW (by simp)
      have hA2 := agree_any g φ (bitv P.length k) W hfW HD.out
      have hwt := wt_le HN.out (bitv_Bits P.length k) P.length (Nat.le_refl _)
      clear hbW
      cases e : agr φ (bitv P.length k)
      · rw [e] at hA2
        have HA2 := Lib.hid hA2
        have HS := Lib.hid (show fwTo P T φ (k + 1) = fwTo P T φ k by simp [fwTo, e])
        clear hA2 e x0 x1
        go_wp2_with (first
          | (refine wpList_store_row rfl 78 (.tmp 8) (.tmp 19) rfl w1.heap.size _ rfl rfl 78 _ (heap_alloc_new _ _) (by kernel_rfl) rfl (arrC_all _) ?_; rw [← HW.out])
          | (refine wpList_load_row rfl 78 (.tmp 8) rfl w1.heap.size rfl 78 _ _ _ HWR.out Try.underlying78 rfl (by kernel_rfl) ?_)
          | (go_at_call 75; refine HA2.out.mono ?_; rintro e w3 ⟨rfl, hb3⟩; have HB3 := Lib.hid hb3; clear hb3))
        go_roundw
        case rel => exact ⟨k + 1, by omega, by go_num, by rw [HS.out], HBW.out.trans (HB3.out.mono (by omega))⟩
        case measure => simp [intOf]; omega
      · rw [e] at hA2
        have HA2 := Lib.hid hA2
        have HS := Lib.hid (show fwTo P T φ (k + 1) = fwTo P T φ k + wt P T (bitv P.length k) P.length by simp [fwTo, e])
        clear hA2 e x0 x1
        go_wp2_with (first
          | (refine wpList_store_row rfl 78 (.tmp 8) (.tmp 19) rfl w1.heap.size _ rfl rfl 78 _ (heap_alloc_new _ _) (by kernel_rfl) rfl (arrC_all _) ?_; rw [← HW.out])
          | (refine wpList_load_row rfl 78 (.tmp 8) rfl w1.heap.size rfl 78 _ _ _ HWR.out Try.underlying78 rfl (by kernel_rfl) ?_)
          | (refine wpList_load_row rfl 78 (.tmp 8) rfl w1.heap.size rfl 78 _ _ _ HR3.out Try.underlying78 rfl (by kernel_rfl) ?_)
          | (go_at_call 75; refine HA2.out.mono ?_; rintro e w3 ⟨rfl, hb3⟩; obtain ⟨y0, y1⟩ := box2 (HBW.out.trans (hb3.mono (by omega))); have HR3 := Lib.hid ((hb3.block _ (lt_of_block HWR.out)).trans HWR.out); have HB3 := Lib.hid hb3; clear hb3)
          | (go_at_call 48; refine (weight_any P T _ (bitv P.length k) _ (((HNet.out.alloc _).below (HBW.out.trans (HB3.out.mono (by omega))) (by simp))) HN.out (bitv_Bits _ _)).mono ?_; rintro e w4 ⟨rfl, hb4⟩; have HB4 := Lib.hid hb4; clear hb4))
        have s3 := HB3.out.size
        go_roundw
        case rel => exact ⟨k + 1, by omega, by go_num, by rw [HS.out], (HBW.out.trans (HB3.out.mono (by omega))).trans (HB4.out.mono (by omega))⟩
        case measure => simp [intOf]; omega
    · go_wp2
      go_ret
      have e : k = 2 ^ P.length := by have := HM.out; omega
      exact ⟨ret_int (by rw [fw, ← e]), ((Below.refl _ _).alloc (Nat.le_refl _) _).trans (HB.out.mono (by omega))⟩

end Go.Proofs.Ytaphmjccdokiiaa
