/- The reference's gain of the best rule. -/
import Derived.StillTactics
import Derived.Test.YthnkmmjelpdamaaJ1
import Derived.Test.YthnkmmjelpdamaaD8
namespace Go.Proofs.Ythnkmmjelpdamaa
open Go.RowKit

set_option maxHeartbeats 4000000 in
set_option maxRecDepth 100000 in
theorem refWise_any (L : List (List (Int × Int))) (ao : Option Addr) (b o cap : Nat) (A : Nat → Option Addr) (B O C : Nat → Nat) (w : World) (h : OffsAt w ao b o L A B O C) (hok : okOffs L = true) :
    Calls Try.prog 38 #[.slice ao L.length cap] w fun e w' => e = .returned (fracV (gL accP L (dn L.length L.length)).1 (16 ^ L.length)) ∧ Below w.heap.size w w' := by
  have hok' : L.length ≤ 6 ∧ ∀ i, i < L.length → okOff (rowP L i) = true := of_decide_eq_true hok
  have hl6 := hok'.1
  have HBD := Lib.hid (fun pre => gL_bd (acc := accP) hok'.2 pre)
  have HOK := Lib.hid hok'.2
  have HH := Lib.hid h
  have HRD : Hid (∀ W, Calls Try.prog 60 #[.int .i64 (gL accP L (dn L.length L.length)).1, .int .i64 (16 ^ L.length)] W fun e w' => e = .returned (fracV (gL accP L (dn L.length L.length)).1 (16 ^ L.length)) ∧ Below W.heap.size W w') := fun W => by
    have h1 := HBD.out (dn L.length L.length)
    have h2 := pow16_nat hl6
    rw [dn_length] at h1
    exact reduced_any _ _ W (by omega) (by omega) (by omega) (by omega)
  obtain ⟨fa, fb, hf⟩ : ∃ a b, fracV (gL accP L (dn L.length L.length)).1 (16 ^ L.length) = .agg #[.int .i64 a, .int .i64 b] := ⟨_, _, rfl⟩
  rw [hf] at HRD ⊢
  have HBLK := Lib.hid (heap_alloc_new w (.cells #[.int .i64 0, .int .i64 0] 47))
  have hw1 : wrap64 ((L.length : Int) - 1) = (L.length : Int) - 1 := IntWalk.wrap64_in _ ⟨by omega, by omega⟩
  clear hok hok' hf h
  go_enter Try.func38, Try.ntmps38
  go_wp2
  clear hw1
  obtain ⟨w0, hw0⟩ : ∃ w0, w.alloc (.cells #[.int .i64 0, .int .i64 0] 47) = w0 := ⟨_, rfl⟩
  rw [hw0] at HBLK ⊢
  have hs0 : w0.heap.size = w.heap.size + 1 := by rw [← hw0]; simp
  have HB0 : Hid (Below w.heap.size w w0) := by rw [← hw0]; exact (Below.refl _ _).alloc (Nat.le_refl _) _
  clear hw0
  go_loopw [3, 4, 5, 6, 7] (fun l h y _ _ wr => ∃ k : Nat, k ≤ L.length ∧ y = .int .i64 ((L.length : Int) - 1 - (k : Int)) ∧ l = .int .i64 (gL accP L (dn L.length k)).1 ∧ h = .int .i64 (16 ^ k) ∧ Below w0.heap.size w0 wr) (fun _ _ y _ _ _ => (intOf y + 1).toNat)
  case atStart => exact ⟨0, Nat.zero_le _, by simp, rfl, rfl, Below.refl _ _⟩
  case round =>
    obtain ⟨k, hk, rfl, rfl, rfl, hb⟩ := hrel
    obtain ⟨wq, rfl⟩ : ∃ x, x = wr := ⟨_, rfl⟩
    have HBq := Lib.hid (HB0.out.trans (hb.mono (by omega)))
    have HB0q := Lib.hid hb
    have hsq := hb.size
    clear hb
    by_cases hlt : k < L.length
    · obtain ⟨x, hx⟩ : ∃ x, L.length - 1 - k = x := ⟨_, rfl⟩
      have hxl : x < L.length := by omega
      have hxi : (L.length : Int) - 1 - (k : Int) = (x : Int) := by omega
      have hxs : (x : Int) - 1 = (L.length : Int) - 1 - ((k + 1 : Nat) : Int) := by omega
      have hwx : wrap64 ((x : Int) - 1) = (x : Int) - 1 := IntWalk.wrap64_in _ ⟨by omega, by omega⟩
      have hge : decide (0 ≤ (x : Int)) = true := decide_eq_true (by omega)
      have hX := HH.out.below HBq.out (Nat.le_refl _)
      obtain ⟨rfl, -⟩ := hX.ptr (by omega)
      have cx := hX.cell x hxl
      have HPX := Lib.hid (hX.rows x hxl)
      obtain ⟨hb0, hb1, hb2⟩ := HBD.out (dn L.length k)
      rw [dn_length] at hb2
      have hr : (rowP L x).length ≤ 8 ∧ (∀ i, i < (rowP L x).length → goodP (rowP L x) i) ∧ wsTo (rowP L x) (rowP L x).length = 16 := of_decide_eq_true (HOK.out x hxl)
      have HSN := Lib.hid (show gL accP L (dn L.length (k + 1)) = gStep accP L (gL accP L (dn L.length k)) x by rw [dn_succ, hx, gL_snoc])
      obtain ⟨la, hla⟩ : ∃ la, (gL accP L (dn L.length k)).1 = la := ⟨_, rfl⟩
      have hp16 := pow16_nat (show k ≤ 6 by omega)
      have HST := Lib.hid (show (gL accP L (dn L.length (k + 1))).1 = offS accP (rowP L x) la (16 ^ k) (rowP L x).length by rw [HSN.out, gStep, hla, hb2])
      rw [hb2] at hb1
      rw [hla] at hb0 hb1 ⊢
      have HPW := Lib.hid (show (16 : Int) ^ (k + 1) = 16 ^ k * 16 from Int.pow_succ _ _)
      obtain ⟨wh, hwh⟩ : ∃ wh : Int, 16 ^ k = wh := ⟨_, rfl⟩
      rw [hwh] at hb1 hp16 HST HPW ⊢
      have hw16 : wrap64 (16 * wh) = 16 * wh := IntWalk.wrap64_in _ ⟨by omega, by omega⟩
      obtain ⟨r, hrr⟩ : ∃ r, rowP L x = r := ⟨_, rfl⟩
      rw [hrr] at cx HPX HST hr
      have hr8 := hr.1
      have HRG := Lib.hid hr.2.1
      have HXS := Lib.hid hxs
      rw [hxi]
      clear hx hxi hxs hX hb2 hla hwh hrr hr HSN
      go_wp2
      go_loopw [6, 7] (fun s z wr => ∃ i : Nat, i ≤ r.length ∧ z = .int .i64 i ∧ s = .int .i64 (offS accP r la wh i) ∧ Below wq.heap.size wq wr) (fun _ z _ => r.length - (intOf z).toNat)
      case atStart => exact ⟨0, Nat.zero_le _, rfl, rfl, Below.refl _ _⟩
      case round =>
        obtain ⟨i, hi, rfl, rfl, hb⟩ := hrel
        obtain ⟨wi, rfl⟩ : ∃ x, x = wr := ⟨_, rfl⟩
        have HBi := Lib.hid hb
        have cx' := (hb.cell (p := ⟨b, o + x, none⟩) (by show b < wq.heap.size; have := (HH.out.ptr (by omega)).2; omega)).trans cx
        by_cases hlr : i < r.length
        · have hp := HPX.out.below hb (Nat.le_refl _)
          obtain ⟨hA, -⟩ := hp.ptr (by omega)
          rw [hA] at cx'
          have q0 := hp.cell0 i hlr
          have q1 := hp.cell1 i hlr
          obtain ⟨⟨g0, g1⟩, g2, g3⟩ := HRG.out i hlr
          obtain ⟨s0, s1⟩ := offS_bd (acc := accP) hb0 hb1 (by omega) (fun j (hj : j < i) => HRG.out j (by omega))
          have HSS := Lib.hid (show offS accP r la wh (i + 1) = offS accP r la wh i + (if accP (qf r i) la wh = true then qv r i * qf r i * wh else qv r i * la) from rfl)
          have hws : wsTo r i ≤ 16 * i := (wsTo_bd (fun j (hj : j < i) => HRG.out j (by omega))).2
          obtain ⟨s, hs⟩ : ∃ s, offS accP r la wh i = s := ⟨_, rfl⟩
          obtain ⟨X, hX⟩ : ∃ X, qf r i = X := ⟨_, rfl⟩
          obtain ⟨Y, hY⟩ : ∃ Y, qv r i = Y := ⟨_, rfl⟩
          rw [hs] at s0 s1 HSS ⊢
          rw [hX] at q0 g0 g1 HSS
          rw [hY] at q1 g2 g3 HSS
          have hs2 : s ≤ 128 * (1000 * wh) := Int.le_trans s1 (Int.mul_le_mul_of_nonneg_right (by omega) (by omega))
          have m1 : 0 ≤ Y * X ∧ Y * X ≤ 16000 := ⟨Int.mul_nonneg (by omega) g0, by have := Int.mul_le_mul g3 g1 g0 (by omega : (0:Int) ≤ 16); omega⟩
          obtain ⟨YX, hYX⟩ : ∃ z, Y * X = z := ⟨_, rfl⟩
          rw [hYX] at m1 HSS
          have m2 : 0 ≤ YX * wh ∧ YX * wh ≤ 16000 * wh := ⟨Int.mul_nonneg m1.1 (by omega), Int.mul_le_mul_of_nonneg_right m1.2 (by omega)⟩
          have m3 : 0 ≤ Y * la ∧ Y * la ≤ 16 * la := ⟨Int.mul_nonneg (by omega) hb0, Int.mul_le_mul_of_nonneg_right g3 hb0⟩
          obtain ⟨p1, hp1⟩ : ∃ z, YX * wh = z := ⟨_, rfl⟩
          obtain ⟨p2, hp2⟩ : ∃ z, Y * la = z := ⟨_, rfl⟩
          rw [hp1] at m2 HSS
          rw [hp2] at m3 HSS
          have hq : Y * (X * wh) = p1 := by rw [← hp1, ← hYX, Int.mul_assoc]
          have hqb : 0 ≤ X * wh ∧ X * wh ≤ 1000 * wh := ⟨Int.mul_nonneg g0 (by omega), Int.mul_le_mul_of_nonneg_right g1 (by omega)⟩
          obtain ⟨q, hqq⟩ : ∃ q, X * wh = q := ⟨_, rfl⟩
          have v1 : wrap64 (X * wh) = q := by rw [hqq]; rw [hqq] at hqb; exact IntWalk.wrap64_in _ ⟨by omega, by omega⟩
          have u1 : IntKind.i64.wrap (X * wh) = q := by rw [hqq]; rw [hqq] at hqb; exact IntWalk.i64_in _ (by omega)
          rw [hqq] at hq
          have v2 : wrap64 (Y * q) = p1 := by rw [hq]; exact IntWalk.wrap64_in _ ⟨by omega, by omega⟩
          have u2 : IntKind.i64.wrap (Y * q) = p1 := by rw [hq]; exact IntWalk.i64_in _ (by omega)
          have v3 : wrap64 (Y * la) = p2 := by rw [hp2]; exact IntWalk.wrap64_in _ ⟨by omega, by omega⟩
          have u3 : IntKind.i64.wrap (Y * la) = p2 := by rw [hp2]; exact IntWalk.i64_in _ (by omega)
          have v4 : wrap64 (s + p1) = s + p1 := IntWalk.wrap64_in _ ⟨by omega, by omega⟩
          have v5 : wrap64 (s + p2) = s + p2 := IntWalk.wrap64_in _ ⟨by omega, by omega⟩
          have u4 : IntKind.i64.wrap (s + p1) = s + p1 := IntWalk.i64_in _ (by omega)
          have u5 : IntKind.i64.wrap (s + p2) = s + p2 := IntWalk.i64_in _ (by omega)
          have HAC := Lib.hid (show accP X la wh = decide (la ≤ q) by rw [← hqq]; rfl)
          clear hp hA hs hX hY hYX hp1 hp2 s1 hb hq hqb hqq
          by_cases hT : la ≤ q
          · have e1 : ¬ q < la := by omega
            have HS2 := Lib.hid (show offS accP r la wh (i + 1) = s + p1 by rw [HSS.out, if_pos (show accP X la wh = true by rw [HAC.out]; exact decide_eq_true hT)])
            clear hT
            go_wp2
            go_still (by kernel_rfl)
            go_wp2
            go_roundw
            case rel => exact ⟨i + 1, by omega, by go_num, by rw [HS2.out]; first | done | rw [if_neg (by omega), u2, u4], by first | exact below_dr HBi.out | exact below_drewN HBi.out _ | exact HBi.out⟩
            case measure => simp [intOf]; omega
          · have e1 : q < la := by omega
            have HS2 := Lib.hid (show offS accP r la wh (i + 1) = s + p2 by rw [HSS.out, if_neg (show ¬ accP X la wh = true by rw [HAC.out]; simp; omega)])
            clear hT
            go_wp2
            go_still (by kernel_rfl)
            go_wp2
            go_roundw
            case rel => exact ⟨i + 1, by omega, by go_num, by rw [HS2.out]; first | done | rw [if_pos (by omega), u3, u5], by first | exact below_dr HBi.out | exact below_drewN HBi.out _ | exact HBi.out⟩
            case measure => simp [intOf]; omega
        · obtain rfl : i = r.length := by omega
          clear hb
          go_wp2
          go_roundw
          case rel => exact ⟨k + 1, by omega, by rw [← HXS.out], by rw [HST.out], by rw [HPW.out, Int.mul_comm], HB0q.out.trans (HBi.out.mono hsq)⟩
          case measure => simp [intOf]
    · obtain rfl : k = L.length := by omega
      rw [show (L.length : Int) - 1 - (L.length : Int) = -1 by omega]
      go_wp2_with fail
      refine (HRD.out _).mono ?_
      rintro e w6 ⟨rfl, hb6⟩
      have hblk := (hb6.block w.heap.size (by omega)).trans ((HB0q.out.block w.heap.size (by omega)).trans HBLK.out)
      obtain ⟨c0, c1, f0, f1⟩ := block_of_cells hblk
      have HB6 := Lib.hid (HBq.out.trans (hb6.mono HBq.out.size))
      clear hblk hb6
      go_wp2
      refine bodyPost_ret (v := .agg #[.int .i64 fa, .int .i64 fb]) ?_ rfl ⟨rfl, (HB6.out.setCell (p := ⟨_, 0, none⟩) (Nat.le_refl _) _).setCell (p := ⟨_, 1, none⟩) (Nat.le_refl _) _⟩
      obtain ⟨g0, g1⟩ := set2_cells (x := .int .i64 fa) (y := .int .i64 fb) c0 c1
      simp [results, Try.results38, go_sem, g0, g1]

end Go.Proofs.Ythnkmmjelpdamaa
