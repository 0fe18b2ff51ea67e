/- StopOrders: the walk. -/
import Derived.Test.YthnkmmjelpdamaaH2
import Derived.Test.YthnkmmjelpdamaaG1
namespace Go.Proofs.Ythnkmmjelpdamaa
open Go.RowKit

/-- The share of the orders is the probability. -/
def chkOrd (n : Nat) : Bool := (List.range n).all fun s => fnum n s * oa n n [] == og n s n [] * fden n s
theorem chkOrd1 : chkOrd 1 = true := by decide +kernel
theorem chkOrd2 : chkOrd 2 = true := by decide +kernel
theorem chkOrd3 : chkOrd 3 = true := by decide +kernel
theorem chkOrd4 : chkOrd 4 = true := by decide +kernel
theorem chkOrd5 : chkOrd 5 = true := by decide +kernel
theorem chkOrd6 : chkOrd 6 = true := by decide +kernel
theorem ord_ok {n s : Nat} (h1 : 1 ≤ n) (hn : n ≤ 6) (hs : s < n) : fnum n s * oa n n [] = og n s n [] * fden n s := by
  have h : chkOrd n = true := by
    rcases n with _ | _ | _ | _ | _ | _ | _ | n
    · omega
    · exact chkOrd1
    · exact chkOrd2
    · exact chkOrd3
    · exact chkOrd4
    · exact chkOrd5
    · exact chkOrd6
    · omega
  unfold chkOrd at h
  rw [List.all_eq_true] at h
  exact eq_of_beq (h s (List.mem_range.2 hs))

set_option maxHeartbeats 4000000 in
set_option maxRecDepth 100000 in
theorem stopOrders_any (x y : Int) (w : World) (hx : -9223372036854775808 ≤ x ∧ x ≤ 9223372036854775807) (hy : -9223372036854775808 ≤ y ∧ y ≤ 9223372036854775807) :
    Calls Try.prog 11 #[.int .i64 x, .int .i64 y] w fun e w' => e = .returned (.bool true) ∧ Below w.heap.size w w' := by
  have hmb := modI_bd (x := x) (n := 6) (by omega)
  have HMO := Lib.hid (mod_any x 6 w hx (by omega) (by omega))
  obtain ⟨z, hz⟩ : ∃ z, modI x 6 = z := ⟨_, rfl⟩
  rw [hz] at hmb HMO
  obtain ⟨n, hn⟩ := Int.eq_ofNat_of_zero_le (show 0 ≤ 1 + z by omega)
  have hn1 : 1 ≤ n := by omega
  have hn2 : n ≤ 6 := by omega
  have hw1 : wrap64 (1 + z) = (n : Int) := by rw [hn]; exact IntWalk.wrap64_in _ ⟨by omega, by omega⟩
  have hmb2 := modI_bd (x := y) (n := (n : Int)) (by omega)
  have HM2 := Lib.hid (mod_any y n w hy (by omega) (by omega))
  obtain ⟨s, hs⟩ := Int.eq_ofNat_of_zero_le hmb2.1
  have hsn : s < n := by omega
  rw [hs] at HM2
  have HCH := Lib.hid (fun W => pickChosen_yes n s W hn1 (by omega) hsn)
  rw [fparts] at HCH
  obtain ⟨s3, s4, s5, s6⟩ := parts_ok (show n ≤ 20 by omega) hsn
  have HOR := Lib.hid (fun W => orders_any n s hn2 (by omega) n [] none 0 0 0 W (by simp) (fun i => by simp [nth]) ⟨IntsAt.nil _ _ _ _, by simp, fun _ => ⟨rfl, rfl⟩⟩)
  have hok := ord_ok hn1 hn2 hsn
  obtain ⟨g0, g1⟩ := og_bd (skip := s) hn2 n []
  obtain ⟨a0, a1⟩ := oa_bd hn2 n []
  have hp6 := pow6_le hn2
  obtain ⟨fa, hfa⟩ : ∃ a, fnum n s = a := ⟨_, rfl⟩
  obtain ⟨fb, hfb⟩ : ∃ b, fden n s = b := ⟨_, rfl⟩
  obtain ⟨gd, hgd⟩ : ∃ b, og n s n [] = b := ⟨_, rfl⟩
  obtain ⟨al, hal⟩ : ∃ b, oa n n [] = b := ⟨_, rfl⟩
  rw [show ([] : List Int).length = 0 from rfl] at HOR
  rw [hfa] at HCH s5 s6 hok
  rw [hfb] at HCH s3 s4 s6 hok
  rw [hgd] at HOR g0 g1 hok
  rw [hal] at HOR a0 a1 hok
  have t1 : decide (fb < 1) = false := decide_eq_false (by omega)
  have m1 : 0 ≤ fa * al ∧ fa * al ≤ 2147483648 * 46656 := ⟨Int.mul_nonneg (by omega) (by omega), Int.mul_le_mul (by omega) (by omega) (by omega) (by omega)⟩
  have w7 : wrap64 (fa * al) = fa * al := IntWalk.wrap64_in _ ⟨by omega, by omega⟩
  have w8 : wrap64 (gd * fb) = fa * al := by rw [← hok]; exact IntWalk.wrap64_in _ ⟨by omega, by omega⟩
  clear hz hn hs hok hfa hfb hgd hal m1 g0 g1 a0 a1 hp6 hmb hmb2
  go_enter Try.func11, Try.ntmps11
  go_wp2_with fail
  refine HMO.out.mono ?_
  rintro e w0 ⟨rfl, rfl⟩
  go_wp2_with fail
  refine HM2.out.mono ?_
  rintro e w0' ⟨rfl, rfl⟩
  go_wp2_with fail
  refine (HCH.out _).mono ?_
  rintro e w1 ⟨rfl, hb1⟩
  go_wp2_with fail
  refine (HOR.out _).mono ?_
  rintro e w2 ⟨rfl, hb2⟩
  have hb12 : Below w1.heap.size w1 w2 := ((Below.refl _ w1).alloc (Nat.le_refl _) (.cells #[.int .i64 fa, .int .i64 fb] 47)).trans (hb2.mono (by simp))
  obtain ⟨c0, c1, -, -⟩ := block_of_cells ((hb2.block w1.heap.size (by simp)).trans (heap_alloc_new w1 (.cells #[.int .i64 fa, .int .i64 fb] 47)))
  have HB2 := Lib.hid (hb1.trans (hb12.mono hb1.size))
  clear hb1 hb2 hb12
  go_wp2_with fail
  refine (awake_any _).mono ?_
  rintro e w3 ⟨rfl, hb3⟩
  have HB3 := Lib.hid (HB2.out.trans (hb3.mono HB2.out.size))
  clear hb3 c0 c1
  go_wp2
  go_ret
  exact ⟨rfl, HB3.out⟩

end Go.Proofs.Ythnkmmjelpdamaa
