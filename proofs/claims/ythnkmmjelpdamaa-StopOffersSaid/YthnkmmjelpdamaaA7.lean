/- Candidates: the reference's functions. -/
import Derived.Test.YthnkmmjelpdamaaA6
namespace Go.Proofs.Ythnkmmjelpdamaa
open Go.RowKit

theorem frac_scale {n D k : Int} (hk : 1 ≤ k) : fracV (n * k) (D * k) = fracV n D := by
  have e : (Int.gcd (n * k) (D * k) : Int) = (Int.gcd n D : Int) * k := by
    rw [Int.gcd_mul_right]
    simp
    have : (k.natAbs : Int) = k := by omega
    rw [this]
  unfold fracV fracC
  rw [e, Int.mul_ediv_mul_of_pos_left _ _ (by omega), Int.mul_ediv_mul_of_pos_left _ _ (by omega)]

/-- The sum of the first k shares. -/
def rcTo (skip : Nat) : Nat → Int
  | 0 => 0
  | k + 1 => rcTo skip k + 232792560 / ((skip + k : Nat) : Int)
theorem rc_term {skip k : Nat} : 0 ≤ 232792560 / ((skip + k : Nat) : Int) ∧ 232792560 / ((skip + k : Nat) : Int) ≤ 232792560 :=
  ⟨Int.ediv_nonneg (by omega) (by omega), Int.ediv_le_self _ (by omega)⟩
theorem rcTo_bd (skip k : Nat) : 0 ≤ rcTo skip k ∧ rcTo skip k ≤ k * 232792560 := by
  induction k with
  | zero => simp [rcTo]
  | succ k ih => have := rc_term (skip := skip) (k := k); simp only [rcTo]; omega
theorem rc_cw (skip k : Nat) : (skip : Int) * rcTo skip k = cwTo skip k := by
  induction k with
  | zero => simp [rcTo, cwTo]
  | succ k ih => rw [rcTo, cwTo, Int.mul_add, ih, Int.mul_comm (skip : Int) (232792560 / _)]

theorem fracV_one (n : Nat) (h : 1 ≤ n) : fracV 232792560 ((n : Int) * 232792560) = .agg #[.int .i64 1, .int .i64 n] := by
  have h1 := frac_scale (n := 1) (D := (n : Int)) (k := 232792560) (by omega)
  rw [Int.one_mul] at h1
  rw [h1]
  unfold fracV fracC
  have : Int.gcd 1 (n : Int) = 1 := Int.one_gcd
  rw [this]
  simp

set_option maxHeartbeats 2000000 in
theorem refChosen_any (n skip : Nat) (w : World) (h1 : 1 ≤ n) (hn : n ≤ 20) (hs : skip ≤ n) :
    Calls Try.prog 32 #[.int .i64 n, .int .i64 skip] w fun e w' => e = .returned (fracV (cw n skip) (n * 232792560)) ∧ Below w.heap.size w w' := by
  by_cases h0 : skip = 0
  · have hv : fracV (cw n skip) (n * 232792560) = .agg #[.int .i64 1, .int .i64 n] := by
      rw [show cw n skip = 232792560 by unfold cw; rw [if_pos h0]]
      exact fracV_one n h1
    have t1 : ((skip : Int) == 0) = true := by rw [beq_iff_eq]; omega
    rw [hv]
    clear hv h0
    go_enter Try.func32, Try.ntmps32
    go_wp2
    exact bodyPost_ret (v := .agg #[.int .i64 1, .int .i64 n]) (by simp [results, Try.results32, go_sem]) rfl ⟨rfl, (Below.refl _ _).alloc (Nat.le_refl _) _⟩
  · have hc : cw n skip = (skip : Int) * rcTo skip (n - skip) := by rw [rc_cw]; unfold cw; rw [if_neg h0]
    have t1 : ((skip : Int) == 0) = false := by rw [beq_eq_false_iff_ne]; omega
    have hbd := cw_bd (n := n) (skip := skip) hn
    have hb2 := rcTo_bd skip (n - skip)
    have hs1 : 1 ≤ skip := by omega
    rw [hc] at hbd ⊢
    obtain ⟨S, hS⟩ : ∃ S, rcTo skip (n - skip) = S := ⟨_, rfl⟩
    rw [hS] at hbd hb2 ⊢
    have HS := Lib.hid hS
    obtain ⟨c, hcc⟩ : ∃ c, (skip : Int) * S = c := ⟨_, rfl⟩
    rw [hcc] at hbd ⊢
    have e1 : wrap64 ((skip : Int) * S) = c := by rw [hcc]; exact IntWalk.wrap64_in _ ⟨by omega, by omega⟩
    have hrd := fun W => reduced_any c (n * 232792560) W (by omega) (by omega) (by omega) (by omega)
    obtain ⟨a, b, hab⟩ : ∃ a b, fracV c (n * 232792560) = .agg #[.int .i64 a, .int .i64 b] := ⟨_, _, rfl⟩
    rw [hab] at hrd ⊢
    have HRD := Lib.hid hrd
    have HE := Lib.hid e1
    clear hc h0 hS hcc hrd hab e1
    go_enter Try.func32, Try.ntmps32
    go_wp2
    go_loop [6, 7] (fun x y => ∃ k : Nat, k ≤ n - skip ∧ y = .int .i64 ((skip + k : Nat) : Int) ∧ x = .int .i64 (rcTo skip k)) (fun _ y => n - (intOf y).toNat)
    case atStart => exact ⟨0, by omega, rfl, rfl⟩
    case round =>
      obtain ⟨k, hk, rfl, rfl⟩ := hrel
      have hb := rcTo_bd skip k
      have ht := rc_term (skip := skip) (k := k)
      have HT := Lib.hid (show rcTo skip (k + 1) = rcTo skip k + 232792560 / ((skip + k : Nat) : Int) from rfl)
      obtain ⟨s, hs'⟩ : ∃ s, rcTo skip k = s := ⟨_, rfl⟩
      have HSS := Lib.hid hs'
      rw [hs'] at hb HT ⊢
      obtain ⟨b', hbb⟩ : ∃ b' : Nat, skip + k = b' := ⟨_, rfl⟩
      rw [hbb] at ht HT ⊢
      have HBB := Lib.hid hbb
      have hbn : b' ≤ n := by omega
      have hb1 : 1 ≤ b' := by omega
      clear hs'
      by_cases hlt : b' < n
      · clear hbb
        go_wp2
        go_round
        case rel => exact ⟨k + 1, by have := HBB.out; omega, by have := HBB.out; rw [show skip + (k + 1) = b' + 1 by omega]; go_num, by rw [HT.out]⟩
        case measure => simp [intOf]; omega
      · have hkn : k = n - skip := by omega
        have hsS : s = S := by rw [← HS.out, ← hkn, HSS.out]
        subst hsS
        have e1 := HE.out
        clear hkn hbb
        go_wp2_with fail
        refine (HRD.out _).mono ?_
        rintro e w1 ⟨rfl, hb⟩
        have hblk := (hb.block w.heap.size (by simp)).trans (heap_alloc_new w (.cells #[.int .i64 0, .int .i64 0] 47))
        obtain ⟨c0, c1, f0, f1⟩ := block_of_cells hblk
        have HB := Lib.hid (((Below.refl _ w).alloc (Nat.le_refl _) (.cells #[.int .i64 0, .int .i64 0] 47)).trans (hb.mono (by simp)))
        clear hb hblk
        go_wp2
        refine bodyPost_ret (v := .agg #[.int .i64 a, .int .i64 b]) ?_ rfl ⟨rfl, (HB.out.setCell (p := ⟨_, 0, none⟩) (Nat.le_refl _) _).setCell (p := ⟨_, 1, none⟩) (Nat.le_refl _) _⟩
        obtain ⟨g0, g1⟩ := set2_cells (x := .int .i64 a) (y := .int .i64 b) c0 c1
        simp [results, Try.results32, go_sem, g0, g1]

/-- The parts of the probability. -/
def fnum (n s : Nat) : Int := cw n s / (Int.gcd (cw n s) (n * 232792560) : Int)
def fden (n s : Nat) : Int := (n * 232792560) / (Int.gcd (cw n s) (n * 232792560) : Int)
theorem fparts (n s : Nat) : fracV (cw n s) (n * 232792560) = .agg #[.int .i64 (fnum n s), .int .i64 (fden n s)] := rfl

def chkLess : Bool := (List.range 21).all fun n => (List.range n).all fun i => (List.range n).all fun k => lessB (fnum n i) (fden n i) (fnum n k) (fden n k) == decide (cw n i < cw n k)
theorem chkLess_yes : chkLess = true := by decide +kernel
theorem less_cw {n i k : Nat} (hn : n ≤ 20) (hi : i < n) (hk : k < n) : lessB (fnum n i) (fden n i) (fnum n k) (fden n k) = decide (cw n i < cw n k) := by
  have h := chkLess_yes
  unfold chkLess at h
  rw [List.all_eq_true] at h
  have h1 := h n (List.mem_range.2 (by omega))
  rw [List.all_eq_true] at h1
  have h2 := h1 i (List.mem_range.2 hi)
  rw [List.all_eq_true] at h2
  have h3 := h2 k (List.mem_range.2 hk)
  simpa using h3

end Go.Proofs.Ythnkmmjelpdamaa
