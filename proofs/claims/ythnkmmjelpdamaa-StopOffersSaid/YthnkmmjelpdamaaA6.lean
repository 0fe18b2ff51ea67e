/- Candidates: Secretary and Chosen. -/
import Derived.Test.YthnkmmjelpdamaaA5
namespace Go.Proofs.Ythnkmmjelpdamaa
open Go.RowKit

/-- The best number to skip, of the first k ones. -/
def secTo (n : Nat) : Nat → Nat
  | 0 => 0
  | k + 1 => if cw n (secTo n k) < cw n k then k else secTo n k
theorem secTo_le (n k : Nat) : secTo n k ≤ k := by
  induction k with
  | zero => exact Nat.le_refl _
  | succ k ih => simp only [secTo]; split <;> omega
theorem secTo_lt {n k : Nat} (h : 1 ≤ k) : secTo n k < k := by
  cases k with
  | zero => omega
  | succ k => simp only [secTo]; have := secTo_le n k; split <;> omega

set_option maxHeartbeats 1000000 in
theorem secretary_no (n : Int) (w : World) (h : n < 1 ∨ 20 < n) :
    Calls Try.prog 30 #[.int .i64 n] w fun e w' => e = .returned (.tuple #[.int .i64 0, .agg #[.int .i64 0, .int .i64 0], .int .i64 2]) ∧ Below w.heap.size w w' := by
  by_cases h1 : n < 1
  · have t1 : decide (n < 1) = true := decide_eq_true h1
    clear h h1
    go_enter Try.func30, Try.ntmps30
    go_wp2
    exact bodyPost_ret (v := .tuple #[.int .i64 0, .agg #[.int .i64 0, .int .i64 0], .int .i64 2]) (by simp [results, Try.results30, go_sem]) rfl ⟨rfl, (Below.refl _ _).alloc (Nat.le_refl _) _⟩
  · have t1 : decide (n < 1) = false := decide_eq_false h1
    have t2 : decide (20 < n) = true := decide_eq_true (by omega)
    clear h h1
    go_enter Try.func30, Try.ntmps30
    go_wp2
    exact bodyPost_ret (v := .tuple #[.int .i64 0, .agg #[.int .i64 0, .int .i64 0], .int .i64 2]) (by simp [results, Try.results30, go_sem]) rfl ⟨rfl, (Below.refl _ _).alloc (Nat.le_refl _) _⟩

set_option maxHeartbeats 2000000 in
theorem secretary_yes (n : Nat) (w : World) (h1 : 1 ≤ n) (h : n ≤ 20) :
    Calls Try.prog 30 #[.int .i64 n] w fun e w' => e = .returned (.tuple #[.int .i64 (secTo n n), fracV (cw n (secTo n n)) (n * 232792560), .int .i64 0]) ∧ Below w.heap.size w w' := by
  have t1 : decide ((n : Int) < 1) = false := decide_eq_false (by omega)
  have t2 : decide (20 < (n : Int)) = false := decide_eq_false (by omega)
  have hl := secTo_lt (n := n) h1
  have hch := fun W => chosen_any n (secTo n n) W h1 h (by omega)
  obtain ⟨a, b, hab⟩ : ∃ a b, fracV (cw n (secTo n n)) (n * 232792560) = .agg #[.int .i64 a, .int .i64 b] := ⟨_, _, rfl⟩
  rw [hab] at hch ⊢
  have HCH := Lib.hid hch
  clear hch hab
  go_enter Try.func30, Try.ntmps30
  go_wp2
  go_loop [5, 6, 15] (fun x _ y => ∃ k : Nat, k ≤ n ∧ y = .int .i64 k ∧ x = .int .i64 (secTo n k)) (fun _ _ y => n - (intOf y).toNat)
  case atStart => exact ⟨0, by omega, rfl, rfl⟩
  case round =>
    obtain ⟨k, hk, rfl, rfl⟩ := hrel
    by_cases hlt : k < n
    · have hle := secTo_le n k
      have c1 := fun W => chosenWeight_any n k W h (by omega)
      have c2 := fun W => chosenWeight_any n (secTo n k) W h (by omega)
      have b1 := cw_bd (n := n) (skip := k) h
      have b2 := cw_bd (n := n) (skip := secTo n k) h
      have HC1 := Lib.hid c1
      have HC2 := Lib.hid c2
      have HS := Lib.hid (show secTo n (k + 1) = if cw n (secTo n k) < cw n k then k else secTo n k from rfl)
      clear c1 c2
      by_cases hc : cw n (secTo n k) < cw n k
      · have t3 : decide (cw n (secTo n k) < cw n k) = true := decide_eq_true hc
        have HS2 := Lib.hid (show secTo n (k + 1) = k by rw [HS.out, if_pos hc])
        clear hc
        go_wp2_with fail
        refine (HC1.out _).mono ?_
        rintro e w' ⟨rfl, rfl⟩
        go_wp2_with fail
        refine (HC2.out _).mono ?_
        rintro e w' ⟨rfl, rfl⟩
        go_wp2
        go_round
        case rel => exact ⟨k + 1, by omega, by go_num, by rw [HS2.out]⟩
        case measure => simp [intOf]; omega
      · have t3 : decide (cw n (secTo n k) < cw n k) = false := decide_eq_false hc
        have HS2 := Lib.hid (show secTo n (k + 1) = secTo n k by rw [HS.out, if_neg hc])
        clear hc
        go_wp2_with fail
        refine (HC1.out _).mono ?_
        rintro e w' ⟨rfl, rfl⟩
        go_wp2_with fail
        refine (HC2.out _).mono ?_
        rintro e w' ⟨rfl, rfl⟩
        go_wp2
        go_round
        case rel => exact ⟨k + 1, by omega, by go_num, by rw [HS2.out]⟩
        case measure => simp [intOf]; omega
    · obtain rfl : k = n := by omega
      clear hk hlt
      go_wp2_with fail
      refine (HCH.out _).mono ?_
      rintro e w1 ⟨rfl, hb⟩
      have hblk := (hb.block w.heap.size (by simp)).trans (heap_alloc_new w (.cells #[.int .i64 0, .int .i64 0] 47))
      obtain ⟨c0, c1, f0, f1⟩ := block_of_cells hblk
      have HB := Lib.hid (((Below.refl _ w).alloc (Nat.le_refl _) (.cells #[.int .i64 0, .int .i64 0] 47)).trans (hb.mono (by simp)))
      clear hb hblk
      go_wp2
      refine bodyPost_ret (v := .tuple #[.int .i64 (secTo k k), .agg #[.int .i64 a, .int .i64 b], .int .i64 0]) ?_ rfl ⟨rfl, (HB.out.setCell (p := ⟨_, 0, none⟩) (Nat.le_refl _) _).setCell (p := ⟨_, 1, none⟩) (Nat.le_refl _) _⟩
      obtain ⟨g0, g1⟩ := set2_cells (x := .int .i64 a) (y := .int .i64 b) c0 c1
      simp [results, Try.results30, go_sem, g0, g1]

set_option maxHeartbeats 1000000 in
theorem pickChosen_yes (n skip : Nat) (w : World) (h1 : 1 ≤ n) (h : n ≤ 20) (hs : skip < n) :
    Calls Try.prog 29 #[.int .i64 n, .int .i64 skip] w fun e w' => e = .returned (.tuple #[fracV (cw n skip) (n * 232792560), .int .i64 0]) ∧ Below w.heap.size w w' := by
  have t1 : decide ((n : Int) < 1) = false := decide_eq_false (by omega)
  have t2 : decide (20 < (n : Int)) = false := decide_eq_false (by omega)
  have t3 : decide ((skip : Int) < 0) = false := decide_eq_false (by omega)
  have t4 : decide ((n : Int) ≤ (skip : Int)) = false := decide_eq_false (by omega)
  have t5 : decide (n ≤ skip) = false := decide_eq_false (by omega)
  have hch := fun W => chosen_any n skip W h1 h (by omega)
  obtain ⟨a, b, hab⟩ : ∃ a b, fracV (cw n skip) (n * 232792560) = .agg #[.int .i64 a, .int .i64 b] := ⟨_, _, rfl⟩
  rw [hab] at hch ⊢
  have HCH := Lib.hid hch
  clear hch hab
  go_enter Try.func29, Try.ntmps29
  go_wp2_with fail
  refine (HCH.out _).mono ?_
  rintro e w1 ⟨rfl, hb⟩
  have hblk := (hb.block w.heap.size (by simp)).trans (heap_alloc_new w (.cells #[.int .i64 0, .int .i64 0] 47))
  obtain ⟨c0, c1, f0, f1⟩ := block_of_cells hblk
  have HB := Lib.hid (((Below.refl _ w).alloc (Nat.le_refl _) (.cells #[.int .i64 0, .int .i64 0] 47)).trans (hb.mono (by simp)))
  clear hb hblk
  go_wp2
  refine bodyPost_ret (v := .tuple #[.agg #[.int .i64 a, .int .i64 b], .int .i64 0]) ?_ rfl ⟨rfl, (HB.out.setCell (p := ⟨_, 0, none⟩) (Nat.le_refl _) _).setCell (p := ⟨_, 1, none⟩) (Nat.le_refl _) _⟩
  obtain ⟨g0, g1⟩ := set2_cells (x := .int .i64 a) (y := .int .i64 b) c0 c1
  simp [results, Try.results29, go_sem, g0, g1]

set_option maxHeartbeats 1000000 in
theorem pickChosen_no (n skip : Int) (w : World) (h : (n < 1 ∨ 20 < n) ∨ skip < 0 ∨ n ≤ skip) :
    Calls Try.prog 29 #[.int .i64 n, .int .i64 skip] w fun e w' => e = .returned (.tuple #[.agg #[.int .i64 0, .int .i64 0], .int .i64 2]) ∧ Below w.heap.size w w' := by
  obtain ⟨b1, e1⟩ : ∃ b, decide (n < 1) = b := ⟨_, rfl⟩
  obtain ⟨b2, e2⟩ : ∃ b, decide (20 < n) = b := ⟨_, rfl⟩
  obtain ⟨b3, e3⟩ : ∃ b, decide (skip < 0) = b := ⟨_, rfl⟩
  obtain ⟨b4, e4⟩ : ∃ b, decide (n ≤ skip) = b := ⟨_, rfl⟩
  have hor : b1 = true ∨ b2 = true ∨ b3 = true ∨ b4 = true := by
    rw [← e1, ← e2, ← e3, ← e4]
    simp only [decide_eq_true_eq]
    omega
  cases b1
  · cases b2
    · cases b3
      · cases b4
        · simp at hor
        · clear hor h
          go_enter Try.func29, Try.ntmps29
          go_wp2
          exact bodyPost_ret (v := .tuple #[.agg #[.int .i64 0, .int .i64 0], .int .i64 2]) (by simp [results, Try.results29, go_sem]) rfl ⟨rfl, (Below.refl _ _).alloc (Nat.le_refl _) _⟩
      · clear hor h
        go_enter Try.func29, Try.ntmps29
        go_wp2
        exact bodyPost_ret (v := .tuple #[.agg #[.int .i64 0, .int .i64 0], .int .i64 2]) (by simp [results, Try.results29, go_sem]) rfl ⟨rfl, (Below.refl _ _).alloc (Nat.le_refl _) _⟩
    · clear hor h
      go_enter Try.func29, Try.ntmps29
      go_wp2
      exact bodyPost_ret (v := .tuple #[.agg #[.int .i64 0, .int .i64 0], .int .i64 2]) (by simp [results, Try.results29, go_sem]) rfl ⟨rfl, (Below.refl _ _).alloc (Nat.le_refl _) _⟩
  · clear hor h
    go_enter Try.func29, Try.ntmps29
    go_wp2
    exact bodyPost_ret (v := .tuple #[.agg #[.int .i64 0, .int .i64 0], .int .i64 2]) (by simp [results, Try.results29, go_sem]) rfl ⟨rfl, (Below.refl _ _).alloc (Nat.le_refl _) _⟩

end Go.Proofs.Ythnkmmjelpdamaa
