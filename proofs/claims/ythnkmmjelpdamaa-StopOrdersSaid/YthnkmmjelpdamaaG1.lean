/- StopSecretary: the walk. -/
import Derived.Test.YthnkmmjelpdamaaE4
namespace Go.Proofs.Ythnkmmjelpdamaa
open Go.RowKit

/-- The probabilities are small fractions. -/
def chkParts : Bool := (List.range 21).all fun n => (List.range n).all fun i => decide (1 ≤ fden n i ∧ fden n i ≤ 2147483648 ∧ 0 ≤ fnum n i ∧ fnum n i ≤ fden n i)
theorem chkParts_yes : chkParts = true := by decide +kernel
theorem parts_ok {n i : Nat} (hn : n ≤ 20) (hi : i < n) : 1 ≤ fden n i ∧ fden n i ≤ 2147483648 ∧ 0 ≤ fnum n i ∧ fnum n i ≤ fden n i := by
  have h := chkParts_yes
  unfold chkParts at h
  rw [List.all_eq_true] at h
  have h1 := h n (List.mem_range.2 (by omega))
  rw [List.all_eq_true] at h1
  exact of_decide_eq_true (h1 i (List.mem_range.2 hi))
/-- The best number to skip is the best, and the first one. -/
def chkBest : Bool := (List.range 21).all fun n => n == 0 || (decide (1 ≤ fnum n (secTo n n) ∧ 36 * fden n (secTo n n) ≤ 100 * fnum n (secTo n n)) && (List.range n).all fun i => !lessB (fnum n (secTo n n)) (fden n (secTo n n)) (fnum n i) (fden n i) && (decide (secTo n n ≤ i) || lessB (fnum n i) (fden n i) (fnum n (secTo n n)) (fden n (secTo n n))))
theorem chkBest_yes : chkBest = true := by decide +kernel
theorem best_ok {n : Nat} (h1 : 1 ≤ n) (hn : n ≤ 20) : (1 ≤ fnum n (secTo n n) ∧ 36 * fden n (secTo n n) ≤ 100 * fnum n (secTo n n)) ∧ ∀ i, i < n → lessB (fnum n (secTo n n)) (fden n (secTo n n)) (fnum n i) (fden n i) = false ∧ (i < secTo n n → lessB (fnum n i) (fden n i) (fnum n (secTo n n)) (fden n (secTo n n)) = true) := by
  have h := chkBest_yes
  unfold chkBest at h
  rw [List.all_eq_true] at h
  have h2 := h n (List.mem_range.2 (by omega))
  rw [Bool.or_eq_true] at h2
  rcases h2 with h2 | h2
  · have := eq_of_beq h2; omega
  · rw [Bool.and_eq_true] at h2
    refine ⟨of_decide_eq_true h2.1, fun i hi => ?_⟩
    have h3 := h2.2
    rw [List.all_eq_true] at h3
    have h4 := h3 i (List.mem_range.2 hi)
    rw [Bool.and_eq_true, Bool.or_eq_true, Bool.not_eq_true'] at h4
    refine ⟨h4.1, fun hik => ?_⟩
    rcases h4.2 with h5 | h5
    · have := of_decide_eq_true h5; omega
    · exact h5

set_option maxHeartbeats 8000000 in
set_option maxRecDepth 100000 in
theorem secretarys_any (x : Int) (w : World) (hx : -9223372036854775808 ≤ x ∧ x ≤ 9223372036854775807) :
    Calls Try.prog 12 #[.int .i64 x] w fun e w' => e = .returned (.bool true) ∧ Below w.heap.size w w' := by
  have hmb := modI_bd (x := x) (n := 20) (by omega)
  have HMO := Lib.hid (mod_any x 20 w hx (by omega) (by omega))
  obtain ⟨z, hz⟩ : ∃ z, modI x 20 = z := ⟨_, rfl⟩
  rw [hz] at hmb HMO
  obtain ⟨n, hn⟩ := Int.eq_ofNat_of_zero_le (show 0 ≤ 1 + z by omega)
  have hn1 : 1 ≤ n := by omega
  have hn2 : n ≤ 20 := by omega
  have hw1 : wrap64 (1 + z) = (n : Int) := by rw [hn]; exact IntWalk.wrap64_in _ ⟨by omega, by omega⟩
  have hkl := secTo_lt (n := n) hn1
  have HS := Lib.hid (fun W => secretary_yes n W hn1 hn2)
  have HCH := Lib.hid (fun i W (hi : i < n) => pickChosen_yes n i W hn1 hn2 hi)
  obtain ⟨⟨s1, s2⟩, hbest⟩ := best_ok hn1 hn2
  obtain ⟨s3, s4, s5, s6⟩ := parts_ok hn2 hkl
  have HBE := Lib.hid hbest
  have HPA := Lib.hid (fun i (hi : i < n) => parts_ok hn2 hi)
  rw [fparts] at HS
  simp only [fparts] at HCH
  have HFA := Lib.hid (show ∀ i, i = secTo n n → fnum n i = fnum n (secTo n n) ∧ fden n i = fden n (secTo n n) from fun i h => by rw [h]; exact ⟨rfl, rfl⟩)
  obtain ⟨k, hk⟩ : ∃ k, secTo n n = k := ⟨_, rfl⟩
  rw [hk] at hkl HS s1 s2 s3 s4 s5 s6 HBE HFA
  obtain ⟨fa, hfa⟩ : ∃ a, fnum n k = a := ⟨_, rfl⟩
  obtain ⟨fb, hfb⟩ : ∃ b, fden n k = b := ⟨_, rfl⟩
  rw [hfa] at HS s1 s2 s5 s6 HBE HFA
  rw [hfb] at HS s2 s3 s4 s6 HBE HFA
  have t1 : decide (fb < 1) = false := decide_eq_false (by omega)
  have t2 : decide (2147483648 < fb) = false := decide_eq_false (by omega)
  have t3 : decide (fa < 1) = false := decide_eq_false (by omega)
  have t4 : decide (fb < fa) = false := decide_eq_false (by omega)
  have t5 : decide ((k : Int) < 0) = false := decide_eq_false (by omega)
  have t6 : decide ((n : Int) ≤ (k : Int)) = false := decide_eq_false (by omega)
  have t7 : decide (n ≤ k) = false := decide_eq_false (by omega)
  have w7 : wrap64 (100 * fa) = 100 * fa := IntWalk.wrap64_in _ ⟨by omega, by omega⟩
  have w8 : wrap64 (36 * fb) = 36 * fb := IntWalk.wrap64_in _ ⟨by omega, by omega⟩
  have t8 : decide (36 * fb ≤ 100 * fa) = true := decide_eq_true (by omega)
  have HEND := Lib.hid (And.intro w7 (And.intro w8 t8))
  clear hz hn hbest hk hfa hfb hmb w7 w8 t8
  go_enter Try.func12, Try.ntmps12
  go_wp2_with fail
  refine HMO.out.mono ?_
  rintro e w0 ⟨rfl, rfl⟩
  go_wp2_with fail
  refine (HS.out _).mono ?_
  rintro e w1 ⟨rfl, hb1⟩
  obtain ⟨P, hP⟩ : ∃ P, w1.heap.size = P := ⟨_, rfl⟩
  obtain ⟨w2, hw2⟩ : ∃ w2, w1.alloc (.cells #[.int .i64 fa, .int .i64 fb] 47) = w2 := ⟨_, rfl⟩
  have hp2 : w2.heap[P]? = some (.cells #[.int .i64 fa, .int .i64 fb] 47 (0, 0)) := by rw [← hw2, ← hP]; exact heap_alloc_new _ _
  have hwP : w0.heap.size ≤ P := by rw [← hP]; exact hb1.size
  have HB2 : Hid (Below w0.heap.size w0 w2) := by rw [← hw2]; exact hb1.alloc hb1.size _
  obtain ⟨c0, c1, -, -⟩ := block_of_cells hp2
  have HP2 := Lib.hid hp2
  have HW2 := Lib.hid hw2
  have HPP := Lib.hid hP
  clear hp2 hw2 hb1
  go_wp2_with fail
  try rw [HW2.out]
  try rw [HPP.out]
  clear c0 c1
  go_loopw [6, 7, 8] (fun y _ _ wr => ∃ i : Nat, i ≤ n ∧ y = .int .i64 i ∧ wr.heap[P]? = some (.cells #[.int .i64 fa, .int .i64 fb] 47 (0, 0)) ∧ Below w0.heap.size w0 wr) (fun y _ _ _ => n - (intOf y).toNat)
  case atStart => exact ⟨0, Nat.zero_le _, rfl, HP2.out, HB2.out⟩
  case round =>
    obtain ⟨i, hi, rfl, hp, hb⟩ := hrel
    obtain ⟨wq, rfl⟩ : ∃ x, x = wr := ⟨_, rfl⟩
    have HPq := Lib.hid hp
    have HBq := Lib.hid hb
    have hpl := lt_of_blk hp
    clear hp hb HP2 HB2 HW2
    by_cases hlt : i < n
    · obtain ⟨u1', u2', u3', u4'⟩ := HPA.out i hlt
      obtain ⟨hl1, hl2⟩ := HBE.out i hlt
      have HCI := Lib.hid (HCH.out i wq hlt)
      have HFI := Lib.hid (HFA.out i)
      obtain ⟨qa, hqa⟩ : ∃ a, fnum n i = a := ⟨_, rfl⟩
      obtain ⟨qb, hqb⟩ : ∃ b, fden n i = b := ⟨_, rfl⟩
      rw [hqa] at u3' u4' hl1 hl2 HCI HFI
      rw [hqb] at u1' u2' u4' hl1 hl2 HCI HFI
      have u1 : decide (qb < 1) = false := decide_eq_false (by omega)
      have u2 : decide (2147483648 < qb) = false := decide_eq_false (by omega)
      have u3 : decide (qa < 0) = false := decide_eq_false (by omega)
      have u4 : decide (qb < qa) = false := decide_eq_false (by omega)
      have HL1 := Lib.hid hl1
      have HL2 := Lib.hid hl2
      clear hqa hqb u1' u2' u3' u4' hl1 hl2
      go_wp2_with fail
      refine HCI.out.mono ?_
      rintro e w4 ⟨rfl, hb4⟩
      have hp4 := (hb4.block P hpl).trans HPq.out
      have hb0 := HBq.out.size
      have hb45 : Below wq.heap.size wq (w4.alloc (.cells #[.int .i64 qa, .int .i64 qb] 47)) := hb4.alloc hb4.size _
      have hq5 := heap_alloc_new w4 (.cells #[.int .i64 qa, .int .i64 qb] 47)
      obtain ⟨w5, hw5⟩ : ∃ w5, w4.alloc (.cells #[.int .i64 qa, .int .i64 qb] 47) = w5 := ⟨_, rfl⟩
      obtain ⟨Q, hQ⟩ : ∃ Q, w4.heap.size = Q := ⟨_, rfl⟩
      rw [hw5, hQ] at hq5
      rw [hw5] at hb45
      have hp5 := (hb45.block P hpl).trans HPq.out
      obtain ⟨c0, c1, -, -⟩ := block_of_cells hp4
      obtain ⟨p0, p1, -, -⟩ := block_of_cells hp5
      obtain ⟨q0, q1, -, -⟩ := block_of_cells hq5
      have hs5 := hb45.size
      have HB5 := Lib.hid (HBq.out.trans (hb45.mono hb0))
      have HQ5 := Lib.hid hq5
      have HP5 := Lib.hid hp5
      have HWQ := Lib.hid (And.intro hw5 hQ)
      have HLP := Lib.hid (less_any fa fb qa qb w5)
      rw [HL1.out] at HLP
      have hpl4 := lt_of_blk hp4
      clear hp4 hb4 hb45 hq5 hp5 hw5 hQ hb0
      go_wp2_with fail
      try rw [HWQ.out.1]
      try rw [HWQ.out.2]
      refine HLP.out.mono ?_
      rintro e w6 ⟨rfl, hb6⟩
      have hp6 := (hb6.block P (lt_of_blk HP5.out)).trans HP5.out
      have hq6 := (hb6.block Q (lt_of_blk HQ5.out)).trans HQ5.out
      have HB6 := Lib.hid (HB5.out.trans (hb6.mono HB5.out.size))
      have HP6 := Lib.hid hp6
      obtain ⟨p0, p1, -, -⟩ := block_of_cells hp6
      obtain ⟨q0, q1, -, -⟩ := block_of_cells hq6
      clear hb6 hq6 hp6 HP5 HQ5 HLP c0 c1 HWQ u1 u2 u3 u4
      rcases Nat.lt_trichotomy i k with hik | hik | hik
      · have d1 : decide ((i : Int) < (k : Int)) = true := decide_eq_true (by omega)
        have d2 : decide (i < k) = true := decide_eq_true hik
        have d3 : ((i : Int) == (k : Int)) = false := by rw [beq_eq_false_iff_ne]; omega
        have d4 : (i == k) = false := by rw [beq_eq_false_iff_ne]; omega
        have HLQ := Lib.hid (less_any qa qb fa fb w6)
        rw [HL2.out hik] at HLQ
        clear hik
        go_wp2_with fail
        refine HLQ.out.mono ?_
        rintro e w7 ⟨rfl, hb7⟩
        have HP7 := Lib.hid ((hb7.block P (lt_of_blk HP6.out)).trans HP6.out)
        have HB7 := Lib.hid (HB6.out.trans (hb7.mono HB6.out.size))
        clear hb7 p0 p1 q0 q1
        go_wp2
        go_roundw
        case rel => exact ⟨i + 1, by omega, by go_num, HP7.out, HB7.out⟩
        case measure => simp [intOf]; omega
      · obtain ⟨e1, e2⟩ := HFI.out hik
        subst e1 e2 hik
        have d1 : decide ((i : Int) < (i : Int)) = false := decide_eq_false (by omega)
        have d2 : decide (i < i) = false := decide_eq_false (by omega)
        have d3 : ((i : Int) == (i : Int)) = true := by rw [beq_iff_eq]
        go_wp2
        go_roundw
        case rel => exact ⟨i + 1, by omega, by go_num, HP6.out, HB6.out⟩
        case measure => simp [intOf]; omega
      · have d1 : decide ((i : Int) < (k : Int)) = false := decide_eq_false (by omega)
        have d2 : decide (i < k) = false := decide_eq_false (by omega)
        have d3 : ((i : Int) == (k : Int)) = false := by rw [beq_eq_false_iff_ne]; omega
        have d4 : (i == k) = false := by rw [beq_eq_false_iff_ne]; omega
        clear hik
        go_wp2
        go_roundw
        case rel => exact ⟨i + 1, by omega, by go_num, HP6.out, HB6.out⟩
        case measure => simp [intOf]; omega
    · obtain rfl : i = n := by omega
      obtain ⟨p0, p1, -, -⟩ := block_of_cells HPq.out
      obtain ⟨w7, w8, t8⟩ := HEND.out
      clear HCH HPA HBE HFA
      go_wp2_with fail
      refine (awake_any _).mono ?_
      rintro e w9 ⟨rfl, hb9⟩
      have HB9 := Lib.hid (HBq.out.trans (hb9.mono HBq.out.size))
      clear hb9 p0 p1
      go_wp2
      go_ret
      exact ⟨rfl, HB9.out⟩

end Go.Proofs.Ythnkmmjelpdamaa
