/- The reference's strangers. -/
import Derived.Test.YthcpaonilgoopaaG2
import Derived.Test.YthcpaonilgoopaaD3
namespace Go.Proofs.Ythcpaonilgoopaa
open Go.RowKit

theorem pinR_iff (a P : List (List Int)) (j n : Nat) (v : Int) (hj : j < 6) (ha : a.length ≤ 6) (c : Nat) (hn : n < c) :
    PinR a P j n v ↔ PinF a.length (mt a) (nth (row (chs P a.length c) n)) j v := by
  constructor
  · rintro ⟨i, hi, h1, h2⟩
    exact ⟨i, hi, by rw [mt_at _ _ _ hj, decide_eq_true h1], by rw [chs_nth _ _ _ hn (by omega), if_pos hi]; exact h2⟩
  · rintro ⟨i, hi, h1, h2⟩
    rw [mt_at _ _ _ hj] at h1
    rw [chs_nth _ _ _ hn (by omega), if_pos hi] at h2
    exact ⟨i, hi, of_decide_eq_true h1, h2⟩

/-- How many depths up to D are pins. -/
def cntR (a P : List (List Int)) (j n D : Nat) : Nat := (List.range (D + 1)).countP fun v : Nat => decide (PinR a P j n (v : Int))
theorem cntR_succ (a P : List (List Int)) (j n D : Nat) : cntR a P j n (D + 1) = cntR a P j n D + if PinR a P j n ((D + 1 : Nat) : Int) then 1 else 0 := by
  unfold cntR
  rw [List.range_succ (n := D + 1), List.countP_append]
  congr 1
  by_cases e : PinR a P j n ((D + 1 : Nat) : Int)
  · rw [if_pos e]; simp [List.countP_cons]; exact e
  · rw [if_neg e]; simp [List.countP_cons]; exact e
theorem cntR_zero {a P : List (List Int)} {d : Int} {j n : Nat} (hk : OkCuts a.length P d) (hn : n < (row P 0).length) : cntR a P j n 0 = 0 := by
  unfold cntR
  rw [List.countP_eq_zero]
  intro v hv
  have : v = 0 := by simpa using hv
  subst this
  simp only [decide_eq_true_eq]
  rintro ⟨i, hi, -, h2⟩
  have := hk.dep i hi n (by rw [hk.len i hi]; exact hn)
  omega
theorem countP_more (p : Nat → Bool) : ∀ m n, (∀ v, m ≤ v → v < n → p v = false) → m ≤ n → (List.range n).countP p = (List.range m).countP p
  | m, 0, _, h => by rw [show m = 0 by omega]
  | m, n + 1, hp, h => by
    by_cases e : m = n + 1
    · rw [e]
    · rw [List.range_succ, List.countP_append, countP_more p m n (fun v h1 h2 => hp v h1 (by omega)) (by omega)]
      simp [List.countP_cons, hp n (by omega) (by omega)]
theorem cntR_pin {a P : List (List Int)} {d : Int} {j n D : Nat} (hD : (D : Int) = d) (hd4 : D ≤ 4) (hk : OkCuts a.length P d) (hn : n < (row P 0).length) (hj : j < 6) (ha : a.length ≤ 6) :
    cntR a P j n D = pinC a.length (mt a) (nth (row (chs P a.length (row P 0).length) n)) j := by
  unfold cntR pinC
  have h := countP_more (fun v : Nat => decide (PinR a P j n (v : Int))) (D + 1) 5 (fun v h1 h2 => by
    refine decide_eq_false ?_
    rintro ⟨i, hi, -, e⟩
    have := hk.dep i hi n (by rw [hk.len i hi]; exact hn)
    omega) (by omega)
  rw [← h]
  exact congrArg (fun p => List.countP p (List.range 5)) (funext fun v => by rw [Bool.eq_iff_iff, decide_eq_true_eq, decide_eq_true_eq]; exact pinR_iff a P j n v hj ha _ hn)

set_option maxHeartbeats 4000000 in
set_option maxRecDepth 100000 in
theorem refStrangers_any (a P : List (List Int)) (D : Nat) (j : Nat) (ao : Option Addr) (b o cap : Nat) (A : Nat → Option Addr) (B O C : Nat → Nat) (po : Option Addr) (pb pq pcap : Nat) (A' : Nat → Option Addr) (B' O' C' : Nat → Nat) (w : World)
    (H : RowsAt w ao b o a A B O C) (HP : RowsAt w po pb pq P A' B' O' C') (ha : IsPlan a) (hd : 1 ≤ D ∧ D ≤ 4) (hk : OkCuts a.length P (D : Int)) (hj : j < (row a 0).length) :
    Calls Try.prog 23 #[.slice ao a.length cap, .slice po P.length pcap, .int .i64 D, .int .i64 j] w fun e w' =>
      e = .returned (.int .i64 (prodC (chs P a.length (row P 0).length) a.length (mt a) j (row P 0).length : Nat)) ∧ ∃ m, w' = w.drewN m := by
  have hk6 := ha.le
  have hk1 := ha.pos
  have hj6 : j < 6 := Nat.lt_of_lt_of_le hj ha.le0
  have hc4 := hk.le
  have HPIN := Lib.hid (fun n (v : Nat) (h : n < (row P 0).length) m => refPin_any a P j n (v : Int) ao b o cap A B O C po pb pq pcap A' B' O' C' (w.drewN m) (H.below (below_drewN (Below.refl _ _) m) (Nat.le_refl _)) (HP.below (below_drewN (Below.refl _ _) m) (Nat.le_refl _)) hk6 hj6 (by omega) (fun i hi => by rw [ha.len i hi]; exact hj) hk.keys (fun i hi => by rw [hk.len i hi]; exact h))
  have HC0 := Lib.hid (fun n (h : n < (row P 0).length) => cntR_zero (a := a) (j := j) hk h)
  have HCD := Lib.hid (fun n (h : n < (row P 0).length) => cntR_pin (D := D) rfl hd.2 hk h hj6 hk6)
  have HQ := Lib.hid HP
  have HPL := Lib.hid hk.keys
  obtain ⟨c, hc⟩ : ∃ c, (row P 0).length = c := ⟨_, rfl⟩
  rw [hc] at HC0 HCD HPIN hc4 ⊢
  have HC := Lib.hid hc
  have hpl : 0 < P.length := by rw [hk.keys]; omega
  obtain ⟨rfl, -⟩ := HP.ptr hpl
  obtain ⟨X, hX⟩ : ∃ X, chs P a.length c = X := ⟨_, rfl⟩
  obtain ⟨k, hkk⟩ : ∃ k, a.length = k := ⟨_, rfl⟩
  obtain ⟨f, hf⟩ : ∃ f, mt a = f := ⟨_, rfl⟩
  obtain ⟨hd1, hd4⟩ := hd
  rw [hkk] at hX HCD HPIN hk1 ⊢
  rw [hX] at HCD ⊢
  rw [hf] at HCD ⊢
  have hp0 : (0 : Int) < (P.length : Int) := by omega
  clear H HP ha hk hj hc hX hkk hf
  go_enter Try.func23, Try.ntmps23
  go_wp2
  go_loopw [9, 10, 11, 12] (fun s x _ _ wr => ∃ n : Nat, n ≤ c ∧ x = .int .i64 n ∧ s = .int .i64 (prodC X k f j n : Nat) ∧ ∃ m, wr = w.drewN m) (fun _ x _ _ _ => c - (intOf x).toNat)
  case atStart => exact ⟨0, by omega, rfl, rfl, 0, rfl⟩
  case round =>
    obtain ⟨n, hn, rfl, rfl, md, rfl⟩ := hrel
    have hpt := HQ.out.below (below_drewN (Below.refl _ w) md) (Nat.le_refl _)
    have c0 : (w.drewN md).cell? ⟨pb, pq, none⟩ = some (.slice (A' 0) c (C' 0)) := by rw [← HC.out]; exact hpt.cell 0 hpl
    clear hpt
    by_cases hlt : n < c
    · have hpr := prodC_le X k f j n (by omega)
      have hp5 := pinC_le k f (nth (row X n)) j
      have hps : (5 : Nat) ^ n ≤ 625 := by
        have : (5 : Nat) ^ n ≤ 5 ^ 4 := Nat.pow_le_pow_right (by omega) (by omega)
        omega
      have HPE := Lib.hid (show prodC X k f j (n + 1) = prodC X k f j n * cntR a P j n D by rw [HCD.out n hlt]; rfl)
      have HLE := Lib.hid (show cntR a P j n D ≤ 5 by rw [HCD.out n hlt]; exact hp5)
      obtain ⟨pr, hpe⟩ : ∃ pr, prodC X k f j n = pr := ⟨_, rfl⟩
      rw [hpe] at HPE hpr ⊢
      have HZ := Lib.hid (HC0.out n hlt)
      clear hpe hp5
      go_wp2
      go_loopw [11, 12] (fun s x wr => ∃ e : Nat, e ≤ D ∧ x = .int .i64 ((e + 1 : Nat) : Int) ∧ s = .int .i64 (cntR a P j n e : Nat) ∧ ∃ m, wr = w.drewN m) (fun _ x _ => D + 1 - (intOf x).toNat)
      case atStart => exact ⟨0, by omega, rfl, by rw [HZ.out]; rfl, md, rfl⟩
      case round =>
        obtain ⟨e, he, rfl, rfl, m2, rfl⟩ := hrel
        obtain ⟨e', hee⟩ : ∃ e', e + 1 = e' := ⟨_, rfl⟩
        have HEE := Lib.hid hee
        have HSU := Lib.hid (cntR_succ a P j n e)
        rw [hee] at HSU ⊢
        have hce : cntR a P j n e ≤ e + 1 := by unfold cntR; exact Nat.le_trans List.countP_le_length (by simp)
        obtain ⟨ce, hcee⟩ : ∃ ce, cntR a P j n e = ce := ⟨_, rfl⟩
        rw [hcee] at HSU hce ⊢
        have HCE := Lib.hid hcee
        clear hcee c0
        by_cases hle : e' ≤ D
        · have hli : (e' : Int) ≤ (D : Int) := by omega
          have HPI := Lib.hid (HPIN.out n e' hlt m2)
          have hce5 : ce ≤ 6 := by omega
          clear hee
          by_cases hp : PinR a P j n (e' : Int)
          · have hd : decide (PinR a P j n (e' : Int)) = true := decide_eq_true hp
            unfold Hid at HPI
            simp only [hd] at HPI
            have HPI := Lib.hid HPI
            rw [if_pos hp] at HSU
            clear hd hp
            go_wp2_with fail
            refine HPI.out.mono ?_
            rintro q w2 ⟨rfl, m3, rfl⟩
            go_wp2
            go_roundw
            case rel => exact ⟨e', hle, by go_num, by rw [HSU.out]; go_num, _, by first | rfl | exact World.drewN_drewN _ _ _⟩
            case measure => simp [intOf]; omega
          · have hd : decide (PinR a P j n (e' : Int)) = false := decide_eq_false hp
            unfold Hid at HPI
            simp only [hd] at HPI
            have HPI := Lib.hid HPI
            rw [if_neg hp] at HSU
            clear hd hp
            go_wp2_with fail
            refine HPI.out.mono ?_
            rintro q w2 ⟨rfl, m3, rfl⟩
            go_wp2
            go_roundw
            case rel => exact ⟨e', hle, by go_num, by rw [HSU.out]; go_num, _, by first | rfl | exact World.drewN_drewN _ _ _⟩
            case measure => simp [intOf]; omega
        · have heD : e = D := by omega
          have hli : ¬ (e' : Int) ≤ (D : Int) := by omega
          have HPE2 := Lib.hid (show prodC X k f j (n + 1) = pr * ce by rw [HPE.out, ← heD, HCE.out])
          have hce5 : ce ≤ 5 := by rw [← HCE.out, heD]; exact HLE.out
          have hmul : pr * ce ≤ 3125 := Nat.le_trans (Nat.mul_le_mul (show pr ≤ 625 by omega) hce5) (by omega)
          clear heD hee
          go_wp2
          go_roundw
          case rel => exact ⟨n + 1, by omega, by go_num, by rw [HPE2.out]; simp, _, rfl⟩
          case measure => simp [intOf]; omega
    · have hnc : n = c := by omega
      subst hnc
      go_wp2
      go_ret
      exact ⟨rfl, _, rfl⟩

end Go.Proofs.Ythcpaonilgoopaa
