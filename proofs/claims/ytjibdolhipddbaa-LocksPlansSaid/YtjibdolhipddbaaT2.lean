/- The reference's goals and blocks. -/
import Derived.Test.YtjibdolhipddbaaT1
import Derived.Test.YtjibdolhipddbaaQn
import Derived.Test.YtjibdolhipddbaaQk
namespace Go.Proofs.Ytjibdolhipddbaa
open Go.RowKit Go.Maps

/-- Bits are added one by one. -/
theorem bitsTo_yes {f : Nat → Bool} {n : Nat} (h : f n = true) : bitsTo f (n + 1) = bitsTo f n + 2 ^ n := by rw [bitsTo, if_pos h]
theorem bitsTo_no {f : Nat → Bool} {n : Nat} (h : f n = false) : bitsTo f (n + 1) = bitsTo f n := by rw [bitsTo, if_neg (by rw [h]; decide), Nat.add_zero]
theorem bitsTo_none {f : Nat → Bool} {m : Nat} : ∀ n, m ≤ n → (∀ t, m ≤ t → t < n → f t = false) → bitsTo f n = bitsTo f m
  | 0, h, _ => by rw [show m = 0 by omega]
  | n + 1, h, hf => by
    by_cases e : m = n + 1
    · rw [e]
    · rw [bitsTo_no (hf n (by omega) (by omega))]
      exact bitsTo_none n (by omega) fun t h1 h2 => hf t h1 (by omega)
theorem bitsTo_small (f : Nat → Bool) {n : Nat} (h : n ≤ 36) : bitsTo f n < 68719476736 := by
  have h1 := bitsTo_lt f n
  have : 2 ^ n ≤ 2 ^ 36 := Nat.pow_le_pow_right (by omega) h
  omega
theorem pow_small {n : Nat} (h : n < 36) : (2 : Nat) ^ n ≤ 34359738368 := by
  have : 2 ^ n ≤ 2 ^ 35 := Nat.pow_le_pow_right (by omega) (by omega)
  omega
theorem glF_at {a : List (List Int)} (ha : IsPlan a) {i j : Nat} (hi : i < a.length) (hj : j < (row a 0).length) : glF a (6 * i + j) = decide (nth (row a i) j = 0) := by
  have hl := ha.le0
  unfold glF fbF
  rw [show (6 * i + j) / 6 = i by omega, show (6 * i + j) % 6 = j by omega, decide_eq_true hi, decide_eq_true hj, mt_at _ _ _ (by omega)]
  rcases ha.bit i hi j (by rw [ha.len i hi]; exact hj) with e | e
  · rw [e]; rfl
  · rw [e]; rfl
theorem glF_side {a : List (List Int)} {i t : Nat} (h1 : 6 * i + (row a 0).length ≤ t) (h2 : t < 6 * (i + 1)) : glF a t = false := by
  unfold glF fbF
  rw [show t / 6 = i by omega, decide_eq_false (show ¬ t % 6 < (row a 0).length by omega)]
  simp
theorem glF_end {a : List (List Int)} {t : Nat} (h : 6 * a.length ≤ t) : glF a t = false := by
  unfold glF fbF
  rw [decide_eq_false (show ¬ t / 6 < a.length by omega)]; simp
theorem blF_none {a : List (List Int)} {y : List Int} {t : Nat} (h : glF a t = false) : blF a y t = false := by unfold blF; rw [h]; rfl

theorem add_bit {g G i j : Nat} (hi : 6 * i + j < 36) (hG : G = g + 2 ^ (6 * i + j)) (hg : g < 68719476736) : wrap64 ((g : Int) + wrap64 ((2 : Int) ^ (i * 6 + j))) = (G : Int) := by
  have hps := pow_small hi
  rw [show i * 6 + j = 6 * i + j by omega, show (2 : Int) ^ (6 * i + j) = ((2 ^ (6 * i + j) : Nat) : Int) by simp]
  generalize (2 : Nat) ^ (6 * i + j) = m at hps hG
  rw [IntWalk.wrap64_in (m : Int) ⟨by omega, by omega⟩, IntWalk.wrap64_in _ ⟨by omega, by omega⟩]
  omega

set_option maxHeartbeats 4000000 in
set_option maxRecDepth 100000 in
theorem goals_any (a : List (List Int)) (ao : Option Addr) (b o cap : Nat) (A : Nat → Option Addr) (B O C : Nat → Nat) (w : World) (H : RowsAt w ao b o a A B O C) (ha : IsPlan a) :
    Calls Try.prog 38 #[.slice ao a.length cap] w fun e w' => e = .returned (.int .i64 (glN a : Nat)) ∧ w' = w := by
  have hk6 := ha.le
  have hk1 := ha.pos
  have hl6 := ha.le0
  have hl1 := ha.pos0
  have HG := Lib.hid (fun i j (hi : i < a.length) (hj : j < (row a 0).length) => glF_at ha hi hj)
  have HLE := Lib.hid (show ∀ i, i < a.length → (row a i).length = (row a 0).length from ha.len)
  obtain ⟨l, hl⟩ : ∃ l, (row a 0).length = l := ⟨_, rfl⟩
  have HSD := Lib.hid (fun i t (h1 : 6 * i + (row a 0).length ≤ t) (h2 : t < 6 * (i + 1)) => glF_side (a := a) h1 h2)
  have HED := Lib.hid (show bitsTo (glF a) (6 * a.length) = glN a from (bitsTo_none 36 (by omega) fun t h1 _ => glF_end h1).symm)
  rw [hl] at HG HLE HSD hl6 hl1
  have HA := Lib.hid H
  obtain ⟨rfl, -⟩ := H.ptr (by omega)
  clear H ha hl
  go_enter Try.func38, Try.ntmps38
  go_wp2
  go_loopw [3, 4, 5] (fun v x _ wr => ∃ i : Nat, i ≤ a.length ∧ x = .int .i64 i ∧ v = .int .i64 (bitsTo (glF a) (6 * i) : Nat) ∧ wr = w) (fun _ x _ _ => a.length - (intOf x).toNat)
  case atStart => exact ⟨0, by omega, rfl, rfl, by first | rfl | trivial⟩
  case round =>
    obtain ⟨i, hi, rfl, rfl, rfl⟩ := hrel
    by_cases hlt : i < a.length
    · have ci := HA.out.cell i hlt
      have hra := Lib.hid (HA.out.rows i hlt)
      have hAi := (hra.out.ptr (by rw [HLE.out i hlt]; omega)).1
      rw [HLE.out i hlt, hAi] at ci
      clear hAi
      go_wp2
      go_loopw [3, 5] (fun v x wx => ∃ j : Nat, j ≤ l ∧ x = .int .i64 j ∧ v = .int .i64 (bitsTo (glF a) (6 * i + j) : Nat) ∧ wx = wr) (fun _ x _ => l - (intOf x).toNat)
      case atStart => exact ⟨0, by omega, rfl, rfl, by first | rfl | trivial⟩
      case round =>
        obtain ⟨j, hj, rfl, rfl, rfl⟩ := hrel
        by_cases hjl : j < l
        · have x0 := hra.out.cell j (by rw [HLE.out i hlt]; exact hjl)
          have hg := HG.out i j hlt hjl
          have hbs := bitsTo_small (glF a) (show 6 * i + j ≤ 36 by omega)
          have hps := pow_small (show 6 * i + j < 36 by omega)
          obtain ⟨x, hx⟩ : ∃ x, nth (row a i) j = x := ⟨_, rfl⟩
          rw [hx] at x0 hg
          obtain ⟨g, hgv⟩ : ∃ g, bitsTo (glF a) (6 * i + j) = g := ⟨_, rfl⟩
          have HGV := Lib.hid hgv
          rw [hgv] at hbs ⊢
          have hji : (j : Int) < (l : Int) := by omega
          clear hx hgv
          by_cases e0 : x = 0
          · have t0 : (x == 0) = true := beq_iff_eq.2 e0
            have HE := Lib.hid (show bitsTo (glF a) (6 * i + j + 1) = g + 2 ^ (6 * i + j) by rw [bitsTo_yes (by rw [hg]; exact decide_eq_true e0), HGV.out])
            have HV := Lib.hid (add_bit (by omega) HE.out hbs)
            clear hg e0
            go_wp2
            go_roundw
            case rel => exact ⟨j + 1, by omega, by go_num, by rw [← Nat.add_assoc, HV.out], by first | rfl | trivial⟩
            case measure => simp [intOf]; omega
          · have t0 : (x == 0) = false := beq_eq_false_iff_ne.2 e0
            have HE := Lib.hid (show bitsTo (glF a) (6 * i + j + 1) = g by rw [bitsTo_no (by rw [hg]; exact decide_eq_false e0), HGV.out])
            clear hg e0
            go_wp2
            go_roundw
            case rel => exact ⟨j + 1, by omega, by go_num, by rw [← Nat.add_assoc, HE.out], by first | rfl | trivial⟩
            case measure => simp [intOf]; omega
        · have hjl : j = l := by omega
          subst hjl
          have HE := Lib.hid (show bitsTo (glF a) (6 * (i + 1)) = bitsTo (glF a) (6 * i + j) from bitsTo_none _ (by omega) fun t h1 h2 => HSD.out i t h1 h2)
          go_wp2
          go_roundw
          case rel => exact ⟨i + 1, by omega, by go_num, by rw [HE.out], by first | rfl | trivial⟩
          case measure => simp [intOf]; omega
    · have hia : i = a.length := by omega
      subst hia
      rw [HED.out]
      go_wp2
      go_ret
      exact ⟨rfl, rfl⟩

end Go.Proofs.Ytjibdolhipddbaa
