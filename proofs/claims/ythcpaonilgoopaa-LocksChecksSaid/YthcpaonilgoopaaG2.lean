/- The reference's pins. -/
import Derived.Test.YthcpaonilgoopaaG1
namespace Go.Proofs.Ythcpaonilgoopaa
open Go.RowKit

/-- A lock has a depth among its pins in a chamber. -/
def PinR (a P : List (List Int)) (j n : Nat) (v : Int) : Prop := ∃ i, i < a.length ∧ (nth (row a i) j = 1 ∧ nth (row P i) n = v)
instance (a P : List (List Int)) (j n : Nat) (v : Int) : Decidable (PinR a P j n v) := inferInstanceAs (Decidable (∃ i, i < a.length ∧ (nth (row a i) j = 1 ∧ nth (row P i) n = v)))

set_option maxHeartbeats 4000000 in
set_option maxRecDepth 100000 in
theorem refPin_any (a P : List (List Int)) (j n : Nat) (v : Int) (ao : Option Addr) (b o cap : Nat) (A : Nat → Option Addr) (B O C : Nat → Nat) (po : Option Addr) (pb pq pcap : Nat) (A' : Nat → Option Addr) (B' O' C' : Nat → Nat) (w : World)
    (H : RowsAt w ao b o a A B O C) (HP : RowsAt w po pb pq P A' B' O' C') (hk6 : a.length ≤ 6) (hj6 : j < 6) (hn4 : n < 4) (hj : ∀ i, i < a.length → j < (row a i).length) (hp : P.length = a.length) (hn : ∀ i, i < a.length → n < (row P i).length) :
    Calls Try.prog 45 #[.slice ao a.length cap, .slice po P.length pcap, .int .i64 j, .int .i64 n, .int .i64 v] w fun e w' => e = .returned (.bool (decide (PinR a P j n v))) ∧ ∃ m, w' = w.drewN m := by
  have HA := Lib.hid H
  have HQ := Lib.hid HP
  have HJ := Lib.hid hj
  have HPL := Lib.hid hp
  have HN := Lib.hid hn
  rw [hp]
  clear H HP hj hn hp
  go_enter Try.func45, Try.ntmps45
  go_wp2
  go_loopw [11] (fun x wr => ∃ i : Nat, i ≤ a.length ∧ x = .int .i64 i ∧ (∀ q, q < i → ¬ (nth (row a q) j = 1 ∧ nth (row P q) n = v)) ∧ wr = w) (fun x _ => a.length - (intOf x).toNat)
  case atStart => exact ⟨0, by omega, rfl, fun q hq => absurd hq (by omega), rfl⟩
  case round =>
    obtain ⟨i, hi, rfl, hg, rfl⟩ := hrel
    have HG := Lib.hid hg
    clear hg
    by_cases hlt : i < a.length
    · have hat := HA.out
      have hpt := HQ.out
      obtain ⟨rfl, -⟩ := hat.ptr (by omega)
      obtain ⟨rfl, -⟩ := hpt.ptr (by rw [HPL.out]; omega)
      have hip : i < P.length := by rw [HPL.out]; exact hlt
      have ci := hat.cell i hlt
      have di := hpt.cell i hip
      have hra := hat.rows i hlt
      have hrp := hpt.rows i hip
      have hjl := HJ.out i hlt
      have hnl := HN.out i hlt
      obtain ⟨hA, -⟩ := hra.ptr (by omega)
      obtain ⟨hA', -⟩ := hrp.ptr (by omega)
      have x0 := hra.cell j hjl
      have y0 := hrp.cell n hnl
      rw [hA] at ci
      rw [hA'] at di
      obtain ⟨x, hx⟩ : ∃ x, nth (row a i) j = x := ⟨_, rfl⟩
      obtain ⟨y, hy⟩ : ∃ y, nth (row P i) n = y := ⟨_, rfl⟩
      obtain ⟨r, hr⟩ : ∃ r, (row a i).length = r := ⟨_, rfl⟩
      obtain ⟨s, hs⟩ : ∃ s, (row P i).length = s := ⟨_, rfl⟩
      rw [hx] at x0
      rw [hy] at y0
      rw [hr] at ci hjl
      rw [hs] at di hnl
      have HX := Lib.hid hx
      have HY := Lib.hid hy
      have hjl' : (j : Int) < (r : Int) := by omega
      have hnl' : (n : Int) < (s : Int) := by omega
      clear hat hpt hra hrp hA hA' hx hy hr hs
      have hcs : ((x == 1) = true ∧ (y == v) = true ∧ x = 1 ∧ y = v) ∨ ((x == 1) = true ∧ (y == v) = false ∧ ¬ (x = 1 ∧ y = v)) ∨ ((x == 1) = false ∧ ¬ (x = 1 ∧ y = v)) := by
        simp only [beq_iff_eq, beq_eq_false_iff_ne]
        omega
      rcases hcs with ⟨e1, e2, hok⟩ | ⟨e1, e2, hbad⟩ | ⟨e1, hbad⟩
      · have HT := Lib.hid (show decide (PinR a P j n v) = true from decide_eq_true ⟨i, hlt, by rw [HX.out, HY.out]; exact hok⟩)
        clear hok
        go_wp2
        go_ret
        exact ⟨congrArg (fun b => Ending.returned (.bool b)) HT.out.symm, 0, rfl⟩
      · have HN2 := Lib.hid (show ∀ q, q < i + 1 → ¬ (nth (row a q) j = 1 ∧ nth (row P q) n = v) from fun q hq => by
          by_cases e : q = i
          · rw [e, HX.out, HY.out]; exact hbad
          · exact HG.out q (by omega))
        clear hbad
        go_wp2
        go_roundw
        case rel => exact ⟨i + 1, by omega, by go_num, HN2.out, by trivial⟩
        case measure => simp [intOf]; omega
      · have HN2 := Lib.hid (show ∀ q, q < i + 1 → ¬ (nth (row a q) j = 1 ∧ nth (row P q) n = v) from fun q hq => by
          by_cases e : q = i
          · rw [e, HX.out, HY.out]; exact hbad
          · exact HG.out q (by omega))
        clear hbad
        go_wp2
        go_roundw
        case rel => exact ⟨i + 1, by omega, by go_num, HN2.out, by trivial⟩
        case measure => simp [intOf]; omega
    · have HF := Lib.hid (show decide (PinR a P j n v) = false from decide_eq_false fun ⟨q, h1, h2⟩ => HG.out q (by omega) h2)
      go_wp2
      go_ret
      exact ⟨congrArg (fun b => Ending.returned (.bool b)) HF.out.symm, 0, rfl⟩

end Go.Proofs.Ythcpaonilgoopaa
