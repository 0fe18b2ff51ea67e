/- Which key opens, as the reference says it. -/
import Derived.Test.YthcpaonilgoopaaG2
namespace Go.Proofs.Ythcpaonilgoopaa
open Go.RowKit

/-- A key opens a lock. -/
def OpenR (a P : List (List Int)) (key : List Int) (j : Nat) : Prop := ∀ c, c < key.length → PinR a P j c (nth key c)
instance (a P : List (List Int)) (key : List Int) (j : Nat) : Decidable (OpenR a P key j) := inferInstanceAs (Decidable (∀ c, c < key.length → PinR a P j c (nth key c)))

set_option maxHeartbeats 4000000 in
set_option maxRecDepth 100000 in
theorem refOpens_any (a P : List (List Int)) (key : List Int) (j : Nat) (ao : Option Addr) (b o cap : Nat) (A : Nat → Option Addr) (B O C : Nat → Nat) (po : Option Addr) (pb pq pcap : Nat) (A' : Nat → Option Addr) (B' O' C' : Nat → Nat) (ko : Option Addr) (kb kq kc : Nat) (w : World)
    (H : RowsAt w ao b o a A B O C) (HP : RowsAt w po pb pq P A' B' O' C') (HK : IntsAt w ko kb kq key) (hk6 : a.length ≤ 6) (hj6 : j < 6) (hc4 : key.length ≤ 4) (hj : ∀ i, i < a.length → j < (row a i).length) (hp : P.length = a.length) (hn : ∀ i, i < a.length → (row P i).length = key.length) :
    Calls Try.prog 31 #[.slice ao a.length cap, .slice po P.length pcap, .slice ko key.length kc, .int .i64 j] w fun e w' => e = .returned (.bool (decide (OpenR a P key j))) ∧ ∃ m, w' = w.drewN m := by
  have HPIN := Lib.hid (fun n v (h : n < key.length) m => refPin_any a P j n v ao b o cap A B O C po pb pq pcap A' B' O' C' (w.drewN m) (H.below (below_drewN (Below.refl _ _) m) (Nat.le_refl _)) (HP.below (below_drewN (Below.refl _ _) m) (Nat.le_refl _)) hk6 hj6 (by omega) hj hp (fun i hi => by rw [hn i hi]; exact h))
  have HKK := Lib.hid HK
  clear H HP HK hj hn hp
  go_enter Try.func31, Try.ntmps31
  go_wp2
  go_loopw [9] (fun x wr => ∃ c : Nat, c ≤ key.length ∧ x = .int .i64 c ∧ (∀ q, q < c → PinR a P j q (nth key q)) ∧ ∃ m, wr = w.drewN m) (fun x _ => key.length - (intOf x).toNat)
  case atStart => exact ⟨0, by omega, rfl, fun q hq => absurd hq (by omega), 0, rfl⟩
  case round =>
    obtain ⟨c, hc, rfl, hg, md, rfl⟩ := hrel
    have HG := Lib.hid hg
    clear hg
    by_cases hlt : c < key.length
    · have hk := HKK.out.below (below_drewN (Below.refl _ w) md) (Nat.le_refl _)
      obtain ⟨rfl, -⟩ := hk.ptr (by omega)
      have c0 := hk.cell c hlt
      obtain ⟨v, hv⟩ : ∃ v, nth key c = v := ⟨_, rfl⟩
      rw [hv] at c0
      have HV := Lib.hid hv
      have HPI := Lib.hid (HPIN.out c v hlt)
      clear hk hv
      by_cases e : PinR a P j c v
      · have hd : decide (PinR a P j c v) = true := decide_eq_true e
        unfold Hid at HPI
        simp only [hd] at HPI
        have HPI := Lib.hid HPI
        have HE := Lib.hid e
        clear e hd
        go_wp2_with fail
        refine (HPI.out md).mono ?_
        rintro e w2 ⟨rfl, m2, rfl⟩
        go_wp2
        go_roundw
        case rel => exact ⟨c + 1, by omega, by go_num, fun q hq => by
          by_cases e : q = c
          · rw [e, HV.out]; exact HE.out
          · exact HG.out q (by omega), _, by first | rfl | exact World.drewN_drewN _ _ _⟩
        case measure => simp [intOf]; omega
      · have hd : decide (PinR a P j c v) = false := decide_eq_false e
        unfold Hid at HPI
        simp only [hd] at HPI
        have HPI := Lib.hid HPI
        have HF := Lib.hid (show decide (OpenR a P key j) = false from decide_eq_false fun q => e (by have := q c hlt; rw [HV.out] at this; exact this))
        clear e hd
        go_wp2_with fail
        refine (HPI.out md).mono ?_
        rintro e w2 ⟨rfl, m2, rfl⟩
        go_wp2
        go_ret
        exact ⟨congrArg (fun b => Ending.returned (.bool b)) HF.out.symm, _, by first | rfl | exact World.drewN_drewN _ _ _⟩
    · have HT := Lib.hid (show decide (OpenR a P key j) = true from decide_eq_true fun q hq => HG.out q (by omega))
      go_wp2
      go_ret
      exact ⟨congrArg (fun b => Ending.returned (.bool b)) HT.out.symm, _, rfl⟩

end Go.Proofs.Ythcpaonilgoopaa
