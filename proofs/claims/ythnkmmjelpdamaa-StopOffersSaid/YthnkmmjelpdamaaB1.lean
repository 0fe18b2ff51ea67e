/- Chains: what they are; the program's test. -/
import Derived.Test.YthnkmmjelpdamaaA2
namespace Go.Proofs.Ythnkmmjelpdamaa
open Go.RowKit

/-- The sum of the first k numbers. -/
def sumTo (xs : List Int) : Nat → Int
  | 0 => 0
  | k + 1 => sumTo xs k + nth xs k
def sumL (xs : List Int) : Int := sumTo xs xs.length
theorem sumTo_bd {xs : List Int} {k : Nat} (h : ∀ i, i < k → 0 ≤ nth xs i ∧ nth xs i ≤ 4) : 0 ≤ sumTo xs k ∧ sumTo xs k ≤ 4 * k := by
  induction k with
  | zero => simp [sumTo]
  | succ k ih =>
    have h1 := ih fun i hi => h i (by omega)
    have h2 := h k (by omega)
    simp only [sumTo]; omega

set_option maxHeartbeats 1000000 in
theorem sum_any (xs : List Int) (ao : Option Addr) (b o cap : Nat) (w : World) (h : IntsAt w ao b o xs) (hb : ∀ i, i < xs.length → 0 ≤ nth xs i ∧ nth xs i ≤ 4) (hl : xs.length ≤ 1000) :
    Calls Try.prog 74 #[.slice ao xs.length cap] w fun e w' => e = .returned (.int .i64 (sumL xs)) ∧ w' = w := by
  have H := Lib.hid h
  have HB := Lib.hid hb
  clear h hb
  go_enter Try.func74, Try.ntmps74
  go_wp2
  go_loop [3, 5, 8] (fun x _ y => ∃ k : Nat, k ≤ xs.length ∧ y = .int .i64 k ∧ x = .int .i64 (sumTo xs k)) (fun _ _ y => xs.length - (intOf y).toNat)
  case atStart => exact ⟨0, by omega, rfl, rfl⟩
  case round =>
    obtain ⟨k, hk, rfl, rfl⟩ := hrel
    have h1 := sumTo_bd (xs := xs) (k := k) fun i hi => HB.out i (by omega)
    have HS := Lib.hid (show sumTo xs (k + 1) = sumTo xs k + nth xs k from rfl)
    obtain ⟨s, hs⟩ : ∃ s, sumTo xs k = s := ⟨_, rfl⟩
    have HSS := Lib.hid hs
    rw [hs] at h1 HS ⊢
    clear hs
    by_cases hlt : k < xs.length
    · obtain ⟨rfl, -⟩ := H.out.ptr (by omega)
      have hc := H.out.cell k hlt
      have h2 := HB.out k hlt
      go_wp2
      go_round
      case rel => exact ⟨k + 1, by omega, by go_num, by rw [HS.out]⟩
      case measure => simp [intOf]; omega
    · obtain rfl : k = xs.length := by omega
      go_wp2
      go_ret
      exact ⟨ret_int (by rw [sumL, HSS.out]), rfl⟩

def OkNext (xs : List Int) (n : Nat) : Prop := xs.length = n ∧ (∀ i, i < xs.length → 0 ≤ nth xs i ∧ nth xs i ≤ 4) ∧ sumL xs ≤ 4
instance (xs : List Int) (n : Nat) : Decidable (OkNext xs n) := by unfold OkNext; infer_instance
def okNext (xs : List Int) (n : Nat) : Bool := decide (OkNext xs n)

set_option maxHeartbeats 1000000 in
theorem isNext_any (xs : List Int) (n : Nat) (ao : Option Addr) (b o cap : Nat) (w : World) (h : IntsAt w ao b o xs) (hn : n ≤ 6) :
    Calls Try.prog 69 #[.slice ao xs.length cap, .int .i64 n] w fun e w' => e = .returned (.bool (okNext xs n)) ∧ w' = w := by
  have hl := h.len
  have H := Lib.hid h
  clear h
  by_cases e1 : xs.length = n
  · have t1 : ((xs.length : Int) != (n : Int)) = false := by rw [e1]; simp
    have HE := Lib.hid e1
    have hl6 : xs.length ≤ 6 := by omega
    clear e1
    go_enter Try.func69, Try.ntmps69
    go_wp2
    go_loop [6, 13] (fun _ y => ∃ k : Nat, k ≤ xs.length ∧ y = .int .i64 k ∧ ∀ i, i < k → 0 ≤ nth xs i ∧ nth xs i ≤ 4) (fun _ y => xs.length - (intOf y).toNat)
    case atStart => exact ⟨0, by omega, rfl, fun i hi => absurd hi (by omega)⟩
    case round =>
      obtain ⟨k, hk, rfl, hg⟩ := hrel
      have HG := Lib.hid hg
      clear hg
      by_cases hlt : k < xs.length
      · obtain ⟨rfl, -⟩ := H.out.ptr (by omega)
        have hc := H.out.cell k hlt
        by_cases e2 : nth xs k < 0
        · have HF := Lib.hid (show okNext xs n = false from decide_eq_false fun q => by have := q.2.1 k hlt; omega)
          have t2 : decide (nth xs k < 0) = true := decide_eq_true e2
          clear e2
          go_wp2
          go_ret
          exact ⟨ret_bool HF.out.symm, rfl⟩
        · have t2 : decide (nth xs k < 0) = false := decide_eq_false e2
          by_cases e3 : 4 < nth xs k
          · have HF := Lib.hid (show okNext xs n = false from decide_eq_false fun q => by have := q.2.1 k hlt; omega)
            have t3 : decide (4 < nth xs k) = true := decide_eq_true e3
            clear e2 e3
            go_wp2
            go_ret
            exact ⟨ret_bool HF.out.symm, rfl⟩
          · have t3 : decide (4 < nth xs k) = false := decide_eq_false e3
            have HK := Lib.hid (show 0 ≤ nth xs k ∧ nth xs k ≤ 4 from ⟨by omega, by omega⟩)
            clear e2 e3
            go_wp2
            go_round
            case rel => exact ⟨k + 1, by omega, by go_num, fun i hi => by
              by_cases e : i = k
              · subst e; exact HK.out
              · exact HG.out i (by omega)⟩
            case measure => simp [intOf]; omega
      · have hall : ∀ i, i < xs.length → 0 ≤ nth xs i ∧ nth xs i ≤ 4 := fun i hi => HG.out i (by omega)
        have HA := Lib.hid hall
        have hsm := fun W hW => sum_any xs ao b o cap W hW hall (by omega)
        have HSM := Lib.hid (hsm w H.out)
        have hsb := sumTo_bd hall
        have HF := Lib.hid (show okNext xs n = decide (sumL xs ≤ 4) by
          unfold okNext
          rw [Bool.eq_iff_iff, decide_eq_true_eq, decide_eq_true_eq]
          exact ⟨fun q => q.2.2, fun q => ⟨HE.out, HA.out, q⟩⟩)
        clear hall hsm
        go_wp2_with fail
        refine HSM.out.mono ?_
        rintro e w' ⟨rfl, rfl⟩
        go_wp2
        go_ret
        exact ⟨ret_bool HF.out.symm, rfl⟩
  · have t1 : ((xs.length : Int) != (n : Int)) = true := by rw [bne_iff_ne]; omega
    have HF := Lib.hid (show okNext xs n = false from decide_eq_false fun q => e1 q.1)
    clear e1
    go_enter Try.func69, Try.ntmps69
    go_wp2
    go_ret
    exact ⟨ret_bool HF.out.symm, rfl⟩

end Go.Proofs.Ythnkmmjelpdamaa
