/- The reference's has and Different. -/
import Derived.Test.YtaphmjccdokiiaaU
namespace Go.Proofs.Ytaphmjccdokiiaa
open Go.RowKit

/-- The first k numbers have this one. -/
def hasTo (xs : List Int) (k : Nat) (x : Int) : Bool := decide (∃ i, i < k ∧ nth xs i = x)
theorem hasTo_len (xs : List Int) (x : Int) : hasTo xs xs.length x = hasI xs x := rfl

theorem IntsAt.drewN {w : World} {ao : Option Addr} {b o : Nat} {xs : List Int} (h : IntsAt w ao b o xs) (n : Nat) : IntsAt (w.drewN n) ao b o xs :=
  h.below (below_drewN (Below.refl _ _) n) (Nat.le_refl _)

set_option maxHeartbeats 1000000 in
set_option maxRecDepth 100000 in
theorem hasTo_any (xs : List Int) (k : Nat) (x : Int) (ao : Option Addr) (b o cap : Nat) (w : World) (h : IntsAt w ao b o xs) (hk : k ≤ xs.length) :
    Calls Try.prog 62 #[.slice ao k cap, .int .i64 x] w fun e w' => e = .returned (.bool (hasTo xs k x)) ∧ w' = w := by
  have hl := h.len
  have H := Lib.hid h
  clear h
  go_enter Try.func62, Try.ntmps62
  go_wp2
  go_loop [5] (fun i => ∃ j : Nat, j ≤ k ∧ i = .int .i64 j ∧ (∀ t, t < j → nth xs t ≠ x)) (fun i => k - (intOf i).toNat)
  case atStart => exact ⟨0, by omega, rfl, fun j hj => absurd hj (by omega)⟩
  case round =>
    obtain ⟨j, hj, rfl, ha⟩ := hrel
    have HA := Lib.hid ha
    clear ha
    by_cases hlt : j < k
    · obtain ⟨rfl, -⟩ := H.out.ptr (by omega)
      have hc := H.out.cell j (by omega)
      by_cases e : nth xs j = x
      · have hq : (nth xs j == x) = true := by rw [beq_iff_eq]; exact e
        have HF := Lib.hid (show hasTo xs k x = true from decide_eq_true ⟨j, hlt, e⟩)
        clear e
        go_wp2
        go_ret
        exact ⟨ret_bool HF.out.symm, rfl⟩
      · have hq : (nth xs j == x) = false := by rw [beq_eq_false_iff_ne]; exact e
        have HE := Lib.hid e
        clear e
        go_wp2
        go_round
        case rel =>
          refine ⟨j + 1, by omega, by go_num, fun t ht => ?_⟩
          by_cases e : t = j
          · subst e; exact HE.out
          · exact HA.out t (by omega)
        case measure => simp [intOf]; omega
    · have HF := Lib.hid (show hasTo xs k x = false from decide_eq_false (fun q => by obtain ⟨t, ht, e⟩ := q; exact HA.out t (by omega) e))
      go_wp2
      go_ret
      exact ⟨ret_bool HF.out.symm, rfl⟩

theorem has_any (xs : List Int) (x : Int) (ao : Option Addr) (b o cap : Nat) (w : World) (h : IntsAt w ao b o xs) :
    Calls Try.prog 62 #[.slice ao xs.length cap, .int .i64 x] w fun e w' => e = .returned (.bool (hasI xs x)) ∧ w' = w := hasTo_any xs xs.length x ao b o cap w h (Nat.le_refl _)

/-- A quiet call inside a region, in a world that has drawn before. -/
theorem quietM {P : Program} {f : FuncId} {args : Array Value} {w : World} {m q : Nat} {v : Value} (h : Calls P f args (w.drewN (m + q)) fun e w' => e = .returned v ∧ w' = w.drewN (m + q)) :
    Calls P f args (w.drewN (m + q)) fun e w'' => e = .returned v ∧ ∃ n, w'' = w.drewN (m + n) := h.mono fun _ _ ⟨he, hw⟩ => ⟨he, q, hw⟩
/-- .. of a callee that draws. -/
theorem quietD {P : Program} {f : FuncId} {args : Array Value} {w : World} {m q : Nat} {v : Value} (h : Calls P f args (w.drewN (m + q)) fun e w' => e = .returned v ∧ ∃ n, w' = (w.drewN (m + q)).drewN n) :
    Calls P f args (w.drewN (m + q)) fun e w'' => e = .returned v ∧ ∃ n, w'' = w.drewN (m + n) := h.mono fun _ _ ⟨he, n, hw⟩ => ⟨he, q + n, by rw [hw, World.drewN_drewN, Nat.add_assoc]⟩

theorem okSet_false {xs : List Int} {n k : Nat} (hk : k < xs.length) (h : nth xs k < 0 ∨ (n : Int) ≤ nth xs k ∨ hasTo xs k (nth xs k) = true) : okSet xs n = false :=
  decide_eq_false fun q => by
    have := q k hk
    rcases h with h | h | h
    · omega
    · omega
    · obtain ⟨j, hj, e⟩ := of_decide_eq_true h
      exact this.2 j hj e

set_option maxHeartbeats 1000000 in
set_option maxRecDepth 100000 in
theorem different_any (xs : List Int) (n : Nat) (ao : Option Addr) (b o cap : Nat) (w : World) (h : IntsAt w ao b o xs) (hcap : xs.length ≤ cap) :
    Calls Try.prog 28 #[.int .i64 n, .slice ao xs.length cap] w fun e w' => e = .returned (.bool (okSet xs n)) ∧ ∃ m, w' = w.drewN m := by
  have hl := h.len
  have H := Lib.hid h
  clear h
  go_enter Try.func28, Try.ntmps28
  go_wp2
  go_loopw [5] (fun i wr => ∃ k : Nat, k ≤ xs.length ∧ i = .int .i64 k ∧ (∀ i, i < k → (0 ≤ nth xs i ∧ nth xs i < n) ∧ ∀ j, j < i → nth xs j ≠ nth xs i) ∧ ∃ m, wr = w.drewN m) (fun i _ => xs.length - (intOf i).toNat)
  case atStart => exact ⟨0, by omega, rfl, fun j hj => absurd hj (by omega), 0, rfl⟩
  case round =>
    obtain ⟨k, hk, rfl, ha, m, rfl⟩ := hrel
    have HA := Lib.hid ha
    clear ha
    by_cases hlt : k < xs.length
    · obtain ⟨rfl, -⟩ := H.out.ptr (by omega)
      have hc := H.out.cell k hlt
      have HC := Lib.hid (fun q => hasTo_any xs k (nth xs k) (some ⟨b, o, none⟩) b o cap (w.drewN (m + q)) (H.out.drewN _) (by omega))
      by_cases e1 : nth xs k < 0
      · have HF := Lib.hid (okSet_false (n := n) hlt (.inl e1))
        have t1 : decide (nth xs k < 0) = true := decide_eq_true e1
        clear e1
        go_wp2
        go_quiet (fail)
        go_wp2
        go_ret
        exact ⟨ret_bool HF.out.symm, _, World.drewN_drewN _ _ _⟩
      · have t1 : decide (nth xs k < 0) = false := decide_eq_false e1
        by_cases e2 : (n : Int) ≤ nth xs k
        · have HF := Lib.hid (okSet_false (n := n) hlt (.inr (.inl e2)))
          have t2 : decide ((n : Int) ≤ nth xs k) = true := decide_eq_true e2
          clear e1 e2
          go_wp2
          go_quiet (fail)
          go_wp2
          go_ret
          exact ⟨ret_bool HF.out.symm, _, World.drewN_drewN _ _ _⟩
        · have t2 : decide ((n : Int) ≤ nth xs k) = false := decide_eq_false e2
          have HR := Lib.hid (show 0 ≤ nth xs k ∧ nth xs k < n by omega)
          have hkc : k ≤ cap := by omega
          have hkc' : (k : Int) ≤ (cap : Int) := by omega
          have hc0 : 0 < cap := by omega
          have hc1 : ¬ cap = 0 := by omega
          clear e1 e2
          cases e3 : hasTo xs k (nth xs k)
          · have HN := Lib.hid (show ∀ j, j < k → nth xs j ≠ nth xs k from fun j hj e => of_decide_eq_false e3 ⟨j, hj, e⟩)
            rw [e3] at HC
            clear e3
            go_wp2
            go_quiet ((go_at_call 62; exact quietM (HC.out _)))
            go_wp2
            go_roundw
            case rel =>
              refine ⟨k + 1, by omega, by go_num, fun t ht => ?_, _, rfl⟩
              by_cases e : t = k
              · subst e; exact ⟨HR.out, HN.out⟩
              · exact HA.out t (by omega)
            case measure => simp [intOf]; omega
          · have HF := Lib.hid (okSet_false (n := n) hlt (.inr (.inr e3)))
            rw [e3] at HC
            clear e3
            go_wp2
            go_quiet ((go_at_call 62; exact quietM (HC.out _)))
            go_wp2
            go_ret
            exact ⟨ret_bool HF.out.symm, by first | exact ⟨_, rfl⟩ | exact ⟨_, World.drewN_drewN _ _ _⟩⟩
    · have HF := Lib.hid (show okSet xs n = true from decide_eq_true (fun i hi => HA.out i (by omega)))
      go_wp2
      go_ret
      exact ⟨ret_bool HF.out.symm, m, rfl⟩

end Go.Proofs.Ytaphmjccdokiiaa
