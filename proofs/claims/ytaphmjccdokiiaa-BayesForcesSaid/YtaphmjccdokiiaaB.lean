/- What a network is. -/
import Derived.Test.YtaphmjccdokiiaaA
import Derived.Test.YtaphmjccdokiiaaW
namespace Go.Proofs.Ytaphmjccdokiiaa
open Go.RowKit

theorem ret_bool {a b : Bool} (h : a = b) : Ending.returned (.bool a) = .returned (.bool b) := by rw [h]
theorem ret_int {k : IntKind} {a b : Int} (h : a = b) : Ending.returned (.int k a) = .returned (.int k b) := by rw [h]

/-- What areParents has seen of the list when k are read: the next one must be at least this. -/
def least (xs : List Int) : Nat → Int
  | 0 => 0
  | k + 1 => nth xs k + 1

theorem least_step {xs : List Int} {k : Nat} (h : ∀ j, j < k → 0 ≤ nth xs j) (hk : least xs k ≤ nth xs k) : 0 ≤ nth xs k ∧ (0 < k → nth xs (k - 1) < nth xs k) := by
  cases k with
  | zero => exact ⟨hk, fun h => absurd h (by omega)⟩
  | succ k => have := h k (by omega); simp only [least] at hk; exact ⟨by omega, fun _ => by simp; omega⟩

theorem least_bad {xs : List Int} {k : Nat} (hk : nth xs k < least xs k) : nth xs k < 0 ∨ (0 < k ∧ nth xs k ≤ nth xs (k - 1)) := by
  cases k with
  | zero => exact .inl hk
  | succ k => simp only [least] at hk; exact .inr ⟨by omega, by simp; omega⟩

set_option maxHeartbeats 400000 in
theorem areParents_any (xs : List Int) (v : Int) (ao : Option Addr) (b o cap : Nat) (w : World) (h : IntsAt w ao b o xs) (hv : v ≤ 9223372036854775807) :
    Calls Try.prog 70 #[.slice ao xs.length cap, .int .i64 v] w fun e w' => e = .returned (.bool (okPar xs v)) ∧ w = w' := by
  have hl := h.len
  by_cases h3 : xs.length ≤ 3
  · have hc := h.cell
    have HAO := Lib.hid h.ptr
    go_enter Try.func70, Try.ntmps70
    go_wp2
    go_loop [5, 7, 13] (fun l _ i => ∃ k : Nat, k ≤ xs.length ∧ i = .int .i64 k ∧ l = .int .i64 (least xs k) ∧ (∀ j, j < k → 0 ≤ nth xs j ∧ nth xs j < v) ∧ (∀ j, j < k → 0 < j → nth xs (j - 1) < nth xs j)) (fun _ _ i => xs.length - (intOf i).toNat)
    case atStart => exact ⟨0, by omega, rfl, rfl, fun j hj => absurd hj (by omega), fun j hj => absurd hj (by omega)⟩
    case round =>
      obtain ⟨k, hk, rfl, rfl, ha, hb⟩ := hrel
      have HA := Lib.hid ha
      have HB := Lib.hid hb
      clear ha hb
      by_cases hlt : k < xs.length
      · obtain ⟨rfl, hbb⟩ := HAO.out (by omega)
        have hck := hc k hlt
        have hwf := h.wf k
        clear hc
        by_cases g1 : nth xs k < least xs k
        · have hf : okPar xs v = false := decide_eq_false (fun q => by
            rcases least_bad g1 with h1 | ⟨h1, h2⟩
            · have := (q.2.1 k hlt).1; omega
            · have := q.2.2 k hlt h1; omega)
          have HF := Lib.hid hf
          clear hf
          go_wp2
          go_ret
          exact ⟨ret_bool HF.out.symm, rfl⟩
        · by_cases g2 : v ≤ nth xs k
          · have hf : okPar xs v = false := decide_eq_false (fun q => by have := (q.2.1 k hlt).2; omega)
            have HF := Lib.hid hf
            clear hf
            go_wp2
            go_ret
            exact ⟨ret_bool HF.out.symm, rfl⟩
          · have hs := least_step (fun j hj => (HA.out j hj).1) (show least xs k ≤ nth xs k by omega)
            have HS := Lib.hid hs
            clear hs
            go_wp2
            go_round
            case rel =>
              refine ⟨k + 1, by omega, by go_num, rfl, fun j hj => ?_, fun j hj => ?_⟩
              · by_cases e : j = k
                · subst e; exact ⟨HS.out.1, by omega⟩
                · exact HA.out j (by omega)
              · by_cases e : j = k
                · subst e; exact HS.out.2
                · exact HB.out j (by omega)
            case measure => simp [intOf]; omega
      · have hf : okPar xs v = true := decide_eq_true ⟨h3, fun j hj => HA.out j (by omega), fun j hj => HB.out j (by omega)⟩
        have HF := Lib.hid hf
        clear hf
        go_wp2
        go_ret
        exact ⟨ret_bool HF.out.symm, rfl⟩
  · have hf : okPar xs v = false := decide_eq_false (fun q => h3 q.1)
    have HF := Lib.hid hf
    clear hf
    go_enter Try.func70, Try.ntmps70
    go_wp2
    go_ret
    exact ⟨ret_bool HF.out.symm, rfl⟩

theorem wrap_pow (n : Nat) (hn : n ≤ 62) : wrap64 ((2 : Int) ^ n) = ((2 ^ n : Nat) : Int) := by
  have h1 : (2 : Int) ^ n = ((2 ^ n : Nat) : Int) := by simp
  have h2 : 2 ^ n ≤ 2 ^ 62 := Nat.pow_le_pow_right (by omega) hn
  rw [h1]
  generalize (2 ^ n : Nat) = m at h2 ⊢
  exact IntWalk.wrap64_in _ ⟨by omega, by omega⟩

set_option maxHeartbeats 400000 in
theorem isTable_any (xs : List Int) (n : Nat) (ao : Option Addr) (b o cap : Nat) (w : World) (h : IntsAt w ao b o xs) (hn : n ≤ 3) :
    Calls Try.prog 71 #[.slice ao xs.length cap, .int .i64 n] w fun e w' => e = .returned (.bool (okTab xs n)) ∧ w = w' := by
  have hl := h.len
  have hp := wrap_pow n (by omega)
  by_cases hlen : xs.length = 2 ^ n
  · have hB : (((xs.length : Int)) != wrap64 (2 ^ n)) = false := by rw [hp, hlen]; simp
    have HL := Lib.hid hlen
    clear hlen hp
    have hc := h.cell
    have HAO := Lib.hid h.ptr
    go_enter Try.func71, Try.ntmps71
    go_wp2
    go_loop [6, 14] (fun _ i => ∃ k : Nat, k ≤ xs.length ∧ i = .int .i64 k ∧ (∀ j, j < k → 0 ≤ nth xs j ∧ nth xs j ≤ 16)) (fun _ i => xs.length - (intOf i).toNat)
    case atStart => exact ⟨0, by omega, rfl, fun j hj => absurd hj (by omega)⟩
    case round =>
      obtain ⟨k, hk, rfl, ha⟩ := hrel
      have HA := Lib.hid ha
      clear ha
      by_cases hlt : k < xs.length
      · obtain ⟨rfl, hbb⟩ := HAO.out (by omega)
        have hck := hc k hlt
        have hwf := h.wf k
        clear hc
        by_cases g1 : nth xs k < 0
        · have HF := Lib.hid (show okTab xs n = false from decide_eq_false (fun q => by have := (q.2 k hlt).1; omega))
          go_wp2
          go_ret
          exact ⟨ret_bool HF.out.symm, rfl⟩
        · by_cases g2 : 16 < nth xs k
          · have HF := Lib.hid (show okTab xs n = false from decide_eq_false (fun q => by have := (q.2 k hlt).2; omega))
            go_wp2
            go_ret
            exact ⟨ret_bool HF.out.symm, rfl⟩
          · go_wp2
            go_round
            case rel =>
              refine ⟨k + 1, by omega, by go_num, fun j hj => ?_⟩
              by_cases e : j = k
              · subst e; exact ⟨by omega, by omega⟩
              · exact HA.out j (by omega)
            case measure => simp [intOf]; omega
      · have HF := Lib.hid (show okTab xs n = true from decide_eq_true ⟨HL.out, fun j hj => HA.out j (by omega)⟩)
        go_wp2
        go_ret
        exact ⟨ret_bool HF.out.symm, rfl⟩
  · have hB : (((xs.length : Int)) != wrap64 (2 ^ n)) = true := by rw [hp, bne_iff_ne]; intro e; exact hlen (Int.ofNat.inj e)
    clear hp
    have HF := Lib.hid (show okTab xs n = false from decide_eq_false (fun q => hlen q.1))
    go_enter Try.func71, Try.ntmps71
    go_wp2
    go_ret
    exact ⟨ret_bool HF.out.symm, rfl⟩

set_option maxHeartbeats 1000000 in
theorem isNetwork_any (P T : List (List Int)) (v : Value) (w : World) (h : NetAt w v P T) :
    Calls Try.prog 45 #[v] w fun e w' => e = .returned (.bool (isNet P T)) ∧ Below w.heap.size w w' := by
  obtain ⟨pa, b, o, pc, A, B, O, C, ta, b', o', tc, A', B', O', C', rfl, hP, hT⟩ := h.ex
  have hlp := hP.len
  have hlt := hT.len
  clear h
  by_cases h1 : 1 ≤ P.length ∧ P.length ≤ 10
  · obtain ⟨h1, h10⟩ := h1
    by_cases he : T.length = P.length
    · have hB : (((T.length : Int)) != (P.length : Int)) = false := by rw [he]; simp
      have HE := Lib.hid he
      obtain ⟨rfl, hbb⟩ := hP.ptr (by omega)
      obtain ⟨rfl, hbb'⟩ := hT.ptr (by omega)
      have hc := hP.cell
      have hc' := hT.cell
      clear he
      go_enter Try.func45, Try.ntmps45
      go_wp2
      go_loop [4, 5, 25] (fun _ _ i => ∃ k : Nat, k ≤ P.length ∧ i = .int .i64 k ∧ (∀ j, j < k → OkPar (row P j) j ∧ OkTab (row T j) (row P j).length)) (fun _ _ i => P.length - (intOf i).toNat)
      case atStart => exact ⟨0, by omega, rfl, fun j hj => absurd hj (by omega)⟩
      case round =>
        obtain ⟨k, hk, rfl, ha⟩ := hrel
        have HA := Lib.hid ha
        clear ha
        by_cases hlk : k < P.length
        · have hlk' : k < T.length := by rw [HE.out]; exact hlk
          have hck : ∀ X, (w.alloc X).cell? ⟨b, o + k, none⟩ = some (.slice (A k) (row P k).length (C k)) := fun X => ((Below.refl _ _).alloc (Nat.le_refl _) X).cell (B := w.heap.size) (p := ⟨b, o + k, none⟩) hbb |>.trans (hc k hlk)
          have hck' : ∀ X, (w.alloc X).cell? ⟨b', o' + k, none⟩ = some (.slice (A' k) (row T k).length (C' k)) := fun X => ((Below.refl _ _).alloc (Nat.le_refl _) X).cell (B := w.heap.size) (p := ⟨b', o' + k, none⟩) hbb' |>.trans (hc' k hlk')
          clear hc hc'
          have hrP := hP.rows k hlk
          have hrT := hT.rows k hlk'
          have hlr := hrP.len
          have hlr' := hrT.len
          have HrP := Lib.hid hrP
          have HrT := Lib.hid hrT
          clear hrP hrT
          have hC1 := areParents_any (row P k) k (A k) (B k) (O k) (C k) (w.alloc (.cells #[.slice (some ⟨b, o, none⟩) P.length pc, .slice (some ⟨b', o', none⟩) T.length tc] 24)) (HrP.out.alloc _) (by omega)
          cases e1 : okPar (row P k) k
          · have HF := Lib.hid (show isNet P T = false from decide_eq_false (fun q => by have := q.par k hlk; rw [okPar, decide_eq_false_iff_not] at e1; exact e1 this))
            rw [e1] at hC1
            have HC := Lib.hid hC1
            clear hC1 e1
            go_wp2_with (go_at_call 70; refine HC.out.mono ?_; rintro e w' ⟨rfl, rfl⟩)
            go_ret
            exact ⟨ret_bool HF.out.symm, (Below.refl _ _).alloc (Nat.le_refl _) _⟩
          · rw [e1] at hC1
            have HC := Lib.hid hC1
            have he1 := of_decide_eq_true e1
            have h3 := he1.1
            have HE1 := Lib.hid he1
            have hC2 := isTable_any (row T k) (row P k).length (A' k) (B' k) (O' k) (C' k) (w.alloc (.cells #[.slice (some ⟨b, o, none⟩) P.length pc, .slice (some ⟨b', o', none⟩) T.length tc] 24)) (HrT.out.alloc _) h3
            clear hC1 e1 he1
            cases e2 : okTab (row T k) (row P k).length
            · have HF := Lib.hid (show isNet P T = false from decide_eq_false (fun q => by have := q.ok k hlk; rw [okTab, decide_eq_false_iff_not] at e2; exact e2 this))
              rw [e2] at hC2
              have HC2 := Lib.hid hC2
              clear hC2 e2
              go_wp2_with (first | (go_at_call 70; refine HC.out.mono ?_; rintro e w' ⟨rfl, rfl⟩) | (go_at_call 71; refine HC2.out.mono ?_; rintro e w' ⟨rfl, rfl⟩))
              go_ret
              exact ⟨ret_bool HF.out.symm, (Below.refl _ _).alloc (Nat.le_refl _) _⟩
            · rw [e2] at hC2
              have HC2 := Lib.hid hC2
              have HE2 := Lib.hid (of_decide_eq_true e2)
              clear hC2 e2
              go_wp2_with (first | (go_at_call 70; refine HC.out.mono ?_; rintro e w' ⟨rfl, rfl⟩) | (go_at_call 71; refine HC2.out.mono ?_; rintro e w' ⟨rfl, rfl⟩))
              go_round
              case rel =>
                refine ⟨k + 1, by omega, by go_num, fun j hj => ?_⟩
                by_cases e : j = k
                · subst e; exact ⟨HE1.out, HE2.out⟩
                · exact HA.out j (by omega)
              case measure => simp [intOf]; omega
        · have HF := Lib.hid (show isNet P T = true from decide_eq_true ⟨h1, h10, HE.out, fun j hj => (HA.out j (by omega)).1, fun j hj => (HA.out j (by omega)).2⟩)
          go_wp2
          go_ret
          exact ⟨ret_bool HF.out.symm, (Below.refl _ _).alloc (Nat.le_refl _) _⟩
    · have hB : (((T.length : Int)) != (P.length : Int)) = true := by rw [bne_iff_ne]; omega
      have HF := Lib.hid (show isNet P T = false from decide_eq_false (fun q => he q.tab))
      go_enter Try.func45, Try.ntmps45
      go_wp2
      go_ret
      exact ⟨ret_bool HF.out.symm, (Below.refl _ _).alloc (Nat.le_refl _) _⟩
  · have HF := Lib.hid (show isNet P T = false from decide_eq_false (fun q => h1 ⟨q.pos, q.le⟩))
    by_cases h1' : P.length < 1
    · go_enter Try.func45, Try.ntmps45
      go_wp2
      go_ret
      exact ⟨ret_bool HF.out.symm, (Below.refl _ _).alloc (Nat.le_refl _) _⟩
    · have h10 : 10 < P.length := by omega
      go_enter Try.func45, Try.ntmps45
      go_wp2
      go_ret
      exact ⟨ret_bool HF.out.symm, (Below.refl _ _).alloc (Nat.le_refl _) _⟩

end Go.Proofs.Ytaphmjccdokiiaa
