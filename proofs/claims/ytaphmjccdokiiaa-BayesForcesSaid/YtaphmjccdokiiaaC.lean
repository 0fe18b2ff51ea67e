/- What a network is: the reference. -/
import Derived.Test.YtaphmjccdokiiaaB
namespace Go.Proofs.Ytaphmjccdokiiaa
open Go.RowKit

theorem not_par {P T : List (List Int)} {k : Nat} (hk : k < P.length) (h : ¬ OkPar (row P k) k) : isNet P T = false := decide_eq_false fun q => h (q.par k hk)
theorem not_tab {P T : List (List Int)} {k : Nat} (hk : k < P.length) (h : ¬ OkTab (row T k) (row P k).length) : isNet P T = false := decide_eq_false fun q => h (q.ok k hk)

set_option maxHeartbeats 4000000 in
set_option maxRecDepth 100000 in
theorem refNetwork_any (P T : List (List Int)) (v : Value) (w : World) (h : NetAt w v P T) :
    Calls Try.prog 18 #[v] w fun e w' => e = .returned (.bool (isNet P T)) ∧ Below w.heap.size w w' := by
  obtain ⟨pa, b, o, pc, A, B, O, C, ta, b', o', tc, A', B', O', C', rfl, hP, hT⟩ := h.ex
  have hlp := hP.len
  have hlt := hT.len
  clear h
  by_cases h1 : 1 ≤ P.length ∧ P.length ≤ 10
  · obtain ⟨h1, h10⟩ := h1
    by_cases he : T.length = P.length
    · have hB : (((T.length : Int)) != (P.length : Int)) = false := by rw [he]; simp
      have HE := Lib.hid he
      obtain ⟨rfl, hbb⟩ := hP.ptr (by omega)
      obtain ⟨rfl, hbb'⟩ := hT.ptr (by omega)
      clear he
      have HP := Lib.hid hP
      have HT := Lib.hid hT
      clear hP hT
      go_enter Try.func18, Try.ntmps18
      go_wp2
      go_loopw [4, 5, 6, 7] (fun i _ _ _ wr => ∃ k : Nat, k ≤ P.length ∧ i = .int .i64 k ∧ Below (w.heap.size + 1) (w.alloc (.cells #[.slice (some ⟨b, o, none⟩) P.length pc, .slice (some ⟨b', o', none⟩) T.length tc] 24)) wr ∧ (∀ j, j < k → OkPar (row P j) j ∧ OkTab (row T j) (row P j).length)) (fun i _ _ _ _ => P.length - (intOf i).toNat)
      case atStart => exact ⟨0, by omega, rfl, Below.refl _ _, fun j hj => absurd hj (by omega)⟩
      case round =>
        obtain ⟨k, hk, rfl, hbel, ha⟩ := hrel
        have HA := Lib.hid ha
        have HB := Lib.hid hbel
        obtain ⟨hx0, hx1⟩ := box2 hbel
        clear ha hbel
        by_cases hlk : k < P.length
        · have hlk' : k < T.length := by rw [HE.out]; exact hlk
          have hP' := (HP.out.alloc (.cells #[.slice (some ⟨b, o, none⟩) P.length pc, .slice (some ⟨b', o', none⟩) T.length tc] 24)).below HB.out (by simp)
          have hT' := (HT.out.alloc (.cells #[.slice (some ⟨b, o, none⟩) P.length pc, .slice (some ⟨b', o', none⟩) T.length tc] 24)).below HB.out (by simp)
          have hck := hP'.cell k hlk
          have hck' := hT'.cell k hlk'
          have hlr := (hP'.rows k hlk).len
          have hlr' := (hT'.rows k hlk').len
          have HrP := Lib.hid (hP'.rows k hlk)
          have HrT := Lib.hid (hT'.rows k hlk')
          clear hP' hT'
          by_cases h3 : (row P k).length ≤ 3
          · by_cases h2 : (row T k).length = 2 ^ (row P k).length
            · have hp := wrap_pow (row P k).length (by omega)
              have hB2 : (((row T k).length : Int) != wrap64 (2 ^ (row P k).length)) = false := by rw [hp, h2]; simp
              have H2 := Lib.hid h2
              have d1 : decide (3 < (row P k).length) = false := by simp; omega
              have d2 : decide ((3 : Int) < ((row P k).length : Int)) = false := by simp; omega
              clear hp h2
              go_wp2
              go_quiet (fail)
              go_wp2
              have hcP := HrP.out.cell
              have HAP := Lib.hid HrP.out.ptr
              clear hck hck' hx0 hx1 d1 d2 hB2
              go_loopw [6] (fun j wi => ∃ t : Nat, t ≤ (row P k).length ∧ j = .int .i64 t ∧ Below (w.heap.size + 1) (w.alloc (.cells #[.slice (some ⟨b, o, none⟩) P.length pc, .slice (some ⟨b', o', none⟩) T.length tc] 24)) wi ∧ (∀ s, s < t → 0 ≤ nth (row P k) s ∧ nth (row P k) s < k) ∧ (∀ s, s < t → 0 < s → nth (row P k) (s - 1) < nth (row P k) s)) (fun j _ => (row P k).length - (intOf j).toNat)
              case atStart => exact ⟨0, by omega, rfl, below_drewN HB.out _, fun j hj => absurd hj (by omega), fun j hj => absurd hj (by omega)⟩
              case round =>
                obtain ⟨t, ht, rfl, hbel2, ha2, ha3⟩ := hrel
                have HA2 := Lib.hid ha2
                have HA3 := Lib.hid ha3
                have HB2 := Lib.hid hbel2
                clear ha2 ha3 hbel2
                obtain ⟨hx0, hx1⟩ := box2 HB2.out
                have hP' := (HP.out.alloc (.cells #[.slice (some ⟨b, o, none⟩) P.length pc, .slice (some ⟨b', o', none⟩) T.length tc] 24)).below HB2.out (by simp)
                by_cases hlt2 : t < (row P k).length
                · obtain ⟨hAk, _⟩ := HAP.out (by omega)
                  have hct := (hP'.rows k hlk).cell t hlt2
                  have hct1 := fun h0 : 0 < t => (hP'.rows k hlk).cell (t - 1) (by omega)
                  have hwt := (hP'.rows k hlk).wf t
                  have hwP := (hP'.rows k hlk).wf
                  have hck := hP'.cell k hlk
                  rw [hAk] at hck
                  clear hP'
                  rcases (show (nth (row P k) t < 0) ∨ (0 ≤ nth (row P k) t ∧ (k : Int) ≤ nth (row P k) t) ∨ (0 ≤ nth (row P k) t ∧ nth (row P k) t < k ∧ t = 0) ∨ (0 ≤ nth (row P k) t ∧ nth (row P k) t < k ∧ 0 < t ∧ nth (row P k) t ≤ nth (row P k) (t - 1)) ∨ (0 ≤ nth (row P k) t ∧ nth (row P k) t < k ∧ 0 < t ∧ nth (row P k) (t - 1) < nth (row P k) t) by omega) with g1 | ⟨g1, g2⟩ | ⟨g1, g2, g3⟩ | ⟨g1, g2, g3, g4⟩ | ⟨g1, g2, g3, g4⟩
                  · have d1 : decide (nth (row P k) t < 0) = true := by simp; omega
                    have HF := Lib.hid (not_par (T := T) hlk (fun y => by have := (y.2.1 t hlt2).1; omega))
                    clear hct1
                    go_wp2
                    go_quiet (fail)
                    go_wp2
                    go_ret
                    exact ⟨ret_bool HF.out.symm, ((Below.refl _ _).alloc (Nat.le_refl _) _).trans ((below_drewN HB2.out _).mono (by omega))⟩
                  · have d1 : decide (nth (row P k) t < 0) = false := by simp; omega
                    have d2 : decide ((k : Int) ≤ nth (row P k) t) = true := by simp; omega
                    have HF := Lib.hid (not_par (T := T) hlk (fun y => by have := (y.2.1 t hlt2).2; omega))
                    clear hct1
                    go_wp2
                    go_quiet (fail)
                    go_wp2
                    go_ret
                    exact ⟨ret_bool HF.out.symm, ((Below.refl _ _).alloc (Nat.le_refl _) _).trans ((below_drewN HB2.out _).mono (by omega))⟩
                  · subst g3
                    simp only [Nat.add_zero] at hct
                    have d1 : decide (nth (row P k) 0 < 0) = false := by simp; omega
                    have d2 : decide ((k : Int) ≤ nth (row P k) 0) = false := by simp; omega
                    clear hct1
                    go_wp2
                    go_quiet (fail)
                    go_wp2
                    go_roundw
                    case rel =>
                      refine ⟨1, by omega, by go_num, below_drewN HB2.out _, fun j hj => ?_, fun j hj h0 => absurd hj (by omega)⟩
                      have : j = 0 := by omega
                      subst this
                      exact ⟨g1, g2⟩
                    case measure => simp [intOf]; omega
                  · have d1 : decide (nth (row P k) t < 0) = false := by simp; omega
                    have d2 : decide ((k : Int) ≤ nth (row P k) t) = false := by simp; omega
                    have d3 : decide (nth (row P k) t ≤ nth (row P k) (t - 1)) = true := by simp; omega
                    have d4 : decide (0 < t) = true := by simp; omega
                    have d5 : decide ((0 : Int) < (t : Int)) = true := by simp; omega
                    have hct1' := hct1 g3
                    have hwt' := hwP (t - 1)
                    clear hct1
                    have HF := Lib.hid (not_par (T := T) hlk (fun y => by have := y.2.2 t hlt2 g3; omega))
                    go_wp2
                    go_quiet (fail)
                    go_wp2
                    go_ret
                    exact ⟨ret_bool HF.out.symm, ((Below.refl _ _).alloc (Nat.le_refl _) _).trans ((below_drewN HB2.out _).mono (by omega))⟩
                  · have d1 : decide (nth (row P k) t < 0) = false := by simp; omega
                    have d2 : decide ((k : Int) ≤ nth (row P k) t) = false := by simp; omega
                    have d3 : decide (nth (row P k) t ≤ nth (row P k) (t - 1)) = false := by simp; omega
                    have d4 : decide (0 < t) = true := by simp; omega
                    have d5 : decide ((0 : Int) < (t : Int)) = true := by simp; omega
                    have hct1' := hct1 g3
                    have hwt' := hwP (t - 1)
                    clear hct1
                    go_wp2
                    go_quiet (fail)
                    go_wp2
                    go_roundw
                    case rel =>
                      refine ⟨t + 1, by omega, by go_num, below_drewN HB2.out _, fun j hj => ?_, fun j hj => ?_⟩
                      · by_cases e : j = t
                        · subst e; exact ⟨g1, g2⟩
                        · exact HA2.out j (by omega)
                      · by_cases e : j = t
                        · subst e; exact fun _ => g4
                        · exact HA3.out j (by omega)
                    case measure => simp [intOf]; omega
                · clear hP'
                  have hT' := (HT.out.alloc (.cells #[.slice (some ⟨b, o, none⟩) P.length pc, .slice (some ⟨b', o', none⟩) T.length tc] 24)).below HB2.out (by simp)
                  have hck' := hT'.cell k hlk'
                  clear hT'
                  have HOK := Lib.hid (show OkPar (row P k) k from ⟨h3, fun j hj => HA2.out j (by omega), fun j hj => HA3.out j (by omega)⟩)
                  go_wp2
                  go_loopw [7] (fun j wi => ∃ t : Nat, t ≤ (row T k).length ∧ j = .int .i64 t ∧ Below (w.heap.size + 1) (w.alloc (.cells #[.slice (some ⟨b, o, none⟩) P.length pc, .slice (some ⟨b', o', none⟩) T.length tc] 24)) wi ∧ (∀ s, s < t → 0 ≤ nth (row T k) s ∧ nth (row T k) s ≤ 16)) (fun j _ => (row T k).length - (intOf j).toNat)
                  case atStart => exact ⟨0, by omega, rfl, HB2.out, fun j hj => absurd hj (by omega)⟩
                  case round =>
                    clear hck'
                    obtain ⟨q, hq, rfl, hbel4, ha4⟩ := hrel
                    have HA4 := Lib.hid ha4
                    have HB4 := Lib.hid hbel4
                    clear ha4 hbel4
                    obtain ⟨hx0, hx1⟩ := box2 HB4.out
                    have hT' := (HT.out.alloc (.cells #[.slice (some ⟨b, o, none⟩) P.length pc, .slice (some ⟨b', o', none⟩) T.length tc] 24)).below HB4.out (by simp)
                    have hck' := hT'.cell k hlk'
                    have HrT := Lib.hid (hT'.rows k hlk')
                    clear hT'
                    by_cases hq2 : q < (row T k).length
                    · obtain ⟨hAk', _⟩ := HrT.out.ptr (by omega)
                      have hct := HrT.out.cell q hq2
                      have hwt := HrT.out.wf q
                      rw [hAk'] at hck'
                      clear hAk'
                      rcases (show (nth (row T k) q < 0) ∨ (0 ≤ nth (row T k) q ∧ 16 < nth (row T k) q) ∨ (0 ≤ nth (row T k) q ∧ nth (row T k) q ≤ 16) by omega) with g1 | ⟨g1, g2⟩ | ⟨g1, g2⟩
                      · have HF := Lib.hid (not_tab (T := T) hlk (fun y => by have := y.2 q hq2; omega))
                        go_wp2
                        go_ret
                        exact ⟨ret_bool HF.out.symm, ((Below.refl _ _).alloc (Nat.le_refl _) _).trans (HB4.out.mono (by omega))⟩
                      · have HF := Lib.hid (not_tab (T := T) hlk (fun y => by have := y.2 q hq2; omega))
                        go_wp2
                        go_ret
                        exact ⟨ret_bool HF.out.symm, ((Below.refl _ _).alloc (Nat.le_refl _) _).trans (HB4.out.mono (by omega))⟩
                      · go_wp2
                        go_roundw
                        case rel =>
                          refine ⟨q + 1, by omega, by go_num, HB4.out, fun j hj => ?_⟩
                          by_cases e : j = q
                          · subst e; exact ⟨g1, g2⟩
                          · exact HA4.out j (by omega)
                        case measure => simp [intOf]; omega
                    · go_wp2
                      go_roundw
                      case rel =>
                        refine ⟨k + 1, by omega, by go_num, HB4.out, fun j hj => ?_⟩
                        by_cases e : j = k
                        · subst e; exact ⟨HOK.out, H2.out, fun j hj => HA4.out j (by omega)⟩
                        · exact HA.out j (by omega)
                      case measure => simp [intOf]; omega
            · have hp := wrap_pow (row P k).length (by omega)
              have hB2 : (((row T k).length : Int) != wrap64 (2 ^ (row P k).length)) = true := by rw [hp, bne_iff_ne]; intro e; exact h2 (Int.ofNat.inj e)
              have HF := Lib.hid (not_tab (T := T) hlk (fun y => h2 y.1))
              have d1 : decide (3 < (row P k).length) = false := by simp; omega
              have d2 : decide ((3 : Int) < ((row P k).length : Int)) = false := by simp; omega
              clear hp h2
              go_wp2
              go_quiet (fail)
              go_wp2
              go_ret
              exact ⟨ret_bool HF.out.symm, ((Below.refl _ _).alloc (Nat.le_refl _) _).trans ((below_drewN HB.out _).mono (by omega))⟩
          · have HF := Lib.hid (not_par (T := T) hlk (fun y => h3 y.1))
            have d1 : decide (3 < (row P k).length) = true := by simp; omega
            have d2 : decide ((3 : Int) < ((row P k).length : Int)) = true := by simp; omega
            go_wp2
            go_quiet (fail)
            go_wp2
            go_ret
            exact ⟨ret_bool HF.out.symm, ((Below.refl _ _).alloc (Nat.le_refl _) _).trans ((below_drewN HB.out _).mono (by omega))⟩
        · have HF := Lib.hid (show isNet P T = true from decide_eq_true ⟨h1, h10, HE.out, fun j hj => (HA.out j (by omega)).1, fun j hj => (HA.out j (by omega)).2⟩)
          go_wp2
          go_ret
          exact ⟨ret_bool HF.out.symm, ((Below.refl _ _).alloc (Nat.le_refl _) _).trans (HB.out.mono (by omega))⟩
    · have hB : (((T.length : Int)) != (P.length : Int)) = true := by rw [bne_iff_ne]; omega
      have HF := Lib.hid (show isNet P T = false from decide_eq_false (fun q => he q.tab))
      go_enter Try.func18, Try.ntmps18
      go_wp2
      go_ret
      exact ⟨ret_bool HF.out.symm, (Below.refl _ _).alloc (Nat.le_refl _) _⟩
  · have HF := Lib.hid (show isNet P T = false from decide_eq_false (fun q => h1 ⟨q.pos, q.le⟩))
    by_cases h1' : P.length < 1
    · go_enter Try.func18, Try.ntmps18
      go_wp2
      go_ret
      exact ⟨ret_bool HF.out.symm, (Below.refl _ _).alloc (Nat.le_refl _) _⟩
    · have h10 : 10 < P.length := by omega
      go_enter Try.func18, Try.ntmps18
      go_wp2
      go_ret
      exact ⟨ret_bool HF.out.symm, (Below.refl _ _).alloc (Nat.le_refl _) _⟩

end Go.Proofs.Ytaphmjccdokiiaa
