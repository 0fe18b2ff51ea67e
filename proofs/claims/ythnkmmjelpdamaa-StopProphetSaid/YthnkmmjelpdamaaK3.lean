/- The prophet's bounds, for reduced fractions. -/
import Derived.Test.YthnkmmjelpdamaaK2
namespace Go.Proofs.Ythnkmmjelpdamaa

theorem fr_split (num den : Int) (hd : 1 ≤ den) : ∃ P Q g : Int, fracV num den = .agg #[.int .i64 P, .int .i64 Q] ∧ num = P * g ∧ den = Q * g ∧ 1 ≤ g ∧ 1 ≤ Q ∧ Q ≤ den ∧ (0 ≤ num → 0 ≤ P ∧ P ≤ num) := by
  have hg := gcd_pos (num := num) hd
  obtain ⟨a, ha⟩ := Int.gcd_dvd_left (a := num) (b := den)
  obtain ⟨d, hdd⟩ := Int.gcd_dvd_right (a := num) (b := den)
  have e1 : num / (Int.gcd num den : Int) = a := by
    obtain ⟨g, hgg⟩ : ∃ g : Int, (Int.gcd num den : Int) = g := ⟨_, rfl⟩
    rw [hgg] at ha hg ⊢
    rw [ha]; exact Int.mul_ediv_cancel_left _ (by omega)
  have e2 : den / (Int.gcd num den : Int) = d := by
    obtain ⟨g, hgg⟩ : ∃ g : Int, (Int.gcd num den : Int) = g := ⟨_, rfl⟩
    rw [hgg] at hdd hg ⊢
    rw [hdd]; exact Int.mul_ediv_cancel_left _ (by omega)
  obtain ⟨g, hgg⟩ : ∃ g : Int, (Int.gcd num den : Int) = g := ⟨_, rfl⟩
  have hv : fracV num den = .agg #[.int .i64 a, .int .i64 d] := by unfold fracV fracC; rw [e1, e2]
  rw [hgg] at ha hdd hg
  clear e1 e2 hgg
  have hd1 : 1 ≤ d := by
    rcases Int.lt_or_le 0 d with h | h
    · omega
    · have := Int.mul_nonneg (a := g) (b := -d) (by omega) (by omega)
      rw [Int.mul_neg] at this
      omega
  have hd3 : d ≤ den := by
    have := Int.mul_le_mul_of_nonneg_right (a := 1) (b := g) (c := d) (by omega) (by omega)
    omega
  refine ⟨a, d, g, hv, by rw [Int.mul_comm]; exact ha, by rw [Int.mul_comm]; exact hdd, hg, hd1, hd3, fun hn => ?_⟩
  have ha0 : 0 ≤ a := by
    rcases Int.lt_or_le a 0 with h | h
    · have := Int.mul_le_mul_of_nonneg_left (a := a) (b := -1) (c := g) (by omega) (by omega)
      omega
    · exact h
  refine ⟨ha0, ?_⟩
  have := Int.mul_le_mul_of_nonneg_right (a := 1) (b := g) (c := a) (by omega) ha0
  omega

theorem cross {p q W P1 P2 g Q1 Q2 g' c : Int} (hp : p = P1 * g) (hW : W = P2 * g) (hq : q = Q1 * g') (hW' : W = Q2 * g') (hg : 1 ≤ g) (hg' : 1 ≤ g') (hW0 : 0 ≤ W) (h : p ≤ c * q) : P1 * Q2 ≤ c * Q1 * P2 := by
  have h1 := Int.mul_le_mul_of_nonneg_right h hW0
  have e1 : P1 * Q2 * (g * g') = p * W := by rw [hp, hW']; grind
  have e2 : c * Q1 * P2 * (g * g') = c * q * W := by rw [hq, hW]; grind
  have hgg : 0 < g * g' := Int.mul_pos (by omega) (by omega)
  refine Int.le_of_mul_le_mul_right (a := g * g') ?_ hgg
  rw [e1, e2]; exact h1

theorem thr_ok {e W A1 A2 g : Int} (he : e = A1 * g) (hW : W = A2 * g) (hg : 1 ≤ g) (h2 : 1 ≤ A2) : e ≤ 2 * W * ((A1 + 2 * A2 - 1) / (2 * A2)) ∧ 2 * W * ((A1 + 2 * A2 - 1) / (2 * A2) - 1) ≤ e := by
  have h1 := Int.mul_ediv_add_emod (A1 + 2 * A2 - 1) (2 * A2)
  have h3 := Int.emod_nonneg (A1 + 2 * A2 - 1) (show 2 * A2 ≠ 0 by omega)
  have h4 := Int.emod_lt_of_pos (A1 + 2 * A2 - 1) (show 0 < 2 * A2 by omega)
  obtain ⟨T, hT⟩ : ∃ T, (A1 + 2 * A2 - 1) / (2 * A2) = T := ⟨_, rfl⟩
  rw [hT] at h1 ⊢
  have a : A1 ≤ 2 * A2 * T := by omega
  have b : 2 * A2 * (T - 1) ≤ A1 := by rw [Int.mul_sub]; omega
  have a2 := Int.mul_le_mul_of_nonneg_right a (show 0 ≤ g by omega)
  have b2 := Int.mul_le_mul_of_nonneg_right b (show 0 ≤ g by omega)
  have e1 : 2 * A2 * T * g = 2 * W * T := by rw [hW]; grind
  have e2 : 2 * A2 * (T - 1) * g = 2 * W * (T - 1) := by rw [hW]; grind
  rw [e1] at a2
  rw [e2] at b2
  omega

theorem gR_pos {acc : Int → Int → Int → Bool} {L : List (List (Int × Int))} (h : AreOff L) : 0 ≤ (gR acc L).1 ∧ (gR acc L).1 ≤ 1000 * 16 ^ L.length := by
  have := gL_bd (acc := acc) h (dn L.length L.length)
  rw [gL_all, gR_two] at this
  exact ⟨this.1, this.2.1⟩

/-- All that the statement asks of the four fractions. -/
structure PrOk (A1 A2 B1 B2 C1 C2 D1 D2 : Int) : Prop where
  a : (0 ≤ A1 ∧ A1 ≤ 17179869184) ∧ 1 ≤ A2 ∧ A2 ≤ 16777216
  b : (0 ≤ B1 ∧ B1 ≤ 17179869184) ∧ 1 ≤ B2 ∧ B2 ≤ 16777216
  c : (0 ≤ C1 ∧ C1 ≤ 17179869184) ∧ 1 ≤ C2 ∧ C2 ≤ 16777216
  d : (0 ≤ D1 ∧ D1 ≤ 17179869184) ∧ 1 ≤ D2 ∧ D2 ≤ 16777216
  ab : B1 * A2 ≤ A1 * B2
  bc : C1 * B2 ≤ B1 * C2
  a2b : A1 * B2 ≤ 2 * B1 * A2
  a2d : A1 * D2 ≤ 2 * D1 * A2

theorem prophet_all {L : List (List (Int × Int))} (h : okOffs L = true) (least : Int) : ∃ A1 A2 B1 B2 C1 C2 D1 D2 : Int,
    fracV (cmb L 0 1) (16 ^ L.length) = .agg #[.int .i64 A1, .int .i64 A2] ∧ fracV (gL accP L (dn L.length L.length)).1 (16 ^ L.length) = .agg #[.int .i64 B1, .int .i64 B2] ∧
    fracV (gL (accT least) L (dn L.length L.length)).1 (16 ^ L.length) = .agg #[.int .i64 C1, .int .i64 C2] ∧
    fracV (gL (accT ((A1 + 2 * A2 - 1) / (2 * A2))) L (dn L.length L.length)).1 (16 ^ L.length) = .agg #[.int .i64 D1, .int .i64 D2] ∧ PrOk A1 A2 B1 B2 C1 C2 D1 D2 := by
  have h' : L.length ≤ 6 ∧ ∀ i, i < L.length → okOff (rowP L i) = true := of_decide_eq_true h
  have h6 := h'.1
  have hA : AreOff L := h'.2
  have hp := pow16_nat h6
  have he := cmb_bd L hA 0 1 (by omega) (by omega) (by omega)
  rw [Int.one_mul] at he
  have hb := gR_pos (acc := accP) hA
  have hc := gR_pos (acc := accT least) hA
  obtain ⟨A1, A2, g1, a1, a2, a3, a4, a5, a6, a7⟩ := fr_split (cmb L 0 1) (16 ^ L.length) (by omega)
  obtain ⟨t1, t2⟩ := thr_ok a2 a3 a4 a5
  have hd := gR_pos (acc := accT ((A1 + 2 * A2 - 1) / (2 * A2))) hA
  have hw := wise_le hA
  have hh := half_le hA t1 t2
  have ht := thres_le hA least
  have ht2 := thres_le hA ((A1 + 2 * A2 - 1) / (2 * A2))
  obtain ⟨B1, B2, g2, b1, b2, b3, b4, b5, b6, b7⟩ := fr_split (gR accP L).1 (16 ^ L.length) (by omega)
  obtain ⟨C1, C2, g3, c1, c2, c3, c4, c5, c6, c7⟩ := fr_split (gR (accT least) L).1 (16 ^ L.length) (by omega)
  obtain ⟨D1, D2, g4, d1, d2, d3, d4, d5, d6, d7⟩ := fr_split (gR (accT ((A1 + 2 * A2 - 1) / (2 * A2))) L).1 (16 ^ L.length) (by omega)
  refine ⟨A1, A2, B1, B2, C1, C2, D1, D2, a1, by rw [gL_all]; exact b1, by rw [gL_all]; exact c1, by rw [gL_all]; exact d1, ?_, ?_, ?_, ?_, ?_, ?_, ?_, ?_⟩
  · have := a7 he.1; omega
  · have := b7 hb.1; omega
  · have := c7 hc.1; omega
  · have := d7 hd.1; omega
  · have := cross (c := 1) b2 b3 a2 a3 b4 a4 (by omega) (by omega); rw [Int.one_mul] at this; exact this
  · have := cross (c := 1) c2 c3 b2 b3 c4 b4 (by omega) (by omega); rw [Int.one_mul] at this; exact this
  · exact cross (c := 2) a2 a3 b2 b3 a4 b4 (by omega) (by omega)
  · exact cross (c := 2) a2 a3 d2 d3 a4 d4 (by omega) hh

end Go.Proofs.Ythnkmmjelpdamaa
