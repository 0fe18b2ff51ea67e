/- LocksMerges, walked. -/
import Derived.Test.YtjibdolhipddbaaE7
import Derived.Test.YtjibdolhipddbaaD5
namespace Go.Proofs.Ytjibdolhipddbaa
open Go.RowKit Go.Maps

theorem NewRows.at2 {B : Nat} {w : World} {v : Value} {xss : List (List Int)} (h : NewRows B w v xss) (hl : xss.length ≤ 140737488351232) :
    ∃ ao b cap A B' O C, v = .slice ao xss.length cap ∧ RowsAt w ao b 0 xss A B' O C ∧ ∀ i, i < xss.length → (row xss i).length ≤ C i := by
  obtain ⟨vs, h1, h2, _⟩ := h.ex
  obtain ⟨ao, b, cap, A, B', O, C, rfl, hr⟩ := h.at hl
  refine ⟨ao, b, cap, A, B', O, C, rfl, hr, fun i hi => ?_⟩
  obtain ⟨u, e, hu⟩ := h2 i hi
  have hc := hr.cell i hi
  rcases h1.2 with ⟨_, h0⟩ | ⟨g, cap', cur, hs, hg, hh, hcap, hm, hcs, htk⟩
  · omega
  · obtain ⟨rfl, -⟩ := hr.ptr (by omega)
    obtain ⟨rfl, -⟩ : b = g ∧ cap = cap' := by simpa using hs
    have e' : cur[i]? = vs[i]? := by
      rw [← htk, List.getElem?_take, if_pos (by omega)]; simp
    have e2 : w.cell? ⟨b, 0 + i, none⟩ = some u := by simp [World.cell?, hh, e', e]
    rw [hc] at e2
    have e3 := Option.some.inj e2
    rcases hu.own.2 with ⟨q, h0⟩ | ⟨g', cp, cur', q, -, -, hcp, -⟩
    · omega
    · rw [q] at e3
      have : C i = cp := by injection e3
      omega

set_option maxHeartbeats 4000000 in
set_option maxRecDepth 100000 in
theorem merges_any (L : List (List Int)) (ao : Option Addr) (b o cap : Nat) (A : Nat → Option Addr) (B O C : Nat → Nat) (w : World) (H : RowsAt w ao b o L A B O C) (hc : CapsOk L A C) :
    Calls Try.prog 5 #[.slice ao L.length cap] w fun e w' => e = .returned (.bool true) ∧ Below w.heap.size w w' := by
  have HT := Lib.hid (table_any L ao b o cap A B O C w H hc)
  clear H hc
  go_enter Try.func5, Try.ntmps5
  go_wp2_with fail
  refine HT.out.mono ?_
  rintro e w1 ⟨⟨v, rfl, hr⟩, hb⟩
  obtain ⟨X, hX⟩ : ∃ X, trim8 L = X := ⟨_, rfl⟩
  have hX8 : X.length ≤ 8 := by rw [← hX, trim8, List.length_map, List.length_take]; omega
  rw [hX] at hr
  obtain ⟨xo, xb, xc, XA, XB, XO, XC, rfl, hat, hcap⟩ := hr.at2 (by omega)
  have HX := Lib.hid hat
  have HCAP := Lib.hid hcap
  have HB1 := Lib.hid hb
  clear hX HT hr hat hcap hb
  by_cases hp : IsPlan X
  · have HM := Lib.hid (merge_ok X xo xb 0 xc XA XB XO XC w1 HX.out HCAP.out hp)
    have HP := Lib.hid hp
    have HK := Lib.hid (mgK_len X X.length)
    have HN := Lib.hid (mgN_len X X.length)
    have hpt : isPlan X = true := decide_eq_true hp
    have HPT := Lib.hid hpt
    clear hp hpt
    go_wp2_with fail
    refine HM.out.mono ?_
    rintro e w2 ⟨m, l, rfl, hm, hl, hb2⟩
    obtain ⟨mo, mb, mc, MA, MB, MO, MC, rfl, hmat⟩ := hm.at (by have := HK.out; omega)
    obtain ⟨lo, lb, lc, rfl, hlat, -⟩ := hl.at
    have HB2 := Lib.hid hb2
    have HMA := Lib.hid hmat
    have HLA := Lib.hid hlat
    have HA2 := Lib.hid (access_any X xo xb 0 xc XA XB XO XC w2 (HX.out.below hb2 (Nat.le_refl _)))
    rw [HPT.out] at HA2
    clear hm hl hb2 hmat hlat HM
    go_wp2_with fail
    refine HA2.out.mono ?_
    rintro e w3 ⟨rfl, hb3⟩
    have HB3 := Lib.hid hb3
    clear hb3 HA2
    go_wp2_with fail
    have HBX := Lib.hid (Below.trans HB2.out (HB3.out.mono HB2.out.size))
    have HR := Lib.hid (refMerge_any X xo xb 0 xc XA XB XO XC w3 (HX.out.below HBX.out (Nat.le_refl _)) HCAP.out HP.out)
    refine HR.out.mono ?_
    rintro e w4 ⟨m2, l2, rfl, hm2, hl2, hb4⟩
    obtain ⟨no, nb, nc, NA, NB, NO, NC, rfl, hnat⟩ := hm2.at (by have := HK.out; omega)
    obtain ⟨ko, kb, kc, rfl, hkat, -⟩ := hl2.at
    have HB4 := Lib.hid hb4
    have HS := Lib.hid (same_any (mgK X X.length) (mgK X X.length) mo no mb 0 mc nb 0 nc MA MB MO MC NA NB NO NC w4 ((HMA.out.below HB3.out (Nat.le_refl _)).below hb4 (Nat.le_refl _)) hnat)
    have HS2 := Lib.hid (fun n => ints_any (mgN X X.length) (mgN X X.length) lo ko lb 0 lc kb 0 kc (w4.drewN n) (((HLA.out.below HB3.out (Nat.le_refl _)).below hb4 (Nat.le_refl _)).below (below_drewN (Below.refl _ _) n) (Nat.le_refl _)) (hkat.below (below_drewN (Below.refl _ _) n) (Nat.le_refl _)))
    clear hm2 hl2 hb4 hnat hkat HR HMA HLA
    go_wp2_with fail
    refine HS.out.mono ?_
    rintro e w5 ⟨rfl, n5, rfl⟩
    rw [decide_true]
    go_wp2_with fail
    refine (HS2.out n5).mono ?_
    rintro e w6 ⟨rfl, n6, rfl⟩
    rw [decide_true]
    go_wp2_with fail
    refine (awake_any _).mono ?_
    rintro e w7 ⟨rfl, hb7⟩
    have HB7 := Lib.hid (Below.mono ((below_drewN HB4.out (n5 + n6)).trans (hb7.mono (below_drewN HB4.out (n5 + n6)).size)) HBX.out.size)
    clear hb7
    go_wp2
    go_ret
    exact ⟨rfl, HB1.out.trans ((HBX.out.trans HB7.out).mono HB1.out.size)⟩
  · have hpf := not_plan hp
    have HM := Lib.hid (merge_bad X xo xb 0 xc XA XB XO XC w1 HX.out hpf)
    have HPF := Lib.hid hpf
    clear hp hpf
    go_wp2_with fail
    refine HM.out.mono ?_
    rintro e w2 ⟨rfl, hb2⟩
    have HB2 := Lib.hid hb2
    have HA2 := Lib.hid (access_any X xo xb 0 xc XA XB XO XC w2 (HX.out.below hb2 (Nat.le_refl _)))
    rw [HPF.out] at HA2
    clear hb2 HM
    go_wp2_with fail
    refine HA2.out.mono ?_
    rintro e w3 ⟨rfl, hb3⟩
    have HB3 := Lib.hid hb3
    clear hb3 HA2
    go_wp2_with fail
    refine (awake_any w3).mono ?_
    rintro e w4 ⟨rfl, hb4⟩
    have HB4 := Lib.hid hb4
    clear hb4
    go_wp2
    go_ret
    exact ⟨rfl, HB1.out.trans (((HB2.out.trans (HB3.out.mono HB2.out.size)).trans (HB4.out.mono (Nat.le_trans HB2.out.size HB3.out.size))).mono HB1.out.size)⟩

end Go.Proofs.Ytjibdolhipddbaa
