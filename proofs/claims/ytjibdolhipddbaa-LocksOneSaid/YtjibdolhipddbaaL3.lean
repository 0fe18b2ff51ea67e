/- LocksOne, walked. -/
import Derived.Test.YtjibdolhipddbaaL2
import Derived.Test.YtjibdolhipddbaaK3
import Derived.Test.YtjibdolhipddbaaD5
import Derived.Test.YtjibdolhipddbaaE8
namespace Go.Proofs.Ytjibdolhipddbaa
open Go.RowKit Go.Maps

/-- F says that all triples up to here are so. -/
def Dn (i j k p q r : Nat) : Prop := p < i ∨ (p = i ∧ (q < j ∨ (q = j ∧ r < k)))
def St (K l : Nat) (P : Nat → Nat → Nat → Prop) (i j k : Nat) (F : Bool) : Prop := F = true ↔ ∀ p q r, p < K → q < l → r < K → Dn i j k p q r → P p q r
theorem St.start (K l : Nat) (P : Nat → Nat → Nat → Prop) : St K l P 0 0 0 true := ⟨fun _ p q r _ _ _ h => by unfold Dn at h; omega, fun _ => rfl⟩
theorem St.step {K l : Nat} {P : Nat → Nat → Nat → Prop} {i j k : Nat} {F : Bool} (h : St K l P i j k F) (hi : i < K) (hj : j < l) (hk : k < K) {t : Bool} (ht : t = true ↔ P i j k) : St K l P i j (k + 1) (F && t) := by
  unfold St at h ⊢
  rw [Bool.and_eq_true, h, ht]
  constructor
  · rintro ⟨h1, h2⟩ p q r hp hq hr hd
    by_cases e : p = i ∧ q = j ∧ r = k
    · rw [e.1, e.2.1, e.2.2]; exact h2
    · exact h1 p q r hp hq hr (by unfold Dn at hd ⊢; omega)
  · intro h1
    exact ⟨fun p q r hp hq hr hd => h1 p q r hp hq hr (by unfold Dn at hd ⊢; omega), h1 i j k hi hj hk (by unfold Dn; omega)⟩
theorem St.row {K l : Nat} {P : Nat → Nat → Nat → Prop} {i j : Nat} {F : Bool} (h : St K l P i j K F) : St K l P i (j + 1) 0 F := by
  unfold St at h ⊢
  rw [h]
  constructor
  · intro h1 p q r hp hq hr hd; exact h1 p q r hp hq hr (by unfold Dn at hd ⊢; omega)
  · intro h1 p q r hp hq hr hd; exact h1 p q r hp hq hr (by unfold Dn at hd ⊢; omega)
theorem St.plane {K l : Nat} {P : Nat → Nat → Nat → Prop} {i : Nat} {F : Bool} (h : St K l P i l 0 F) : St K l P (i + 1) 0 0 F := by
  unfold St at h ⊢
  rw [h]
  constructor
  · intro h1 p q r hp hq hr hd; exact h1 p q r hp hq hr (by unfold Dn at hd ⊢; omega)
  · intro h1 p q r hp hq hr hd; exact h1 p q r hp hq hr (by unfold Dn at hd ⊢; omega)
theorem St.fin {K l : Nat} {P : Nat → Nat → Nat → Prop} {F : Bool} (h : St K l P K 0 0 F) : F = true ↔ ∀ p q r, p < K → q < l → r < K → P p q r := by
  unfold St at h
  rw [h]
  constructor
  · intro h1 p q r hp hq hr; exact h1 p q r hp hq hr (by unfold Dn; omega)
  · intro h1 p q r hp hq hr _; exact h1 p q r hp hq hr

def FullP (a : List (List Int)) (p q r : Nat) : Prop := nth (row a p) q = 1 ∨ nth (row a r) q = 0
def EqP (a : List (List Int)) (p q r : Nat) : Prop := nth (row a p) q = nth (row a r) q

set_option maxHeartbeats 8000000 in
set_option maxRecDepth 100000 in
theorem ones_any (L : List (List Int)) (d : Int) (ao : Option Addr) (b o cap : Nat) (A : Nat → Option Addr) (B O C : Nat → Nat) (w : World) (H : RowsAt w ao b o L A B O C) (_hc : CapsOk L A C) (hdw : -9223372036854775808 ≤ d ∧ d ≤ 9223372036854775807) :
    Calls Try.prog 9 #[.slice ao L.length cap, .int .i64 d] w fun e w' => e = .returned (.bool true) ∧ Below w.heap.size w w' := by
  have HT := Lib.hid (tame_any L ao b o cap A B O C w H)
  have HMD := Lib.hid (fun W => mod_any d 4 W hdw (by omega) (by omega))
  have hmb := modI_bd (x := d) (n := 4) (by omega)
  obtain ⟨mv, hmv⟩ : ∃ mv, modI d 4 = mv := ⟨_, rfl⟩
  unfold Hid at HMD
  simp only [hmv] at HMD
  have HMD := Lib.hid HMD
  rw [hmv] at hmb
  obtain ⟨D, hD⟩ : ∃ D : Nat, (1 : Int) + mv = (D : Int) := ⟨(1 + mv).toNat, by omega⟩
  have hD4 : 1 ≤ D ∧ D ≤ 4 := by omega
  clear H hmv hdw
  go_enter Try.func9, Try.ntmps9
  go_wp2_with fail
  refine HT.out.mono ?_
  rintro e w1 ⟨v, rfl, hr, hb⟩
  obtain ⟨X, hX⟩ : ∃ X, tm L 6 = X := ⟨_, rfl⟩
  have hp : IsPlan X := by rw [← hX]; exact tm_plan L
  rw [hX] at hr
  obtain ⟨xo, xb, xc, XA, XB, XO, XC, rfl, hat, -⟩ := hr.at2 (by have := hp.le; omega)
  obtain ⟨rfl, -⟩ := hat.ptr hp.pos
  have HX := Lib.hid hat
  have HP := Lib.hid hp
  have HB1 := Lib.hid hb
  clear hX HT hr hat hb
  have HL1 := Lib.hid (show Calls Try.prog 13 #[.slice (some ⟨xb, 0, none⟩) X.length xc, .int .i64 1] w1 fun e w' => (∃ n : Nat, e = .returned (.tuple #[.int .i64 n, .int .i64 0]) ∧ LeastIs X 1 n) ∧ Below w1.heap.size w1 w' from least_pos X 1 _ xb 0 xc XA XB XO XC w1 HX.out hp (by omega))
  have HL2 := Lib.hid (fun W (hW : Below w1.heap.size w1 W) => least_pos X D _ xb 0 xc XA XB XO XC W (HX.out.below hW (Nat.le_refl _)) hp hD4)
  obtain ⟨K, hK⟩ : ∃ K, X.length = K := ⟨_, rfl⟩
  obtain ⟨l, hl⟩ : ∃ l, (row X 0).length = l := ⟨_, rfl⟩
  have HKK := Lib.hid hK
  have HLL := Lib.hid hl
  have HLE := Lib.hid (show ∀ i, i < K → (row X i).length = l from fun i hi => by rw [hp.len i (by omega), hl])
  have HBIT := Lib.hid (show ∀ i j, i < K → j < l → nth (row X i) j = 0 ∨ nth (row X i) j = 1 from fun i j hi hj => hp.bit i (by omega) j (by rw [hp.len i (by omega), hl]; exact hj))
  have hK6 : K ≤ 6 := by rw [← hK]; exact hp.le
  have hl6 : l ≤ 6 := by rw [← hl]; exact hp.le0
  rw [hK] at HL1 HL2
  clear hp hK hl
  have HR := Lib.hid (show ∀ W, Below w1.heap.size w1 W → ∀ i, i < K → W.cell? ⟨xb, i, none⟩ = some (.slice (XA i) l (XC i)) ∧ (0 < l → XA i = some ⟨XB i, XO i, none⟩) ∧ ∀ j, j < l → W.cell? ⟨XB i, XO i + j, none⟩ = some (.int .i64 (nth (row X i) j)) from fun W hW i hi => by
    have h := HX.out.below hW (Nat.le_refl _)
    have hi' : i < X.length := by rw [HKK.out]; exact hi
    have h1 := h.cell i hi'
    have h2 := h.rows i hi'
    rw [HLE.out i hi, Nat.zero_add] at h1
    refine ⟨h1, fun hl => (h2.ptr (by rw [HLE.out i hi]; exact hl)).1, fun j hj => h2.cell j (by rw [HLE.out i hi]; exact hj)⟩)
  rw [HKK.out]
  go_wp2_with fail
  refine HL1.out.mono ?_
  rintro e w2 ⟨⟨n, rfl, hn⟩, hb2⟩
  obtain ⟨hn1, hnf⟩ := least_one HP.out hn
  have HNF := Lib.hid hnf
  have HB2 := Lib.hid hb2
  clear hb2 hn hnf HL1
  go_wp2_with fail
  go_loopw [8, 9, 10, 11, 12] (fun x y z _ _ wr => ∃ (F E : Bool) (i : Nat), i ≤ K ∧ x = .bool F ∧ y = .bool E ∧ z = .int .i64 i ∧ St K l (FullP X) i 0 0 F ∧ St K l (EqP X) i 0 0 E ∧ Below w1.heap.size w1 wr) (fun _ _ z _ _ _ => K - (intOf z).toNat)
  case atStart => exact ⟨true, true, 0, by omega, rfl, rfl, rfl, St.start _ _ _, St.start _ _ _, HB2.out⟩
  case round =>
    obtain ⟨F, E, i, hi, rfl, rfl, rfl, hF, hE, hb⟩ := hrel
    have HF := Lib.hid hF
    have HE := Lib.hid hE
    have HB := Lib.hid hb
    clear hF hE hb HB2
    by_cases hlt : i < K
    · go_wp2
      go_loopw [8, 9, 11, 12] (fun x y z _ wr => ∃ (F E : Bool) (j : Nat), j ≤ l ∧ x = .bool F ∧ y = .bool E ∧ z = .int .i64 j ∧ St K l (FullP X) i j 0 F ∧ St K l (EqP X) i j 0 E ∧ Below w1.heap.size w1 wr) (fun _ _ z _ _ => l - (intOf z).toNat)
      case atStart => exact ⟨F, E, 0, by omega, rfl, rfl, rfl, HF.out, HE.out, HB.out⟩
      case round =>
        clear HF HE HB
        obtain ⟨F, E, j, hj, rfl, rfl, rfl, hF, hE, hb⟩ := hrel
        have HF := Lib.hid hF
        have HE := Lib.hid hE
        have HB := Lib.hid hb
        clear hF hE hb
        obtain ⟨ci, -, -⟩ := HR.out wr HB.out i hlt
        by_cases hlj : j < l
        · have hjl : (j : Int) < (l : Int) := by omega
          go_wp2
          go_loopw [8, 9, 12] (fun x y z wr => ∃ (F E : Bool) (k : Nat), k ≤ K ∧ x = .bool F ∧ y = .bool E ∧ z = .int .i64 k ∧ St K l (FullP X) i j k F ∧ St K l (EqP X) i j k E ∧ Below w1.heap.size w1 wr) (fun _ _ z _ => K - (intOf z).toNat)
          case atStart => exact ⟨F, E, 0, by omega, rfl, rfl, rfl, HF.out, HE.out, HB.out⟩
          case round =>
            clear HF HE HB ci
            obtain ⟨F, E, k, hk, rfl, rfl, rfl, hF, hE, hb⟩ := hrel
            have HF := Lib.hid hF
            have HE := Lib.hid hE
            have HB := Lib.hid hb
            clear hF hE hb
            by_cases hlk : k < K
            · obtain ⟨ci, hA, xi0⟩ := HR.out wr HB.out i hlt
              obtain ⟨ck, hA', xk0⟩ := HR.out wr HB.out k hlk
              have xi := xi0 j hlj
              have xk := xk0 j hlj
              clear xi0 xk0
              rw [hA (by omega)] at ci
              rw [hA' (by omega)] at ck
              have hbi := HBIT.out i j hlt hlj
              have hbk := HBIT.out k j hlk hlj
              have HF1 := Lib.hid (HF.out.step hlt hlj hlk (t := decide (nth (row X i) j = 1) || decide (nth (row X k) j = 0)) (by unfold FullP; simp))
              have HE1 := Lib.hid (HE.out.step hlt hlj hlk (t := decide (nth (row X i) j = nth (row X k) j)) (by unfold EqP; simp))
              obtain ⟨x, hx⟩ : ∃ x, nth (row X i) j = x := ⟨_, rfl⟩
              obtain ⟨y, hy⟩ : ∃ y, nth (row X k) j = y := ⟨_, rfl⟩
              rw [hx, hy] at HF1 HE1
              rw [hx] at xi hbi
              rw [hy] at xk hbk
              have hki : (k : Int) < (K : Int) := by omega
              have hii : (i : Int) < (K : Int) := by omega
              clear hx hy hA hA' HF HE
              obtain rfl | rfl := hbi <;> obtain rfl | rfl := hbk <;> cases F <;> cases E <;> (
                go_wp2_with fail
                go_quiet (fail)
                obtain ⟨wd, hwd⟩ : ∃ wd, wr.drewN nq = wd := ⟨_, rfl⟩
                have HBD := Lib.hid (show Below w1.heap.size w1 wd by rw [← hwd]; exact below_drewN HB.out _)
                rw [hwd]
                clear ci ck xi xk hwd
                go_wp2
                go_roundw
                case rel => exact ⟨_, _, k + 1, by omega, rfl, rfl, by go_num, HF1.out, HE1.out, HBD.out⟩
                case measure => simp [intOf]; omega)
            · have hkK : k = K := by omega
              subst hkK
              have HF1 := Lib.hid HF.out.row
              have HE1 := Lib.hid HE.out.row
              go_wp2
              go_roundw
              case rel => exact ⟨F, E, j + 1, by omega, rfl, rfl, by go_num, HF1.out, HE1.out, HB.out⟩
              case measure => simp [intOf]; omega
        · have hjl : j = l := by omega
          subst hjl
          have HF1 := Lib.hid HF.out.plane
          have HE1 := Lib.hid HE.out.plane
          go_wp2
          go_roundw
          case rel => exact ⟨F, E, i + 1, by omega, rfl, rfl, by go_num, HF1.out, HE1.out, HB.out⟩
          case measure => simp [intOf]; omega
    · have hiK : i = K := by omega
      subst hiK
      have hf := HF.out.fin
      have he := HE.out.fin
      have hnF : (n = 1) ↔ F = true := by
        rw [hf]
        refine HNF.out.trans ?_
        rw [HKK.out, HLL.out]
        rfl
      have HEQ := Lib.hid (show E = true → ∀ n, LeastIs X D n → n = 1 from fun hE n hn => least_equal HP.out hD4.1 hn (by rw [HKK.out, HLL.out]; exact he.1 hE))
      have HL2 := Lib.hid (HL2.out wr HB.out)
      have hnn : (F = false ∧ (n : Int) = 0) ∨ (F = true ∧ (n : Int) = 1) := by
        cases F
        · have : n ≠ 1 := fun q => by have := hnF.1 q; cases this
          exact .inl ⟨rfl, by omega⟩
        · have : n = 1 := hnF.2 rfl
          exact .inr ⟨rfl, by omega⟩
      clear hf he hnF HF HE HNF
      rcases hnn with ⟨rfl, hq⟩ | ⟨rfl, hq⟩ <;> rw [hq] <;> clear hq <;> (
        go_wp2_with fail
        refine (HMD.out _).mono ?_
        rintro e w3 ⟨rfl, rfl⟩
        go_wp2_with fail
        refine HL2.out.mono ?_
        rintro e w4 ⟨⟨m, rfl, hm⟩, hb4⟩
        have HB4 := Lib.hid (HB.out.trans (hb4.mono HB.out.size))
        cases E
        · clear hb4 HEQ hm
          go_wp2_with fail
          refine (awake_any _).mono ?_
          rintro e w7 ⟨rfl, hb7⟩
          have HB7 := Lib.hid (HB1.out.trans ((HB4.out.trans (hb7.mono HB4.out.size)).mono HB1.out.size))
          clear hb7
          go_wp2
          go_ret
          exact ⟨rfl, HB7.out⟩
        · obtain rfl := HEQ.out rfl _ hm
          clear hb4 HEQ hm
          go_wp2_with fail
          refine (awake_any _).mono ?_
          rintro e w7 ⟨rfl, hb7⟩
          have HB7 := Lib.hid (HB1.out.trans ((HB4.out.trans (hb7.mono HB4.out.size)).mono HB1.out.size))
          clear hb7
          go_wp2
          go_ret
          exact ⟨rfl, HB7.out⟩)

end Go.Proofs.Ytjibdolhipddbaa
