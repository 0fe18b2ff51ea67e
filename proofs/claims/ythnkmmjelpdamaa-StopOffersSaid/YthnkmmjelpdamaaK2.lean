/- The prophet's bound: half of the expected maximum as a threshold. -/
import Derived.Test.YthnkmmjelpdamaaK1
namespace Go.Proofs.Ythnkmmjelpdamaa

/-- The weights below a threshold, and the sums from it on. -/
def pT (T : Int) (r : List (Int × Int)) : Int := addTo (fun i => if T ≤ qf r i then 0 else qv r i) r.length
def bT (T : Int) (r : List (Int × Int)) : Int := addTo (fun i => if T ≤ qf r i then qv r i else 0) r.length
def aT (T : Int) (r : List (Int × Int)) : Int := addTo (fun i => if T ≤ qf r i then qv r i * qf r i else 0) r.length
def zT (T e W : Int) (r : List (Int × Int)) : Int := addTo (fun i => if T ≤ qf r i then qv r i * (2 * W * qf r i - e) else 0) r.length

theorem bp_sum {T : Int} {r : List (Int × Int)} (h : wsTo r r.length = 16) : bT T r + pT T r = 16 := by
  unfold bT pT
  rw [← addTo_add, ← h, ← addTo_ws]
  refine addTo_congr fun i _ => ?_
  split <;> omega
theorem zT_eq (T e W : Int) (r : List (Int × Int)) : zT T e W r = 2 * W * aT T r - e * bT T r := by
  unfold zT aT bT
  have key : ∀ k, addTo (fun i => if T ≤ qf r i then qv r i * (2 * W * qf r i - e) else 0) k = 2 * W * addTo (fun i => if T ≤ qf r i then qv r i * qf r i else 0) k - e * addTo (fun i => if T ≤ qf r i then qv r i else 0) k := by
    intro k
    induction k with
    | zero => simp [addTo]
    | succ k ih =>
      simp only [addTo, ih]
      split <;> grind
  exact key _
theorem offS_thres (T : Int) (r : List (Int × Int)) (l h : Int) : offS (accT T) r l h r.length = aT T r * h + pT T r * l := by
  rw [offS_add]
  unfold aT pT
  have key : ∀ k, addTo (fun i => if accT T (qf r i) l h = true then qv r i * qf r i * h else qv r i * l) k = addTo (fun i => if T ≤ qf r i then qv r i * qf r i else 0) k * h + addTo (fun i => if T ≤ qf r i then 0 else qv r i) k * l := by
    intro k
    induction k with
    | zero => simp [addTo]
    | succ k ih =>
      simp only [addTo, ih]
      by_cases hc : T ≤ qf r k
      · rw [if_pos (show accT T (qf r k) l h = true from decide_eq_true hc), if_pos hc, if_pos hc]; grind
      · rw [if_neg (show ¬ accT T (qf r k) l h = true from fun q => hc (of_decide_eq_true q)), if_neg hc, if_neg hc]; grind
  exact key _

def qR (T : Int) : List (List (Int × Int)) → Int
  | [] => 1
  | r :: R => pT T r * qR T R
def sR (T e W : Int) : List (List (Int × Int)) → Int
  | [] => 0
  | r :: R => zT T e W r * 16 ^ R.length + 16 * sR T e W R
def dR (T e W : Int) : List (List (Int × Int)) → Int
  | [] => 0
  | r :: R => zT T e W r * 16 ^ R.length + pT T r * dR T e W R

theorem dR_eq {L : List (List (Int × Int))} (h : AreOff L) (T e W : Int) : dR T e W L = 2 * W * (gR (accT T) L).1 - e * (16 ^ L.length - qR T L) := by
  induction L with
  | nil => simp [dR, gR, qR]
  | cons r R ih =>
    have hb := bp_sum (T := T) h.head.2
    show zT T e W r * 16 ^ R.length + pT T r * dR T e W R = 2 * W * offS (accT T) r (gR (accT T) R).1 (gR (accT T) R).2 r.length - e * (16 ^ (r :: R).length - pT T r * qR T R)
    rw [ih h.tail, offS_thres, gR_two, zT_eq, List.length_cons, Int.pow_succ]
    have : bT T r = 16 - pT T r := by omega
    rw [this]
    grind

theorem pT_bd {r : List (Int × Int)} (T : Int) (h : (∀ i, i < r.length → goodP r i) ∧ wsTo r r.length = 16) : 0 ≤ pT T r ∧ pT T r ≤ 16 := by
  constructor
  · have : addTo (fun _ => 0) r.length ≤ pT T r := addTo_le fun i hi => by have := (h.1 i hi).2; split <;> omega
    have z : ∀ k, addTo (fun _ => 0) k = 0 := fun k => by induction k with | zero => rfl | succ k ih => simp only [addTo, ih]; rfl
    rw [z] at this; exact this
  · rw [← h.2, ← addTo_ws]
    exact addTo_le fun i hi => by have := (h.1 i hi).2; split <;> omega
theorem zT_pos {r : List (Int × Int)} {T e W : Int} (h : (∀ i, i < r.length → goodP r i) ∧ wsTo r r.length = 16) (hT : ∀ x, T ≤ x → e ≤ 2 * W * x) : 0 ≤ zT T e W r := by
  have : addTo (fun _ => 0) r.length ≤ zT T e W r := addTo_le fun i hi => by
    have := (h.1 i hi).2
    split
    · rename_i hc
      have := hT _ hc
      exact Int.mul_nonneg (by omega) (by omega)
    · omega
  have z : ∀ k, addTo (fun _ => 0) k = 0 := fun k => by induction k with | zero => rfl | succ k ih => simp only [addTo, ih]; rfl
  rw [z] at this; exact this
theorem qR_bd {L : List (List (Int × Int))} (h : AreOff L) (T : Int) : 0 ≤ qR T L ∧ qR T L ≤ 16 ^ L.length := by
  induction L with
  | nil => simp [qR]
  | cons r R ih =>
    obtain ⟨a, b⟩ := ih h.tail
    obtain ⟨c, d⟩ := pT_bd T h.head
    refine ⟨Int.mul_nonneg c a, ?_⟩
    show pT T r * qR T R ≤ _
    rw [List.length_cons, Int.pow_succ, Int.mul_comm (16 ^ R.length)]
    exact Int.mul_le_mul d b a (by omega)
theorem pow16_pos (n : Nat) : (1 : Int) ≤ 16 ^ n := by
  have : (0 : Int) < 16 ^ n := Int.pow_pos (by omega)
  omega
theorem sR_pos {L : List (List (Int × Int))} (h : AreOff L) {T e W : Int} (hT : ∀ x, T ≤ x → e ≤ 2 * W * x) : 0 ≤ sR T e W L := by
  induction L with
  | nil => simp [sR]
  | cons r R ih =>
    have a := ih h.tail
    have b := zT_pos h.head hT
    have c := Int.mul_nonneg b (show (0 : Int) ≤ 16 ^ R.length by have := pow16_pos R.length; omega)
    show 0 ≤ zT T e W r * 16 ^ R.length + 16 * sR T e W R
    omega

/-- What is gained above the threshold. -/
theorem dR_ge {L : List (List (Int × Int))} (h : AreOff L) {T e W : Int} (hT : ∀ x, T ≤ x → e ≤ 2 * W * x) : qR T L * sR T e W L ≤ dR T e W L * 16 ^ L.length := by
  induction L with
  | nil => simp [sR, dR]
  | cons r R ih =>
    have ih' := ih h.tail
    obtain ⟨c, d⟩ := pT_bd T h.head
    obtain ⟨q0, q1⟩ := qR_bd h.tail T
    have z0 := zT_pos h.head hT
    have hp := pow16_pos R.length
    show pT T r * qR T R * (zT T e W r * 16 ^ R.length + 16 * sR T e W R) ≤ (zT T e W r * 16 ^ R.length + pT T r * dR T e W R) * 16 ^ (r :: R).length
    rw [List.length_cons, Int.pow_succ]
    obtain ⟨H, hH⟩ : ∃ H : Int, 16 ^ R.length = H := ⟨_, rfl⟩
    obtain ⟨P, hP⟩ : ∃ P, pT T r = P := ⟨_, rfl⟩
    obtain ⟨q, hq⟩ : ∃ q, qR T R = q := ⟨_, rfl⟩
    obtain ⟨Z, hZ⟩ : ∃ Z, zT T e W r = Z := ⟨_, rfl⟩
    obtain ⟨S, hS⟩ : ∃ S, sR T e W R = S := ⟨_, rfl⟩
    obtain ⟨D, hD⟩ : ∃ D, dR T e W R = D := ⟨_, rfl⟩
    rw [hH] at q1 hp ih' ⊢
    rw [hP] at c d ⊢
    rw [hq] at q0 q1 ih' ⊢
    rw [hZ] at z0 ⊢
    rw [hS] at ih' ⊢
    rw [hD] at ih' ⊢
    have e1 : P * q ≤ 16 * H := Int.mul_le_mul d q1 q0 (by omega)
    have e2 : P * q * (Z * H) ≤ 16 * H * (Z * H) := Int.mul_le_mul_of_nonneg_right e1 (Int.mul_nonneg z0 (by omega))
    have e3 : 16 * P * (q * S) ≤ 16 * P * (D * H) := Int.mul_le_mul_of_nonneg_left ih' (by omega)
    have e4 : P * q * (Z * H + 16 * S) = P * q * (Z * H) + 16 * P * (q * S) := by grind
    have e5 : (Z * H + P * D) * (H * 16) = 16 * H * (Z * H) + 16 * P * (D * H) := by grind
    rw [e4, e5]
    omega

/-- How much the greatest number is above the threshold. -/
theorem cmb_above {L : List (List (Int × Int))} (h : AreOff L) {T e W : Int} (_hW : 0 ≤ W) (hT : ∀ x, T ≤ x → e ≤ 2 * W * x) (hT2 : ∀ x, ¬ T ≤ x → 2 * W * x ≤ e) : ∀ m : Int, 2 * W * cmb L m 1 - e * 16 ^ L.length ≤ (if T ≤ m then 2 * W * m - e else 0) * 16 ^ L.length + sR T e W L := by
  induction L with
  | nil =>
    intro m
    simp only [cmb, sR, List.length_nil, Int.pow_zero, Int.mul_one, Int.add_zero]
    split
    · omega
    · have := hT2 m ‹_›; omega
  | cons r R ih =>
    intro m
    have ih' := ih h.tail
    have hp := pow16_pos R.length
    rw [cmb_cons, List.length_cons, Int.pow_succ]
    show _ ≤ _ + (zT T e W r * 16 ^ R.length + 16 * sR T e W R)
    obtain ⟨H, hH⟩ : ∃ H : Int, 16 ^ R.length = H := ⟨_, rfl⟩
    obtain ⟨S, hS⟩ : ∃ S, sR T e W R = S := ⟨_, rfl⟩
    obtain ⟨zm, hzm⟩ : ∃ z : Int, (if T ≤ m then 2 * W * m - e else 0) = z := ⟨_, rfl⟩
    rw [hH] at hp ⊢
    rw [hS, hzm]
    simp only [hH, hS] at ih'
    have key : ∀ k, k ≤ r.length → 2 * W * addTo (fun i => qv r i * cmb R (max m (qf r i)) 1) k - e * H * wsTo r k ≤ zm * H * wsTo r k + addTo (fun i => if T ≤ qf r i then qv r i * (2 * W * qf r i - e) else 0) k * H + S * wsTo r k := by
      intro k
      induction k with
      | zero => intro _; simp [addTo, wsTo]
      | succ k ihk =>
        intro hk
        have a := ihk (by omega)
        obtain ⟨⟨x0, x1⟩, y0, y1⟩ := h.head.1 k (by omega)
        have b := ih' (max m (qf r k))
        simp only [addTo, wsTo]
        obtain ⟨x, hx⟩ : ∃ x, qf r k = x := ⟨_, rfl⟩
        obtain ⟨y, hy⟩ : ∃ y, qv r k = y := ⟨_, rfl⟩
        obtain ⟨c, hc⟩ : ∃ c, cmb R (max m x) 1 = c := ⟨_, rfl⟩
        rw [hx] at x0 b ⊢
        rw [hy] at y0 ⊢
        rw [hc] at b ⊢
        -- the greater one is above by at most both
        have hz : (if T ≤ max m x then 2 * W * max m x - e else 0) ≤ zm + (if T ≤ x then 2 * W * x - e else 0) := by
          rw [← hzm]
          by_cases hm : m ≤ x
          · rw [show max m x = x by omega]
            by_cases hm2 : T ≤ m
            · rw [if_pos hm2]; have := hT m hm2; split <;> omega
            · rw [if_neg hm2]; split <;> omega
          · rw [show max m x = m by omega]
            by_cases hm2 : T ≤ x
            · rw [if_pos hm2]; have := hT x hm2; split <;> omega
            · rw [if_neg hm2]; split <;> omega
        obtain ⟨zx, hzx⟩ : ∃ z : Int, (if T ≤ x then 2 * W * x - e else 0) = z := ⟨_, rfl⟩
        have hyx : (if T ≤ x then y * (2 * W * x - e) else 0) = y * zx := by rw [← hzx]; split <;> simp
        rw [hzx] at hz
        rw [hyx]
        have b2 : 2 * W * c - e * H ≤ (zm + zx) * H + S := Int.le_trans b (by
          have := Int.mul_le_mul_of_nonneg_right hz (show 0 ≤ H by omega)
          omega)
        have b3 : y * (2 * W * c - e * H) ≤ y * ((zm + zx) * H + S) := Int.mul_le_mul_of_nonneg_left b2 (by omega)
        obtain ⟨A, hA⟩ : ∃ A, addTo (fun i => qv r i * cmb R (max m (qf r i)) 1) k = A := ⟨_, rfl⟩
        obtain ⟨B, hB⟩ : ∃ B, addTo (fun i => if T ≤ qf r i then qv r i * (2 * W * qf r i - e) else 0) k = B := ⟨_, rfl⟩
        obtain ⟨w, hw⟩ : ∃ w, wsTo r k = w := ⟨_, rfl⟩
        rw [hA, hB, hw] at a ⊢
        have f1 : 2 * W * (A + y * c) - e * H * (w + y) = (2 * W * A - e * H * w) + y * (2 * W * c - e * H) := by grind
        have f2 : zm * H * (w + y) + (B + y * zx) * H + S * (w + y) = (zm * H * w + B * H + S * w) + y * ((zm + zx) * H + S) := by grind
        rw [f1, f2]
        omega
    have k1 := key r.length (Nat.le_refl _)
    rw [h.head.2] at k1
    unfold zT
    have g1 : e * (H * 16) = e * H * 16 := by grind
    have g2 : zm * (H * 16) = zm * H * 16 := by grind
    rw [g1, g2]
    omega

/-- Half of the expected maximum as a threshold gains half of it. -/
theorem half_le {L : List (List (Int × Int))} (h : AreOff L) {T : Int} (hT : cmb L 0 1 ≤ 2 * 16 ^ L.length * T) (hT2 : 2 * 16 ^ L.length * (T - 1) ≤ cmb L 0 1) : cmb L 0 1 ≤ 2 * (gR (accT T) L).1 := by
  have hp := pow16_pos L.length
  have he := (cmb_bd L h 0 1 (by omega) (by omega) (by omega)).1
  have hd := dR_eq h T (cmb L 0 1) (16 ^ L.length)
  obtain ⟨q0, q1⟩ := qR_bd h T
  obtain ⟨e, hee⟩ : ∃ e, cmb L 0 1 = e := ⟨_, rfl⟩
  obtain ⟨W, hW⟩ : ∃ W : Int, 16 ^ L.length = W := ⟨_, rfl⟩
  rw [hee] at he hd hT hT2 ⊢
  rw [hW] at hp hd q1 hT hT2
  have a1 : ∀ x, T ≤ x → e ≤ 2 * W * x := fun x hx => by
    have := Int.mul_le_mul_of_nonneg_left (c := 2 * W) hx (by omega)
    omega
  have a2 : ∀ x, ¬ T ≤ x → 2 * W * x ≤ e := fun x hx => by
    have := Int.mul_le_mul_of_nonneg_left (c := 2 * W) (show x ≤ T - 1 by omega) (by omega)
    omega
  have b1 := cmb_above h (by omega) a1 a2 0
  have b2 := dR_ge h a1
  have b3 := sR_pos h a1
  rw [hee, hW] at b1
  rw [hW] at b2
  obtain ⟨S, hS⟩ : ∃ S, sR T e W L = S := ⟨_, rfl⟩
  obtain ⟨D, hD⟩ : ∃ D, dR T e W L = D := ⟨_, rfl⟩
  obtain ⟨q, hq⟩ : ∃ q, qR T L = q := ⟨_, rfl⟩
  obtain ⟨d, hdd⟩ : ∃ d, (gR (accT T) L).1 = d := ⟨_, rfl⟩
  rw [hS] at b1 b2 b3
  rw [hD] at b2 hd
  rw [hq] at b2 hd q0 q1
  rw [hdd] at hd ⊢
  -- e W <= S
  have z0 : (if T ≤ 0 then 2 * W * 0 - e else 0) * W ≤ 0 := by
    split
    · have := Int.mul_nonneg he (show 0 ≤ W by omega)
      have f : (2 * W * 0 - e) * W = -(e * W) := by grind
      rw [f]; omega
    · simp
  have c1 : e * W ≤ S := by
    have f : 2 * W * e - e * W = e * W := by grind
    rw [f] at b1
    omega
  have c2 : q * (e * W) ≤ q * S := Int.mul_le_mul_of_nonneg_left c1 q0
  have c3 : q * e * W ≤ D * W := by
    have f : q * (e * W) = q * e * W := by grind
    omega
  have c4 : q * e ≤ D := Int.le_of_mul_le_mul_right c3 (by omega)
  have c5 : e * W ≤ 2 * d * W := by
    have f : 2 * W * d - e * (W - q) = 2 * d * W - e * W + q * e := by grind
    omega
  exact Int.le_of_mul_le_mul_right c5 (by omega)

end Go.Proofs.Ythnkmmjelpdamaa
