/- The expectation of the greatest number: the closure that calls itself. -/
import Derived.StillTail
import Derived.StillTailTactics
import Derived.Test.YthnkmmjelpdamaaD1
import Derived.Test.YthnkmmjelpdamaaA5
namespace Go.Proofs.Ythnkmmjelpdamaa
open Go.RowKit

/-- The sum of the first k values. -/
def addTo (f : Nat → Int) : Nat → Int
  | 0 => 0
  | k + 1 => addTo f k + f k
/-- The sum over all ways to take a pair of each offer: the greatest number times the product of the weights. -/
def cmb : List (List (Int × Int)) → Int → Int → Int
  | [], m, g => m * g
  | r :: R, m, g => addTo (fun i => cmb R (max m (qf r i)) (g * qv r i)) r.length

theorem cmb_bd (R : List (List (Int × Int))) (hR : ∀ i, i < R.length → okOff (rowP R i) = true) : ∀ m g : Int, 0 ≤ m → m ≤ 1000 → 0 ≤ g → 0 ≤ cmb R m g ∧ cmb R m g ≤ 1000 * (g * 16 ^ R.length) := by
  induction R with
  | nil =>
    intro m g h0 h1 hg
    refine ⟨Int.mul_nonneg h0 hg, ?_⟩
    show m * g ≤ 1000 * (g * 1)
    rw [Int.mul_one]
    exact Int.mul_le_mul_of_nonneg_right h1 hg
  | cons r R ih =>
    intro m g h0 h1 hg
    have hr := of_decide_eq_true (hR 0 (by simp))
    have hr' : r.length ≤ 8 ∧ (∀ i, i < r.length → goodP r i) ∧ wsTo r r.length = 16 := hr
    have ih' := ih (fun i hi => hR (i + 1) (by simp; omega))
    have key : ∀ k, k ≤ r.length → 0 ≤ addTo (fun i => cmb R (max m (qf r i)) (g * qv r i)) k ∧ addTo (fun i => cmb R (max m (qf r i)) (g * qv r i)) k ≤ 1000 * (g * wsTo r k * 16 ^ R.length) := by
      intro k
      induction k with
      | zero => intro _; simp [addTo, wsTo]
      | succ k ihk =>
        intro hk
        obtain ⟨a, b⟩ := ihk (by omega)
        have hgp := hr'.2.1 k (by omega)
        obtain ⟨c, d⟩ := ih' (max m (qf r k)) (g * qv r k) (by have := hgp.1; omega) (by have := hgp.1; omega) (Int.mul_nonneg hg (by have := hgp.2; omega))
        simp only [addTo, wsTo]
        refine ⟨by omega, ?_⟩
        have e : 1000 * (g * (wsTo r k + qv r k) * 16 ^ R.length) = 1000 * (g * wsTo r k * 16 ^ R.length) + 1000 * (g * qv r k * 16 ^ R.length) := by
          rw [Int.mul_add, Int.add_mul, Int.mul_add]
        omega
    have := key r.length (Nat.le_refl _)
    rw [hr'.2.2] at this
    refine ⟨this.1, Int.le_trans this.2 ?_⟩
    rw [List.length_cons, Int.pow_succ, Int.mul_assoc g, Int.mul_comm 16]
    exact Int.le_refl _

theorem cmb_step {r : List (Int × Int)} {R : List (List (Int × Int))} (hR : ∀ i, i < (r :: R).length → okOff (rowP (r :: R) i) = true) {m g : Int} (h0 : 0 ≤ m) (h1 : m ≤ 1000) (hg : 0 ≤ g) {k : Nat} (hk : k ≤ r.length) :
    0 ≤ addTo (fun i => cmb R (max m (qf r i)) (g * qv r i)) k ∧ addTo (fun i => cmb R (max m (qf r i)) (g * qv r i)) k ≤ 1000 * (g * wsTo r k * 16 ^ R.length) := by
  have hr : r.length ≤ 8 ∧ (∀ i, i < r.length → goodP r i) ∧ wsTo r r.length = 16 := of_decide_eq_true (hR 0 (by simp))
  have ih' := cmb_bd R (fun i hi => hR (i + 1) (by simp; omega))
  revert hk
  induction k with
  | zero => intro _; simp [addTo, wsTo]
  | succ k ihk =>
    intro hk
    obtain ⟨a, b⟩ := ihk (by omega)
    have hgp := hr.2.1 k (by omega)
    obtain ⟨c, d⟩ := ih' (max m (qf r k)) (g * qv r k) (by have := hgp.1; omega) (by have := hgp.1; omega) (Int.mul_nonneg hg (by have := hgp.2; omega))
    simp only [addTo, wsTo]
    refine ⟨by omega, ?_⟩
    have e : 1000 * (g * (wsTo r k + qv r k) * 16 ^ R.length) = 1000 * (g * wsTo r k * 16 ^ R.length) + 1000 * (g * qv r k * 16 ^ R.length) := by
      rw [Int.mul_add, Int.add_mul, Int.mul_add]
    omega

/-- Where the sum and the closure lie. -/
structure GS (T : Nat) (w : World) (t : Int) : Prop where
  ht : w.heap[T]? = some (.cells #[.int .i64 t] 3 (0, 0))
  hf : w.heap[T + 1]? = some (.cells #[.func (.func 79) #[] #[.pointer (some ⟨T, 0, none⟩), .pointer (some ⟨T + 1, 0, none⟩)]] 107 (0, 0))

theorem GS.size {T : Nat} {w : World} {t : Int} (h : GS T w t) : T + 2 ≤ w.heap.size := (Array.getElem?_eq_some_iff.1 h.hf).1
theorem GS.below {T M : Nat} {w w' : World} {t : Int} (h : GS T w t) (hb : Below M w w') (hM : T + 2 ≤ M) : GS T w' t :=
  ⟨(hb.block T (by omega)).trans h.ht, (hb.block (T + 1) (by omega)).trans h.hf⟩
theorem GS.cells {T : Nat} {w : World} {t : Int} (h : GS T w t) : w.cell? ⟨T, 0, none⟩ = some (.int .i64 t) ∧ w.frozen? ⟨T, 0, none⟩ = false ∧ w.cell? ⟨T + 1, 0, none⟩ = some (.func (.func 79) #[] #[.pointer (some ⟨T, 0, none⟩), .pointer (some ⟨T + 1, 0, none⟩)]) :=
  ⟨by rw [cell_of_row _ _ _ _ _ _ h.ht]; rfl, frozen_of_row _ _ _ _ _ h.ht, by rw [cell_of_row _ _ _ _ _ _ h.hf]; rfl⟩
theorem GS.set {T : Nat} {w : World} {t : Int} (h : GS T w t) (t' : Int) : GS T (w.setCell ⟨T, 0, none⟩ (.int .i64 t')) t' := by
  refine ⟨by rw [heap_setCell_same _ _ _ _ _ _ h.ht]; rfl, ?_⟩
  rw [heap_setCell_other _ _ _ _ (show T + 1 ≠ T by omega)]; exact h.hf

theorem OffsAt.tail' {w : World} {a' : Option Addr} {b o : Nat} {R : List (List (Int × Int))} {A : Nat → Option Addr} {B O C : Nat → Nat} (h : OffsAt w (some ⟨b, o + 1, none⟩) b (o + 1) R A B O C) (ha : 0 < R.length → a' = some ⟨b, o + 1, none⟩) : OffsAt w a' b (o + 1) R A B O C :=
  ⟨fun q => ⟨ha q, (h.ptr q).2⟩, h.cell, h.rows, h.len⟩
theorem OffsAt.tail {w : World} {ao : Option Addr} {b o : Nat} {r : List (Int × Int)} {R : List (List (Int × Int))} {A : Nat → Option Addr} {B O C : Nat → Nat} (h : OffsAt w ao b o (r :: R) A B O C) :
    OffsAt w (some ⟨b, o + 1, none⟩) b (o + 1) R (fun i => A (i + 1)) (fun i => B (i + 1)) (fun i => O (i + 1)) (fun i => C (i + 1)) := by
  have hp := h.ptr (by simp)
  refine ⟨fun _ => ⟨rfl, hp.2⟩, fun i hi => ?_, fun i hi => h.rows (i + 1) (by simp; omega), ?_⟩
  · have := h.cell (i + 1) (by simp; omega)
    rw [show o + 1 + i = o + (i + 1) by omega]
    exact this
  · have := h.len
    simp at this ⊢
    omega

set_option maxHeartbeats 1000000 in
set_option maxRecDepth 100000 in
theorem combine_any (R : List (List (Int × Int))) : ∀ (ao : Option Addr) (b o cap : Nat) (A : Nat → Option Addr) (B O C : Nat → Nat) (w0 w : World) (T : Nat) (m g t : Int), OffsAt w0 ao b o R A B O C → w0.heap.size ≤ T → Below T w0 w → GS T w t → R.length ≤ cap →
    (∀ i, i < R.length → okOff (rowP R i) = true) → 0 ≤ m → m ≤ 1000 → 0 ≤ g → g * 16 ^ R.length ≤ 1000000000 → 0 ≤ t → t + 1000 * (g * 16 ^ R.length) ≤ 1000000000000 →
    Calls Try.prog 79 #[.slice ao R.length cap, .int .i64 m, .int .i64 g, .pointer (some ⟨T, 0, none⟩), .pointer (some ⟨T + 1, 0, none⟩)] w fun e w' => e = .returned (.tuple #[]) ∧ GS T w' (t + cmb R m g) ∧ Below T w w' := by
  induction R with
  | nil =>
    intro ao b o cap A B O C w0 w T m g t h hw0 hb hs hcap hok h0 h1 hg hg2 ht hbd
    have hmg := Int.mul_nonneg h0 hg
    have hmg2 := Int.mul_le_mul_of_nonneg_right h1 hg
    have HC := Lib.hid (show cmb [] m g = m * g from rfl)
    simp only [List.length_nil, Int.pow_zero, Int.mul_one] at hbd
    obtain ⟨p, hp⟩ : ∃ p, m * g = p := ⟨_, rfl⟩
    rw [hp] at hmg hmg2 HC
    have hw1 : wrap64 (m * g) = p := by rw [hp]; exact IntWalk.wrap64_in _ ⟨by omega, by omega⟩
    obtain ⟨c0, f0, c1⟩ := hs.cells
    have HS := Lib.hid hs
    clear h hs hb hp hok
    simp only [List.length_nil]
    go_enter Try.func79, Try.ntmps79
    go_wp2
    refine bodyPost_ret (results_none rfl _ _ _) rfl ?_
    exact ⟨rfl, by rw [HC.out]; exact HS.out.set _, (Below.refl _ _).setCell (p := ⟨T, 0, none⟩) (Nat.le_refl _) _⟩
  | cons r R ih =>
    intro ao b o cap A B O C w0 w T m g t h hw0 hb hs hcap hok h0 h1 hg hg2 ht hbd
    have HOK := Lib.hid hok
    have HT := Lib.hid h.tail
    have H := Lib.hid h
    have HB := Lib.hid hb
    have HS := Lib.hid hs
    have HIH := Lib.hid ih
    have hr : r.length ≤ 8 ∧ (∀ i, i < r.length → goodP r i) ∧ wsTo r r.length = 16 := of_decide_eq_true (hok 0 (by simp))
    have HR := Lib.hid hr
    have hww := h.below hb hw0
    obtain ⟨rfl, -⟩ := hww.ptr (by simp)
    have c0 : w.cell? ⟨b, o, none⟩ = some (.slice (A 0) r.length (C 0)) := hww.cell 0 (by simp)
    have HBD := Lib.hid hbd
    have HG2 := Lib.hid hg2
    clear hg2
    have e1 : ((R.length : Int) + 1 == 0) = false := by rw [beq_eq_false_iff_ne]; omega
    have HC := Lib.hid (show cmb (r :: R) m g = addTo (fun i => cmb R (max m (qf r i)) (g * qv r i)) r.length from rfl)
    rw [List.length_cons] at hcap
    rw [show (r :: R).length = R.length + 1 from rfl]
    have hr8 := hr.1
    clear h hb hs hok hr hww hbd ih
    go_enter Try.func79, Try.ntmps79
    go_wp2
    try rw [e1]
    clear c0
    go_loopw [9, 22] (fun _ y wr => ∃ k : Nat, k ≤ r.length ∧ y = .int .i64 k ∧ GS T wr (t + addTo (fun i => cmb R (max m (qf r i)) (g * qv r i)) k) ∧ Below T w wr) (fun _ y _ => r.length - (intOf y).toNat)
    case atStart => exact ⟨0, by omega, rfl, by simp only [addTo, Int.add_zero]; exact HS.out, Below.refl _ _⟩
    case round =>
      obtain ⟨k, hk, rfl, hs, hb⟩ := hrel
      obtain ⟨wq, rfl⟩ : ∃ x, x = wr := ⟨_, rfl⟩
      have HSK := Lib.hid hs
      have HBK := Lib.hid (HB.out.trans hb)
      have HBW := Lib.hid hb
      have hsz := hs.size
      clear hs hb
      by_cases hlt : k < r.length
      · have hq := (H.out.below HBK.out hw0).rows 0 (by simp)
        obtain ⟨hA, -⟩ := hq.ptr (show 0 < r.length by omega)
        have q0 : wq.cell? ⟨B 0, O 0 + k * 2, none⟩ = some (.int .i64 (qf r k)) := hq.cell0 k hlt
        have q1 : wq.cell? ⟨B 0, O 0 + k * 2 + 1, none⟩ = some (.int .i64 (qv r k)) := hq.cell1 k hlt
        have hgp := HR.out.2.1 k hlt
        rw [hA]
        have hst := cmb_step HOK.out h0 h1 hg (show k ≤ r.length by omega)
        have HADD := Lib.hid (show addTo (fun i => cmb R (max m (qf r i)) (g * qv r i)) (k + 1) = addTo (fun i => cmb R (max m (qf r i)) (g * qv r i)) k + cmb R (max m (qf r k)) (g * qv r k) from rfl)
        obtain ⟨s, hs⟩ : ∃ s, addTo (fun i => cmb R (max m (qf r i)) (g * qv r i)) k = s := ⟨_, rfl⟩
        have HSS := Lib.hid hs
        rw [hs] at hst HADD HSK
        obtain ⟨x, hx⟩ : ∃ x, qf r k = x := ⟨_, rfl⟩
        obtain ⟨y, hy⟩ : ∃ y, qv r k = y := ⟨_, rfl⟩
        have hgp' : (0 ≤ x ∧ x ≤ 1000) ∧ 1 ≤ y ∧ y ≤ 16 := by rw [← hx, ← hy]; exact hgp
        have hgy1 := Int.mul_le_mul_of_nonneg_left (c := g) (a := y) (b := 16) (by omega) hg
        have hgy0 := Int.mul_nonneg (a := g) (b := y) hg (by omega)
        have hpow : t + s + 1000 * (g * y * 16 ^ R.length) ≤ 1000000000000 := by
          have e := HBD.out
          rw [show (r :: R).length = R.length + 1 from rfl, Int.pow_succ] at e
          have hws : wsTo r k + y ≤ 16 := by
            have h2 := HR.out.2.2
            have mono : ∀ j, k + 1 + j ≤ r.length → wsTo r (k + 1) ≤ wsTo r (k + 1 + j) := by
              intro j
              induction j with
              | zero => intro _; exact Int.le_refl _
              | succ j ihj =>
                intro hj
                have := ihj (by omega)
                have h3 := (HR.out.2.1 (k + 1 + j) (by omega)).2
                show wsTo r (k + 1) ≤ wsTo r (k + 1 + j) + qv r (k + 1 + j)
                omega
            have h4 := mono (r.length - (k + 1)) (by omega)
            rw [show k + 1 + (r.length - (k + 1)) = r.length by omega, h2] at h4
            have h5 : wsTo r (k + 1) = wsTo r k + y := by rw [← hy]; rfl
            omega
          have hp16 : (0 : Int) ≤ 16 ^ R.length := Int.pow_nonneg (by omega)
          have h6 := Int.mul_le_mul_of_nonneg_left (c := g) hws hg
          have h7 := Int.mul_le_mul_of_nonneg_right (c := (16 : Int) ^ R.length) h6 hp16
          rw [Int.mul_add, Int.add_mul] at h7
          have h8 : g * 16 * 16 ^ R.length = g * (16 ^ R.length * 16) := by rw [Int.mul_assoc, Int.mul_comm 16]
          have h9 := hst.2
          omega
        have hgq : g * y * 16 ^ R.length ≤ 1000000000 := by
          have hp16 : (0 : Int) ≤ 16 ^ R.length := Int.pow_nonneg (by omega)
          have h7 := Int.mul_le_mul_of_nonneg_right (c := (16 : Int) ^ R.length) hgy1 hp16
          have h8 : g * 16 * 16 ^ R.length = g * (16 ^ R.length * 16) := by rw [Int.mul_assoc, Int.mul_comm 16]
          have e := HG2.out
          rw [show (r :: R).length = R.length + 1 from rfl, Int.pow_succ] at e
          omega
        have hgy2 : g * y ≤ 1000000000 := by
          have hp1 : (0 : Int) < 16 ^ R.length := Int.pow_pos (by omega)
          have := Int.mul_le_mul_of_nonneg_left (c := g * y) (show (1 : Int) ≤ 16 ^ R.length by omega) hgy0
          omega
        rw [hx] at q0
        rw [hy] at q1
        rw [hx, hy] at HADD
        have hw1 : IntKind.i64.wrap (g * y) = g * y := IntWalk.i64_in _ (by omega)
        obtain ⟨wz, hwz⟩ : ∃ wz, wq.alloc (.cells #[.int .i64 x, .int .i64 y] 69) = wz := ⟨_, rfl⟩
        have HZ : Hid (Below wq.heap.size wq wz) := by rw [← hwz]; exact (Below.refl _ _).alloc (Nat.le_refl _) _
        have HREC := Lib.hid (show ∀ (a' : Option Addr) (W : World), (0 < R.length → a' = some ⟨b, o + 1, none⟩) → Below wz.heap.size wz W → Calls Try.prog 79 #[.slice a' R.length (cap - 1), .int .i64 (max m x), .int .i64 (g * y), .pointer (some ⟨T, 0, none⟩), .pointer (some ⟨T + 1, 0, none⟩)] W
            fun e w' => e = .returned (.tuple #[]) ∧ GS T w' (t + s + cmb R (max m x) (g * y)) ∧ Below T w w' from fun a' W ha hW => by
          have hb1 : Below wq.heap.size wq W := HZ.out.trans (hW.mono HZ.out.size)
          have hb2 : Below T wq W := hb1.mono (by omega)
          refine (HIH.out a' b (o + 1) (cap - 1) _ _ _ _ w0 W T (max m x) (g * y) (t + s) (HT.out.tail' ha) hw0 (HBK.out.trans hb2) (HSK.out.below hb1 hsz) (by omega) (fun i hi => HOK.out (i + 1) (by simp; omega)) (by omega) (by omega) hgy0 hgq (by omega) hpow).mono ?_
          rintro e w' ⟨h1, h2, h3⟩
          exact ⟨h1, h2, (HBW.out.trans hb2).trans h3⟩)
        have hzs : wz.heap[wq.heap.size]? = some (.cells #[.int .i64 x, .int .i64 y] 69 (0, 0)) := by rw [← hwz]; exact heap_alloc_new _ _
        obtain ⟨z0, z1, -, -⟩ := block_of_cells hzs
        obtain ⟨-, -, z2⟩ := (HSK.out.below HZ.out hsz).cells
        have HWZ := Lib.hid hwz
        clear hq hgp hst hs hx hy hpow hwz hzs
        have hn0 : (1 : Int) ≤ (R.length : Int) + 1 := by omega
        obtain ⟨M, hM⟩ : ∃ M, max m x = M := ⟨_, rfl⟩
        have hmm : (if m < x then x else m) = M := by rw [← hM]; split <;> omega
        rw [hM] at HREC HADD
        obtain ⟨a', ha'⟩ : ∃ a', (if cap = 1 then (some ⟨b, o, none⟩ : Option Addr) else some ⟨b, o + 1, none⟩) = a' := ⟨_, rfl⟩
        have HREC2 := Lib.hid (fun W hW => HREC.out a' W (fun hh => by rw [← ha', if_neg (by omega)]) hW)
        clear hM HREC hcap
        go_wp2
        rw [HWZ.out]
        go_still_tail 11, (by kernel_rfl)
        change wpList _ _ _ _ _ wz.drew
        have HWD : Hid (Below wz.heap.size wz wz.drew) := ⟨rfl, rfl, rfl, Nat.le_refl _, fun _ _ => rfl⟩
        obtain ⟨wd, hwd⟩ : ∃ wd, wz.drew = wd := ⟨_, rfl⟩
        rw [hwd] at HWD ⊢
        clear hwd
        go_wp2_with fail
        refine (HREC2.out wd HWD.out).mono ?_
        rintro e w' ⟨rfl, hgw, hbw⟩
        all_goals
          have HGW := Lib.hid hgw
          have HBB := Lib.hid hbw
          clear hgw hbw
          go_wp2
          go_roundw
          case rel => exact ⟨k + 1, by omega, by go_num, by rw [HADD.out, ← Int.add_assoc]; exact HGW.out, HBB.out⟩
          case measure => simp [intOf]; omega
      · obtain rfl : k = r.length := by omega
        go_wp2
        go_end0
        exact ⟨rfl, by rw [HC.out]; exact HSK.out, HBW.out⟩

end Go.Proofs.Ythnkmmjelpdamaa
