/- Offers: lists of pairs of a number and a weight; which of them are valid. -/
import Derived.Test.YthnkmmjelpdamaaA4
namespace Go.Proofs.Ythnkmmjelpdamaa
open Go.RowKit

def qf (ps : List (Int × Int)) (i : Nat) : Int := (ps.getD i (0, 0)).1
def qv (ps : List (Int × Int)) (i : Nat) : Int := (ps.getD i (0, 0)).2
def rowP (L : List (List (Int × Int))) (i : Nat) : List (Int × Int) := L.getD i []

/-- The cells of a slice of pairs. -/
structure PairsAt (w : World) (ao : Option Addr) (b o : Nat) (ps : List (Int × Int)) : Prop where
  ptr : 0 < ps.length → ao = some ⟨b, o, none⟩ ∧ b < w.heap.size
  cell0 : ∀ i, i < ps.length → w.cell? ⟨b, o + i * 2, none⟩ = some (.int .i64 (qf ps i))
  cell1 : ∀ i, i < ps.length → w.cell? ⟨b, o + i * 2 + 1, none⟩ = some (.int .i64 (qv ps i))
  len : ps.length ≤ 140737488351232
  wf : ∀ i, (-9223372036854775808 ≤ qf ps i ∧ qf ps i ≤ 9223372036854775807) ∧ -9223372036854775808 ≤ qv ps i ∧ qv ps i ≤ 9223372036854775807

theorem PairsAt.below {B : Nat} {w w' : World} {ao : Option Addr} {b o : Nat} {ps : List (Int × Int)} (h : PairsAt w ao b o ps) (hb : Below B w w') (hB : w.heap.size ≤ B) : PairsAt w' ao b o ps := by
  refine ⟨fun hp => ⟨(h.ptr hp).1, Nat.lt_of_lt_of_le (h.ptr hp).2 hb.size⟩, fun i hi => ?_, fun i hi => ?_, h.len, h.wf⟩
  · have hlt := (h.ptr (by omega)).2
    rw [hb.cell (p := ⟨b, o + i * 2, none⟩) (by show b < B; omega)]; exact h.cell0 i hi
  · have hlt := (h.ptr (by omega)).2
    rw [hb.cell (p := ⟨b, o + i * 2 + 1, none⟩) (by show b < B; omega)]; exact h.cell1 i hi
theorem PairsAt.alloc {w : World} {ao : Option Addr} {b o : Nat} {ps : List (Int × Int)} (h : PairsAt w ao b o ps) (x : Obj) : PairsAt (w.alloc x) ao b o ps :=
  h.below ((Below.refl _ _).alloc (Nat.le_refl _) x) (Nat.le_refl _)

/-- The cells of a slice of slices of pairs. -/
structure OffsAt (w : World) (ao : Option Addr) (b o : Nat) (L : List (List (Int × Int))) (A : Nat → Option Addr) (B O C : Nat → Nat) : Prop where
  ptr : 0 < L.length → ao = some ⟨b, o, none⟩ ∧ b < w.heap.size
  cell : ∀ i, i < L.length → w.cell? ⟨b, o + i, none⟩ = some (.slice (A i) (rowP L i).length (C i))
  rows : ∀ i, i < L.length → PairsAt w (A i) (B i) (O i) (rowP L i)
  len : L.length ≤ 140737488351232

theorem OffsAt.below {N : Nat} {w w' : World} {ao : Option Addr} {b o : Nat} {L : List (List (Int × Int))} {A : Nat → Option Addr} {B O C : Nat → Nat} (h : OffsAt w ao b o L A B O C) (hb : Below N w w') (hB : w.heap.size ≤ N) : OffsAt w' ao b o L A B O C := by
  refine ⟨fun hp => ⟨(h.ptr hp).1, Nat.lt_of_lt_of_le (h.ptr hp).2 hb.size⟩, fun i hi => ?_, fun i hi => (h.rows i hi).below hb hB, h.len⟩
  have hlt := (h.ptr (by omega)).2
  rw [hb.cell (p := ⟨b, o + i, none⟩) (by show b < N; omega)]
  exact h.cell i hi
theorem OffsAt.alloc {w : World} {ao : Option Addr} {b o : Nat} {L : List (List (Int × Int))} {A : Nat → Option Addr} {B O C : Nat → Nat} (h : OffsAt w ao b o L A B O C) (x : Obj) : OffsAt (w.alloc x) ao b o L A B O C :=
  h.below ((Below.refl _ _).alloc (Nat.le_refl _) x) (Nat.le_refl _)

/-- The sum of the first k weights. -/
def wsTo (ps : List (Int × Int)) : Nat → Int
  | 0 => 0
  | k + 1 => wsTo ps k + qv ps k
def goodP (ps : List (Int × Int)) (i : Nat) : Prop := (0 ≤ qf ps i ∧ qf ps i ≤ 1000) ∧ 1 ≤ qv ps i ∧ qv ps i ≤ 16
instance (ps : List (Int × Int)) (i : Nat) : Decidable (goodP ps i) := by unfold goodP; infer_instance
def okOff (ps : List (Int × Int)) : Bool := decide (ps.length ≤ 8 ∧ (∀ i, i < ps.length → goodP ps i) ∧ wsTo ps ps.length = 16)
def okOffs (L : List (List (Int × Int))) : Bool := decide (L.length ≤ 6 ∧ ∀ i, i < L.length → okOff (rowP L i) = true)

theorem wsTo_bd {ps : List (Int × Int)} {k : Nat} (h : ∀ i, i < k → goodP ps i) : 0 ≤ wsTo ps k ∧ wsTo ps k ≤ 16 * k := by
  induction k with
  | zero => simp [wsTo]
  | succ k ih =>
    have h1 := ih fun i hi => h i (by omega)
    have h2 := (h k (by omega)).2
    simp only [wsTo]
    omega

set_option maxHeartbeats 1000000 in
theorem isOffer_any (ps : List (Int × Int)) (ao : Option Addr) (b o cap : Nat) (w : World) (h : PairsAt w ao b o ps) :
    Calls Try.prog 77 #[.slice ao ps.length cap] w fun e w' => e = .returned (.bool (okOff ps)) ∧ Below w.heap.size w w' := by
  by_cases hl : 8 < ps.length
  · have t1 : decide (8 < (ps.length : Int)) = true := decide_eq_true (by omega)
    have HF := Lib.hid (show okOff ps = false from decide_eq_false (fun q => by omega))
    clear hl h
    go_enter Try.func77, Try.ntmps77
    go_wp2
    go_ret
    exact ⟨ret_bool HF.out.symm, Below.refl _ _⟩
  · have t1 : decide (8 < (ps.length : Int)) = false := decide_eq_false (by omega)
    have H := Lib.hid h
    clear h
    go_enter Try.func77, Try.ntmps77
    go_wp2
    go_loopw [3, 5, 6, 7, 13] (fun x _ _ _ y wr => ∃ k : Nat, k ≤ ps.length ∧ y = .int .i64 k ∧ x = .int .i64 (wsTo ps k) ∧ (∀ i, i < k → goodP ps i) ∧ Below w.heap.size w wr) (fun _ _ _ _ y _ => ps.length - (intOf y).toNat)
    case atStart => exact ⟨0, by omega, rfl, rfl, fun i hi => absurd hi (by omega), Below.refl _ _⟩
    case round =>
      obtain ⟨k, hk, rfl, rfl, hg, hb⟩ := hrel
      obtain ⟨wq, rfl⟩ : ∃ x, x = wr := ⟨_, rfl⟩
      have hbd := wsTo_bd hg
      have HG := Lib.hid hg
      have HB := Lib.hid hb
      clear hg hb
      by_cases hlt : k < ps.length
      · have hp := H.out.below HB.out (Nat.le_refl _)
        obtain ⟨rfl, -⟩ := hp.ptr (by omega)
        have c0 := hp.cell0 k hlt
        have c1 := hp.cell1 k hlt
        have hwf := hp.wf k
        have HST := Lib.hid (show wsTo ps (k + 1) = wsTo ps k + qv ps k from rfl)
        have HBA := Lib.hid (HB.out.alloc HB.out.size (.cells #[.int .i64 (qf ps k), .int .i64 (qv ps k)] 69))
        clear hp
        obtain ⟨x, hx⟩ : ∃ x, qf ps k = x := ⟨_, rfl⟩
        obtain ⟨y, hy⟩ : ∃ y, qv ps k = y := ⟨_, rfl⟩
        have HOK := Lib.hid (show goodP ps k ↔ ((0 ≤ x ∧ x ≤ 1000) ∧ 1 ≤ y ∧ y ≤ 16) by rw [← hx, ← hy]; rfl)
        have HNO := Lib.hid (show ¬ goodP ps k → okOff ps = false from fun q => decide_eq_false (fun r => q (r.2.1 k hlt)))
        rw [hx, hy] at hwf HBA
        rw [hx] at c0
        rw [hy] at c1
        rw [hy] at HST
        clear hx hy
        obtain ⟨b1, e1⟩ : ∃ b, decide (x < 0) = b := ⟨_, rfl⟩
        obtain ⟨b2, e2⟩ : ∃ b, decide (1000 < x) = b := ⟨_, rfl⟩
        obtain ⟨b3, e3⟩ : ∃ b, decide (y < 1) = b := ⟨_, rfl⟩
        obtain ⟨b4, e4⟩ : ∃ b, decide (16 < y) = b := ⟨_, rfl⟩
        have HC := Lib.hid (show (b1 || b2 || b3 || b4) = true ↔ ¬ goodP ps k by
          rw [HOK.out, ← e1, ← e2, ← e3, ← e4]
          simp only [Bool.or_eq_true, decide_eq_true_eq]
          omega)
        cases b1 <;> cases b2 <;> cases b3 <;> cases b4
        case false.false.false.false =>
          have hg2 := HOK.out.1 (Classical.byContradiction fun q => by simpa using HC.out.2 q)
          have HG2 := Lib.hid (show ∀ i, i < k + 1 → goodP ps i from fun i hi => by
            by_cases e : i = k
            · rw [e]; exact HOK.out.2 hg2
            · exact HG.out i (by omega))
          go_wp2
          go_quiet (fail)
          go_wp2
          go_roundw
          case rel => exact ⟨k + 1, by omega, by go_num, by rw [HST.out], HG2.out, below_drewN HBA.out _⟩
          case measure => simp [intOf]; omega
        all_goals
          have HF := Lib.hid (HNO.out (HC.out.1 rfl))
          go_wp2
          go_quiet (fail)
          go_wp2
          go_ret
          exact ⟨ret_bool HF.out.symm, below_drewN HBA.out _⟩
      · obtain rfl : k = ps.length := by omega
        have HF := Lib.hid (show okOff ps = decide (wsTo ps ps.length = 16) by
          unfold okOff
          rw [decide_eq_decide]
          exact ⟨fun q => q.2.2, fun q => ⟨by omega, HG.out, q⟩⟩)
        go_wp2
        go_ret
        refine ⟨ret_bool ?_, HB.out⟩
        rw [HF.out]
        rw [Bool.eq_iff_iff]; simp

set_option maxHeartbeats 1000000 in
theorem areOffers_any (L : List (List (Int × Int))) (ao : Option Addr) (b o cap : Nat) (A : Nat → Option Addr) (B O C : Nat → Nat) (w : World) (h : OffsAt w ao b o L A B O C) :
    Calls Try.prog 64 #[.slice ao L.length cap] w fun e w' => e = .returned (.bool (okOffs L)) ∧ Below w.heap.size w w' := by
  by_cases hl : 6 < L.length
  · have t1 : decide (6 < (L.length : Int)) = true := decide_eq_true (by omega)
    have HF := Lib.hid (show okOffs L = false from decide_eq_false (fun q => by omega))
    clear hl h
    go_enter Try.func64, Try.ntmps64
    go_wp2
    go_ret
    exact ⟨ret_bool HF.out.symm, Below.refl _ _⟩
  · have t1 : decide (6 < (L.length : Int)) = false := decide_eq_false (by omega)
    have H := Lib.hid h
    clear h
    go_enter Try.func64, Try.ntmps64
    go_wp2
    go_loopw [4, 10] (fun _ y wr => ∃ k : Nat, k ≤ L.length ∧ y = .int .i64 k ∧ (∀ i, i < k → okOff (rowP L i) = true) ∧ Below w.heap.size w wr) (fun _ y _ => L.length - (intOf y).toNat)
    case atStart => exact ⟨0, by omega, rfl, fun i hi => absurd hi (by omega), Below.refl _ _⟩
    case round =>
      obtain ⟨k, hk, rfl, hg, hb⟩ := hrel
      obtain ⟨wq, rfl⟩ : ∃ x, x = wr := ⟨_, rfl⟩
      have HG := Lib.hid hg
      have HB := Lib.hid hb
      clear hg hb
      by_cases hlt : k < L.length
      · have hp := H.out.below HB.out (Nat.le_refl _)
        obtain ⟨rfl, -⟩ := hp.ptr (by omega)
        have c0 := hp.cell k hlt
        have HIO := Lib.hid (isOffer_any (rowP L k) (A k) (B k) (O k) (C k) wq (hp.rows k hlt))
        clear hp
        have HNO := Lib.hid (show okOff (rowP L k) = false → okOffs L = false from fun q => decide_eq_false (fun r => by rw [r.2 k hlt] at q; cases q))
        obtain ⟨g, hg⟩ : ∃ g, okOff (rowP L k) = g := ⟨_, rfl⟩
        rw [hg] at HIO HNO
        have HGG := Lib.hid hg
        clear hg
        cases g
        · have HF := Lib.hid (HNO.out rfl)
          go_wp2_with fail
          refine HIO.out.mono ?_
          rintro e w' ⟨rfl, hb2⟩
          have HB2 := Lib.hid (HB.out.trans (hb2.mono HB.out.size))
          clear hb2
          go_wp2
          go_ret
          exact ⟨ret_bool HF.out.symm, HB2.out⟩
        · have HG2 := Lib.hid (show ∀ i, i < k + 1 → okOff (rowP L i) = true from fun i hi => by
            by_cases e : i = k
            · rw [e]; exact HGG.out
            · exact HG.out i (by omega))
          go_wp2_with fail
          refine HIO.out.mono ?_
          rintro e w' ⟨rfl, hb2⟩
          have HB2 := Lib.hid (HB.out.trans (hb2.mono HB.out.size))
          clear hb2
          go_wp2
          go_roundw
          case rel => exact ⟨k + 1, by omega, by go_num, HG2.out, HB2.out⟩
          case measure => simp [intOf]; omega
      · obtain rfl : k = L.length := by omega
        have HF := Lib.hid (show okOffs L = true from decide_eq_true ⟨by omega, HG.out⟩)
        go_wp2
        go_ret
        exact ⟨ret_bool HF.out.symm, HB.out⟩

end Go.Proofs.Ythnkmmjelpdamaa
