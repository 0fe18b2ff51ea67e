/- Facts in maps. -/
import Derived.Test.YtaphmjccdokiiaaO
import Derived.Maps.Own
import Derived.Maps.OwnOps
import Derived.Maps.OwnSet
import Derived.Maps.RangeWalk
import Derived.Maps.Ext
namespace Go.Proofs.Ytaphmjccdokiiaa
open Go.RowKit Go.Maps

theorem law3 : Keyed Try.prog 3 := int_keyed Try.underlying3
theorem zero3 (w : World) : (zeroValue 3).run Try.prog w = .ok (.int .i64 0) w := by kernel_rfl

/-- The key of a variable. -/
def kl (x : Int) : Lit := .int .i64 x

/-- A map says of each variable what φ says. -/
def Says (D : DataW Unit) (φ : Int → Option Int) : Prop :=
  ∀ x : Int, (kl x).wf = true → (Maps.has D (kl x) = (φ x).isSome ∧ ∀ c, φ x = some c → ∀ z, D.atKey (kl x) z = .lit (.int .i64 c))

/-- Facts lie in block g. -/
structure FactsAt (N : Nat) (w : World) (g : Nat) (φ : Int → Option Int) : Prop where
  ex : ∃ (n : Nat) (D : DataW Unit), w.ownsMap Try.prog 3 (plainElem Try.prog 3) g n D ∧ n ≤ N ∧ Says D φ

theorem FactsAt.lt {N : Nat} {w : World} {g : Nat} {φ : Int → Option Int} (h : FactsAt N w g φ) : g < w.heap.size := by
  obtain ⟨n, D, h1, _⟩ := h.ex; exact h1.lt

theorem FactsAt.below {M N : Nat} {w w' : World} {g : Nat} {φ : Int → Option Int} (h : FactsAt N w g φ) (hb : Below M w w') (hM : w.heap.size ≤ M) : FactsAt N w' g φ := by
  obtain ⟨n, D, h1, h2⟩ := h.ex
  have hlt := h1.lt
  refine ⟨n, D, ?_, h2⟩
  obtain ⟨es, clock, hb', r⟩ := h1
  exact ⟨es, clock, (hb.block g (by omega)).trans hb', r⟩

/-- The facts agree with the assignment. -/
def agr (φ : Int → Option Int) (a : Nat → Int) : Bool := decide (∀ v : Nat, v < 10 → φ (v : Int) = none ∨ φ (v : Int) = some (a v))

/-- Facts speak of variables alone. -/
def Dom (φ : Int → Option Int) : Prop := ∀ x c, φ x = some c → 0 ≤ x ∧ x < 10

set_option maxHeartbeats 2000000 in
set_option maxRecDepth 100000 in
theorem agree_any {N : Nat} (g : Nat) (φ : Int → Option Int) (a : Nat → Int) (w : World) (h : FactsAt N w g φ) (hd : Dom φ) :
    Calls Try.prog 75 #[.map (some g), .agg (arrC a)] w fun e w' => e = .returned (.bool (agr φ a)) ∧ Below w.heap.size w w' := by
  obtain ⟨n, D, hown, hn, hs⟩ := h.ex
  have hlt := hown.lt
  have e1 : (w.alloc (.cells (arrC a) 78)).heap.size = w.heap.size + 1 := by simp
  go_enter Try.func75, Try.ntmps75
  go_wp2_with (first
    | (at_range; refine wpList_range_own _ rfl _ 85 rfl 3 3 law3 Try.underlying85 _ g n D rfl (hown.alloc _) ?_; intro w0 hrg0 hg0 hs0)
    | go_in)
  go_frame
  rw [e1] at hrg0 hs0 ⊢
  have hb0 : Below (w.heap.size + 1) (w.alloc (.cells (arrC a) 78)) w0 := (Below.refl _ _).grown hg0 (by simp) (fun j hj => by cases hj)
  have HW0 := Lib.hid hb0
  have HS := Lib.hid hs
  have HD := Lib.hid hd
  clear hs hd hg0 hs0 hb0 h e1
  go_loopw [9, 10] (fun _ _ wr => ∃ (left : Lit → Bool) (cnt : Nat), wr.ranges Try.prog 3 (plainElem Try.prog 3) g (w.heap.size + 1) n D left cnt ∧ (∀ k, left k = true → Maps.has D k = true) ∧
      (∀ x c, φ x = some c → left (kl x) = false → a x.toNat = c) ∧ Below (w.heap.size + 1) (w.alloc (.cells (arrC a) 78)) wr) (fun _ _ wr => wr.rangeLeft g (w.heap.size + 1))
  case atStart =>
    refine ⟨_, _, hrg0, fun k h => h, fun x c hx hl => ?_, HW0.out⟩
    obtain ⟨h0, h10⟩ := HD.out x c hx
    have := (HS.out x (by unfold kl; exact WalkArith.wf_i64 (by omega))).1
    rw [hx, hl] at this
    exact absurd this (by simp)
  case round =>
    obtain ⟨left, cnt, hrg, hle, hag, hbl⟩ := hrel
    have HLE := Lib.hid hle
    have HAG := Lib.hid hag
    have HBL := Lib.hid hbl
    clear hle hag hbl
    go_wp2_with (first
      | (at_next; refine wpList_next_ranges_ii _ rfl _ rfl 3 3 .i64 .i64 law3 Try.underlying3 Try.underlying3 g (w.heap.size + 1) n _ _ _ rfl hrg ?_ ?_)
      | go_in)
    · intro hc0 hl0
      have HL0 := Lib.hid hl0
      clear hl0
      have hT : agr φ a = true := decide_eq_true (fun v hv => by
        cases e : φ (v : Int) with
        | none => exact .inl rfl
        | some c => right; have := HAG.out _ _ e (HL0.out _); simp at this; rw [this])
      have HT := Lib.hid hT
      clear hT
      go_wp2
      go_ret
      exact ⟨ret_bool HT.out.symm, ((Below.refl _ _).alloc (Nat.le_refl _) _).trans (HBL.out.mono (by omega))⟩
    · intro x c w1 cnt1 hwx hwc hlx hat hrg1 hlt1 hg1 hs1 hen
      have hh := HLE.out _ hlx
      have hsx := HS.out x (by unfold kl; exact hwx)
      have hsome : (φ x).isSome = true := by rw [← hsx.1]; exact hh
      obtain ⟨c', hc'⟩ := Option.isSome_iff_exists.1 hsome
      have ecc : c' = c := by
        have h1 := hsx.2 c' hc' (.lit (.int .i64 0))
        have h2 := hat (.lit (.int .i64 0))
        unfold kl at h1
        rw [h2] at h1
        simpa using h1.symm
      subst ecc
      obtain ⟨h0, h10⟩ := HD.out x _ hc'
      obtain ⟨v, rfl⟩ := Int.eq_ofNat_of_zero_le h0
      have hv10 : v < 10 := by omega
      have hb1 : Below (w.heap.size + 1) (w.alloc (.cells (arrC a) 78)) w1 := HBL.out.grown hg1 (by have := HBL.out.size; simpa using this) (fun j hj => by have := Option.some.inj hj; omega)
      have HB1 := Lib.hid hb1
      have HC' := Lib.hid hc'
      have HWX := Lib.hid hwx
      have hcell : w1.cell? ⟨w.heap.size, v, none⟩ = some (.int .i64 (a v)) := by
        rw [hb1.cell (by show w.heap.size < _; omega)]
        have := World.cell?_alloc_new w (arrC a) 78 v
        rw [this, arrC_get a v hv10]
      clear hb1 hc' hsome hsx hh hat hwx hwc
      by_cases hac : a v = c'
      · have hne : (a v != c') = false := by rw [hac]; simp
        have HAC := Lib.hid hac
        clear hac
        go_wp2
        go_roundw
        case rel =>
          refine ⟨_, cnt1, hrg1, fun k hk => HLE.out k (by simp at hk; exact hk.1), fun y c hy hl => ?_, HB1.out⟩
          simp only [Bool.and_eq_false_iff, Bool.not_eq_false'] at hl
          rcases hl with hl | hl
          · exact HAG.out y c hy hl
          · have hyx : y = (v : Int) := by
              by_cases e : y = (v : Int)
              · exact e
              · exfalso
                have := Maps.sameKey_ne (a := kl y) (b := .int .i64 (v : Int)) (by unfold kl; intro h; exact e (by simpa using h))
                rw [hl] at this; cases this
            subst hyx
            rw [HC'.out] at hy
            simp at hy
            rw [← hy]; simpa using HAC.out
        case measure => rw [hrg1.left_eq, hrg.left_eq]; exact hlt1
      · have hne : (a v != c') = true := by rw [bne_iff_ne]; exact hac
        have HF : Hid (agr φ a = false) := decide_eq_false (fun q => by
          rcases q v hv10 with h | h
          · rw [HC'.out] at h; cases h
          · rw [HC'.out] at h; exact hac (Option.some.inj h).symm)
        clear hac
        go_wp2
        go_ret
        exact ⟨ret_bool HF.out.symm, ((Below.refl _ _).alloc (Nat.le_refl _) _).trans (HB1.out.mono (by omega))⟩

end Go.Proofs.Ytaphmjccdokiiaa
