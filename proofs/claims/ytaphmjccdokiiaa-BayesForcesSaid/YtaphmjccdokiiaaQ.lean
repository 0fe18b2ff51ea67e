/- Facts joined. -/
import Derived.Test.YtaphmjccdokiiaaP
namespace Go.Proofs.Ytaphmjccdokiiaa
open Go.RowKit Go.Maps

/-- The facts can hold at once. -/
def cmp (φ ψ : Int → Option Int) : Bool := decide (∀ v : Nat, v < 10 → φ (v : Int) = none ∨ ψ (v : Int) = none ∨ φ (v : Int) = ψ (v : Int))
def union (φ ψ : Int → Option Int) : Int → Option Int := fun x => match ψ x with | some c => some c | none => φ x

theorem dom_union {φ ψ : Int → Option Int} (h1 : Dom φ) (h2 : Dom ψ) : Dom (union φ ψ) := by
  intro x c h
  unfold union at h
  cases e : ψ x with
  | none => rw [e] at h; exact h1 x c h
  | some d => exact h2 x d e

/-- While a map is copied: those that have come. -/
def cameOf (φ : Int → Option Int) (left : Lit → Bool) : Int → Option Int := fun x => if left (kl x) = true then none else φ x
/-- While a map is laid over another: those that have come, over the other's. -/
def overOf (φ ψ : Int → Option Int) (left : Lit → Bool) : Int → Option Int := fun x => if left (kl x) = true then φ x else match ψ x with | some c => some c | none => φ x

theorem kl_ne {x y : Int} (h : y ≠ x) : (kl y).sameKey (.int .i64 x) = false := Maps.sameKey_ne (by unfold kl; intro q; exact h (by simpa using q))
theorem kl_eq {x : Int} : (kl x).sameKey (.int .i64 x) = true := by unfold kl; simp [Lit.sameKey]

theorem Says.congr {D : DataW Unit} {φ ψ : Int → Option Int} (h : Says D φ) (e : ∀ x, (kl x).wf = true → φ x = ψ x) : Says D ψ := by
  intro x hx
  rw [← e x hx]; exact h x hx

/-- What an entry that comes says. -/
theorem says_entry {D : DataW Unit} {φ : Int → Option Int} (h : Says D φ) {x c : Int} (hx : (Lit.int .i64 x).wf = true) (hh : Maps.has D (.int .i64 x) = true) (hat : ∀ zd, D.atKey (.int .i64 x) zd = .lit (.int .i64 c)) : φ x = some c := by
  have hsx := h x hx
  have hsome : (φ x).isSome = true := by rw [← hsx.1]; exact hh
  obtain ⟨c', hc'⟩ := Option.isSome_iff_exists.1 hsome
  have h1 := hsx.2 c' hc' (.lit (.int .i64 0))
  have h2 := hat (.lit (.int .i64 0))
  unfold kl at h1
  rw [h2] at h1
  rw [hc']; simpa using h1.symm

theorem left_strike {left : Lit → Bool} {x y : Int} : ((left (kl y) && !(kl y).sameKey (.int .i64 x)) = true) ↔ (left (kl y) = true ∧ y ≠ x) := by
  constructor
  · intro h
    simp only [Bool.and_eq_true, Bool.not_eq_true'] at h
    exact ⟨h.1, fun e => by subst e; rw [kl_eq] at h; exact absurd h.2 (by simp)⟩
  · intro h; rw [h.1, kl_ne h.2]; rfl

theorem lookup_val {D : DataW Unit} {x c c2 : Int} (h : D.atKey (.int .i64 x) (.lit (.int .i64 0)) = .lit (.int .i64 c2)) (h' : D.atKey (kl x) (.lit (.int .i64 0)) = .lit (.int .i64 c)) : c2 = c := by
  unfold kl at h'
  rw [h] at h'
  simpa using h'

theorem ownsMap_below {M : Nat} {w w' : World} {g n : Nat} {D : DataW Unit} (h : w.ownsMap Try.prog 3 (plainElem Try.prog 3) g n D) (hb : Below M w w') (hM : w.heap.size ≤ M) : w'.ownsMap Try.prog 3 (plainElem Try.prog 3) g n D := by
  have hlt := h.lt
  obtain ⟨es, clock, hb', r⟩ := h
  exact ⟨es, clock, (hb.block g (by omega)).trans hb', r⟩

set_option maxHeartbeats 4000000 in
set_option maxRecDepth 100000 in
theorem join_any (g1 g2 : Nat) (φ ψ : Int → Option Int) (w : World) (h1 : FactsAt 1000 w g1 φ) (h2 : FactsAt 1000 w g2 ψ) (d1 : Dom φ) (d2 : Dom ψ) :
    Calls Try.prog 53 #[.map (some g1), .map (some g2)] w fun e w' =>
      (∃ mo, e = .returned (.tuple #[.map mo, .bool (cmp φ ψ)]) ∧ (cmp φ ψ = true → ∃ g, mo = some g ∧ FactsAt 2000 w' g (union φ ψ))) ∧ Below w.heap.size w w' := by
  have hmm := @run_makeMap Try.prog
  obtain ⟨n1, D1, hown1, hn1, hs1⟩ := h1.ex
  obtain ⟨n2, D2, hown2, hn2, hs2⟩ := h2.ex
  have hlt1 := hown1.lt
  have hlt2 := hown2.lt
  have e1 : (w.alloc (.map #[] 0)).heap.size = w.heap.size + 1 := by simp
  have HS1 := Lib.hid hs1
  have HS2 := Lib.hid hs2
  have HD1 := Lib.hid d1
  have HD2 := Lib.hid d2
  have HO2 := Lib.hid hown2
  have hz1 := hown1.size_le
  have hz2 := hown2.size_le
  clear h1 h2 hs1 hs2 d1 d2 hown2
  go_enter Try.func53, Try.ntmps53
  go_wp2_with (first
    | (at_range; refine wpList_range_own _ rfl _ 85 rfl 3 3 law3 Try.underlying85 _ g1 n1 D1 rfl (hown1.alloc _) ?_; intro w0 hrg0 hg0 hs0)
    | go_in)
  go_frame
  rw [e1] at hrg0 hs0 ⊢
  have hb0 : Below w.heap.size w w0 := ((Below.refl _ _).alloc (Nat.le_refl _) _).grown hg0 (by simp) (fun j hj => by cases hj)
  have HB0 := Lib.hid hb0
  have HM0 : Hid (w0.ownsMap (H := Unit) Try.prog 3 (plainElem Try.prog 3) w.heap.size 0 (.map [])) := (World.ownsMap_made _ _ _ _).kept hg0 (by simp)
  clear hb0 hg0 hs0 hmm
  go_loopw [16, 17] (fun _ _ wr => ∃ (left : Lit → Bool) (cnt : Nat) (Do : DataW Unit), wr.ranges Try.prog 3 (plainElem Try.prog 3) g1 (w.heap.size + 1) n1 D1 left cnt ∧ cnt ≤ Maps.size D1 ∧ (∀ k, left k = true → Maps.has D1 k = true) ∧
      wr.ownsMap Try.prog 3 (plainElem Try.prog 3) w.heap.size (Maps.size D1 - cnt) Do ∧ Says Do (cameOf φ left) ∧ Below w.heap.size w wr) (fun _ _ wr => wr.rangeLeft g1 (w.heap.size + 1))
  case atStart =>
    refine ⟨_, _, .map [], hrg0, Nat.le_refl _, fun k h => h, HM0.out.mono (Nat.zero_le _), says_empty.congr fun x hx => ?_, HB0.out⟩
    unfold cameOf
    by_cases e : Maps.has D1 (kl x) = true
    · rw [if_pos e]
    · rw [if_neg e]
      have := (HS1.out x hx).1
      cases h : φ x with
      | none => rfl
      | some c => rw [h] at this; exact absurd this e
  case round =>
    obtain ⟨left, cnt, Do, hrg, hcs, hle, hout, hsay, hbl⟩ := hrel
    have HLE := Lib.hid hle
    have HSAY := Lib.hid hsay
    have HBL := Lib.hid hbl
    clear hle hsay hbl
    go_wp2_with (first
      | (at_next; refine wpList_next_ranges_ii _ rfl _ rfl 3 3 .i64 .i64 law3 Try.underlying3 Try.underlying3 g1 (w.heap.size + 1) n1 _ _ _ rfl hrg ?_ ?_)
      | go_in)
    · intro hc0 hl0
      have HSD := Lib.hid (HSAY.out.congr (ψ := φ) fun x _ => by unfold cameOf; rw [if_neg (by rw [hl0]; decide)])
      clear hl0
      have hw2 := ownsMap_below HO2.out HBL.out (Nat.le_refl _)
      have hsz := HBL.out.size
      have hol := hout.lt
      obtain ⟨wo, rfl⟩ : ∃ wo : World, wo = wr := ⟨_, rfl⟩
      go_wp2_with (first
        | (at_range; refine wpList_range_own _ rfl _ 85 rfl 3 3 law3 Try.underlying85 _ g2 n2 D2 rfl hw2 ?_; intro w0 hrg0 hg0 hs0)
        | go_in)
      go_frame
      have hb0 : Below w.heap.size w w0 := HBL.out.grown hg0 hsz (fun j hj => by cases hj)
      have HB0 := Lib.hid hb0
      have HM0 := Lib.hid (hout.kept hg0 (by simp))
      clear hb0 hg0 hs0 hout
      subst hc0
      go_loopw [26, 27] (fun _ _ wr => ∃ (left : Lit → Bool) (cnt : Nat) (Do : DataW Unit), wr.ranges Try.prog 3 (plainElem Try.prog 3) g2 wo.heap.size n2 D2 left cnt ∧ cnt ≤ Maps.size D2 ∧ (∀ k, left k = true → Maps.has D2 k = true) ∧
          wr.ownsMap Try.prog 3 (plainElem Try.prog 3) w.heap.size (Maps.size D1 + (Maps.size D2 - cnt)) Do ∧ Says Do (overOf φ ψ left) ∧ (∀ x c, ψ x = some c → left (kl x) = false → φ x = none ∨ φ x = some c) ∧ Below w.heap.size w wr) (fun _ _ wr => wr.rangeLeft g2 wo.heap.size)
      case atStart =>
        refine ⟨_, _, Do, hrg0, Nat.le_refl _, fun k h => h, HM0.out.mono (by omega), HSD.out.congr fun x hx => ?_, fun x c hx hl => ?_, HB0.out⟩
        · unfold overOf
          by_cases e : Maps.has D2 (kl x) = true
          · rw [if_pos e]
          · rw [if_neg e]
            have := (HS2.out x hx).1
            cases h : ψ x with
            | none => rfl
            | some c => rw [h] at this; exact absurd this e
        · obtain ⟨h0, h10⟩ := HD2.out x c hx
          have := (HS2.out x (by unfold kl; exact WalkArith.wf_i64 (by omega))).1
          rw [hx, hl] at this
          exact absurd this (by simp)
      case round =>
        obtain ⟨left, cnt, Do, hrg, hcs2, hle, hout, hsay, hcmp, hbl⟩ := hrel
        clear HLE HSAY HBL HM0 HB0 hrg0 HSD
        have HLE := Lib.hid hle
        have HSAY := Lib.hid hsay
        have HBL := Lib.hid hbl
        have HCMP := Lib.hid hcmp
        clear hle hsay hbl hcmp
        go_wp2_with (first
          | (at_next; refine wpList_next_ranges_ii _ rfl _ rfl 3 3 .i64 .i64 law3 Try.underlying3 Try.underlying3 g2 wo.heap.size n2 _ _ _ rfl hrg ?_ ?_)
          | go_in)
        · intro hc0 hl0
          have HSD := Lib.hid (HSAY.out.congr (ψ := union φ ψ) fun x _ => by unfold overOf union; rw [if_neg (by rw [hl0]; decide)])
          have hT : cmp φ ψ = true := decide_eq_true (fun v hv => by
            cases e : ψ (v : Int) with
            | none => exact .inr (.inl rfl)
            | some c => rcases HCMP.out _ c e (hl0 _) with h | h
                        · exact .inl h
                        · exact .inr (.inr h))
          have HT := Lib.hid hT
          clear hl0 hT
          go_wp2
          go_ret2
          exact ⟨⟨some w.heap.size, ret_t2 rfl (congrArg Value.bool HT.out.symm), fun _ => ⟨_, rfl, ⟨_, Do, hout, by omega, HSD.out⟩⟩⟩, HBL.out⟩
        · intro x c w1 cnt1 hwx hwc hlx hat hrg1 hlt1 hg1 hs1 hen
          have hpsi := says_entry HS2.out hwx (HLE.out _ hlx) hat
          have hout1 := hout.kept hg1 (by simp; omega)
          have hwlt := hout.lt
          have hhas := HSAY.out x hwx
          have eo : overOf φ ψ left x = φ x := by unfold overOf; rw [if_pos (by exact hlx)]
          rw [eo] at hhas
          have HC := Lib.hid hpsi
          obtain ⟨h0, h10⟩ := HD2.out x c hpsi
          have HLX := Lib.hid hlx
          have HB1 := Lib.hid (HBL.out.grown hg1 HBL.out.size (fun j hj => by have := Option.some.inj hj; omega))
          clear hat hlx eo hpsi
          cases e : φ x with
          | none =>
            rw [e] at hhas
            have hh : Maps.has Do (.int .i64 x) = false := hhas.1
            have HE := Lib.hid e
            clear hhas e
            go_wp2_with (first
              | (at_lookup; refine wpList_lookup_own_ok_int _ rfl _ _ 85 rfl 3 3 .i64 law3 Try.underlying85 Try.underlying3 (zero3 _) w.heap.size _ _ rfl hout1 _ _ rfl (keyOf_int_mk Try.underlying3 hwx) ?_; intro c2 hat2 hwc2)
              | (at_mapUpdate; refine wpList_mapUpdate_own _ rfl _ _ _ 85 rfl 3 3 law3 Try.underlying85 _ w.heap.size _ _ rfl hout1 (by unfold maxLen; omega) _ _ _ rfl rfl (keyOf_int_mk Try.underlying3 hwx) _ [] (plainElem_int Try.underlying3 hwc) ?_; intro w2 hout2 hg2; go_frame)
              | go_in)
            have hrg2 := hrg1.kept hg2 (fun e => by have := Option.some.inj e; omega) (fun e => by have := Option.some.inj e; omega)
            go_roundw
            case rel =>
              refine ⟨_, cnt1, _, hrg2, by omega, fun k hk => HLE.out k (by simp at hk; exact hk.1), hout2.mono (by omega), (HSAY.out.put hout.isMap x c).congr fun y hy => ?_, fun y d hy hl => ?_, HB1.out.grown hg2 (by have := HB1.out.size; omega) (fun j hj => by have := Option.some.inj hj; omega)⟩
              · unfold overOf
                by_cases e : y = x
                · subst e; rw [if_pos rfl, if_neg (fun h => (left_strike.1 h).2 rfl), HC.out]
                · rw [if_neg e]
                  by_cases e2 : left (kl y) = true
                  · rw [if_pos e2, if_pos (left_strike.2 ⟨e2, e⟩)]
                  · rw [if_neg e2, if_neg (fun h => e2 (left_strike.1 h).1)]
              · by_cases e : y = x
                · subst e; exact .inl HE.out
                · refine HCMP.out y d hy ?_
                  cases h : left (kl y)
                  · rfl
                  · exact absurd (left_strike.2 ⟨h, e⟩) (by simp only [Bool.not_eq_true]; exact hl)
            case measure => rw [hrg2.left_eq, hrg.left_eq]; exact hlt1
          | some c0 =>
            rw [e] at hhas
            have hh : Maps.has Do (.int .i64 x) = true := hhas.1
            have hatk := hhas.2 c0 rfl (.lit (.int .i64 0))
            have HE := Lib.hid e
            clear hhas e
            by_cases ec : c0 = c
            · subst ec
              go_wp2_with (first
                | (at_lookup; refine wpList_lookup_own_ok_int _ rfl _ _ 85 rfl 3 3 .i64 law3 Try.underlying85 Try.underlying3 (zero3 _) w.heap.size _ _ rfl hout1 _ _ rfl (keyOf_int_mk Try.underlying3 hwx) ?_; intro c2 hat2 hwc2; obtain rfl := lookup_val hat2 hatk)
                | (at_mapUpdate; refine wpList_mapUpdate_own _ rfl _ _ _ 85 rfl 3 3 law3 Try.underlying85 _ w.heap.size _ _ rfl hout1 (by unfold maxLen; omega) _ _ _ rfl rfl (keyOf_int_mk Try.underlying3 hwx) _ [] (plainElem_int Try.underlying3 hwc) ?_; intro w2 hout2 hg2; go_frame)
                | go_in)
              have hrg2 := hrg1.kept hg2 (fun e => by have := Option.some.inj e; omega) (fun e => by have := Option.some.inj e; omega)
              go_roundw
              case rel =>
                refine ⟨_, cnt1, _, hrg2, by omega, fun k hk => HLE.out k (by simp at hk; exact hk.1), hout2.mono (by omega), (HSAY.out.put hout.isMap x _).congr fun y hy => ?_, fun y d hy hl => ?_, HB1.out.grown hg2 (by have := HB1.out.size; omega) (fun j hj => by have := Option.some.inj hj; omega)⟩
                · unfold overOf
                  by_cases e : y = x
                  · subst e; rw [if_pos rfl, if_neg (fun h => (left_strike.1 h).2 rfl), HC.out]
                  · rw [if_neg e]
                    by_cases e2 : left (kl y) = true
                    · rw [if_pos e2, if_pos (left_strike.2 ⟨e2, e⟩)]
                    · rw [if_neg e2, if_neg (fun h => e2 (left_strike.1 h).1)]
                · by_cases e : y = x
                  · subst e; have := HC.out; rw [hy] at this; right; rw [HE.out]; exact this.symm
                  · refine HCMP.out y d hy ?_
                    cases h : left (kl y)
                    · rfl
                    · exact absurd (left_strike.2 ⟨h, e⟩) (by simp only [Bool.not_eq_true]; exact hl)
              case measure => rw [hrg2.left_eq, hrg.left_eq]; exact hlt1
            · have hne : (c0 != c) = true := by rw [bne_iff_ne]; exact ec
              have HF := Lib.hid (show cmp φ ψ = false from decide_eq_false (fun q => by
                obtain ⟨v, rfl⟩ := Int.eq_ofNat_of_zero_le h0
                rcases q v (by omega) with h | h | h
                · rw [HE.out] at h; cases h
                · rw [HC.out] at h; cases h
                · rw [HE.out, HC.out] at h; exact ec (Option.some.inj h)))
              clear ec
              go_wp2_with (first
                | (at_lookup; refine wpList_lookup_own_ok_int _ rfl _ _ 85 rfl 3 3 .i64 law3 Try.underlying85 Try.underlying3 (zero3 _) w.heap.size _ _ rfl hout1 _ _ rfl (keyOf_int_mk Try.underlying3 hwx) ?_; intro c2 hat2 hwc2; obtain rfl := lookup_val hat2 hatk)
                | go_in)
              go_ret2
              exact ⟨⟨none, ret_t2 rfl (congrArg Value.bool HF.out.symm), fun h => absurd (HF.out.symm.trans h) (by decide)⟩, HB1.out⟩
    · intro x c w1 cnt1 hwx hwc hlx hat hrg1 hlt1 hg1 hs1 hen
      have HC := Lib.hid (says_entry HS1.out hwx (HLE.out _ hlx) hat)
      have hout1 := hout.kept hg1 (by simp)
      have hwlt := hout.lt
      have HLX := Lib.hid hlx
      clear hat hlx
      go_wp2_with (first
        | (at_mapUpdate; refine wpList_mapUpdate_own _ rfl _ _ _ 85 rfl 3 3 law3 Try.underlying85 _ w.heap.size _ _ rfl hout1 (by unfold maxLen; omega) _ _ _ rfl rfl (keyOf_int_mk Try.underlying3 hwx) _ [] (plainElem_int Try.underlying3 hwc) ?_; intro w2 hout2 hg2; go_frame)
        | go_in)
      have hrg2 := hrg1.kept hg2 (fun e => by have := Option.some.inj e; omega) (fun e => by have := Option.some.inj e; omega)
      go_roundw
      case rel =>
        refine ⟨_, cnt1, _, hrg2, by omega, fun k hk => HLE.out k (by simp at hk; exact hk.1), hout2.mono (by omega), (HSAY.out.put hout.isMap x c).congr fun y hy => ?_, (HBL.out.grown hg1 HBL.out.size (fun j hj => by have := Option.some.inj hj; omega)).grown hg2 (by have := HBL.out.size; omega) (fun j hj => by have := Option.some.inj hj; omega)⟩
        unfold cameOf
        by_cases e : y = x
        · subst e; rw [if_pos rfl, if_neg (fun h => (left_strike.1 h).2 rfl), HC.out]
        · rw [if_neg e]
          by_cases e2 : left (kl y) = true
          · rw [if_pos e2, if_pos (left_strike.2 ⟨e2, e⟩)]
          · rw [if_neg e2, if_neg (fun h => e2 (left_strike.1 h).1)]
      case measure => rw [hrg2.left_eq, hrg.left_eq]; exact hlt1

end Go.Proofs.Ytaphmjccdokiiaa
