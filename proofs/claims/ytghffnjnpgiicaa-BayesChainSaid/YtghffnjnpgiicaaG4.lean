/- G4: K L P Q S -/
import Derived.Test.YtghffnjnpgiicaaG3
import Derived.Maps.Own
import Derived.Maps.OwnOps
import Derived.Maps.OwnSet
import Derived.Maps.RangeWalk
import Derived.Maps.Ext
/- Facts in maps. -/
namespace Go.Proofs.Ytghffnjnpgiicaa
open Go.RowKit Go.Maps

theorem law3 : Keyed Try.prog 3 := int_keyed Try.underlying3
theorem zero3 (w : World) : (zeroValue 3).run Try.prog w = .ok (.int .i64 0) w := by kernel_rfl

/-- The key of a variable. -/
def kl (x : Int) : Lit := .int .i64 x

/-- A map says of each variable what φ says. -/
def Says (D : DataW Unit) (φ : Int → Option Int) : Prop :=
  ∀ x : Int, (kl x).wf = true → (Maps.has D (kl x) = (φ x).isSome ∧ ∀ c, φ x = some c → ∀ z, D.atKey (kl x) z = .lit (.int .i64 c))

/-- Facts lie in block g. -/
structure FactsAt (N : Nat) (w : World) (g : Nat) (φ : Int → Option Int) : Prop where
  ex : ∃ (n : Nat) (D : DataW Unit), w.ownsMap Try.prog 3 (plainElem Try.prog 3) g n D ∧ n ≤ N ∧ Says D φ

theorem FactsAt.lt {N : Nat} {w : World} {g : Nat} {φ : Int → Option Int} (h : FactsAt N w g φ) : g < w.heap.size := by
  obtain ⟨n, D, h1, _⟩ := h.ex; exact h1.lt

theorem FactsAt.below {M N : Nat} {w w' : World} {g : Nat} {φ : Int → Option Int} (h : FactsAt N w g φ) (hb : Below M w w') (hM : w.heap.size ≤ M) : FactsAt N w' g φ := by
  obtain ⟨n, D, h1, h2⟩ := h.ex
  have hlt := h1.lt
  refine ⟨n, D, ?_, h2⟩
  obtain ⟨es, clock, hb', r⟩ := h1
  exact ⟨es, clock, (hb.block g (by omega)).trans hb', r⟩

/-- The facts agree with the assignment. -/
def agr (φ : Int → Option Int) (a : Nat → Int) : Bool := decide (∀ v : Nat, v < 10 → φ (v : Int) = none ∨ φ (v : Int) = some (a v))

/-- Facts speak of variables alone. -/
def Dom (φ : Int → Option Int) : Prop := ∀ x c, φ x = some c → 0 ≤ x ∧ x < 10

set_option maxHeartbeats 2000000 in
set_option maxRecDepth 100000 in
theorem agree_any {N : Nat} (g : Nat) (φ : Int → Option Int) (a : Nat → Int) (w : World) (h : FactsAt N w g φ) (hd : Dom φ) :
    Calls Try.prog 75 #[.map (some g), .agg (arrC a)] w fun e w' => e = .returned (.bool (agr φ a)) ∧ Below w.heap.size w w' := by
  obtain ⟨n, D, hown, hn, hs⟩ := h.ex
  have hlt := hown.lt
  have e1 : (w.alloc (.cells (arrC a) 78)).heap.size = w.heap.size + 1 := by simp
  go_enter Try.func75, Try.ntmps75
  go_wp2_with (first
    | (at_range; refine wpList_range_own _ rfl _ 85 rfl 3 3 law3 Try.underlying85 _ g n D rfl (hown.alloc _) ?_; intro w0 hrg0 hg0 hs0)
    | go_in)
  go_frame
  rw [e1] at hrg0 hs0 ⊢
  have hb0 : Below (w.heap.size + 1) (w.alloc (.cells (arrC a) 78)) w0 := (Below.refl _ _).grown hg0 (by simp) (fun j hj => by cases hj)
  have HW0 := Lib.hid hb0
  have HS := Lib.hid hs
  have HD := Lib.hid hd
  clear hs hd hg0 hs0 hb0 h e1
  go_loopw [9, 10] (fun _ _ wr => ∃ (left : Lit → Bool) (cnt : Nat), wr.ranges Try.prog 3 (plainElem Try.prog 3) g (w.heap.size + 1) n D left cnt ∧ (∀ k, left k = true → Maps.has D k = true) ∧
      (∀ x c, φ x = some c → left (kl x) = false → a x.toNat = c) ∧ Below (w.heap.size + 1) (w.alloc (.cells (arrC a) 78)) wr) (fun _ _ wr => wr.rangeLeft g (w.heap.size + 1))
  case atStart =>
    refine ⟨_, _, hrg0, fun k h => h, fun x c hx hl => ?_, HW0.out⟩
    obtain ⟨h0, h10⟩ := HD.out x c hx
    have := (HS.out x (by unfold kl; exact WalkArith.wf_i64 (by omega))).1
    rw [hx, hl] at this
    exact absurd this (by simp)
  case round =>
    obtain ⟨left, cnt, hrg, hle, hag, hbl⟩ := hrel
    have HLE := Lib.hid hle
    have HAG := Lib.hid hag
    have HBL := Lib.hid hbl
    clear hle hag hbl
    go_wp2_with (first
      | (at_next; refine wpList_next_ranges_ii _ rfl _ rfl 3 3 .i64 .i64 law3 Try.underlying3 Try.underlying3 g (w.heap.size + 1) n _ _ _ rfl hrg ?_ ?_)
      | go_in)
    · intro hc0 hl0
      have HL0 := Lib.hid hl0
      clear hl0
      have hT : agr φ a = true := decide_eq_true (fun v hv => by
        cases e : φ (v : Int) with
        | none => exact .inl rfl
        | some c => right; have := HAG.out _ _ e (HL0.out _); simp at this; rw [this])
      have HT := Lib.hid hT
      clear hT
      go_wp2
      go_ret
      exact ⟨ret_bool HT.out.symm, ((Below.refl _ _).alloc (Nat.le_refl _) _).trans (HBL.out.mono (by omega))⟩
    · intro x c w1 cnt1 hwx hwc hlx hat hrg1 hlt1 hg1 hs1 hen
      have hh := HLE.out _ hlx
      have hsx := HS.out x (by unfold kl; exact hwx)
      have hsome : (φ x).isSome = true := by rw [← hsx.1]; exact hh
      obtain ⟨c', hc'⟩ := Option.isSome_iff_exists.1 hsome
      have ecc : c' = c := by
        have h1 := hsx.2 c' hc' (.lit (.int .i64 0))
        have h2 := hat (.lit (.int .i64 0))
        unfold kl at h1
        rw [h2] at h1
        simpa using h1.symm
      subst ecc
      obtain ⟨h0, h10⟩ := HD.out x _ hc'
      obtain ⟨v, rfl⟩ := Int.eq_ofNat_of_zero_le h0
      have hv10 : v < 10 := by omega
      have hb1 : Below (w.heap.size + 1) (w.alloc (.cells (arrC a) 78)) w1 := HBL.out.grown hg1 (by have := HBL.out.size; simpa using this) (fun j hj => by have := Option.some.inj hj; omega)
      have HB1 := Lib.hid hb1
      have HC' := Lib.hid hc'
      have HWX := Lib.hid hwx
      have hcell : w1.cell? ⟨w.heap.size, v, none⟩ = some (.int .i64 (a v)) := by
        rw [hb1.cell (by show w.heap.size < _; omega)]
        have := World.cell?_alloc_new w (arrC a) 78 v
        rw [this, arrC_get a v hv10]
      clear hb1 hc' hsome hsx hh hat hwx hwc
      by_cases hac : a v = c'
      · have hne : (a v != c') = false := by rw [hac]; simp
        have HAC := Lib.hid hac
        clear hac
        go_wp2
        go_roundw
        case rel =>
          refine ⟨_, cnt1, hrg1, fun k hk => HLE.out k (by simp at hk; exact hk.1), fun y c hy hl => ?_, HB1.out⟩
          simp only [Bool.and_eq_false_iff, Bool.not_eq_false'] at hl
          rcases hl with hl | hl
          · exact HAG.out y c hy hl
          · have hyx : y = (v : Int) := by
              by_cases e : y = (v : Int)
              · exact e
              · exfalso
                have := Maps.sameKey_ne (a := kl y) (b := .int .i64 (v : Int)) (by unfold kl; intro h; exact e (by simpa using h))
                rw [hl] at this; cases this
            subst hyx
            rw [HC'.out] at hy
            simp at hy
            rw [← hy]; simpa using HAC.out
        case measure => rw [hrg1.left_eq, hrg.left_eq]; exact hlt1
      · have hne : (a v != c') = true := by rw [bne_iff_ne]; exact hac
        have HF : Hid (agr φ a = false) := decide_eq_false (fun q => by
          rcases q v hv10 with h | h
          · rw [HC'.out] at h; cases h
          · rw [HC'.out] at h; exact hac (Option.some.inj h).symm)
        clear hac
        go_wp2
        go_ret
        exact ⟨ret_bool HF.out.symm, ((Below.refl _ _).alloc (Nat.le_refl _) _).trans (HB1.out.mono (by omega))⟩

end Go.Proofs.Ytghffnjnpgiicaa

/- Facts out of pairs. -/
namespace Go.Proofs.Ytghffnjnpgiicaa
open Go.RowKit Go.Maps

def pf (ps : List (Int × Int)) (i : Nat) : Int := (ps.getD i (0, 0)).1
def pv (ps : List (Int × Int)) (i : Nat) : Int := (ps.getD i (0, 0)).2

/-- The cells of a slice of pairs. -/
structure PairsAt (w : World) (ao : Option Addr) (b o : Nat) (ps : List (Int × Int)) : Prop where
  ptr : 0 < ps.length → ao = some ⟨b, o, none⟩ ∧ b < w.heap.size
  cell0 : ∀ i, i < ps.length → w.cell? ⟨b, o + i * 2, none⟩ = some (.int .i64 (pf ps i))
  cell1 : ∀ i, i < ps.length → w.cell? ⟨b, o + i * 2 + 1, none⟩ = some (.int .i64 (pv ps i))
  len : ps.length ≤ 140737488351232
  wf : ∀ i, (-9223372036854775808 ≤ pf ps i ∧ pf ps i ≤ 9223372036854775807) ∧ -9223372036854775808 ≤ pv ps i ∧ pv ps i ≤ 9223372036854775807

theorem PairsAt.below {B : Nat} {w w' : World} {ao : Option Addr} {b o : Nat} {ps : List (Int × Int)} (h : PairsAt w ao b o ps) (hb : Below B w w') (hB : w.heap.size ≤ B) : PairsAt w' ao b o ps := by
  refine ⟨fun hp => ⟨(h.ptr hp).1, Nat.lt_of_lt_of_le (h.ptr hp).2 hb.size⟩, fun i hi => ?_, fun i hi => ?_, h.len, h.wf⟩
  · have hlt := (h.ptr (by omega)).2
    rw [hb.cell (p := ⟨b, o + i * 2, none⟩) (by show b < B; omega)]; exact h.cell0 i hi
  · have hlt := (h.ptr (by omega)).2
    rw [hb.cell (p := ⟨b, o + i * 2 + 1, none⟩) (by show b < B; omega)]; exact h.cell1 i hi
theorem PairsAt.alloc {w : World} {ao : Option Addr} {b o : Nat} {ps : List (Int × Int)} (h : PairsAt w ao b o ps) (x : Obj) : PairsAt (w.alloc x) ao b o ps :=
  h.below ((Below.refl _ _).alloc (Nat.le_refl _) x) (Nat.le_refl _)

/-- What the first k pairs say of a variable. -/
def lookTo (ps : List (Int × Int)) : Nat → Int → Option Int
  | 0, _ => none
  | k + 1, x => if x = pf ps k then some (pv ps k) else lookTo ps k x

def goodPair (ps : List (Int × Int)) (n : Nat) (i : Nat) : Prop := (0 ≤ pf ps i ∧ pf ps i < n) ∧ (pv ps i = 0 ∨ pv ps i = 1) ∧ ∀ j, j < i → pf ps j ≠ pf ps i
instance (ps : List (Int × Int)) (n i : Nat) : Decidable (goodPair ps n i) := by unfold goodPair; infer_instance
/-- The pairs are facts of n variables. -/
def okFacts (ps : List (Int × Int)) (n : Nat) : Bool := decide (∀ i, i < ps.length → goodPair ps n i)
def look (ps : List (Int × Int)) : Int → Option Int := lookTo ps ps.length

theorem lookTo_none {ps : List (Int × Int)} {k : Nat} {x : Int} : lookTo ps k x = none ↔ ∀ j, j < k → pf ps j ≠ x := by
  induction k with
  | zero => simp [lookTo]
  | succ k ih =>
    simp only [lookTo]
    by_cases e : x = pf ps k
    · rw [if_pos e]; constructor
      · intro h; cases h
      · intro h; exact absurd e.symm (h k (by omega))
    · rw [if_neg e, ih]; constructor
      · intro h j hj
        by_cases ej : j = k
        · subst ej; exact fun h => e h.symm
        · exact h j (by omega)
      · intro h j hj; exact h j (by omega)

theorem lookTo_some {ps : List (Int × Int)} {k : Nat} {x c : Int} (h : lookTo ps k x = some c) : ∃ j, j < k ∧ pf ps j = x ∧ pv ps j = c := by
  induction k with
  | zero => cases h
  | succ k ih =>
    simp only [lookTo] at h
    by_cases e : x = pf ps k
    · rw [if_pos e] at h; exact ⟨k, by omega, e.symm, Option.some.inj h⟩
    · rw [if_neg e] at h; obtain ⟨j, h1, h2⟩ := ih h; exact ⟨j, by omega, h2⟩

theorem ret_t2 {a b c d : Value} (h : a = c) (h2 : b = d) : Ending.returned (.tuple #[a, b]) = .returned (.tuple #[c, d]) := by rw [h, h2]

theorem says_empty : Says (.map []) (fun _ => none) := fun x _ => ⟨rfl, fun c h => by cases h⟩

theorem Says.put {D : DataW Unit} {φ : Int → Option Int} (h : Says D φ) (hD : IsMap D) (x c : Int) : Says (D.put (kl x) (.lit (.int .i64 c))) (fun y => if y = x then some c else φ y) := by
  intro y hy
  by_cases e : y = x
  · subst e
    show has (D.put (kl y) _) (kl y) = (if y = y then some c else φ y).isSome ∧ ∀ c', (if y = y then some c else φ y) = some c' → _
    have hk : WideAt.IsKeyLit (kl y) := by unfold kl; simp [WideAt.IsKeyLit]
    rw [if_pos rfl, Maps.has_put_same hD hk]
    exact ⟨rfl, fun c' hc z => by rw [Maps.atKey_put_same hD hk]; rw [Option.some.inj hc]⟩
  · have hne : kl y ≠ kl x := by unfold kl; intro q; exact e (by simpa using q)
    show has (D.put (kl x) _) (kl y) = (if y = x then some c else φ y).isSome ∧ ∀ c', (if y = x then some c else φ y) = some c' → _
    rw [if_neg e, Maps.has_put_other hne]
    exact ⟨(h y hy).1, fun c' hc z => by rw [Maps.atKey_put_other hne]; exact (h y hy).2 c' hc z⟩

set_option maxHeartbeats 2000000 in
set_option maxRecDepth 100000 in
theorem toFacts_any (ps : List (Int × Int)) (n : Nat) (ao : Option Addr) (b o cap : Nat) (w : World) (h : PairsAt w ao b o ps) (_hn : n ≤ 10) (hlen : ps.length ≤ 1000) :
    Calls Try.prog 51 #[.slice ao ps.length cap, .int .i64 n] w fun e w' =>
      (∃ mo, e = .returned (.tuple #[.map mo, .bool (okFacts ps n)]) ∧ (okFacts ps n = true → ∃ g, mo = some g ∧ FactsAt 1000 w' g (look ps))) ∧ Below w.heap.size w w' := by
  have hmm := @run_makeMap Try.prog
  have H := Lib.hid h
  clear h
  go_enter Try.func51, Try.ntmps51
  go_wp2
  clear hmm
  go_loopw [9, 10, 16] (fun _ _ i wr => ∃ (k : Nat) (D : DataW Unit), k ≤ ps.length ∧ i = .int .i64 k ∧ wr.ownsMap Try.prog 3 (plainElem Try.prog 3) w.heap.size k D ∧ Says D (lookTo ps k) ∧ (∀ i, i < k → goodPair ps n i) ∧ Below w.heap.size w wr) (fun _ _ i _ => ps.length - (intOf i).toNat)
  case atStart => exact ⟨0, .map [], by omega, rfl, World.ownsMap_made _ _ _ _, says_empty, fun i hi => absurd hi (by omega), (Below.refl _ _).alloc (Nat.le_refl _) _⟩
  case round =>
    obtain ⟨k, D, hk, rfl, hown, hs, hg, hb⟩ := hrel
    have HS := Lib.hid hs
    have HG := Lib.hid hg
    have HB := Lib.hid hb
    clear hs hg hb
    by_cases hlt : k < ps.length
    · have hp := H.out.below HB.out (Nat.le_refl _)
      obtain ⟨rfl, -⟩ := hp.ptr (by omega)
      have c0 := hp.cell0 k hlt
      have c1 := hp.cell1 k hlt
      have hwf := hp.wf k
      clear hp
      have hwx : (kl (pf ps k)).wf = true := by unfold kl; exact WalkArith.wf_i64 (by omega)
      have hwc : (Lit.int .i64 (pv ps k)).wf = true := WalkArith.wf_i64 (by omega)
      have hkey := keyOf_int_mk Try.underlying3 hwx
      have HK := Lib.hid hkey
      have HWX := Lib.hid hwx
      have HWC := Lib.hid hwc
      clear hkey hwx hwc
      have hV1 := isVariable_any (pf ps k) n
      have hV2 := isValue_any (pv ps k)
      cases e1 : (lookTo ps k (pf ps k)).isSome
      · have hh : Maps.has D (.int .i64 (pf ps k)) = false := by rw [← e1]; exact (HS.out _ HWX.out).1
        have hnd : ∀ j, j < k → pf ps j ≠ pf ps k := lookTo_none.1 (by simpa using e1)
        have HND := Lib.hid hnd
        clear e1 hnd
        cases e2 : isVar (pf ps k) n
        · rw [e2] at hV1
          have HF := Lib.hid (show okFacts ps n = false from decide_eq_false (fun q => by have := (q k hlt).1; simp [isVar] at e2; omega))
          have HV1 := Lib.hid hV1
          clear hV1 hV2 e2
          go_wp2
          go_quiet (fail)
          go_wp2_with (first
            | (at_lookup; refine wpList_lookup_own_ok_int _ rfl _ _ 85 rfl 3 3 .i64 law3 Try.underlying85 Try.underlying3 (zero3 _) w.heap.size k D rfl (by exact hown.alloc _) _ _ rfl HK.out ?_; intro c hat hwc)
            | (go_at_call 58; refine (HV1.out _).mono ?_; rintro e w' ⟨rfl, rfl⟩))
          go_ret2
          exact ⟨⟨none, ret_t2 rfl (congrArg Value.bool HF.out.symm), fun h => absurd (HF.out.symm.trans h) (by decide)⟩, below_drewN (HB.out.alloc HB.out.size _) _⟩
        · rw [e2] at hV1
          have HV1 := Lib.hid hV1
          have HE2 := Lib.hid e2
          clear hV1 e2
          cases e3 : isVal (pv ps k)
          · rw [e3] at hV2
            have HF := Lib.hid (show okFacts ps n = false from decide_eq_false (fun q => by have := (q k hlt).2.1; simp [isVal] at e3; omega))
            have HV2 := Lib.hid hV2
            clear hV2 e3
            go_wp2
            go_quiet (fail)
            go_wp2_with (first
              | (at_lookup; refine wpList_lookup_own_ok_int _ rfl _ _ 85 rfl 3 3 .i64 law3 Try.underlying85 Try.underlying3 (zero3 _) w.heap.size k D rfl (by exact hown.alloc _) _ _ rfl HK.out ?_; intro c hat hwc)
              | (go_at_call 58; refine (HV1.out _).mono ?_; rintro e w' ⟨rfl, rfl⟩) | (go_at_call 66; refine (HV2.out _).mono ?_; rintro e w' ⟨rfl, rfl⟩))
            go_ret2
            exact ⟨⟨none, ret_t2 rfl (congrArg Value.bool HF.out.symm), fun h => absurd (HF.out.symm.trans h) (by decide)⟩, below_drewN (HB.out.alloc HB.out.size _) _⟩
          · rw [e3] at hV2
            have HV2 := Lib.hid hV2
            have HGP : Hid (goodPair ps n k) := ⟨by have := HE2.out; simp [isVar] at this; omega, by simpa [isVal] using e3, HND.out⟩
            clear hV2 e3
            go_wp2
            go_quiet (fail)
            go_wp2_with (first
              | (at_lookup; refine wpList_lookup_own_ok_int _ rfl _ _ 85 rfl 3 3 .i64 law3 Try.underlying85 Try.underlying3 (zero3 _) w.heap.size k D rfl (by exact hown.alloc _) _ _ rfl HK.out ?_; intro c hat hwc)
              | (go_at_call 58; refine (HV1.out _).mono ?_; rintro e w' ⟨rfl, rfl⟩) | (go_at_call 66; refine (HV2.out _).mono ?_; rintro e w' ⟨rfl, rfl⟩)
              | (at_mapUpdate; refine wpList_mapUpdate_own _ rfl _ _ _ 85 rfl 3 3 law3 Try.underlying85 _ w.heap.size k D rfl (by exact hown.alloc _) (by unfold maxLen; omega) _ _ _ rfl rfl HK.out _ [] (plainElem_int Try.underlying3 HWC.out) ?_; intro w2 hown2 hg2; go_frame))
            go_roundw
            case rel =>
              refine ⟨k + 1, _, by omega, by go_num, hown2, ?_, fun i hi => ?_, (below_drewN (HB.out.alloc HB.out.size _) _).grown hg2 (by have := HB.out.size; simp; omega) (fun j hj => by have := Option.some.inj hj; omega)⟩
              · exact HS.out.put hown.isMap _ _
              · by_cases e : i = k
                · subst e; exact HGP.out
                · exact HG.out i (by omega)
            case measure => simp [intOf]; omega
      · have hh : Maps.has D (.int .i64 (pf ps k)) = true := by rw [← e1]; exact (HS.out _ HWX.out).1
        have HF := Lib.hid (show okFacts ps n = false from decide_eq_false (fun q => by
          have h1 := (q k hlt).2.2
          rw [lookTo_none.2 h1] at e1; cases e1))
        clear e1 hV1 hV2
        go_wp2
        go_quiet (fail)
        go_wp2_with (first
          | (at_lookup; refine wpList_lookup_own_ok_int _ rfl _ _ 85 rfl 3 3 .i64 law3 Try.underlying85 Try.underlying3 (zero3 _) w.heap.size k D rfl (by exact hown.alloc _) _ _ rfl HK.out ?_; intro c hat hwc))
        go_ret2
        exact ⟨⟨none, ret_t2 rfl (congrArg Value.bool HF.out.symm), fun h => absurd (HF.out.symm.trans h) (by decide)⟩, below_drewN (HB.out.alloc HB.out.size _) _⟩
    · have hT : okFacts ps n = true := decide_eq_true (fun i hi => HG.out i (by omega))
      have HT := Lib.hid hT
      have ek : k = ps.length := by omega
      have HK := Lib.hid ek
      clear hT ek
      go_wp2
      go_ret2
      exact ⟨⟨some w.heap.size, ret_t2 rfl (congrArg Value.bool HT.out.symm), fun _ => ⟨_, rfl, ⟨k, D, hown, by omega, by rw [look, ← HK.out]; exact HS.out⟩⟩⟩, HB.out⟩

end Go.Proofs.Ytghffnjnpgiicaa

/- The weight of facts. -/
namespace Go.Proofs.Ytghffnjnpgiicaa
open Go.RowKit Go.Maps

/-- The weight of those of the first k assignments that agree with the facts. -/
def fwTo (P T : List (List Int)) (φ : Int → Option Int) : Nat → Int
  | 0 => 0
  | k + 1 => fwTo P T φ k + if agr φ (bitv P.length k) = true then wt P T (bitv P.length k) P.length else 0
def fw (P T : List (List Int)) (φ : Int → Option Int) : Int := fwTo P T φ (2 ^ P.length)

theorem fwTo_bd {P T : List (List Int)} {φ : Int → Option Int} (h : IsNet P T) (k : Nat) : 0 ≤ fwTo P T φ k ∧ fwTo P T φ k ≤ k * 1099511627776 := by
  induction k with
  | zero => simp [fwTo]
  | succ k ih =>
    have := wt_le h (bitv_Bits P.length k) P.length (Nat.le_refl _)
    simp only [fwTo]
    split <;> omega

theorem two_pow_le {n : Nat} (h : n ≤ 10) : 2 ^ n ≤ 1024 := by have := Nat.pow_le_pow_right (n := 2) (by omega) h; simpa using this

set_option maxHeartbeats 2000000 in
set_option maxRecDepth 100000 in
theorem factsWeight_any {N : Nat} (P T : List (List Int)) (v : Value) (g : Nat) (φ : Int → Option Int) (w : World) (h : NetAt w v P T) (hn : IsNet P T) (hf : FactsAt N w g φ) (hd : Dom φ) :
    Calls Try.prog 52 #[v, .map (some g)] w fun e w' => e = .returned (.int .i64 (fw P T φ)) ∧ Below w.heap.size w w' := by
  have HN := Lib.hid hn
  have HF := Lib.hid hf
  have HD := Lib.hid hd
  obtain ⟨pa, b, o, pc, A, B, O, C, ta, b', o', tc, A', B', O', C', rfl, hP, hT⟩ := h.ex
  have h10 := hn.le
  rw [hn.tab] at h ⊢
  have HNet := Lib.hid h
  have h2 := two_pow_le h10
  obtain ⟨m, hm⟩ : ∃ m : Nat, m = 2 ^ P.length := ⟨_, rfl⟩
  rw [← hm] at h2
  have HM := Lib.hid hm
  have hA := assignments_any P.length
  have HA := Lib.hid hA
  clear hP hT h hn hf hd hm hA
  go_enter Try.func52, Try.ntmps52
  go_wp2_with (go_at_call 73; refine (HA.out _ (by omega)).mono ?_; rw [← HM.out]; rintro e w' ⟨rfl, rfl⟩)
  go_loopw [6, 7, 8, 14] (fun s _ _ i wr => ∃ k : Nat, k ≤ m ∧ i = .int .i64 k ∧ s = .int .i64 (fwTo P T φ k) ∧ Below (w.heap.size + 1) (w.alloc (.cells #[.slice pa P.length pc, .slice ta P.length tc] 24)) wr) (fun _ _ _ i _ => m - (intOf i).toNat)
  case atStart => exact ⟨0, by omega, rfl, rfl, Below.refl _ _⟩
  case round =>
    obtain ⟨k, hk, rfl, rfl, hb⟩ := hrel
    have HB := Lib.hid hb
    have hbd := fwTo_bd (φ := φ) HN.out k
    clear hb
    by_cases hlt : k < m
    · go_wp2_with fail
      refine (assignmentAt_any k P.length _ h10 (by omega)).mono ?_
      rintro e w1 ⟨rfl, hb1⟩
      have HB1 := Lib.hid hb1
      clear hb1
      obtain ⟨W, hW⟩ : ∃ W, W = (w1.alloc (Obj.cells #[.int .i64 0, .int .i64 0, .int .i64 0, .int .i64 0, .int .i64 0, .int .i64 0, .int .i64 0, .int .i64 0, .int .i64 0, .int .i64 0] 78)).setRow w1.heap.size (arrC (bitv P.length k)) := ⟨_, rfl⟩
      have hWb : Below w1.heap.size w1 W := by rw [hW]; exact below_setRow ((Below.refl _ _).alloc (Nat.le_refl _) _) (Nat.le_refl _) _
      have hWr : W.heap[w1.heap.size]? = some (.cells (arrC (bitv P.length k)) 78 (0, 0)) := by rw [hW]; exact setRow_heap _ _ _ _ _ _ (heap_alloc_new _ _)
      have HW := Lib.hid hW
      have HWB := Lib.hid hWb
      have HWR := Lib.hid hWr
      clear hW hWb hWr
      have s0 := HB.out.size
      have s1 := HB1.out.size
      have s2 := HWB.out.size
      simp only [World.size_alloc] at s0
      have hbW : Below (w.heap.size + 1) (w.alloc (.cells #[.slice pa P.length pc, .slice ta P.length tc] 24)) W := (HB.out.trans (HB1.out.mono s0)).trans (HWB.out.mono (by omega))
      have HBW := Lib.hid hbW
      obtain ⟨x0, x1⟩ := box2 hbW
      have hfW := (HF.out.below ((Below.refl _ _).alloc (Nat.le_refl _) _) (Nat.le_refl _)).below hbW (by simp)
      have hA2 := agree_any g φ (bitv P.length k) W hfW HD.out
      have hwt := wt_le HN.out (bitv_Bits P.length k) P.length (Nat.le_refl _)
      clear hbW
      cases e : agr φ (bitv P.length k)
      · rw [e] at hA2
        have HA2 := Lib.hid hA2
        have HS := Lib.hid (show fwTo P T φ (k + 1) = fwTo P T φ k by simp [fwTo, e])
        clear hA2 e x0 x1
        go_wp2_with (first
          | (refine wpList_store_row rfl 78 (.tmp 8) (.tmp 19) rfl w1.heap.size _ rfl rfl 78 _ (heap_alloc_new _ _) (by kernel_rfl) rfl (arrC_all _) ?_; rw [← HW.out])
          | (refine wpList_load_row rfl 78 (.tmp 8) rfl w1.heap.size rfl 78 _ _ _ HWR.out Try.underlying78 rfl (by kernel_rfl) ?_)
          | (go_at_call 75; refine HA2.out.mono ?_; rintro e w3 ⟨rfl, hb3⟩; have HB3 := Lib.hid hb3; clear hb3))
        go_roundw
        case rel => exact ⟨k + 1, by omega, by go_num, by rw [HS.out], HBW.out.trans (HB3.out.mono (by omega))⟩
        case measure => simp [intOf]; omega
      · rw [e] at hA2
        have HA2 := Lib.hid hA2
        have HS := Lib.hid (show fwTo P T φ (k + 1) = fwTo P T φ k + wt P T (bitv P.length k) P.length by simp [fwTo, e])
        clear hA2 e x0 x1
        go_wp2_with (first
          | (refine wpList_store_row rfl 78 (.tmp 8) (.tmp 19) rfl w1.heap.size _ rfl rfl 78 _ (heap_alloc_new _ _) (by kernel_rfl) rfl (arrC_all _) ?_; rw [← HW.out])
          | (refine wpList_load_row rfl 78 (.tmp 8) rfl w1.heap.size rfl 78 _ _ _ HWR.out Try.underlying78 rfl (by kernel_rfl) ?_)
          | (refine wpList_load_row rfl 78 (.tmp 8) rfl w1.heap.size rfl 78 _ _ _ HR3.out Try.underlying78 rfl (by kernel_rfl) ?_)
          | (go_at_call 75; refine HA2.out.mono ?_; rintro e w3 ⟨rfl, hb3⟩; obtain ⟨y0, y1⟩ := box2 (HBW.out.trans (hb3.mono (by omega))); have HR3 := Lib.hid ((hb3.block _ (lt_of_block HWR.out)).trans HWR.out); have HB3 := Lib.hid hb3; clear hb3)
          | (go_at_call 48; refine (weight_any P T _ (bitv P.length k) _ (((HNet.out.alloc _).below (HBW.out.trans (HB3.out.mono (by omega))) (by simp))) HN.out (bitv_Bits _ _)).mono ?_; rintro e w4 ⟨rfl, hb4⟩; have HB4 := Lib.hid hb4; clear hb4))
        have s3 := HB3.out.size
        go_roundw
        case rel => exact ⟨k + 1, by omega, by go_num, by rw [HS.out], (HBW.out.trans (HB3.out.mono (by omega))).trans (HB4.out.mono (by omega))⟩
        case measure => simp [intOf]; omega
    · go_wp2
      go_ret
      have e : k = 2 ^ P.length := by have := HM.out; omega
      exact ⟨ret_int (by rw [fw, ← e]), ((Below.refl _ _).alloc (Nat.le_refl _) _).trans (HB.out.mono (by omega))⟩

end Go.Proofs.Ytghffnjnpgiicaa

/- Facts joined. -/
namespace Go.Proofs.Ytghffnjnpgiicaa
open Go.RowKit Go.Maps

/-- The facts can hold at once. -/
def cmp (φ ψ : Int → Option Int) : Bool := decide (∀ v : Nat, v < 10 → φ (v : Int) = none ∨ ψ (v : Int) = none ∨ φ (v : Int) = ψ (v : Int))
def union (φ ψ : Int → Option Int) : Int → Option Int := fun x => match ψ x with | some c => some c | none => φ x

theorem dom_union {φ ψ : Int → Option Int} (h1 : Dom φ) (h2 : Dom ψ) : Dom (union φ ψ) := by
  intro x c h
  unfold union at h
  cases e : ψ x with
  | none => rw [e] at h; exact h1 x c h
  | some d => exact h2 x d e

/-- While a map is copied: those that have come. -/
def cameOf (φ : Int → Option Int) (left : Lit → Bool) : Int → Option Int := fun x => if left (kl x) = true then none else φ x
/-- While a map is laid over another: those that have come, over the other's. -/
def overOf (φ ψ : Int → Option Int) (left : Lit → Bool) : Int → Option Int := fun x => if left (kl x) = true then φ x else match ψ x with | some c => some c | none => φ x

theorem kl_ne {x y : Int} (h : y ≠ x) : (kl y).sameKey (.int .i64 x) = false := Maps.sameKey_ne (by unfold kl; intro q; exact h (by simpa using q))
theorem kl_eq {x : Int} : (kl x).sameKey (.int .i64 x) = true := by unfold kl; simp [Lit.sameKey]

theorem Says.congr {D : DataW Unit} {φ ψ : Int → Option Int} (h : Says D φ) (e : ∀ x, (kl x).wf = true → φ x = ψ x) : Says D ψ := by
  intro x hx
  rw [← e x hx]; exact h x hx

/-- What an entry that comes says. -/
theorem says_entry {D : DataW Unit} {φ : Int → Option Int} (h : Says D φ) {x c : Int} (hx : (Lit.int .i64 x).wf = true) (hh : Maps.has D (.int .i64 x) = true) (hat : ∀ zd, D.atKey (.int .i64 x) zd = .lit (.int .i64 c)) : φ x = some c := by
  have hsx := h x hx
  have hsome : (φ x).isSome = true := by rw [← hsx.1]; exact hh
  obtain ⟨c', hc'⟩ := Option.isSome_iff_exists.1 hsome
  have h1 := hsx.2 c' hc' (.lit (.int .i64 0))
  have h2 := hat (.lit (.int .i64 0))
  unfold kl at h1
  rw [h2] at h1
  rw [hc']; simpa using h1.symm

theorem left_strike {left : Lit → Bool} {x y : Int} : ((left (kl y) && !(kl y).sameKey (.int .i64 x)) = true) ↔ (left (kl y) = true ∧ y ≠ x) := by
  constructor
  · intro h
    simp only [Bool.and_eq_true, Bool.not_eq_true'] at h
    exact ⟨h.1, fun e => by subst e; rw [kl_eq] at h; exact absurd h.2 (by simp)⟩
  · intro h; rw [h.1, kl_ne h.2]; rfl

theorem lookup_val {D : DataW Unit} {x c c2 : Int} (h : D.atKey (.int .i64 x) (.lit (.int .i64 0)) = .lit (.int .i64 c2)) (h' : D.atKey (kl x) (.lit (.int .i64 0)) = .lit (.int .i64 c)) : c2 = c := by
  unfold kl at h'
  rw [h] at h'
  simpa using h'

theorem ownsMap_below {M : Nat} {w w' : World} {g n : Nat} {D : DataW Unit} (h : w.ownsMap Try.prog 3 (plainElem Try.prog 3) g n D) (hb : Below M w w') (hM : w.heap.size ≤ M) : w'.ownsMap Try.prog 3 (plainElem Try.prog 3) g n D := by
  have hlt := h.lt
  obtain ⟨es, clock, hb', r⟩ := h
  exact ⟨es, clock, (hb.block g (by omega)).trans hb', r⟩

set_option maxHeartbeats 4000000 in
set_option maxRecDepth 100000 in
theorem join_any (g1 g2 : Nat) (φ ψ : Int → Option Int) (w : World) (h1 : FactsAt 1000 w g1 φ) (h2 : FactsAt 1000 w g2 ψ) (d1 : Dom φ) (d2 : Dom ψ) :
    Calls Try.prog 53 #[.map (some g1), .map (some g2)] w fun e w' =>
      (∃ mo, e = .returned (.tuple #[.map mo, .bool (cmp φ ψ)]) ∧ (cmp φ ψ = true → ∃ g, mo = some g ∧ FactsAt 2000 w' g (union φ ψ))) ∧ Below w.heap.size w w' := by
  have hmm := @run_makeMap Try.prog
  obtain ⟨n1, D1, hown1, hn1, hs1⟩ := h1.ex
  obtain ⟨n2, D2, hown2, hn2, hs2⟩ := h2.ex
  have hlt1 := hown1.lt
  have hlt2 := hown2.lt
  have e1 : (w.alloc (.map #[] 0)).heap.size = w.heap.size + 1 := by simp
  have HS1 := Lib.hid hs1
  have HS2 := Lib.hid hs2
  have HD1 := Lib.hid d1
  have HD2 := Lib.hid d2
  have HO2 := Lib.hid hown2
  have hz1 := hown1.size_le
  have hz2 := hown2.size_le
  clear h1 h2 hs1 hs2 d1 d2 hown2
  go_enter Try.func53, Try.ntmps53
  go_wp2_with (first
    | (at_range; refine wpList_range_own _ rfl _ 85 rfl 3 3 law3 Try.underlying85 _ g1 n1 D1 rfl (hown1.alloc _) ?_; intro w0 hrg0 hg0 hs0)
    | go_in)
  go_frame
  rw [e1] at hrg0 hs0 ⊢
  have hb0 : Below w.heap.size w w0 := ((Below.refl _ _).alloc (Nat.le_refl _) _).grown hg0 (by simp) (fun j hj => by cases hj)
  have HB0 := Lib.hid hb0
  have HM0 : Hid (w0.ownsMap (H := Unit) Try.prog 3 (plainElem Try.prog 3) w.heap.size 0 (.map [])) := (World.ownsMap_made _ _ _ _).kept hg0 (by simp)
  clear hb0 hg0 hs0 hmm
  go_loopw [16, 17] (fun _ _ wr => ∃ (left : Lit → Bool) (cnt : Nat) (Do : DataW Unit), wr.ranges Try.prog 3 (plainElem Try.prog 3) g1 (w.heap.size + 1) n1 D1 left cnt ∧ cnt ≤ Maps.size D1 ∧ (∀ k, left k = true → Maps.has D1 k = true) ∧
      wr.ownsMap Try.prog 3 (plainElem Try.prog 3) w.heap.size (Maps.size D1 - cnt) Do ∧ Says Do (cameOf φ left) ∧ Below w.heap.size w wr) (fun _ _ wr => wr.rangeLeft g1 (w.heap.size + 1))
  case atStart =>
    refine ⟨_, _, .map [], hrg0, Nat.le_refl _, fun k h => h, HM0.out.mono (Nat.zero_le _), says_empty.congr fun x hx => ?_, HB0.out⟩
    unfold cameOf
    by_cases e : Maps.has D1 (kl x) = true
    · rw [if_pos e]
    · rw [if_neg e]
      have := (HS1.out x hx).1
      cases h : φ x with
      | none => rfl
      | some c => rw [h] at this; exact absurd this e
  case round =>
    obtain ⟨left, cnt, Do, hrg, hcs, hle, hout, hsay, hbl⟩ := hrel
    have HLE := Lib.hid hle
    have HSAY := Lib.hid hsay
    have HBL := Lib.hid hbl
    clear hle hsay hbl
    go_wp2_with (first
      | (at_next; refine wpList_next_ranges_ii _ rfl _ rfl 3 3 .i64 .i64 law3 Try.underlying3 Try.underlying3 g1 (w.heap.size + 1) n1 _ _ _ rfl hrg ?_ ?_)
      | go_in)
    · intro hc0 hl0
      have HSD := Lib.hid (HSAY.out.congr (ψ := φ) fun x _ => by unfold cameOf; rw [if_neg (by rw [hl0]; decide)])
      clear hl0
      have hw2 := ownsMap_below HO2.out HBL.out (Nat.le_refl _)
      have hsz := HBL.out.size
      have hol := hout.lt
      obtain ⟨wo, rfl⟩ : ∃ wo : World, wo = wr := ⟨_, rfl⟩
      go_wp2_with (first
        | (at_range; refine wpList_range_own _ rfl _ 85 rfl 3 3 law3 Try.underlying85 _ g2 n2 D2 rfl hw2 ?_; intro w0 hrg0 hg0 hs0)
        | go_in)
      go_frame
      have hb0 : Below w.heap.size w w0 := HBL.out.grown hg0 hsz (fun j hj => by cases hj)
      have HB0 := Lib.hid hb0
      have HM0 := Lib.hid (hout.kept hg0 (by simp))
      clear hb0 hg0 hs0 hout
      subst hc0
      go_loopw [26, 27] (fun _ _ wr => ∃ (left : Lit → Bool) (cnt : Nat) (Do : DataW Unit), wr.ranges Try.prog 3 (plainElem Try.prog 3) g2 wo.heap.size n2 D2 left cnt ∧ cnt ≤ Maps.size D2 ∧ (∀ k, left k = true → Maps.has D2 k = true) ∧
          wr.ownsMap Try.prog 3 (plainElem Try.prog 3) w.heap.size (Maps.size D1 + (Maps.size D2 - cnt)) Do ∧ Says Do (overOf φ ψ left) ∧ (∀ x c, ψ x = some c → left (kl x) = false → φ x = none ∨ φ x = some c) ∧ Below w.heap.size w wr) (fun _ _ wr => wr.rangeLeft g2 wo.heap.size)
      case atStart =>
        refine ⟨_, _, Do, hrg0, Nat.le_refl _, fun k h => h, HM0.out.mono (by omega), HSD.out.congr fun x hx => ?_, fun x c hx hl => ?_, HB0.out⟩
        · unfold overOf
          by_cases e : Maps.has D2 (kl x) = true
          · rw [if_pos e]
          · rw [if_neg e]
            have := (HS2.out x hx).1
            cases h : ψ x with
            | none => rfl
            | some c => rw [h] at this; exact absurd this e
        · obtain ⟨h0, h10⟩ := HD2.out x c hx
          have := (HS2.out x (by unfold kl; exact WalkArith.wf_i64 (by omega))).1
          rw [hx, hl] at this
          exact absurd this (by simp)
      case round =>
        obtain ⟨left, cnt, Do, hrg, hcs2, hle, hout, hsay, hcmp, hbl⟩ := hrel
        clear HLE HSAY HBL HM0 HB0 hrg0 HSD
        have HLE := Lib.hid hle
        have HSAY := Lib.hid hsay
        have HBL := Lib.hid hbl
        have HCMP := Lib.hid hcmp
        clear hle hsay hbl hcmp
        go_wp2_with (first
          | (at_next; refine wpList_next_ranges_ii _ rfl _ rfl 3 3 .i64 .i64 law3 Try.underlying3 Try.underlying3 g2 wo.heap.size n2 _ _ _ rfl hrg ?_ ?_)
          | go_in)
        · intro hc0 hl0
          have HSD := Lib.hid (HSAY.out.congr (ψ := union φ ψ) fun x _ => by unfold overOf union; rw [if_neg (by rw [hl0]; decide)])
          have hT : cmp φ ψ = true := decide_eq_true (fun v hv => by
            cases e : ψ (v : Int) with
            | none => exact .inr (.inl rfl)
            | some c => rcases HCMP.out _ c e (hl0 _) with h | h
                        · exact .inl h
                        · exact .inr (.inr h))
          have HT := Lib.hid hT
          clear hl0 hT
          go_wp2
          go_ret2
          exact ⟨⟨some w.heap.size, ret_t2 rfl (congrArg Value.bool HT.out.symm), fun _ => ⟨_, rfl, ⟨_, Do, hout, by omega, HSD.out⟩⟩⟩, HBL.out⟩
        · intro x c w1 cnt1 hwx hwc hlx hat hrg1 hlt1 hg1 hs1 hen
          have hpsi := says_entry HS2.out hwx (HLE.out _ hlx) hat
          have hout1 := hout.kept hg1 (by simp; omega)
          have hwlt := hout.lt
          have hhas := HSAY.out x hwx
          have eo : overOf φ ψ left x = φ x := by unfold overOf; rw [if_pos (by exact hlx)]
          rw [eo] at hhas
          have HC := Lib.hid hpsi
          obtain ⟨h0, h10⟩ := HD2.out x c hpsi
          have HLX := Lib.hid hlx
          have HB1 := Lib.hid (HBL.out.grown hg1 HBL.out.size (fun j hj => by have := Option.some.inj hj; omega))
          clear hat hlx eo hpsi
          cases e : φ x with
          | none =>
            rw [e] at hhas
            have hh : Maps.has Do (.int .i64 x) = false := hhas.1
            have HE := Lib.hid e
            clear hhas e
            go_wp2_with (first
              | (at_lookup; refine wpList_lookup_own_ok_int _ rfl _ _ 85 rfl 3 3 .i64 law3 Try.underlying85 Try.underlying3 (zero3 _) w.heap.size _ _ rfl hout1 _ _ rfl (keyOf_int_mk Try.underlying3 hwx) ?_; intro c2 hat2 hwc2)
              | (at_mapUpdate; refine wpList_mapUpdate_own _ rfl _ _ _ 85 rfl 3 3 law3 Try.underlying85 _ w.heap.size _ _ rfl hout1 (by unfold maxLen; omega) _ _ _ rfl rfl (keyOf_int_mk Try.underlying3 hwx) _ [] (plainElem_int Try.underlying3 hwc) ?_; intro w2 hout2 hg2; go_frame)
              | go_in)
            have hrg2 := hrg1.kept hg2 (fun e => by have := Option.some.inj e; omega) (fun e => by have := Option.some.inj e; omega)
            go_roundw
            case rel =>
              refine ⟨_, cnt1, _, hrg2, by omega, fun k hk => HLE.out k (by simp at hk; exact hk.1), hout2.mono (by omega), (HSAY.out.put hout.isMap x c).congr fun y hy => ?_, fun y d hy hl => ?_, HB1.out.grown hg2 (by have := HB1.out.size; omega) (fun j hj => by have := Option.some.inj hj; omega)⟩
              · unfold overOf
                by_cases e : y = x
                · subst e; rw [if_pos rfl, if_neg (fun h => (left_strike.1 h).2 rfl), HC.out]
                · rw [if_neg e]
                  by_cases e2 : left (kl y) = true
                  · rw [if_pos e2, if_pos (left_strike.2 ⟨e2, e⟩)]
                  · rw [if_neg e2, if_neg (fun h => e2 (left_strike.1 h).1)]
              · by_cases e : y = x
                · subst e; exact .inl HE.out
                · refine HCMP.out y d hy ?_
                  cases h : left (kl y)
                  · rfl
                  · exact absurd (left_strike.2 ⟨h, e⟩) (by simp only [Bool.not_eq_true]; exact hl)
            case measure => rw [hrg2.left_eq, hrg.left_eq]; exact hlt1
          | some c0 =>
            rw [e] at hhas
            have hh : Maps.has Do (.int .i64 x) = true := hhas.1
            have hatk := hhas.2 c0 rfl (.lit (.int .i64 0))
            have HE := Lib.hid e
            clear hhas e
            by_cases ec : c0 = c
            · subst ec
              go_wp2_with (first
                | (at_lookup; refine wpList_lookup_own_ok_int _ rfl _ _ 85 rfl 3 3 .i64 law3 Try.underlying85 Try.underlying3 (zero3 _) w.heap.size _ _ rfl hout1 _ _ rfl (keyOf_int_mk Try.underlying3 hwx) ?_; intro c2 hat2 hwc2; obtain rfl := lookup_val hat2 hatk)
                | (at_mapUpdate; refine wpList_mapUpdate_own _ rfl _ _ _ 85 rfl 3 3 law3 Try.underlying85 _ w.heap.size _ _ rfl hout1 (by unfold maxLen; omega) _ _ _ rfl rfl (keyOf_int_mk Try.underlying3 hwx) _ [] (plainElem_int Try.underlying3 hwc) ?_; intro w2 hout2 hg2; go_frame)
                | go_in)
              have hrg2 := hrg1.kept hg2 (fun e => by have := Option.some.inj e; omega) (fun e => by have := Option.some.inj e; omega)
              go_roundw
              case rel =>
                refine ⟨_, cnt1, _, hrg2, by omega, fun k hk => HLE.out k (by simp at hk; exact hk.1), hout2.mono (by omega), (HSAY.out.put hout.isMap x _).congr fun y hy => ?_, fun y d hy hl => ?_, HB1.out.grown hg2 (by have := HB1.out.size; omega) (fun j hj => by have := Option.some.inj hj; omega)⟩
                · unfold overOf
                  by_cases e : y = x
                  · subst e; rw [if_pos rfl, if_neg (fun h => (left_strike.1 h).2 rfl), HC.out]
                  · rw [if_neg e]
                    by_cases e2 : left (kl y) = true
                    · rw [if_pos e2, if_pos (left_strike.2 ⟨e2, e⟩)]
                    · rw [if_neg e2, if_neg (fun h => e2 (left_strike.1 h).1)]
                · by_cases e : y = x
                  · subst e; have := HC.out; rw [hy] at this; right; rw [HE.out]; exact this.symm
                  · refine HCMP.out y d hy ?_
                    cases h : left (kl y)
                    · rfl
                    · exact absurd (left_strike.2 ⟨h, e⟩) (by simp only [Bool.not_eq_true]; exact hl)
              case measure => rw [hrg2.left_eq, hrg.left_eq]; exact hlt1
            · have hne : (c0 != c) = true := by rw [bne_iff_ne]; exact ec
              have HF := Lib.hid (show cmp φ ψ = false from decide_eq_false (fun q => by
                obtain ⟨v, rfl⟩ := Int.eq_ofNat_of_zero_le h0
                rcases q v (by omega) with h | h | h
                · rw [HE.out] at h; cases h
                · rw [HC.out] at h; cases h
                · rw [HE.out, HC.out] at h; exact ec (Option.some.inj h)))
              clear ec
              go_wp2_with (first
                | (at_lookup; refine wpList_lookup_own_ok_int _ rfl _ _ 85 rfl 3 3 .i64 law3 Try.underlying85 Try.underlying3 (zero3 _) w.heap.size _ _ rfl hout1 _ _ rfl (keyOf_int_mk Try.underlying3 hwx) ?_; intro c2 hat2 hwc2; obtain rfl := lookup_val hat2 hatk)
                | go_in)
              go_ret2
              exact ⟨⟨none, ret_t2 rfl (congrArg Value.bool HF.out.symm), fun h => absurd (HF.out.symm.trans h) (by decide)⟩, HB1.out⟩
    · intro x c w1 cnt1 hwx hwc hlx hat hrg1 hlt1 hg1 hs1 hen
      have HC := Lib.hid (says_entry HS1.out hwx (HLE.out _ hlx) hat)
      have hout1 := hout.kept hg1 (by simp)
      have hwlt := hout.lt
      have HLX := Lib.hid hlx
      clear hat hlx
      go_wp2_with (first
        | (at_mapUpdate; refine wpList_mapUpdate_own _ rfl _ _ _ 85 rfl 3 3 law3 Try.underlying85 _ w.heap.size _ _ rfl hout1 (by unfold maxLen; omega) _ _ _ rfl rfl (keyOf_int_mk Try.underlying3 hwx) _ [] (plainElem_int Try.underlying3 hwc) ?_; intro w2 hout2 hg2; go_frame)
        | go_in)
      have hrg2 := hrg1.kept hg2 (fun e => by have := Option.some.inj e; omega) (fun e => by have := Option.some.inj e; omega)
      go_roundw
      case rel =>
        refine ⟨_, cnt1, _, hrg2, by omega, fun k hk => HLE.out k (by simp at hk; exact hk.1), hout2.mono (by omega), (HSAY.out.put hout.isMap x c).congr fun y hy => ?_, (HBL.out.grown hg1 HBL.out.size (fun j hj => by have := Option.some.inj hj; omega)).grown hg2 (by have := HBL.out.size; omega) (fun j hj => by have := Option.some.inj hj; omega)⟩
        unfold cameOf
        by_cases e : y = x
        · subst e; rw [if_pos rfl, if_neg (fun h => (left_strike.1 h).2 rfl), HC.out]
        · rw [if_neg e]
          by_cases e2 : left (kl y) = true
          · rw [if_pos e2, if_pos (left_strike.2 ⟨e2, e⟩)]
          · rw [if_neg e2, if_neg (fun h => e2 (left_strike.1 h).1)]
      case measure => rw [hrg2.left_eq, hrg.left_eq]; exact hlt1

end Go.Proofs.Ytghffnjnpgiicaa

/- Chance. -/
namespace Go.Proofs.Ytghffnjnpgiicaa
open Go.RowKit Go.Maps

/-- The results of Chance, for a network. -/
def chV (P T : List (List Int)) (qs gs : List (Int × Int)) : Value :=
  if okFacts qs P.length = true ∧ okFacts gs P.length = true then
    if fw P T (look gs) = 0 then zeroF else if cmp (look qs) (look gs) = true then fracV (fw P T (union (look qs) (look gs))) (fw P T (look gs)) else fracV 0 (fw P T (look gs))
  else zeroF
def chE (P T : List (List Int)) (qs gs : List (Int × Int)) : Int :=
  if okFacts qs P.length = true ∧ okFacts gs P.length = true then if fw P T (look gs) = 0 then 6 else 0 else 2

theorem ch_bad {P T : List (List Int)} {qs gs : List (Int × Int)} (h : okFacts qs P.length = false ∨ okFacts gs P.length = false) : chV P T qs gs = zeroF ∧ chE P T qs gs = 2 := by
  have : ¬ (okFacts qs P.length = true ∧ okFacts gs P.length = true) := fun q => by rcases h with h | h <;> rw [h] at q <;> simp at q
  exact ⟨if_neg this, if_neg this⟩
theorem ch_zero {P T : List (List Int)} {qs gs : List (Int × Int)} (h : okFacts qs P.length = true) (h2 : okFacts gs P.length = true) (hz : fw P T (look gs) = 0) : chV P T qs gs = zeroF ∧ chE P T qs gs = 6 := by
  unfold chV chE
  simp [h, h2, hz]
theorem ch_yes {P T : List (List Int)} {qs gs : List (Int × Int)} (h : okFacts qs P.length = true) (h2 : okFacts gs P.length = true) (hz : ¬ fw P T (look gs) = 0) (h3 : cmp (look qs) (look gs) = true) :
    chV P T qs gs = fracV (fw P T (union (look qs) (look gs))) (fw P T (look gs)) ∧ chE P T qs gs = 0 := by
  unfold chV chE
  simp [h, h2, hz, h3]
theorem ch_not {P T : List (List Int)} {qs gs : List (Int × Int)} (h : okFacts qs P.length = true) (h2 : okFacts gs P.length = true) (hz : ¬ fw P T (look gs) = 0) (h3 : cmp (look qs) (look gs) = false) :
    chV P T qs gs = fracV 0 (fw P T (look gs)) ∧ chE P T qs gs = 0 := by
  unfold chV chE
  simp [h, h2, hz, h3]

theorem Below.thenW {M : Nat} {a b c : World} (h : Below M a b) (k : Below b.heap.size b c) (hM : M ≤ a.heap.size) : Below M a c := h.trans (k.mono (Nat.le_trans hM h.size))

theorem okFacts_good {ps : List (Int × Int)} {n : Nat} (h : okFacts ps n = true) : ∀ i, i < ps.length → goodPair ps n i := of_decide_eq_true h
theorem look_dom {ps : List (Int × Int)} {n : Nat} (h : okFacts ps n = true) (hn : n ≤ 10) : Dom (look ps) := by
  intro x c hx
  obtain ⟨j, hj, rfl, _⟩ := lookTo_some hx
  have := (okFacts_good h j hj).1
  omega

theorem fw_bd {P T : List (List Int)} {φ : Int → Option Int} (h : IsNet P T) : 0 ≤ fw P T φ ∧ fw P T φ ≤ 1125899906842624 := by
  have h1 := fwTo_bd (φ := φ) h (2 ^ P.length)
  have h2 := two_pow_le h.le
  unfold fw
  generalize 2 ^ P.length = m at *
  omega

set_option maxHeartbeats 2000000 in
set_option maxRecDepth 100000 in
theorem chance_noNet (P T : List (List Int)) (v x y : Value) (w : World) (h : NetAt w v P T) (hn : isNet P T = false) :
    Calls Try.prog 22 #[v, x, y] w fun e w' => e = .returned (.tuple #[zeroF, .int .i64 2]) ∧ Below w.heap.size w w' := by
  have HNet := Lib.hid h
  have HN' := Lib.hid hn
  obtain ⟨pa, b, o, pc, A, B, O, C, ta, b', o', tc, A', B', O', C', rfl, hP, hT⟩ := h.ex
  clear hP hT h hn
  go_enter Try.func22, Try.ntmps22
  go_wp2_with fail
  refine (isNetwork_any P T _ _ ((HNet.out.alloc _).alloc _)).mono ?_
  rw [HN'.out]
  rintro e w1 ⟨rfl, hb1⟩
  obtain ⟨k0, k1⟩ := two2 hb1 (by simp)
  obtain ⟨c0, c1, -, -⟩ := cells_of2 k0
  obtain ⟨c2, c3, f2, f3⟩ := cells_of2 k1
  have HB1 := Lib.hid hb1
  have K1 := Lib.hid k1
  clear k0 k1 hb1
  go_wp2_with (refine wpList_store_row rfl 29 (.tmp 6) (.tmp 18) rfl (w.heap.size + 1) _ rfl rfl 29 _ K1.out (by kernel_rfl) rfl (by simp [Value.oneCell']) ?_)
  refine bodyPost_ret (v := .tuple #[zeroF, .int .i64 2]) ?_ rfl ⟨rfl, below_setRow ((((Below.refl _ _).alloc (Nat.le_refl _) _).alloc (by simp) _).trans (HB1.out.mono (by simp; omega))) (by omega) _⟩
  exact results_cell_row2 (ty := 29) (p := 6) (u := 7) rfl _ _ (w.heap.size + 1) 29 _ (0, 0) _ rfl (setRow_heap _ _ _ _ _ _ K1.out) Try.underlying29 rfl (by kernel_rfl)

set_option maxHeartbeats 4000000 in
set_option maxRecDepth 100000 in
theorem chance_net (P T : List (List Int)) (v : Value) (qs gs : List (Int × Int)) (ao : Option Addr) (ab aoff ac : Nat) (bo : Option Addr) (bb boff bc : Nat) (w : World) (h : NetAt w v P T) (hn : isNet P T = true)
    (ha : PairsAt w ao ab aoff qs) (hg : PairsAt w bo bb boff gs) (hla : qs.length ≤ 1000) (hlg : gs.length ≤ 1000) :
    Calls Try.prog 22 #[v, .slice ao qs.length ac, .slice bo gs.length bc] w fun e w' => e = .returned (.tuple #[chV P T qs gs, .int .i64 (chE P T qs gs)]) ∧ Below w.heap.size w w' := by
  have HNet := Lib.hid h
  have HN' := Lib.hid hn
  have HN := Lib.hid (of_decide_eq_true hn : IsNet P T)
  have HA := Lib.hid ha
  have HG := Lib.hid hg
  obtain ⟨pa, b, o, pc, A, B, O, C, ta, b', o', tc, A', B', O', C', rfl, hP, hT⟩ := h.ex
  have h10 := HN.out.le
  clear hP hT h hn ha hg
  have W0n : w.heap.size + 2 ≤ ((w.alloc (.cells #[.slice pa P.length pc, .slice ta T.length tc] 24)).alloc (.cells #[.int .i64 0, .int .i64 0] 29)).heap.size := by simp
  have W0b : Below w.heap.size w ((w.alloc (.cells #[.slice pa P.length pc, .slice ta T.length tc] 24)).alloc (.cells #[.int .i64 0, .int .i64 0] 29)) := ((Below.refl _ _).alloc (Nat.le_refl _) _).alloc (by simp) _
  have HW0n := Lib.hid W0n
  have HW0b := Lib.hid W0b
  clear W0n W0b
  go_enter Try.func22, Try.ntmps22
  go_wp2_with fail
  refine (isNetwork_any P T _ _ ((HNet.out.alloc _).alloc _)).mono ?_
  rw [HN'.out]
  rintro e w1 ⟨rfl, hb1⟩
  have HB1 : Hid (Below (w.heap.size + 2) _ w1) := hb1.mono (by simp)
  obtain ⟨k0, k1⟩ := two2 HB1.out (Nat.le_refl _)
  obtain ⟨c0, c1, -, -⟩ := cells_of2 k0
  clear k0 k1 hb1
  go_wp2_with fail
  refine (toFacts_any qs P.length ao ab aoff ac _ (((HA.out.alloc _).alloc _).below HB1.out (by simp)) h10 hla).mono ?_
  rintro e w2 ⟨⟨mo, rfl, hf1⟩, hb2⟩
  have HB2 := Lib.hid (Below.thenW HB1.out hb2 HW0n.out)
  obtain ⟨k0, k1⟩ := two2 HB2.out (Nat.le_refl _)
  obtain ⟨d0, d1, -, -⟩ := cells_of2 k0
  have HF1 := Lib.hid hf1
  clear k0 k1 hb2 c0 c1 hf1
  go_wp2_with fail
  refine (toFacts_any gs P.length bo bb boff bc _ (((HG.out.alloc _).alloc _).below HB2.out (by simp)) h10 hlg).mono ?_
  rintro e w3 ⟨⟨mo2, rfl, hf2⟩, hb3⟩
  have HB3 := Lib.hid (Below.thenW HB2.out hb3 HW0n.out)
  obtain ⟨k0, k1⟩ := two2 HB3.out (Nat.le_refl _)
  obtain ⟨c0, c1, -, -⟩ := cells_of2 k0
  have K1 := Lib.hid k1
  have HF2 := Lib.hid hf2
  have HB3' := Lib.hid hb3
  clear k0 k1 hb3 d0 d1 hf2
  cases e1 : okFacts qs P.length
  · have HX := Lib.hid (ch_bad (T := T) (gs := gs) (.inl e1))
    clear e1
    go_wp2_with (refine wpList_store_row rfl 29 (.tmp 6) (.tmp 41) rfl (w.heap.size + 1) _ rfl rfl 29 _ K1.out (by kernel_rfl) rfl (by simp [Value.oneCell']) ?_)
    refine bodyPost_ret (v := .tuple #[zeroF, .int .i64 2]) ?_ rfl ⟨by rw [HX.out.1, HX.out.2], below_setRow (HW0b.out.trans (HB3.out.mono (by omega))) (by omega) _⟩
    exact results_cell_row2 (ty := 29) (p := 6) (u := 7) rfl _ _ (w.heap.size + 1) 29 _ (0, 0) _ rfl (setRow_heap _ _ _ _ _ _ K1.out) Try.underlying29 rfl (by kernel_rfl)
  · cases e2 : okFacts gs P.length
    · have HX := Lib.hid (ch_bad (T := T) (qs := qs) (.inr e2))
      clear e1 e2
      go_wp2_with (refine wpList_store_row rfl 29 (.tmp 6) (.tmp 41) rfl (w.heap.size + 1) _ rfl rfl 29 _ K1.out (by kernel_rfl) rfl (by simp [Value.oneCell']) ?_)
      refine bodyPost_ret (v := .tuple #[zeroF, .int .i64 2]) ?_ rfl ⟨by rw [HX.out.1, HX.out.2], below_setRow (HW0b.out.trans (HB3.out.mono (by omega))) (by omega) _⟩
      exact results_cell_row2 (ty := 29) (p := 6) (u := 7) rfl _ _ (w.heap.size + 1) 29 _ (0, 0) _ rfl (setRow_heap _ _ _ _ _ _ K1.out) Try.underlying29 rfl (by kernel_rfl)
    · obtain ⟨g1, rfl, hfa⟩ := HF1.out e1
      obtain ⟨g2, rfl, hfg⟩ := HF2.out e2
      have hd1 := look_dom e1 h10
      have hd2 := look_dom e2 h10
      have HFA := Lib.hid (hfa.below HB3'.out (Nat.le_refl _))
      have HFG := Lib.hid hfg
      have HD1 := Lib.hid hd1
      have HD2 := Lib.hid hd2
      have hbd := fw_bd (φ := look gs) HN.out
      have hbd2 := fw_bd (φ := union (look qs) (look gs)) HN.out
      have E1 := Lib.hid e1
      have E2 := Lib.hid e2
      clear hfa hfg hd1 hd2 e1 e2
      go_wp2_with fail
      refine (factsWeight_any P T _ g2 (look gs) _ (((HNet.out.alloc _).alloc _).below HB3.out (by simp)) HN.out HFG.out HD2.out).mono ?_
      rintro e w4 ⟨rfl, hb4⟩
      have HB4 := Lib.hid (Below.thenW HB3.out hb4 HW0n.out)
      obtain ⟨k0, k1⟩ := two2 HB4.out (Nat.le_refl _)
      obtain ⟨d0, d1, -, -⟩ := cells_of2 k0
      have K4 := Lib.hid k1
      have HFA4 := Lib.hid (HFA.out.below hb4 (Nat.le_refl _))
      have HFG4 := Lib.hid (HFG.out.below hb4 (Nat.le_refl _))
      clear k0 k1 hb4 c0 c1
      by_cases hz : fw P T (look gs) = 0
      · have HX := Lib.hid (ch_zero E1.out E2.out hz)
        go_wp2_with (refine wpList_store_row rfl 29 (.tmp 6) (.tmp 47) rfl (w.heap.size + 1) _ rfl rfl 29 _ K4.out (by kernel_rfl) rfl (by simp [Value.oneCell']) ?_)
        refine bodyPost_ret (v := .tuple #[zeroF, .int .i64 6]) ?_ rfl ⟨by rw [HX.out.1, HX.out.2], below_setRow (HW0b.out.trans (HB4.out.mono (by omega))) (by omega) _⟩
        exact results_cell_row2 (ty := 29) (p := 6) (u := 7) rfl _ _ (w.heap.size + 1) 29 _ (0, 0) _ rfl (setRow_heap _ _ _ _ _ _ K4.out) Try.underlying29 rfl (by kernel_rfl)
      · have hz0 : (fw P T (look gs) == 0) = false := by rw [beq_eq_false_iff_ne]; exact hz
        have HZ := Lib.hid hz
        have hpos : 1 ≤ fw P T (look gs) := by omega
        clear hz
        go_wp2_with fail
        refine (join_any g1 g2 _ _ _ HFA4.out HFG4.out HD1.out HD2.out).mono ?_
        rintro e w5 ⟨⟨mo, rfl, hf5⟩, hb5⟩
        have HB5 := Lib.hid (Below.thenW HB4.out hb5 HW0n.out)
        obtain ⟨k0, k1⟩ := two2 HB5.out (Nat.le_refl _)
        obtain ⟨c0, c1, -, -⟩ := cells_of2 k0
        have K5 := Lib.hid k1
        have HF5 := Lib.hid hf5
        clear k0 k1 hb5 d0 d1 hf5
        cases e3 : cmp (look qs) (look gs)
        · have HX := Lib.hid (ch_not E1.out E2.out HZ.out e3)
          clear e3
          go_wp2_with fail
          refine (fraction_any _ _ _ (by omega) (by omega) (by omega) (by omega)).mono ?_
          rintro e w7 ⟨rfl, hb7⟩
          have HB7 := Lib.hid (Below.thenW HB5.out hb7 HW0n.out)
          have K7 := Lib.hid (two2 HB7.out (Nat.le_refl _)).2
          clear hb7
          go_wp2_with (refine wpList_store_row rfl 29 (.tmp 6) (.tmp 57) rfl (w.heap.size + 1) _ rfl rfl 29 _ K7.out (by kernel_rfl) rfl (fracC_all _ _) ?_)
          refine bodyPost_ret (v := .tuple #[fracV 0 (fw P T (look gs)), .int .i64 0]) ?_ rfl ⟨by rw [HX.out.1, HX.out.2], below_setRow (HW0b.out.trans (HB7.out.mono (by omega))) (by omega) _⟩
          exact results_cell_row2 (ty := 29) (p := 6) (u := 7) rfl _ _ (w.heap.size + 1) 29 _ (0, 0) _ rfl (setRow_heap _ _ _ _ _ _ K7.out) Try.underlying29 rfl (by kernel_rfl)
        · obtain ⟨g3, rfl, hfu⟩ := HF5.out e3
          have HFU := Lib.hid hfu
          have E3 := Lib.hid e3
          clear hfu e3
          go_wp2_with fail
          refine (factsWeight_any P T _ g3 _ _ (((HNet.out.alloc _).alloc _).below HB5.out (by simp)) HN.out HFU.out (dom_union HD1.out HD2.out)).mono ?_
          rintro e w6 ⟨rfl, hb6⟩
          have HB6 := Lib.hid (Below.thenW HB5.out hb6 HW0n.out)
          clear hb6 c0 c1
          go_wp2_with fail
          refine (fraction_any _ _ _ (by omega) (by omega) (by omega) (by omega)).mono ?_
          rintro e w7 ⟨rfl, hb7⟩
          have HB7 := Lib.hid (Below.thenW HB6.out hb7 HW0n.out)
          have K7 := Lib.hid (two2 HB7.out (Nat.le_refl _)).2
          clear hb7
          go_wp2_with (refine wpList_store_row rfl 29 (.tmp 6) (.tmp 62) rfl (w.heap.size + 1) _ rfl rfl 29 _ K7.out (by kernel_rfl) rfl (fracC_all _ _) ?_)
          refine bodyPost_ret (v := .tuple #[fracV (fw P T (union (look qs) (look gs))) (fw P T (look gs)), .int .i64 0]) ?_ rfl ⟨?_, below_setRow (HW0b.out.trans (HB7.out.mono (by omega))) (by omega) _⟩
          · exact results_cell_row2 (ty := 29) (p := 6) (u := 7) rfl _ _ (w.heap.size + 1) 29 _ (0, 0) _ rfl (setRow_heap _ _ _ _ _ _ K7.out) Try.underlying29 rfl (by kernel_rfl)
          · rw [(ch_yes E1.out E2.out HZ.out E3.out).1, (ch_yes E1.out E2.out HZ.out E3.out).2]

end Go.Proofs.Ytghffnjnpgiicaa

