/- Facts out of pairs. -/
import Derived.Test.YtaphmjccdokiiaaK
namespace Go.Proofs.Ytaphmjccdokiiaa
open Go.RowKit Go.Maps

def pf (ps : List (Int × Int)) (i : Nat) : Int := (ps.getD i (0, 0)).1
def pv (ps : List (Int × Int)) (i : Nat) : Int := (ps.getD i (0, 0)).2

/-- The cells of a slice of pairs. -/
structure PairsAt (w : World) (ao : Option Addr) (b o : Nat) (ps : List (Int × Int)) : Prop where
  ptr : 0 < ps.length → ao = some ⟨b, o, none⟩ ∧ b < w.heap.size
  cell0 : ∀ i, i < ps.length → w.cell? ⟨b, o + i * 2, none⟩ = some (.int .i64 (pf ps i))
  cell1 : ∀ i, i < ps.length → w.cell? ⟨b, o + i * 2 + 1, none⟩ = some (.int .i64 (pv ps i))
  len : ps.length ≤ 140737488351232
  wf : ∀ i, (-9223372036854775808 ≤ pf ps i ∧ pf ps i ≤ 9223372036854775807) ∧ -9223372036854775808 ≤ pv ps i ∧ pv ps i ≤ 9223372036854775807

theorem PairsAt.below {B : Nat} {w w' : World} {ao : Option Addr} {b o : Nat} {ps : List (Int × Int)} (h : PairsAt w ao b o ps) (hb : Below B w w') (hB : w.heap.size ≤ B) : PairsAt w' ao b o ps := by
  refine ⟨fun hp => ⟨(h.ptr hp).1, Nat.lt_of_lt_of_le (h.ptr hp).2 hb.size⟩, fun i hi => ?_, fun i hi => ?_, h.len, h.wf⟩
  · have hlt := (h.ptr (by omega)).2
    rw [hb.cell (p := ⟨b, o + i * 2, none⟩) (by show b < B; omega)]; exact h.cell0 i hi
  · have hlt := (h.ptr (by omega)).2
    rw [hb.cell (p := ⟨b, o + i * 2 + 1, none⟩) (by show b < B; omega)]; exact h.cell1 i hi
theorem PairsAt.alloc {w : World} {ao : Option Addr} {b o : Nat} {ps : List (Int × Int)} (h : PairsAt w ao b o ps) (x : Obj) : PairsAt (w.alloc x) ao b o ps :=
  h.below ((Below.refl _ _).alloc (Nat.le_refl _) x) (Nat.le_refl _)

/-- What the first k pairs say of a variable. -/
def lookTo (ps : List (Int × Int)) : Nat → Int → Option Int
  | 0, _ => none
  | k + 1, x => if x = pf ps k then some (pv ps k) else lookTo ps k x

def goodPair (ps : List (Int × Int)) (n : Nat) (i : Nat) : Prop := (0 ≤ pf ps i ∧ pf ps i < n) ∧ (pv ps i = 0 ∨ pv ps i = 1) ∧ ∀ j, j < i → pf ps j ≠ pf ps i
instance (ps : List (Int × Int)) (n i : Nat) : Decidable (goodPair ps n i) := by unfold goodPair; infer_instance
/-- The pairs are facts of n variables. -/
def okFacts (ps : List (Int × Int)) (n : Nat) : Bool := decide (∀ i, i < ps.length → goodPair ps n i)
def look (ps : List (Int × Int)) : Int → Option Int := lookTo ps ps.length

theorem lookTo_none {ps : List (Int × Int)} {k : Nat} {x : Int} : lookTo ps k x = none ↔ ∀ j, j < k → pf ps j ≠ x := by
  induction k with
  | zero => simp [lookTo]
  | succ k ih =>
    simp only [lookTo]
    by_cases e : x = pf ps k
    · rw [if_pos e]; constructor
      · intro h; cases h
      · intro h; exact absurd e.symm (h k (by omega))
    · rw [if_neg e, ih]; constructor
      · intro h j hj
        by_cases ej : j = k
        · subst ej; exact fun h => e h.symm
        · exact h j (by omega)
      · intro h j hj; exact h j (by omega)

theorem lookTo_some {ps : List (Int × Int)} {k : Nat} {x c : Int} (h : lookTo ps k x = some c) : ∃ j, j < k ∧ pf ps j = x ∧ pv ps j = c := by
  induction k with
  | zero => cases h
  | succ k ih =>
    simp only [lookTo] at h
    by_cases e : x = pf ps k
    · rw [if_pos e] at h; exact ⟨k, by omega, e.symm, Option.some.inj h⟩
    · rw [if_neg e] at h; obtain ⟨j, h1, h2⟩ := ih h; exact ⟨j, by omega, h2⟩

theorem ret_t2 {a b c d : Value} (h : a = c) (h2 : b = d) : Ending.returned (.tuple #[a, b]) = .returned (.tuple #[c, d]) := by rw [h, h2]

theorem says_empty : Says (.map []) (fun _ => none) := fun x _ => ⟨rfl, fun c h => by cases h⟩

theorem Says.put {D : DataW Unit} {φ : Int → Option Int} (h : Says D φ) (hD : IsMap D) (x c : Int) : Says (D.put (kl x) (.lit (.int .i64 c))) (fun y => if y = x then some c else φ y) := by
  intro y hy
  by_cases e : y = x
  · subst e
    show has (D.put (kl y) _) (kl y) = (if y = y then some c else φ y).isSome ∧ ∀ c', (if y = y then some c else φ y) = some c' → _
    have hk : WideAt.IsKeyLit (kl y) := by unfold kl; simp [WideAt.IsKeyLit]
    rw [if_pos rfl, Maps.has_put_same hD hk]
    exact ⟨rfl, fun c' hc z => by rw [Maps.atKey_put_same hD hk]; rw [Option.some.inj hc]⟩
  · have hne : kl y ≠ kl x := by unfold kl; intro q; exact e (by simpa using q)
    show has (D.put (kl x) _) (kl y) = (if y = x then some c else φ y).isSome ∧ ∀ c', (if y = x then some c else φ y) = some c' → _
    rw [if_neg e, Maps.has_put_other hne]
    exact ⟨(h y hy).1, fun c' hc z => by rw [Maps.atKey_put_other hne]; exact (h y hy).2 c' hc z⟩

set_option maxHeartbeats 2000000 in
set_option maxRecDepth 100000 in
theorem toFacts_any (ps : List (Int × Int)) (n : Nat) (ao : Option Addr) (b o cap : Nat) (w : World) (h : PairsAt w ao b o ps) (hn : n ≤ 10) (hlen : ps.length ≤ 1000) :
    Calls Try.prog 51 #[.slice ao ps.length cap, .int .i64 n] w fun e w' =>
      (∃ mo, e = .returned (.tuple #[.map mo, .bool (okFacts ps n)]) ∧ (okFacts ps n = true → ∃ g, mo = some g ∧ FactsAt 1000 w' g (look ps))) ∧ Below w.heap.size w w' := by
  have hmm := @run_makeMap Try.prog
  have H := Lib.hid h
  clear h
  go_enter Try.func51, Try.ntmps51
  go_wp2
  clear hmm
  go_loopw [9, 10, 16] (fun _ _ i wr => ∃ (k : Nat) (D : DataW Unit), k ≤ ps.length ∧ i = .int .i64 k ∧ wr.ownsMap Try.prog 3 (plainElem Try.prog 3) w.heap.size k D ∧ Says D (lookTo ps k) ∧ (∀ i, i < k → goodPair ps n i) ∧ Below w.heap.size w wr) (fun _ _ i _ => ps.length - (intOf i).toNat)
  case atStart => exact ⟨0, .map [], by omega, rfl, World.ownsMap_made _ _ _ _, says_empty, fun i hi => absurd hi (by omega), (Below.refl _ _).alloc (Nat.le_refl _) _⟩
  case round =>
    obtain ⟨k, D, hk, rfl, hown, hs, hg, hb⟩ := hrel
    have HS := Lib.hid hs
    have HG := Lib.hid hg
    have HB := Lib.hid hb
    clear hs hg hb
    by_cases hlt : k < ps.length
    · have hp := H.out.below HB.out (Nat.le_refl _)
      obtain ⟨rfl, -⟩ := hp.ptr (by omega)
      have c0 := hp.cell0 k hlt
      have c1 := hp.cell1 k hlt
      have hwf := hp.wf k
      clear hp
      have hwx : (kl (pf ps k)).wf = true := by unfold kl; exact WalkArith.wf_i64 (by omega)
      have hwc : (Lit.int .i64 (pv ps k)).wf = true := WalkArith.wf_i64 (by omega)
      have hkey := keyOf_int_mk Try.underlying3 hwx
      have HK := Lib.hid hkey
      have HWX := Lib.hid hwx
      have HWC := Lib.hid hwc
      clear hkey hwx hwc
      have hV1 := isVariable_any (pf ps k) n
      have hV2 := isValue_any (pv ps k)
      cases e1 : (lookTo ps k (pf ps k)).isSome
      · have hh : Maps.has D (.int .i64 (pf ps k)) = false := by rw [← e1]; exact (HS.out _ HWX.out).1
        have hnd : ∀ j, j < k → pf ps j ≠ pf ps k := lookTo_none.1 (by simpa using e1)
        have HND := Lib.hid hnd
        clear e1 hnd
        cases e2 : isVar (pf ps k) n
        · rw [e2] at hV1
          have HF := Lib.hid (show okFacts ps n = false from decide_eq_false (fun q => by have := (q k hlt).1; simp [isVar] at e2; omega))
          have HV1 := Lib.hid hV1
          clear hV1 hV2 e2
          go_wp2
          go_quiet (fail)
          go_wp2_with (first
            | (at_lookup; refine wpList_lookup_own_ok_int _ rfl _ _ 85 rfl 3 3 .i64 law3 Try.underlying85 Try.underlying3 (zero3 _) w.heap.size k D rfl (by exact hown.alloc _) _ _ rfl HK.out ?_; intro c hat hwc)
            | (go_at_call 58; refine (HV1.out _).mono ?_; rintro e w' ⟨rfl, rfl⟩))
          go_ret2
          exact ⟨⟨none, ret_t2 rfl (congrArg Value.bool HF.out.symm), fun h => absurd (HF.out.symm.trans h) (by decide)⟩, below_drewN (HB.out.alloc HB.out.size _) _⟩
        · rw [e2] at hV1
          have HV1 := Lib.hid hV1
          have HE2 := Lib.hid e2
          clear hV1 e2
          cases e3 : isVal (pv ps k)
          · rw [e3] at hV2
            have HF := Lib.hid (show okFacts ps n = false from decide_eq_false (fun q => by have := (q k hlt).2.1; simp [isVal] at e3; omega))
            have HV2 := Lib.hid hV2
            clear hV2 e3
            go_wp2
            go_quiet (fail)
            go_wp2_with (first
              | (at_lookup; refine wpList_lookup_own_ok_int _ rfl _ _ 85 rfl 3 3 .i64 law3 Try.underlying85 Try.underlying3 (zero3 _) w.heap.size k D rfl (by exact hown.alloc _) _ _ rfl HK.out ?_; intro c hat hwc)
              | (go_at_call 58; refine (HV1.out _).mono ?_; rintro e w' ⟨rfl, rfl⟩) | (go_at_call 66; refine (HV2.out _).mono ?_; rintro e w' ⟨rfl, rfl⟩))
            go_ret2
            exact ⟨⟨none, ret_t2 rfl (congrArg Value.bool HF.out.symm), fun h => absurd (HF.out.symm.trans h) (by decide)⟩, below_drewN (HB.out.alloc HB.out.size _) _⟩
          · rw [e3] at hV2
            have HV2 := Lib.hid hV2
            have HGP : Hid (goodPair ps n k) := ⟨by have := HE2.out; simp [isVar] at this; omega, by simpa [isVal] using e3, HND.out⟩
            clear hV2 e3
            go_wp2
            go_quiet (fail)
            go_wp2_with (first
              | (at_lookup; refine wpList_lookup_own_ok_int _ rfl _ _ 85 rfl 3 3 .i64 law3 Try.underlying85 Try.underlying3 (zero3 _) w.heap.size k D rfl (by exact hown.alloc _) _ _ rfl HK.out ?_; intro c hat hwc)
              | (go_at_call 58; refine (HV1.out _).mono ?_; rintro e w' ⟨rfl, rfl⟩) | (go_at_call 66; refine (HV2.out _).mono ?_; rintro e w' ⟨rfl, rfl⟩)
              | (at_mapUpdate; refine wpList_mapUpdate_own _ rfl _ _ _ 85 rfl 3 3 law3 Try.underlying85 _ w.heap.size k D rfl (by exact hown.alloc _) (by unfold maxLen; omega) _ _ _ rfl rfl HK.out _ [] (plainElem_int Try.underlying3 HWC.out) ?_; intro w2 hown2 hg2; go_frame))
            go_roundw
            case rel =>
              refine ⟨k + 1, _, by omega, by go_num, hown2, ?_, fun i hi => ?_, (below_drewN (HB.out.alloc HB.out.size _) _).grown hg2 (by have := HB.out.size; simp; omega) (fun j hj => by have := Option.some.inj hj; omega)⟩
              · exact HS.out.put hown.isMap _ _
              · by_cases e : i = k
                · subst e; exact HGP.out
                · exact HG.out i (by omega)
            case measure => simp [intOf]; omega
      · have hh : Maps.has D (.int .i64 (pf ps k)) = true := by rw [← e1]; exact (HS.out _ HWX.out).1
        have HF := Lib.hid (show okFacts ps n = false from decide_eq_false (fun q => by
          have h1 := (q k hlt).2.2
          rw [lookTo_none.2 h1] at e1; cases e1))
        clear e1 hV1 hV2
        go_wp2
        go_quiet (fail)
        go_wp2_with (first
          | (at_lookup; refine wpList_lookup_own_ok_int _ rfl _ _ 85 rfl 3 3 .i64 law3 Try.underlying85 Try.underlying3 (zero3 _) w.heap.size k D rfl (by exact hown.alloc _) _ _ rfl HK.out ?_; intro c hat hwc))
        go_ret2
        exact ⟨⟨none, ret_t2 rfl (congrArg Value.bool HF.out.symm), fun h => absurd (HF.out.symm.trans h) (by decide)⟩, below_drewN (HB.out.alloc HB.out.size _) _⟩
    · have hT : okFacts ps n = true := decide_eq_true (fun i hi => HG.out i (by omega))
      have HT := Lib.hid hT
      have ek : k = ps.length := by omega
      have HK := Lib.hid ek
      clear hT ek
      go_wp2
      go_ret2
      exact ⟨⟨some w.heap.size, ret_t2 rfl (congrArg Value.bool HT.out.symm), fun _ => ⟨_, rfl, ⟨k, D, hown, by omega, by rw [look, ← HK.out]; exact HS.out⟩⟩⟩, HB.out⟩

end Go.Proofs.Ytaphmjccdokiiaa
