/- The weight of an assignment: the program's and the reference's. -/
import Derived.Test.YtaphmjccdokiiaaE
namespace Go.Proofs.Ytaphmjccdokiiaa
open Go.RowKit

/-- An array of ten ints. -/
def arrC (a : Nat → Int) : Array Value := #[.int .i64 (a 0), .int .i64 (a 1), .int .i64 (a 2), .int .i64 (a 3), .int .i64 (a 4), .int .i64 (a 5), .int .i64 (a 6), .int .i64 (a 7), .int .i64 (a 8), .int .i64 (a 9)]

theorem arrC_get (a : Nat → Int) (i : Nat) (h : i < 10) : (arrC a)[i]? = some (.int .i64 (a i)) := by
  match i, h with
  | 0, _ | 1, _ | 2, _ | 3, _ | 4, _ | 5, _ | 6, _ | 7, _ | 8, _ | 9, _ => rfl

/-- A network and an array, boxed. -/
theorem boxNA {w W : World} {x y : Value} {a : Nat → Int} {T T' : TypeId} (h : Below (w.heap.size + 2) ((w.alloc (.cells #[x, y] T)).alloc (.cells (arrC a) T')) W) :
    W.cell? ⟨w.heap.size, 0, none⟩ = some x ∧ W.cell? ⟨w.heap.size, 1, none⟩ = some y ∧ ∀ i, i < 10 → W.cell? ⟨w.heap.size + 1, i, none⟩ = some (.int .i64 (a i)) := by
  refine ⟨?_, ?_, fun i hi => ?_⟩
  · rw [h.cell (by show w.heap.size < w.heap.size + 2; omega), World.cell?_alloc_old _ _ _ (by simp)]; simp
  · rw [h.cell (by show w.heap.size < w.heap.size + 2; omega), World.cell?_alloc_old _ _ _ (by simp)]; simp
  · rw [h.cell (by show w.heap.size + 1 < w.heap.size + 2; omega)]
    have := World.cell?_alloc_new (w.alloc (.cells #[x, y] T)) (arrC a) T' i
    simp only [World.size_alloc] at this
    rw [this, arrC_get a i hi]

theorem toNat_lt {x : Int} {n : Nat} (h : 0 ≤ x) (h2 : x < n) : x.toNat < n := by omega

theorem shl_bd {b p : Int} (hb : b = 0 ∨ b = 1) (h1 : 1 ≤ p) (h4 : p ≤ 4) : 0 ≤ b * p ∧ b * p ≤ 4 := by
  rcases hb with rfl | rfl <;> omega

theorem pow2_le {t : Nat} (h : t ≤ 3) : (1 : Int) ≤ 2 ^ t ∧ (2 : Int) ^ t ≤ 8 := by
  match t, h with
  | 0, _ | 1, _ | 2, _ | 3, _ => decide

theorem idx_step {ps : List Int} {a : Nat → Int} (ha : Bits a) {t q : Nat} (hq : nth ps t = q) (ht : t ≤ 3) :
    wrap64 (idx ps a t + wrap64 (a q * 2 ^ t)) = idx ps a (t + 1) := by
  have h1 := idx_bd ps ha t
  have h2 := pow2_le ht
  simp only [idx, hq, Int.toNat_natCast]
  rcases ha q with e | e <;> rw [e]
  · simp only [Int.zero_mul]
    rw [IntWalk.wrap64_in 0 (by omega), IntWalk.wrap64_in _ (by omega)]
  · simp only [Int.one_mul]
    rw [IntWalk.wrap64_in (2 ^ t) (by omega), IntWalk.wrap64_in _ (by omega)]

set_option maxHeartbeats 4000000 in
set_option maxRecDepth 100000 in
theorem weight_any (P T : List (List Int)) (v : Value) (a : Nat → Int) (w : World) (h : NetAt w v P T) (hn : IsNet P T) (ha : Bits a) :
    Calls Try.prog 48 #[v, .agg (arrC a)] w fun e w' => e = .returned (.int .i64 (wt P T a P.length)) ∧ Below w.heap.size w w' := by
  obtain ⟨pa, b, o, pc, A, B, O, C, ta, b', o', tc, A', B', O', C', rfl, hP, hT⟩ := h.ex
  obtain ⟨rfl, hbb⟩ := hP.ptr (by have := hn.pos; omega)
  obtain ⟨rfl, hbb'⟩ := hT.ptr (by have := hn.pos; have := hn.tab; omega)
  have h10 := hn.le
  have hpos := hn.pos
  have HN := Lib.hid hn
  have HP := Lib.hid hP
  have HT := Lib.hid hT
  have HA := Lib.hid ha
  clear hP hT h hn ha
  go_enter Try.func48, Try.ntmps48
  go_wp2
  go_loopw [5, 14] (fun q i wr => ∃ k : Nat, k ≤ P.length ∧ i = .int .i64 k ∧ q = .int .i64 (wt P T a k) ∧ Below (w.heap.size + 2) ((w.alloc (.cells #[.slice (some ⟨b, o, none⟩) P.length pc, .slice (some ⟨b', o', none⟩) T.length tc] 24)).alloc (.cells (arrC a) 78)) wr) (fun _ i _ => P.length - (intOf i).toNat)
  case atStart => exact ⟨0, by omega, rfl, rfl, Below.refl _ _⟩
  case round =>
    obtain ⟨k, hk, rfl, rfl, hbel⟩ := hrel
    have HB := Lib.hid hbel
    obtain ⟨hx0, hx1, harr⟩ := boxNA hbel
    clear hbel
    have hw := wt_le HN.out HA.out k hk
    by_cases hlk : k < P.length
    · have htab := HN.out.tab
      have hlk' : k < T.length := by omega
      have hP' := (HP.out.alloc (.cells #[.slice (some ⟨b, o, none⟩) P.length pc, .slice (some ⟨b', o', none⟩) T.length tc] 24)).alloc (.cells (arrC a) 78) |>.below HB.out (by simp)
      have hT' := (HT.out.alloc (.cells #[.slice (some ⟨b, o, none⟩) P.length pc, .slice (some ⟨b', o', none⟩) T.length tc] 24)).alloc (.cells (arrC a) 78) |>.below HB.out (by simp)
      have hck := hP'.cell k hlk
      have hck' := hT'.cell k hlk'
      have HrP := Lib.hid (hP'.rows k hlk)
      have HrT := Lib.hid (hT'.rows k hlk')
      have HOK := Lib.hid (HN.out.par k hlk)
      have hl3 := (HN.out.par k hlk).1
      have HTL := Lib.hid htab
      clear hP' hT' htab
      go_wp2
      clear hck
      go_loopw [8, 25] (fun q i wi => ∃ t : Nat, t ≤ (row P k).length ∧ i = .int .i64 t ∧ q = .int .i64 (idx (row P k) a t) ∧ wi = wr) (fun _ i _ => (row P k).length - (intOf i).toNat)
      case atStart => exact ⟨0, by omega, rfl, rfl, rfl⟩
      case round =>
        obtain ⟨t, ht, rfl, rfl, rfl⟩ := hrel
        have hid := idx_bd (row P k) HA.out t
        have ht3 : t ≤ 3 := by omega
        by_cases hlt : t < (row P k).length
        · obtain ⟨hAk, hbk⟩ := HrP.out.ptr (by omega)
          rw [hAk]
          have hct := HrP.out.cell t hlt
          have hpt := HOK.out.2.1 t hlt
          obtain ⟨q, hq⟩ : ∃ q : Nat, nth (row P k) t = (q : Int) := ⟨(nth (row P k) t).toNat, by omega⟩
          have hq10 : q < 10 := by omega
          rw [hq] at hct
          have harq := harr q hq10
          have hbit := HA.out q
          clear harr hAk
          have hstep := idx_step HA.out hq ht3
          have HS := Lib.hid hstep
          clear hstep
          go_wp2
          go_roundw
          case rel => exact ⟨t + 1, by omega, by go_num, by rw [HS.out], trivial⟩
          case measure => simp [intOf]; omega
        · obtain ⟨z, hz⟩ : ∃ z : Nat, idx (row P k) a (row P k).length = z := ⟨(idx (row P k) a (row P k).length).toNat, by have := idx_bd (row P k) HA.out (row P k).length; omega⟩
          have e : t = (row P k).length := by omega
          rw [e, hz]
          have hzl : z < (row T k).length := by have := idx_lt HN.out HA.out hlk; rw [hz] at this; simpa using this
          obtain ⟨hAk, hbk⟩ := HrT.out.ptr (by omega)
          rw [hAk] at hck' ⊢
          have hct := HrT.out.cell z hzl
          have hent := (HN.out.ok k hlk).2 z hzl
          have hlT := HrT.out.len
          have hak := harr k (by omega)
          have hw1 := wt_le HN.out HA.out (k + 1) (by omega)
          have hfac : wt P T a (k + 1) = wt P T a k * (if a k = 1 then nth (row T k) z else 16 - nth (row T k) z) := by simp only [wt, fac, hz]; rfl
          rw [hfac] at hw1
          have HF := Lib.hid hfac
          clear harr hAk hz e hfac hid
          rcases HA.out k with e | e
          · rw [e] at hak
            rw [if_neg (by rw [e]; decide)] at hw1
            have HW := Lib.hid (IntWalk.wrap64_in _ ⟨by omega, by omega⟩ : wrap64 (wt P T a k * (16 - nth (row T k) z)) = _)
            have HE := Lib.hid e
            clear e hw1
            go_wp2
            go_roundw
            case rel => exact ⟨k + 1, by omega, by go_num, by rw [HW.out, HF.out, if_neg (by rw [HE.out]; decide)], HB.out⟩
            case measure => simp [intOf]; omega
          · rw [e] at hak
            rw [if_pos e] at hw1
            have HW := Lib.hid (IntWalk.wrap64_in _ ⟨by omega, by omega⟩ : wrap64 (wt P T a k * nth (row T k) z) = _)
            have HE := Lib.hid e
            clear e hw1
            go_wp2
            go_roundw
            case rel => exact ⟨k + 1, by omega, by go_num, by rw [HW.out, HF.out, if_pos HE.out], HB.out⟩
            case measure => simp [intOf]; omega
    · have hlk' : ¬ k < T.length := by have := HN.out.tab; omega
      clear harr hx0 hx1
      go_wp2
      go_ret
      have e : k = P.length := by omega
      exact ⟨ret_int (by rw [e]), ((Below.refl _ _).alloc (Nat.le_refl _) _).alloc (by simp) _ |>.trans (HB.out.mono (by omega))⟩

theorem idx_step2 {ps : List Int} {a : Nat → Int} (ha : Bits a) {t q : Nat} (hq : nth ps t = q) (ht : t ≤ 3) (h1 : a q = 1) :
    wrap64 (idx ps a t + wrap64 (2 ^ t)) = idx ps a (t + 1) := by
  have := idx_step ha hq ht
  rw [h1, Int.one_mul] at this; exact this
theorem idx_step0 {ps : List Int} {a : Nat → Int} {t q : Nat} (hq : nth ps t = q) (h0 : a q = 0) : idx ps a t = idx ps a (t + 1) := by
  simp [idx, hq, h0]

set_option maxHeartbeats 4000000 in
set_option maxRecDepth 100000 in
theorem refWeight_any (P T : List (List Int)) (v : Value) (xs : List Int) (ao : Option Addr) (xb xo xc : Nat) (w : World) (h : NetAt w v P T) (hx : IntsAt w ao xb xo xs) (hn : IsNet P T) (ha : Bits (nth xs)) (hlen : xs.length = P.length) :
    Calls Try.prog 50 #[v, .slice ao xs.length xc] w fun e w' => e = .returned (.int .i64 (wt P T (nth xs) P.length)) ∧ Below w.heap.size w w' := by
  obtain ⟨pa, b, o, pc, A, B, O, C, ta, b', o', tc, A', B', O', C', rfl, hP, hT⟩ := h.ex
  have h10 := hn.le
  have hpos := hn.pos
  obtain ⟨rfl, hbb⟩ := hP.ptr (by omega)
  obtain ⟨rfl, hbb'⟩ := hT.ptr (by have := hn.tab; omega)
  obtain ⟨rfl, hbx⟩ := hx.ptr (by omega)
  have HN := Lib.hid hn
  have HP := Lib.hid hP
  have HT := Lib.hid hT
  have HX := Lib.hid hx
  have HA := Lib.hid ha
  have HL := Lib.hid hlen
  clear hP hT h hn ha hlen hx
  go_enter Try.func50, Try.ntmps50
  go_wp2
  go_loopw [5, 6, 7, 8] (fun q i _ _ wr => ∃ k : Nat, k ≤ P.length ∧ i = .int .i64 k ∧ q = .int .i64 (wt P T (nth xs) k) ∧ Below (w.heap.size + 1) (w.alloc (.cells #[.slice (some ⟨b, o, none⟩) P.length pc, .slice (some ⟨b', o', none⟩) T.length tc] 24)) wr) (fun _ i _ _ _ => P.length - (intOf i).toNat)
  case atStart => exact ⟨0, by omega, rfl, rfl, Below.refl _ _⟩
  case round =>
    obtain ⟨k, hk, rfl, rfl, hbel⟩ := hrel
    have HB := Lib.hid hbel
    obtain ⟨hx0, hx1⟩ := box2 hbel
    clear hbel
    have hw := wt_le HN.out HA.out k hk
    by_cases hlk : k < P.length
    · have hlk' : k < T.length := by have := HN.out.tab; omega
      have hlkx : k < xs.length := by have := HL.out; omega
      have hP' := (HP.out.alloc (.cells #[.slice (some ⟨b, o, none⟩) P.length pc, .slice (some ⟨b', o', none⟩) T.length tc] 24)).below HB.out (by simp)
      have hT' := (HT.out.alloc (.cells #[.slice (some ⟨b, o, none⟩) P.length pc, .slice (some ⟨b', o', none⟩) T.length tc] 24)).below HB.out (by simp)
      have hX' := (HX.out.alloc (.cells #[.slice (some ⟨b, o, none⟩) P.length pc, .slice (some ⟨b', o', none⟩) T.length tc] 24)).below HB.out (by simp)
      have hck := hP'.cell k hlk
      have hck' := hT'.cell k hlk'
      have HrP := Lib.hid (hP'.rows k hlk)
      have HrT := Lib.hid (hT'.rows k hlk')
      have HOK := Lib.hid (HN.out.par k hlk)
      have hl3 := (HN.out.par k hlk).1
      have HX' := Lib.hid hX'
      clear hP' hT' hX'
      go_wp2
      go_loopw [7, 8] (fun q i wi => ∃ t : Nat, t ≤ (row P k).length ∧ i = .int .i64 t ∧ q = .int .i64 (idx (row P k) (nth xs) t) ∧ wi = wr) (fun _ i _ => (row P k).length - (intOf i).toNat)
      case atStart => exact ⟨0, by omega, rfl, rfl, rfl⟩
      case round =>
        obtain ⟨t, ht, rfl, rfl, rfl⟩ := hrel
        have hid := idx_bd (row P k) HA.out t
        have ht3 : t ≤ 3 := by omega
        by_cases hlt : t < (row P k).length
        · obtain ⟨hAk, hbk⟩ := HrP.out.ptr (by omega)
          rw [hAk] at hck
          have hct := HrP.out.cell t hlt
          have hpt := HOK.out.2.1 t hlt
          obtain ⟨q, hq⟩ : ∃ q : Nat, nth (row P k) t = (q : Int) := ⟨(nth (row P k) t).toNat, by omega⟩
          have hqx : q < xs.length := by omega
          rw [hq] at hct
          have harq := HX'.out.cell q hqx
          clear hAk
          rcases HA.out q with e | e
          · rw [e] at harq
            have HS := Lib.hid (idx_step0 hq e)
            clear e
            go_wp2
            go_roundw
            case rel => exact ⟨t + 1, by omega, by go_num, by rw [HS.out], trivial⟩
            case measure => simp [intOf]; omega
          · rw [e] at harq
            have HS := Lib.hid (idx_step2 HA.out hq ht3 e)
            clear e
            go_wp2
            go_roundw
            case rel => exact ⟨t + 1, by omega, by go_num, by rw [HS.out], trivial⟩
            case measure => simp [intOf]; omega
        · obtain ⟨z, hz⟩ : ∃ z : Nat, idx (row P k) (nth xs) (row P k).length = z := ⟨(idx (row P k) (nth xs) (row P k).length).toNat, by have := idx_bd (row P k) HA.out (row P k).length; omega⟩
          have e : t = (row P k).length := by omega
          rw [e, hz]
          have hzl : z < (row T k).length := by have := idx_lt HN.out HA.out hlk; rw [hz] at this; simpa using this
          obtain ⟨hAk, hbk⟩ := HrT.out.ptr (by omega)
          rw [hAk] at hck'
          have hct := HrT.out.cell z hzl
          have hent := (HN.out.ok k hlk).2 z hzl
          have hlT := HrT.out.len
          have hak := HX'.out.cell k hlkx
          have hw1 := wt_le HN.out HA.out (k + 1) (by omega)
          have hfac : wt P T (nth xs) (k + 1) = wt P T (nth xs) k * (if nth xs k = 1 then nth (row T k) z else 16 - nth (row T k) z) := by simp only [wt, fac, hz]; rfl
          rw [hfac] at hw1
          have HF := Lib.hid hfac
          clear hAk hz e hfac hid
          rcases HA.out k with e | e
          · rw [e] at hak
            rw [if_neg (by rw [e]; decide)] at hw1
            have HW := Lib.hid (IntWalk.wrap64_in _ ⟨by omega, by omega⟩ : wrap64 (wt P T (nth xs) k * (16 - nth (row T k) z)) = _)
            have HE := Lib.hid e
            clear e hw1
            go_wp2
            go_roundw
            case rel => exact ⟨k + 1, by omega, by go_num, by rw [HW.out, HF.out, if_neg (by rw [HE.out]; decide)], HB.out⟩
            case measure => simp [intOf]; omega
          · rw [e] at hak
            rw [if_pos e] at hw1
            have HW := Lib.hid (IntWalk.wrap64_in _ ⟨by omega, by omega⟩ : wrap64 (wt P T (nth xs) k * nth (row T k) z) = _)
            have HE := Lib.hid e
            clear e hw1
            go_wp2
            go_roundw
            case rel => exact ⟨k + 1, by omega, by go_num, by rw [HW.out, HF.out, if_pos HE.out], HB.out⟩
            case measure => simp [intOf]; omega
    · clear hx1
      go_wp2
      go_ret
      have e : k = P.length := by omega
      exact ⟨ret_int (by rw [e]), (Below.refl _ _).alloc (Nat.le_refl _) _ |>.trans (HB.out.mono (by omega))⟩

end Go.Proofs.Ytaphmjccdokiiaa
