/- G8: Ha Ia Ja -/
import Derived.Test.YtghffnjnpgiicaaG4
/- The reference's facts: valid, and in agreement with a list of values. -/
namespace Go.Proofs.Ytghffnjnpgiicaa
open Go.RowKit Go.Maps

set_option maxHeartbeats 2000000 in
set_option maxRecDepth 100000 in
theorem refFacts_any (ps : List (Int × Int)) (n : Nat) (ao : Option Addr) (b o cap : Nat) (w : World) (h : PairsAt w ao b o ps) (_hn : n ≤ 10) (hlen : ps.length ≤ 1000) :
    Calls Try.prog 54 #[.int .i64 n, .slice ao ps.length cap] w fun e w' => e = .returned (.bool (okFacts ps n)) ∧ Below w.heap.size w w' := by
  have H := Lib.hid h
  clear h
  go_enter Try.func54, Try.ntmps54
  go_wp2
  go_loopw [5] (fun i wr => ∃ k : Nat, k ≤ ps.length ∧ i = .int .i64 k ∧ (∀ i, i < k → goodPair ps n i) ∧ Below w.heap.size w wr) (fun i _ => ps.length - (intOf i).toNat)
  case atStart => exact ⟨0, by omega, rfl, fun i hi => absurd hi (by omega), Below.refl _ _⟩
  case round =>
    obtain ⟨k, hk, rfl, hg, hb⟩ := hrel
    have HG := Lib.hid hg
    have HB := Lib.hid hb
    clear hg hb
    by_cases hlt : k < ps.length
    · have hp := H.out.below HB.out (Nat.le_refl _)
      obtain ⟨rfl, -⟩ := hp.ptr (by omega)
      have c0 := hp.cell0 k hlt
      have c1 := hp.cell1 k hlt
      clear hp
      by_cases e1 : pf ps k < 0
      · have HF := Lib.hid (show okFacts ps n = false from decide_eq_false (fun q => by have := (q k hlt).1; omega))
        have t1 : decide (pf ps k < 0) = true := decide_eq_true e1
        clear e1
        go_wp2
        go_ret
        exact ⟨congrArg (fun b => Ending.returned (.bool b)) HF.out.symm, HB.out⟩
      · have t1 : decide (pf ps k < 0) = false := decide_eq_false e1
        by_cases e2 : (n : Int) ≤ pf ps k
        · have HF := Lib.hid (show okFacts ps n = false from decide_eq_false (fun q => by have := (q k hlt).1; omega))
          have t2 : decide ((n : Int) ≤ pf ps k) = true := decide_eq_true e2
          clear e1 e2
          go_wp2
          go_ret
          exact ⟨congrArg (fun b => Ending.returned (.bool b)) HF.out.symm, HB.out⟩
        · have t2 : decide ((n : Int) ≤ pf ps k) = false := decide_eq_false e2
          by_cases e3 : pv ps k < 0
          · have HF := Lib.hid (show okFacts ps n = false from decide_eq_false (fun q => by have := (q k hlt).2.1; omega))
            have t3 : decide (pv ps k < 0) = true := decide_eq_true e3
            clear e1 e2 e3
            go_wp2
            go_ret
            exact ⟨congrArg (fun b => Ending.returned (.bool b)) HF.out.symm, HB.out⟩
          · have t3 : decide (pv ps k < 0) = false := decide_eq_false e3
            by_cases e4 : 1 < pv ps k
            · have HF := Lib.hid (show okFacts ps n = false from decide_eq_false (fun q => by have := (q k hlt).2.1; omega))
              have t4 : decide (1 < pv ps k) = true := decide_eq_true e4
              clear e1 e2 e3 e4
              go_wp2
              go_ret
              exact ⟨congrArg (fun b => Ending.returned (.bool b)) HF.out.symm, HB.out⟩
            · have t4 : decide (1 < pv ps k) = false := decide_eq_false e4
              have HR := Lib.hid (show (0 ≤ pf ps k ∧ pf ps k < n) ∧ (pv ps k = 0 ∨ pv ps k = 1) from ⟨by omega, by omega⟩)
              clear e1 e2 e3 e4
              go_wp2
              go_loopw [6] (fun i wr => ∃ j : Nat, j ≤ k ∧ i = .int .i64 j ∧ (∀ i, i < j → pf ps i ≠ pf ps k) ∧ Below w.heap.size w wr) (fun i _ => k - (intOf i).toNat)
              case atStart => exact ⟨0, by omega, rfl, fun i hi => absurd hi (by omega), HB.out⟩
              case round =>
                clear HB c0 c1
                obtain ⟨j, hj, rfl, hd, hb⟩ := hrel
                have HD := Lib.hid hd
                have HB := Lib.hid hb
                clear hd hb
                by_cases hjk : j < k
                · have hp := H.out.below HB.out (Nat.le_refl _)
                  have d0 := hp.cell0 j (by omega)
                  have d1 := hp.cell0 k hlt
                  clear hp
                  by_cases e : pf ps j = pf ps k
                  · have HF := Lib.hid (show okFacts ps n = false from decide_eq_false (fun q => (q k hlt).2.2 j hjk e))
                    have t5 : (pf ps j == pf ps k) = true := by simpa using e
                    clear e
                    go_wp2
                    go_quiet (fail)
                    go_wp2
                    go_ret
                    exact ⟨congrArg (fun b => Ending.returned (.bool b)) HF.out.symm, below_drewN HB.out _⟩
                  · have HE := Lib.hid e
                    have t5 : (pf ps j == pf ps k) = false := by simpa using e
                    clear e
                    go_wp2
                    go_quiet (fail)
                    go_wp2
                    go_roundw
                    case rel => exact ⟨j + 1, by omega, by go_num, fun i hi => by
                      by_cases e : i = j
                      · subst e; exact HE.out
                      · exact HD.out i (by omega), below_drewN HB.out _⟩
                    case measure => simp [intOf]; omega
                · have ejk : j = k := by omega
                  subst ejk
                  go_wp2
                  go_roundw
                  case rel => exact ⟨j + 1, by omega, by go_num, fun i hi => by
                    by_cases e : i = j
                    · subst e; exact ⟨HR.out.1, HR.out.2, HD.out⟩
                    · exact HG.out i (by omega), HB.out⟩
                  case measure => simp [intOf]; omega
    · have HT := Lib.hid (show okFacts ps n = true from decide_eq_true (fun i hi => HG.out i (by omega)))
      go_wp2
      go_ret
      exact ⟨congrArg (fun b => Ending.returned (.bool b)) HT.out.symm, HB.out⟩

/-- The values are those of the pairs. -/
def agL (ps : List (Int × Int)) (a : Nat → Int) : Bool := decide (∀ i, i < ps.length → a (pf ps i).toNat = pv ps i)

set_option maxHeartbeats 2000000 in
set_option maxRecDepth 100000 in
theorem agrees_any (xs : List Int) (ps : List (Int × Int)) (xo : Option Addr) (xb xoff xc : Nat) (ao : Option Addr) (b o cap : Nat) (w : World) (hX : IntsAt w xo xb xoff xs) (h : PairsAt w ao b o ps) (hok : okFacts ps xs.length = true) (hlen : ps.length ≤ 1000) :
    Calls Try.prog 57 #[.slice xo xs.length xc, .slice ao ps.length cap] w fun e w' => e = .returned (.bool (agL ps (nth xs))) ∧ Below w.heap.size w w' := by
  have H := Lib.hid h
  have HX := Lib.hid hX
  have hxl := hX.len
  have HOK := Lib.hid (of_decide_eq_true hok)
  clear h hX hok
  go_enter Try.func57, Try.ntmps57
  go_wp2
  go_loopw [5] (fun i wr => ∃ k : Nat, k ≤ ps.length ∧ i = .int .i64 k ∧ (∀ i, i < k → nth xs (pf ps i).toNat = pv ps i) ∧ Below w.heap.size w wr) (fun i _ => ps.length - (intOf i).toNat)
  case atStart => exact ⟨0, by omega, rfl, fun i hi => absurd hi (by omega), Below.refl _ _⟩
  case round =>
    obtain ⟨k, hk, rfl, hg, hb⟩ := hrel
    have HG := Lib.hid hg
    have HB := Lib.hid hb
    clear hg hb
    by_cases hlt : k < ps.length
    · have hp := H.out.below HB.out (Nat.le_refl _)
      obtain ⟨rfl, -⟩ := hp.ptr (by omega)
      have c0 := hp.cell0 k hlt
      have c1 := hp.cell1 k hlt
      have hin := (HOK.out k hlt).1
      obtain ⟨q, hq⟩ : ∃ q : Nat, pf ps k = (q : Int) := ⟨(pf ps k).toNat, by omega⟩
      rw [hq] at c0
      have hql : q < xs.length := by omega
      have hx := HX.out.below HB.out (Nat.le_refl _)
      obtain ⟨rfl, -⟩ := hx.ptr (by omega)
      have d0 := hx.cell q hql
      have HQ := Lib.hid (show (pf ps k).toNat = q by omega)
      clear hp hx hin hq
      by_cases e : nth xs q = pv ps k
      · have HE := Lib.hid e
        have t : (nth xs q != pv ps k) = false := by rw [e]; simp
        clear e
        go_wp2
        go_quiet (fail)
        go_wp2
        go_roundw
        case rel => exact ⟨k + 1, by omega, by go_num, fun i hi => by
          by_cases e : i = k
          · subst e; rw [HQ.out]; exact HE.out
          · exact HG.out i (by omega), below_drewN HB.out _⟩
        case measure => simp [intOf]; omega
      · have HF := Lib.hid (show agL ps (nth xs) = false from decide_eq_false (fun q' => e (by have := q' k hlt; rw [HQ.out] at this; exact this)))
        have t : (nth xs q != pv ps k) = true := by simpa using e
        clear e
        go_wp2
        go_quiet (fail)
        go_wp2
        go_ret
        exact ⟨congrArg (fun b => Ending.returned (.bool b)) HF.out.symm, below_drewN HB.out _⟩
    · have HT := Lib.hid (show agL ps (nth xs) = true from decide_eq_true (fun i hi => HG.out i (by omega)))
      go_wp2
      go_ret
      exact ⟨congrArg (fun b => Ending.returned (.bool b)) HT.out.symm, HB.out⟩

end Go.Proofs.Ytghffnjnpgiicaa

/- The reference's sums. -/
namespace Go.Proofs.Ytghffnjnpgiicaa
open Go.RowKit Go.Maps

/-- The weight of those of the first k assignments that agree with both lists. -/
def smTo (P T : List (List Int)) (qs gs : List (Int × Int)) : Nat → Int
  | 0 => 0
  | k + 1 => smTo P T qs gs k + if (agL qs (bitv P.length k) && agL gs (bitv P.length k)) = true then wt P T (bitv P.length k) P.length else 0
def sm (P T : List (List Int)) (qs gs : List (Int × Int)) : Int := smTo P T qs gs (2 ^ P.length)

theorem smTo_bd {P T : List (List Int)} {qs gs : List (Int × Int)} (h : IsNet P T) (k : Nat) : 0 ≤ smTo P T qs gs k ∧ smTo P T qs gs k ≤ k * 1099511627776 := by
  induction k with
  | zero => simp [smTo]
  | succ k ih =>
    have := wt_le h (bitv_Bits P.length k) P.length (Nat.le_refl _)
    simp only [smTo]
    split <;> omega

theorem nth_vals' (n pos : Nat) : nth (vals n pos) = bitv n pos := funext (nth_vals n pos)

/-- The facts as a function, and as a list. -/
theorem agr_look {ps : List (Int × Int)} {n : Nat} (h : okFacts ps n = true) (hn : n ≤ 10) (a : Nat → Int) : agr (look ps) a = agL ps a := by
  have hg := of_decide_eq_true h
  unfold agr agL
  rw [Bool.eq_iff_iff]
  simp only [decide_eq_true_eq]
  constructor
  · intro hv i hi
    have hgi := hg i hi
    have hgr := hgi.1
    have h2 := hv (pf ps i).toNat (by omega)
    rw [show ((pf ps i).toNat : Int) = pf ps i by omega] at h2
    rcases h2 with h2 | h2
    · exact absurd rfl (lookTo_none.1 h2 i hi)
    · obtain ⟨j, hj, e1, e2⟩ := lookTo_some h2
      have : j = i := by
        rcases Nat.lt_trichotomy j i with h3 | h3 | h3
        · exact absurd e1 (hgi.2.2 j h3)
        · exact h3
        · exact absurd e1.symm ((hg j hj).2.2 i h3)
      subst this
      exact e2.symm
  · intro hv v hv10
    cases e : look ps (v : Int) with
    | none => exact .inl rfl
    | some c =>
      right
      obtain ⟨j, hj, e1, e2⟩ := lookTo_some e
      have := hv j hj
      rw [e1] at this
      rw [← e2, ← this]
      simp

theorem agL_nil (a : Nat → Int) : agL [] a = true := decide_eq_true (fun i hi => absurd hi (by simp))

theorem agr_union {φ ψ : Int → Option Int} (a : Nat → Int) (hc : cmp φ ψ = true) : agr (union φ ψ) a = (agr φ a && agr ψ a) := by
  have hc' := of_decide_eq_true hc
  unfold agr
  rw [Bool.eq_iff_iff]
  simp only [decide_eq_true_eq, Bool.and_eq_true]
  constructor
  · intro h
    refine ⟨fun v hv => ?_, fun v hv => ?_⟩
    · have h1 := h v hv
      have h2 := hc' v hv
      unfold union at h1
      cases e : ψ (v : Int) with
      | none => rw [e] at h1; exact h1
      | some c =>
        rw [e] at h1 h2
        rcases h2 with h2 | h2 | h2
        · exact .inl h2
        · cases h2
        · rcases h1 with h1 | h1
          · cases h1
          · right; rw [h2]; exact h1
    · have h1 := h v hv
      unfold union at h1
      cases e : ψ (v : Int) with
      | none => exact .inl rfl
      | some c =>
        rw [e] at h1
        rcases h1 with h1 | h1
        · cases h1
        · exact .inr h1
  · rintro ⟨h1, h2⟩ v hv
    unfold union
    cases e : ψ (v : Int) with
    | none => exact h1 v hv
    | some c =>
      have := h2 v hv
      rw [e] at this
      rcases this with h | h
      · cases h
      · exact .inr h

theorem agr_not {φ ψ : Int → Option Int} (a : Nat → Int) (hc : cmp φ ψ = false) : (agr φ a && agr ψ a) = false := by
  rw [Bool.eq_false_iff]
  intro h
  simp only [Bool.and_eq_true] at h
  obtain ⟨h1, h2⟩ := h
  have h1 := of_decide_eq_true h1
  have h2 := of_decide_eq_true h2
  refine of_decide_eq_false hc (fun v hv => ?_)
  rcases h1 v hv with e | e
  · exact .inl e
  · rcases h2 v hv with e2 | e2
    · exact .inr (.inl e2)
    · exact .inr (.inr (by rw [e, e2]))

theorem sm_one {P T : List (List Int)} {gs : List (Int × Int)} (h : okFacts gs P.length = true) (hn : P.length ≤ 10) : sm P T gs [] = fw P T (look gs) := by
  unfold sm fw
  generalize 2 ^ P.length = m
  induction m with
  | zero => rfl
  | succ m ih => simp only [smTo, fwTo, ih, agL_nil, Bool.and_true, agr_look h hn]
theorem sm_two {P T : List (List Int)} {qs gs : List (Int × Int)} (h : okFacts qs P.length = true) (h2 : okFacts gs P.length = true) (hn : P.length ≤ 10) :
    sm P T qs gs = if cmp (look qs) (look gs) = true then fw P T (union (look qs) (look gs)) else 0 := by
  unfold sm fw
  generalize 2 ^ P.length = m
  cases hc : cmp (look qs) (look gs)
  · rw [if_neg (by decide)]
    induction m with
    | zero => rfl
    | succ m ih => simp only [smTo, ih, ← agr_look h hn, ← agr_look h2 hn, agr_not _ hc]; simp
  · rw [if_pos rfl]
    induction m with
    | zero => rfl
    | succ m ih => simp only [smTo, fwTo, ih, ← agr_look h hn, ← agr_look h2 hn, agr_union _ hc]

set_option maxHeartbeats 2000000 in
set_option maxRecDepth 100000 in
theorem refSum_any (P T : List (List Int)) (v : Value) (qs gs : List (Int × Int)) (ao : Option Addr) (ab aoff ac : Nat) (bo : Option Addr) (bb boff bc : Nat) (w : World) (h : NetAt w v P T) (hn : IsNet P T)
    (ha : PairsAt w ao ab aoff qs) (hg : PairsAt w bo bb boff gs) (hla : qs.length ≤ 1000) (hlg : gs.length ≤ 1000) (oka : okFacts qs P.length = true) (okg : okFacts gs P.length = true) :
    Calls Try.prog 55 #[v, .slice ao qs.length ac, .slice bo gs.length bc] w fun e w' => e = .returned (.int .i64 (sm P T qs gs)) ∧ Below w.heap.size w w' := by
  have HNet := Lib.hid h
  have HN := Lib.hid hn
  have HA := Lib.hid ha
  have HG := Lib.hid hg
  have OKA := Lib.hid oka
  have OKG := Lib.hid okg
  obtain ⟨pa, b, o, pc, A, B, O, C, ta, b', o', tc, A', B', O', C', rfl, hP, hT⟩ := h.ex
  have h10 := hn.le
  have h2 := two_pow_le h10
  have hp := wrap_pow P.length (by omega)
  obtain ⟨m, hm⟩ : ∃ m : Nat, m = 2 ^ P.length := ⟨_, rfl⟩
  rw [← hm] at h2 hp
  have HM := Lib.hid hm
  clear hP hT h hn ha hg oka okg hm
  go_enter Try.func55, Try.ntmps55
  go_wp2
  go_loopw [8, 9, 10] (fun s i _ wr => ∃ k : Nat, k ≤ m ∧ i = .int .i64 k ∧ s = .int .i64 (smTo P T qs gs k) ∧ Below (w.heap.size + 1) (w.alloc (.cells #[.slice pa P.length pc, .slice ta T.length tc] 24)) wr) (fun _ i _ _ => m - (intOf i).toNat)
  case atStart => exact ⟨0, by omega, rfl, rfl, Below.refl _ _⟩
  case round =>
    obtain ⟨k, hk, rfl, rfl, hb⟩ := hrel
    have HB := Lib.hid hb
    have hbd := smTo_bd (qs := qs) (gs := gs) HN.out k
    clear hb
    by_cases hlt : k < m
    · go_wp2_with fail
      refine (refValues_any P.length k _ h10 (by omega)).mono ?_
      rintro e w1 ⟨rfl, hrow, hb1⟩
      have s0 := HB.out.size
      simp only [World.size_alloc] at s0
      have HB1 := Lib.hid (HB.out.trans (hb1.mono s0))
      have hI : IntsAt w1 (some ⟨wr.heap.size, 0, none⟩) wr.heap.size 0 (vals P.length k) := intsAt_of_row (by rw [vals_length, nth_vals']; exact hrow) (by rw [vals_length]; omega) (fun i => by
        rw [nth_vals]; have := bitv_Bits P.length k i; omega)
      have HI := Lib.hid hI
      obtain ⟨x0, x1⟩ := box2 HB1.out
      have s1 := HB1.out.size
      simp only [World.size_alloc] at s1
      have hwt := wt_le HN.out (bitv_Bits P.length k) P.length (Nat.le_refl _)
      have hfa : PairsAt w1 ao ab aoff qs := (HA.out.alloc _).below HB1.out (by simp)
      have hA1 := agrees_any (vals P.length k) qs _ _ 0 P.length ao ab aoff ac w1 hI hfa (by rw [vals_length]; exact OKA.out) hla
      rw [vals_length, nth_vals'] at hA1
      clear hb1 hrow hI hfa
      cases e1 : agL qs (bitv P.length k)
      · rw [e1] at hA1
        have HS := Lib.hid (show smTo P T qs gs (k + 1) = smTo P T qs gs k by simp [smTo, e1])
        have HA1 := Lib.hid hA1
        clear hA1 e1
        go_wp2_with fail
        refine HA1.out.mono ?_
        rintro e w2 ⟨rfl, hb2⟩
        have HB2 := Lib.hid (HB1.out.trans (hb2.mono s1))
        clear hb2 x0 x1
        go_wp2
        go_roundw
        case rel => exact ⟨k + 1, by omega, by go_num, by rw [HS.out], HB2.out⟩
        case measure => simp [intOf]; omega
      · rw [e1] at hA1
        have HA1 := Lib.hid hA1
        have HE1 := Lib.hid e1
        clear hA1 e1
        go_wp2_with fail
        refine HA1.out.mono ?_
        rintro e w2 ⟨rfl, hb2⟩
        have HB2 := Lib.hid (HB1.out.trans (hb2.mono s1))
        have hI2 := HI.out.below hb2 (Nat.le_refl _)
        have HI2 := Lib.hid hI2
        have s2 := HB2.out.size
        simp only [World.size_alloc] at s2
        have hfa : PairsAt w2 bo bb boff gs := (HG.out.alloc _).below HB2.out (by simp)
        have hA2 := agrees_any (vals P.length k) gs _ _ 0 P.length bo bb boff bc w2 hI2 hfa (by rw [vals_length]; exact OKG.out) hlg
        rw [vals_length, nth_vals'] at hA2
        clear hb2 x0 x1 hI2 hfa
        cases e2 : agL gs (bitv P.length k)
        · rw [e2] at hA2
          have HS := Lib.hid (show smTo P T qs gs (k + 1) = smTo P T qs gs k by simp [smTo, e2])
          have HA2 := Lib.hid hA2
          clear hA2 e2
          go_wp2_with fail
          refine HA2.out.mono ?_
          rintro e w3 ⟨rfl, hb3⟩
          have HB3 := Lib.hid (HB2.out.trans (hb3.mono s2))
          clear hb3
          go_wp2
          go_roundw
          case rel => exact ⟨k + 1, by omega, by go_num, by rw [HS.out], HB3.out⟩
          case measure => simp [intOf]; omega
        · rw [e2] at hA2
          have HS := Lib.hid (show smTo P T qs gs (k + 1) = smTo P T qs gs k + wt P T (bitv P.length k) P.length by simp [smTo, e2, HE1.out])
          have HA2 := Lib.hid hA2
          clear hA2 e2
          go_wp2_with fail
          refine HA2.out.mono ?_
          rintro e w3 ⟨rfl, hb3⟩
          have HB3 := Lib.hid (HB2.out.trans (hb3.mono s2))
          have HI3 := Lib.hid (HI2.out.below hb3 (Nat.le_refl _))
          obtain ⟨y0, y1⟩ := box2 HB3.out
          have s3 := HB3.out.size
          simp only [World.size_alloc] at s3
          clear hb3
          go_wp2_with fail
          have hW := refWeight_any P T (.agg #[.slice pa P.length pc, .slice ta T.length tc]) (vals P.length k) _ _ 0 P.length w3 ((HNet.out.alloc _).below HB3.out (by simp)) HI3.out HN.out (by rw [nth_vals']; exact bitv_Bits _ _) (vals_length _ _)
          rw [vals_length, nth_vals'] at hW
          refine hW.mono ?_
          rintro e w4 ⟨rfl, hb4⟩
          have HB4 := Lib.hid (HB3.out.trans (hb4.mono s3))
          clear hW hb4 y0 y1
          go_wp2
          go_roundw
          case rel => exact ⟨k + 1, by omega, by go_num, by rw [HS.out], HB4.out⟩
          case measure => simp [intOf]; omega
    · go_wp2
      go_ret
      have e : k = 2 ^ P.length := by have := HM.out; omega
      exact ⟨ret_int (by rw [sm, ← e]), ((Below.refl _ _).alloc (Nat.le_refl _) _).trans (HB.out.mono (by omega))⟩

end Go.Proofs.Ytghffnjnpgiicaa

/- The reference's conditional probability. -/
namespace Go.Proofs.Ytghffnjnpgiicaa
open Go.RowKit Go.Maps

set_option maxHeartbeats 4000000 in
set_option maxRecDepth 100000 in
theorem refChance_any (P T : List (List Int)) (v : Value) (qs gs : List (Int × Int)) (ao : Option Addr) (ab aoff ac : Nat) (bo : Option Addr) (bb boff bc : Nat) (w : World) (h : NetAt w v P T) (hn : IsNet P T)
    (ha : PairsAt w ao ab aoff qs) (hg : PairsAt w bo bb boff gs) (hla : qs.length ≤ 1000) (hlg : gs.length ≤ 1000) :
    Calls Try.prog 23 #[v, .slice ao qs.length ac, .slice bo gs.length bc] w fun e w' => e = .returned (.tuple #[chV P T qs gs, .int .i64 (chE P T qs gs)]) ∧ Below w.heap.size w w' := by
  have HNet := Lib.hid h
  have HN := Lib.hid hn
  have HA := Lib.hid ha
  have HG := Lib.hid hg
  obtain ⟨pa, b, o, pc, A, B, O, C, ta, b', o', tc, A', B', O', C', rfl, hP, hT⟩ := h.ex
  have h10 := HN.out.le
  clear hP hT h hn ha hg
  obtain ⟨wa, hwa⟩ : ∃ wa, (w.alloc (.cells #[.slice pa P.length pc, .slice ta T.length tc] 24)).alloc (.cells #[.int .i64 0, .int .i64 0] 29) = wa := ⟨_, rfl⟩
  have HWA := Lib.hid hwa
  have W0n : w.heap.size + 2 ≤ wa.heap.size := by rw [← hwa]; simp
  have W0b : Below w.heap.size w wa := by rw [← hwa]; exact ((Below.refl _ _).alloc (Nat.le_refl _) _).alloc (by simp) _
  have HW0n := Lib.hid W0n
  have HW0b := Lib.hid W0b
  have HNa : Hid (NetAt wa (.agg #[.slice pa P.length pc, .slice ta T.length tc]) P T) := by rw [← hwa]; exact (HNet.out.alloc _).alloc _
  have HAa : Hid (PairsAt wa ao ab aoff qs) := by rw [← hwa]; exact (HA.out.alloc _).alloc _
  have HGa : Hid (PairsAt wa bo bb boff gs) := by rw [← hwa]; exact (HG.out.alloc _).alloc _
  have HT2 := Lib.hid (show ∀ w', Below wa.heap.size wa w' → w'.heap[w.heap.size]? = some (.cells #[.slice pa P.length pc, .slice ta T.length tc] 24 (0, 0)) ∧ w'.heap[w.heap.size + 1]? = some (.cells #[.int .i64 0, .int .i64 0] 29 (0, 0)) from
    fun w' h => two2 (by rw [hwa]; exact h.mono W0n) (Nat.le_refl _))
  clear W0n W0b hwa
  go_enter Try.func23, Try.ntmps23
  go_wp2_with fail
  rw [HWA.out]
  have hf := refFacts_any qs P.length ao ab aoff ac wa HAa.out h10 hla
  cases e1 : okFacts qs P.length
  · rw [e1] at hf
    have HX := Lib.hid (ch_bad (T := T) (gs := gs) (.inl e1))
    refine hf.mono ?_
    rintro e w1 ⟨rfl, hb1⟩
    have HB1 : Hid (Below wa.heap.size wa w1) := hb1
    obtain ⟨k0, k1⟩ := HT2.out _ HB1.out
    have K1 := Lib.hid k1
    clear hf hb1 k0 k1 e1
    go_wp2_with (refine wpList_store_row rfl 29 (.tmp 6) (.tmp 23) rfl (w.heap.size + 1) _ rfl rfl 29 _ K1.out (by kernel_rfl) rfl (by simp [Value.oneCell']) ?_)
    refine bodyPost_ret (v := .tuple #[zeroF, .int .i64 2]) ?_ rfl ⟨by rw [HX.out.1, HX.out.2], below_setRow (HW0b.out.trans (HB1.out.mono (by have := HW0n.out; omega))) (by omega) _⟩
    exact results_cell_row2 (ty := 29) (p := 6) (u := 7) rfl _ _ (w.heap.size + 1) 29 _ (0, 0) _ rfl (setRow_heap _ _ _ _ _ _ K1.out) Try.underlying29 rfl (by kernel_rfl)
  · rw [e1] at hf
    have E1 := Lib.hid e1
    refine hf.mono ?_
    rintro e w1 ⟨rfl, hb1⟩
    have HB1 : Hid (Below wa.heap.size wa w1) := hb1
    clear hf hb1 e1
    go_wp2_with fail
    have hf := refFacts_any gs P.length bo bb boff bc w1 (HGa.out.below HB1.out (Nat.le_refl _)) h10 hlg
    cases e2 : okFacts gs P.length
    · rw [e2] at hf
      have HX := Lib.hid (ch_bad (T := T) (qs := qs) (.inr e2))
      refine hf.mono ?_
      rintro e w2 ⟨rfl, hb2⟩
      have HB2 : Hid (Below wa.heap.size wa w2) := HB1.out.trans (hb2.mono HB1.out.size)
      obtain ⟨k0, k1⟩ := HT2.out _ HB2.out
      have K1 := Lib.hid k1
      clear hf hb2 k0 k1 e2
      go_wp2_with (refine wpList_store_row rfl 29 (.tmp 6) (.tmp 23) rfl (w.heap.size + 1) _ rfl rfl 29 _ K1.out (by kernel_rfl) rfl (by simp [Value.oneCell']) ?_)
      refine bodyPost_ret (v := .tuple #[zeroF, .int .i64 2]) ?_ rfl ⟨by rw [HX.out.1, HX.out.2], below_setRow (HW0b.out.trans (HB2.out.mono (by have := HW0n.out; omega))) (by omega) _⟩
      exact results_cell_row2 (ty := 29) (p := 6) (u := 7) rfl _ _ (w.heap.size + 1) 29 _ (0, 0) _ rfl (setRow_heap _ _ _ _ _ _ K1.out) Try.underlying29 rfl (by kernel_rfl)
    · rw [e2] at hf
      have E2 := Lib.hid e2
      refine hf.mono ?_
      rintro e w2 ⟨rfl, hb2⟩
      have HB2 : Hid (Below wa.heap.size wa w2) := HB1.out.trans (hb2.mono HB1.out.size)
      obtain ⟨k0, k1⟩ := HT2.out _ HB2.out
      obtain ⟨c0, c1, -, -⟩ := cells_of2 k0
      clear hf hb2 k0 k1 e2
      go_wp2_with fail
      have hs := refSum_any P T (.agg #[.slice pa P.length pc, .slice ta T.length tc]) gs [] bo bb boff bc none 0 0 0 w2 (HNa.out.below HB2.out (Nat.le_refl _)) HN.out (HGa.out.below HB2.out (Nat.le_refl _)) ⟨fun h => by simp at h, fun i hi => by simp at hi, fun i hi => by simp at hi, by simp, fun i => by simp [pf, pv]⟩ hlg (by simp) E2.out (decide_eq_true (fun i hi => by simp at hi))
      rw [sm_one E2.out h10] at hs
      refine hs.mono ?_
      rintro e w3 ⟨rfl, hb3⟩
      have HB3 : Hid (Below wa.heap.size wa w3) := HB2.out.trans (hb3.mono HB2.out.size)
      obtain ⟨k0, k1⟩ := HT2.out _ HB3.out
      have K3 := Lib.hid k1
      obtain ⟨d0, d1, -, -⟩ := cells_of2 k0
      have hbd := fw_bd (φ := look gs) HN.out
      clear hs hb3 k0 k1 c0 c1
      by_cases hz : fw P T (look gs) = 0
      · have HX := Lib.hid (ch_zero E1.out E2.out hz)
        go_wp2_with (refine wpList_store_row rfl 29 (.tmp 6) (.tmp 29) rfl (w.heap.size + 1) _ rfl rfl 29 _ K3.out (by kernel_rfl) rfl (by simp [Value.oneCell']) ?_)
        refine bodyPost_ret (v := .tuple #[zeroF, .int .i64 6]) ?_ rfl ⟨by rw [HX.out.1, HX.out.2], below_setRow (HW0b.out.trans (HB3.out.mono (by have := HW0n.out; omega))) (by omega) _⟩
        exact results_cell_row2 (ty := 29) (p := 6) (u := 7) rfl _ _ (w.heap.size + 1) 29 _ (0, 0) _ rfl (setRow_heap _ _ _ _ _ _ K3.out) Try.underlying29 rfl (by kernel_rfl)
      · have hz0 : (fw P T (look gs) == 0) = false := by rw [beq_eq_false_iff_ne]; exact hz
        have HZ := Lib.hid hz
        have hpos : 1 ≤ fw P T (look gs) := by omega
        clear hz
        go_wp2_with fail
        have hs := refSum_any P T (.agg #[.slice pa P.length pc, .slice ta T.length tc]) qs gs ao ab aoff ac bo bb boff bc w3 (HNa.out.below HB3.out (Nat.le_refl _)) HN.out (HAa.out.below HB3.out (Nat.le_refl _)) (HGa.out.below HB3.out (Nat.le_refl _)) hla hlg E1.out E2.out
        rw [sm_two E1.out E2.out h10] at hs
        obtain ⟨nu, hnu⟩ : ∃ nu, (if cmp (look qs) (look gs) = true then fw P T (union (look qs) (look gs)) else 0) = nu := ⟨_, rfl⟩
        have hnb : 0 ≤ nu ∧ nu ≤ 1125899906842624 := by
          rw [← hnu]
          split
          · exact fw_bd HN.out
          · omega
        have HX : Hid (chV P T qs gs = fracV nu (fw P T (look gs)) ∧ chE P T qs gs = 0) := by
          cases e3 : cmp (look qs) (look gs)
          · rw [e3, if_neg (by decide)] at hnu
            have := ch_not E1.out E2.out HZ.out e3
            rw [← hnu]; exact this
          · rw [e3, if_pos rfl] at hnu
            have := ch_yes E1.out E2.out HZ.out e3
            rw [← hnu]; exact this
        rw [hnu] at hs
        refine hs.mono ?_
        rintro e w4 ⟨rfl, hb4⟩
        have HB4 : Hid (Below wa.heap.size wa w4) := HB3.out.trans (hb4.mono HB3.out.size)
        clear hs hb4 d0 d1 hnu
        go_wp2_with fail
        refine (reduced_any nu (fw P T (look gs)) w4 (by omega) (by omega) (by omega) (by omega)).mono ?_
        rintro e w5 ⟨rfl, hb5⟩
        have HB5 : Hid (Below wa.heap.size wa w5) := HB4.out.trans (hb5.mono HB4.out.size)
        have K5 := Lib.hid (HT2.out _ HB5.out).2
        clear hb5
        go_wp2_with (refine wpList_store_row rfl 29 (.tmp 6) (.tmp 35) rfl (w.heap.size + 1) _ rfl rfl 29 _ K5.out (by kernel_rfl) rfl (fracC_all _ _) ?_)
        refine bodyPost_ret (v := .tuple #[fracV nu (fw P T (look gs)), .int .i64 0]) ?_ rfl ⟨by rw [HX.out.1, HX.out.2], below_setRow (HW0b.out.trans (HB5.out.mono (by have := HW0n.out; omega))) (by omega) _⟩
        exact results_cell_row2 (ty := 29) (p := 6) (u := 7) rfl _ _ (w.heap.size + 1) 29 _ (0, 0) _ rfl (setRow_heap _ _ _ _ _ _ K5.out) Try.underlying29 rfl (by kernel_rfl)

end Go.Proofs.Ytghffnjnpgiicaa

