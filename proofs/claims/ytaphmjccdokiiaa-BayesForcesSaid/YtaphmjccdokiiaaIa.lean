/- The reference's sums. -/
import Derived.Test.YtaphmjccdokiiaaHa
namespace Go.Proofs.Ytaphmjccdokiiaa
open Go.RowKit Go.Maps

/-- The weight of those of the first k assignments that agree with both lists. -/
def smTo (P T : List (List Int)) (qs gs : List (Int × Int)) : Nat → Int
  | 0 => 0
  | k + 1 => smTo P T qs gs k + if (agL qs (bitv P.length k) && agL gs (bitv P.length k)) = true then wt P T (bitv P.length k) P.length else 0
def sm (P T : List (List Int)) (qs gs : List (Int × Int)) : Int := smTo P T qs gs (2 ^ P.length)

theorem smTo_bd {P T : List (List Int)} {qs gs : List (Int × Int)} (h : IsNet P T) (k : Nat) : 0 ≤ smTo P T qs gs k ∧ smTo P T qs gs k ≤ k * 1099511627776 := by
  induction k with
  | zero => simp [smTo]
  | succ k ih =>
    have := wt_le h (bitv_Bits P.length k) P.length (Nat.le_refl _)
    simp only [smTo]
    split <;> omega

theorem nth_vals' (n pos : Nat) : nth (vals n pos) = bitv n pos := funext (nth_vals n pos)

/-- The facts as a function, and as a list. -/
theorem agr_look {ps : List (Int × Int)} {n : Nat} (h : okFacts ps n = true) (hn : n ≤ 10) (a : Nat → Int) : agr (look ps) a = agL ps a := by
  have hg := of_decide_eq_true h
  unfold agr agL
  rw [Bool.eq_iff_iff]
  simp only [decide_eq_true_eq]
  constructor
  · intro hv i hi
    have hgi := hg i hi
    have hgr := hgi.1
    have h2 := hv (pf ps i).toNat (by omega)
    rw [show ((pf ps i).toNat : Int) = pf ps i by omega] at h2
    rcases h2 with h2 | h2
    · exact absurd rfl (lookTo_none.1 h2 i hi)
    · obtain ⟨j, hj, e1, e2⟩ := lookTo_some h2
      have : j = i := by
        rcases Nat.lt_trichotomy j i with h3 | h3 | h3
        · exact absurd e1 (hgi.2.2 j h3)
        · exact h3
        · exact absurd e1.symm ((hg j hj).2.2 i h3)
      subst this
      exact e2.symm
  · intro hv v hv10
    cases e : look ps (v : Int) with
    | none => exact .inl rfl
    | some c =>
      right
      obtain ⟨j, hj, e1, e2⟩ := lookTo_some e
      have := hv j hj
      rw [e1] at this
      rw [← e2, ← this]
      simp

theorem agL_nil (a : Nat → Int) : agL [] a = true := decide_eq_true (fun i hi => absurd hi (by simp))

theorem agr_union {φ ψ : Int → Option Int} (a : Nat → Int) (hc : cmp φ ψ = true) : agr (union φ ψ) a = (agr φ a && agr ψ a) := by
  have hc' := of_decide_eq_true hc
  unfold agr
  rw [Bool.eq_iff_iff]
  simp only [decide_eq_true_eq, Bool.and_eq_true]
  constructor
  · intro h
    refine ⟨fun v hv => ?_, fun v hv => ?_⟩
    · have h1 := h v hv
      have h2 := hc' v hv
      unfold union at h1
      cases e : ψ (v : Int) with
      | none => rw [e] at h1; exact h1
      | some c =>
        rw [e] at h1 h2
        rcases h2 with h2 | h2 | h2
        · exact .inl h2
        · cases h2
        · rcases h1 with h1 | h1
          · cases h1
          · right; rw [h2]; exact h1
    · have h1 := h v hv
      unfold union at h1
      cases e : ψ (v : Int) with
      | none => exact .inl rfl
      | some c =>
        rw [e] at h1
        rcases h1 with h1 | h1
        · cases h1
        · exact .inr h1
  · rintro ⟨h1, h2⟩ v hv
    unfold union
    cases e : ψ (v : Int) with
    | none => exact h1 v hv
    | some c =>
      have := h2 v hv
      rw [e] at this
      rcases this with h | h
      · cases h
      · exact .inr h

theorem agr_not {φ ψ : Int → Option Int} (a : Nat → Int) (hc : cmp φ ψ = false) : (agr φ a && agr ψ a) = false := by
  rw [Bool.eq_false_iff]
  intro h
  simp only [Bool.and_eq_true] at h
  obtain ⟨h1, h2⟩ := h
  have h1 := of_decide_eq_true h1
  have h2 := of_decide_eq_true h2
  refine of_decide_eq_false hc (fun v hv => ?_)
  rcases h1 v hv with e | e
  · exact .inl e
  · rcases h2 v hv with e2 | e2
    · exact .inr (.inl e2)
    · exact .inr (.inr (by rw [e, e2]))

theorem sm_one {P T : List (List Int)} {gs : List (Int × Int)} (h : okFacts gs P.length = true) (hn : P.length ≤ 10) : sm P T gs [] = fw P T (look gs) := by
  unfold sm fw
  generalize 2 ^ P.length = m
  induction m with
  | zero => rfl
  | succ m ih => simp only [smTo, fwTo, ih, agL_nil, Bool.and_true, agr_look h hn]
theorem sm_two {P T : List (List Int)} {qs gs : List (Int × Int)} (h : okFacts qs P.length = true) (h2 : okFacts gs P.length = true) (hn : P.length ≤ 10) :
    sm P T qs gs = if cmp (look qs) (look gs) = true then fw P T (union (look qs) (look gs)) else 0 := by
  unfold sm fw
  generalize 2 ^ P.length = m
  cases hc : cmp (look qs) (look gs)
  · rw [if_neg (by decide)]
    induction m with
    | zero => rfl
    | succ m ih => simp only [smTo, ih, ← agr_look h hn, ← agr_look h2 hn, agr_not _ hc]; simp
  · rw [if_pos rfl]
    induction m with
    | zero => rfl
    | succ m ih => simp only [smTo, fwTo, ih, ← agr_look h hn, ← agr_look h2 hn, agr_union _ hc]

set_option maxHeartbeats 2000000 in
set_option maxRecDepth 100000 in
theorem refSum_any (P T : List (List Int)) (v : Value) (qs gs : List (Int × Int)) (ao : Option Addr) (ab aoff ac : Nat) (bo : Option Addr) (bb boff bc : Nat) (w : World) (h : NetAt w v P T) (hn : IsNet P T)
    (ha : PairsAt w ao ab aoff qs) (hg : PairsAt w bo bb boff gs) (hla : qs.length ≤ 1000) (hlg : gs.length ≤ 1000) (oka : okFacts qs P.length = true) (okg : okFacts gs P.length = true) :
    Calls Try.prog 55 #[v, .slice ao qs.length ac, .slice bo gs.length bc] w fun e w' => e = .returned (.int .i64 (sm P T qs gs)) ∧ Below w.heap.size w w' := by
  have HNet := Lib.hid h
  have HN := Lib.hid hn
  have HA := Lib.hid ha
  have HG := Lib.hid hg
  have OKA := Lib.hid oka
  have OKG := Lib.hid okg
  obtain ⟨pa, b, o, pc, A, B, O, C, ta, b', o', tc, A', B', O', C', rfl, hP, hT⟩ := h.ex
  have h10 := hn.le
  have h2 := two_pow_le h10
  have hp := wrap_pow P.length (by omega)
  obtain ⟨m, hm⟩ : ∃ m : Nat, m = 2 ^ P.length := ⟨_, rfl⟩
  rw [← hm] at h2 hp
  have HM := Lib.hid hm
  clear hP hT h hn ha hg oka okg hm
  go_enter Try.func55, Try.ntmps55
  go_wp2
  go_loopw [8, 9, 10] (fun s i _ wr => ∃ k : Nat, k ≤ m ∧ i = .int .i64 k ∧ s = .int .i64 (smTo P T qs gs k) ∧ Below (w.heap.size + 1) (w.alloc (.cells #[.slice pa P.length pc, .slice ta T.length tc] 24)) wr) (fun _ i _ _ => m - (intOf i).toNat)
  case atStart => exact ⟨0, by omega, rfl, rfl, Below.refl _ _⟩
  case round =>
    obtain ⟨k, hk, rfl, rfl, hb⟩ := hrel
    have HB := Lib.hid hb
    have hbd := smTo_bd (qs := qs) (gs := gs) HN.out k
    clear hb
    by_cases hlt : k < m
    · go_wp2_with fail
      refine (refValues_any P.length k _ h10 (by omega)).mono ?_
      rintro e w1 ⟨rfl, hrow, hb1⟩
      have s0 := HB.out.size
      simp only [World.size_alloc] at s0
      have HB1 := Lib.hid (HB.out.trans (hb1.mono s0))
      have hI : IntsAt w1 (some ⟨wr.heap.size, 0, none⟩) wr.heap.size 0 (vals P.length k) := intsAt_of_row (by rw [vals_length, nth_vals']; exact hrow) (by rw [vals_length]; omega) (fun i => by
        rw [nth_vals]; have := bitv_Bits P.length k i; omega)
      have HI := Lib.hid hI
      obtain ⟨x0, x1⟩ := box2 HB1.out
      have s1 := HB1.out.size
      simp only [World.size_alloc] at s1
      have hwt := wt_le HN.out (bitv_Bits P.length k) P.length (Nat.le_refl _)
      have hfa : PairsAt w1 ao ab aoff qs := (HA.out.alloc _).below HB1.out (by simp)
      have hA1 := agrees_any (vals P.length k) qs _ _ 0 P.length ao ab aoff ac w1 hI hfa (by rw [vals_length]; exact OKA.out) hla
      rw [vals_length, nth_vals'] at hA1
      clear hb1 hrow hI hfa
      cases e1 : agL qs (bitv P.length k)
      · rw [e1] at hA1
        have HS := Lib.hid (show smTo P T qs gs (k + 1) = smTo P T qs gs k by simp [smTo, e1])
        have HA1 := Lib.hid hA1
        clear hA1 e1
        go_wp2_with fail
        refine HA1.out.mono ?_
        rintro e w2 ⟨rfl, hb2⟩
        have HB2 := Lib.hid (HB1.out.trans (hb2.mono s1))
        clear hb2 x0 x1
        go_wp2
        go_roundw
        case rel => exact ⟨k + 1, by omega, by go_num, by rw [HS.out], HB2.out⟩
        case measure => simp [intOf]; omega
      · rw [e1] at hA1
        have HA1 := Lib.hid hA1
        have HE1 := Lib.hid e1
        clear hA1 e1
        go_wp2_with fail
        refine HA1.out.mono ?_
        rintro e w2 ⟨rfl, hb2⟩
        have HB2 := Lib.hid (HB1.out.trans (hb2.mono s1))
        have hI2 := HI.out.below hb2 (Nat.le_refl _)
        have HI2 := Lib.hid hI2
        have s2 := HB2.out.size
        simp only [World.size_alloc] at s2
        have hfa : PairsAt w2 bo bb boff gs := (HG.out.alloc _).below HB2.out (by simp)
        have hA2 := agrees_any (vals P.length k) gs _ _ 0 P.length bo bb boff bc w2 hI2 hfa (by rw [vals_length]; exact OKG.out) hlg
        rw [vals_length, nth_vals'] at hA2
        clear hb2 x0 x1 hI2 hfa
        cases e2 : agL gs (bitv P.length k)
        · rw [e2] at hA2
          have HS := Lib.hid (show smTo P T qs gs (k + 1) = smTo P T qs gs k by simp [smTo, e2])
          have HA2 := Lib.hid hA2
          clear hA2 e2
          go_wp2_with fail
          refine HA2.out.mono ?_
          rintro e w3 ⟨rfl, hb3⟩
          have HB3 := Lib.hid (HB2.out.trans (hb3.mono s2))
          clear hb3
          go_wp2
          go_roundw
          case rel => exact ⟨k + 1, by omega, by go_num, by rw [HS.out], HB3.out⟩
          case measure => simp [intOf]; omega
        · rw [e2] at hA2
          have HS := Lib.hid (show smTo P T qs gs (k + 1) = smTo P T qs gs k + wt P T (bitv P.length k) P.length by simp [smTo, e2, HE1.out])
          have HA2 := Lib.hid hA2
          clear hA2 e2
          go_wp2_with fail
          refine HA2.out.mono ?_
          rintro e w3 ⟨rfl, hb3⟩
          have HB3 := Lib.hid (HB2.out.trans (hb3.mono s2))
          have HI3 := Lib.hid (HI2.out.below hb3 (Nat.le_refl _))
          obtain ⟨y0, y1⟩ := box2 HB3.out
          have s3 := HB3.out.size
          simp only [World.size_alloc] at s3
          clear hb3
          go_wp2_with fail
          have hW := refWeight_any P T (.agg #[.slice pa P.length pc, .slice ta T.length tc]) (vals P.length k) _ _ 0 P.length w3 ((HNet.out.alloc _).below HB3.out (by simp)) HI3.out HN.out (by rw [nth_vals']; exact bitv_Bits _ _) (vals_length _ _)
          rw [vals_length, nth_vals'] at hW
          refine hW.mono ?_
          rintro e w4 ⟨rfl, hb4⟩
          have HB4 := Lib.hid (HB3.out.trans (hb4.mono s3))
          clear hW hb4 y0 y1
          go_wp2
          go_roundw
          case rel => exact ⟨k + 1, by omega, by go_num, by rw [HS.out], HB4.out⟩
          case measure => simp [intOf]; omega
    · go_wp2
      go_ret
      have e : k = 2 ^ P.length := by have := HM.out; omega
      exact ⟨ret_int (by rw [sm, ← e]), ((Below.refl _ _).alloc (Nat.le_refl _) _).trans (HB.out.mono (by omega))⟩

end Go.Proofs.Ytaphmjccdokiiaa
