/- I1: Pb Qb Rb Sb -/
import Derived.Test.YtghffnjnpgiicaaH9
import Derived.Maps.AppendAt
import Derived.Test.YtghffnjnpgiicaaG6
/- Effect. -/
namespace Go.Proofs.Ytghffnjnpgiicaa
open Go.RowKit Go.Maps

theorem zero_maxLen : 0 < maxLen := by unfold maxLen; omega
/-- The arguments of Effect are right. -/
def okEff (P T : List (List Int)) (x y : Int) : Bool := isNet P T && isVar x P.length && isVar y P.length
/-- The weight that y has the value 1 if x is forced. -/
def effW (P T : List (List Int)) (x y : Nat) (val : Int) : Int := fw (P.set x []) (T.set x [16 * val]) (oneF y)
def effV (P T : List (List Int)) (x y val : Int) : Value := if okEff P T x y = true then fracV (effW P T x.toNat y.toNat val) (16 ^ P.length) else zeroF
def effE (P T : List (List Int)) (x y : Int) : Int := if okEff P T x y = true then 0 else 2
theorem eff_no {P T : List (List Int)} {x y : Int} (h : okEff P T x y = false) : effV P T x y 0 = zeroF ∧ effV P T x y 1 = zeroF ∧ effE P T x y = 2 := by
  unfold effV effE; rw [h]; exact ⟨rfl, rfl, rfl⟩
theorem eff_yes {P T : List (List Int)} {x y : Nat} (h : okEff P T (x : Int) (y : Int) = true) : effV P T x y 0 = fracV (effW P T x y 0) (16 ^ P.length) ∧ effV P T x y 1 = fracV (effW P T x y 1) (16 ^ P.length) ∧ effE P T x y = 0 := by
  unfold effV effE; rw [h]; simp

theorem results_cell_cell {P : Program} {fn : Func} {p q u : Tmp} {ty : TypeId} (h : fn.results = #[.cell p ty, .cell q ty, .tmp u]) (tmps : Array Value) (w : World) (g g' : Nat) (t : TypeId) (cs cs' : Array Value) (fr fr' : Nat × Nat) (d : TypeDesc)
    (hp : tmps.getD p undef = .pointer (some ⟨g, 0, none⟩)) (hg : w.heap[g]? = some (.cells cs t fr)) (hq : tmps.getD q undef = .pointer (some ⟨g', 0, none⟩)) (hg' : w.heap[g']? = some (.cells cs' t fr'))
    (hu : P.underlying ty = some d) (hd : (match d with | .struct _ | .array _ _ => true | _ => false) = true) (hi : (P.info? ty).map (·.size) = some cs.size) (hi' : (P.info? ty).map (·.size) = some cs'.size) :
    (results fn tmps).run P w = .ok (.tuple #[.agg cs, .agg cs', tmps.getD u undef]) w := by
  have hp' : tmps[p]?.getD undef = .pointer (some ⟨g, 0, none⟩) := by simpa using hp
  have hq' : tmps[q]?.getD undef = .pointer (some ⟨g', 0, none⟩) := by simpa using hq
  simp only [results, h]
  simp [Sem.run_bind, Result.andThen, hp', hq', asAddr, run_loadVar_row w g t ty cs fr d hg hu hd hi, run_loadVar_row w g' t ty cs' fr' d hg' hu hd hi']

/-- What Effect answers. -/
def EffectSays (P T : List (List Int)) (x y : Int) (w : World) (e : Ending) (w' : World) : Prop :=
  e = .returned (.tuple #[effV P T x y 0, effV P T x y 1, .int .i64 (effE P T x y)]) ∧ Below w.heap.size w w'

set_option maxHeartbeats 4000000 in
set_option maxRecDepth 100000 in
theorem effect_any (P T : List (List Int)) (v : Value) (x y : Int) (w : World) (h : NetAt w v P T) :
    Calls Try.prog 34 #[v, .int .i64 x, .int .i64 y] w (EffectSays P T x y w) := by
  have HNet := Lib.hid h
  obtain ⟨pa, b, o, pc, A, B, O, C, ta, b', o', tc, A', B', O', C', rfl, hP, hT⟩ := h.ex
  obtain ⟨W0, hW0⟩ : ∃ W0, ((w.alloc (.cells #[.slice pa P.length pc, .slice ta T.length tc] 24)).alloc (.cells #[.int .i64 0, .int .i64 0] 29)).alloc (.cells #[.int .i64 0, .int .i64 0] 29) = W0 := ⟨_, rfl⟩
  have HW0 := Lib.hid hW0
  have hs0 : W0.heap.size = w.heap.size + 3 := by rw [← hW0]; simp
  have HS0 := Lib.hid hs0
  have HB0 : Hid (Below w.heap.size w W0) := by rw [← hW0]; exact (((Below.refl _ _).alloc (Nat.le_refl _) _).alloc (by simp) _).alloc (by simp; omega) _
  have HX0 : Hid (W0.heap[w.heap.size]? = some (.cells #[.slice pa P.length pc, .slice ta T.length tc] 24 (0, 0)) ∧ W0.heap[w.heap.size + 1]? = some (.cells #[.int .i64 0, .int .i64 0] 29 (0, 0)) ∧ W0.heap[w.heap.size + 2]? = some (.cells #[.int .i64 0, .int .i64 0] 29 (0, 0))) := by
    rw [← hW0]; exact ⟨rfl3 _ _ _ _, rfl4 _ _ _ _, rfl5 _ _ _ _⟩
  have HT3 := Lib.hid (show ∀ w', Below W0.heap.size W0 w' → w'.heap[w.heap.size]? = some (.cells #[.slice pa P.length pc, .slice ta T.length tc] 24 (0, 0)) ∧ w'.heap[w.heap.size + 1]? = some (.cells #[.int .i64 0, .int .i64 0] 29 (0, 0)) ∧ w'.heap[w.heap.size + 2]? = some (.cells #[.int .i64 0, .int .i64 0] 29 (0, 0)) from
    fun w' h => ⟨(h.block _ (by omega)).trans HX0.out.1, (h.block _ (by omega)).trans HX0.out.2.1, (h.block _ (by omega)).trans HX0.out.2.2⟩)
  have HN0 := Lib.hid (HNet.out.below HB0.out (Nat.le_refl _))
  have hv1 := fun w => isVariable_any x P.length w
  have hv2 := fun w => isVariable_any y P.length w
  have HV1 := Lib.hid hv1
  have HV2 := Lib.hid hv2
  have HONE := Lib.hid (show (#[Value.int .i64 0, Value.int .i64 0] : Array Value).all (·.oneCell') = true by simp [Value.oneCell'])
  clear h hP hT hv1 hv2 hW0 hs0
  obtain ⟨ok, hok⟩ : ∃ ok, isNet P T = ok := ⟨_, rfl⟩
  have HOK := Lib.hid hok
  clear hok
  have HRF := Lib.hid (show ∀ w' tmps, okEff P T x y = false → Below W0.heap.size W0 w' → tmps.getD 6 undef = .pointer (some ⟨w.heap.size + 1, 0, none⟩) → tmps.getD 7 undef = .pointer (some ⟨w.heap.size + 2, 0, none⟩) → tmps.getD 8 undef = .int .i64 2 →
      (results Try.f34 tmps).run Try.prog ((w'.setRow (w.heap.size + 1) #[.int .i64 0, .int .i64 0]).setRow (w.heap.size + 2) #[.int .i64 0, .int .i64 0]) = .ok (.tuple #[zeroF, zeroF, .int .i64 2]) ((w'.setRow (w.heap.size + 1) #[.int .i64 0, .int .i64 0]).setRow (w.heap.size + 2) #[.int .i64 0, .int .i64 0]) from
    fun w' tmps _ hb h1 h2 h3 => by
      obtain ⟨-, q1, q2⟩ := HT3.out w' hb
      have r1 := setRow_heap w' (w.heap.size + 1) _ #[.int .i64 0, .int .i64 0] _ _ q1
      have r2 : (w'.setRow (w.heap.size + 1) #[.int .i64 0, .int .i64 0]).heap[w.heap.size + 2]? = _ := (Go.setRow_other _ _ _ _ (by omega)).trans q2
      rw [results_cell_cell (fn := Try.f34) (p := 6) (q := 7) (u := 8) (ty := 29) rfl tmps _ (w.heap.size + 1) (w.heap.size + 2) 29 _ _ (0, 0) (0, 0) _ h1 ((Go.setRow_other _ _ _ _ (by omega)).trans r1) h2 (setRow_heap _ _ _ _ _ _ r2) Try.underlying29 rfl (by kernel_rfl) (by kernel_rfl), h3]
      rfl)
  go_enter Try.func34, Try.ntmps34
  go_wp2_with fail
  rw [HW0.out]
  refine (isNetwork_any P T _ _ HN0.out).mono ?_
  rw [HOK.out]
  rintro e w1 ⟨rfl, hb1⟩
  have HB1 : Hid (Below W0.heap.size W0 w1) := hb1
  obtain ⟨k0, k1, k2⟩ := HT3.out w1 hb1
  obtain ⟨c0, c1, -, -⟩ := cells_of2 k0
  have K1 := Lib.hid k1
  have K2 := Lib.hid (show (w1.setRow (w.heap.size + 1) #[.int .i64 0, .int .i64 0]).heap[w.heap.size + 2]? = _ from (Go.setRow_other _ _ _ _ (by omega)).trans k2)
  clear hb1 k0 k1 k2
  have HBF := Lib.hid (show Below w.heap.size w ((w1.setRow (w.heap.size + 1) #[.int .i64 0, .int .i64 0]).setRow (w.heap.size + 2) #[.int .i64 0, .int .i64 0]) from
    below_setRow (below_setRow (HB0.out.trans (HB1.out.mono (by have := HS0.out; omega))) (by omega) _) (by omega) _)
  cases ok
  · have HNO := Lib.hid (show okEff P T x y = false by unfold okEff; rw [HOK.out]; rfl)
    go_wp2_with (first
      | (refine wpList_store_row rfl 29 (.tmp 6) (.tmp 31) rfl (w.heap.size + 1) _ rfl rfl 29 _ K1.out (by kernel_rfl) rfl HONE.out ?_)
      | (refine wpList_store_row rfl 29 (.tmp 7) (.tmp 32) rfl (w.heap.size + 2) _ rfl rfl 29 _ K2.out (by kernel_rfl) rfl HONE.out ?_))
    refine bodyPost_ret (v := .tuple #[zeroF, zeroF, .int .i64 2]) (HRF.out _ _ HNO.out HB1.out rfl rfl rfl) rfl ⟨?_, HBF.out⟩
    rw [(eff_no HNO.out).1, (eff_no HNO.out).2.1, (eff_no HNO.out).2.2]
  · have HN := Lib.hid (of_decide_eq_true HOK.out : IsNet P T)
    have h10 := HN.out.le
    cases e1 : isVar x P.length
    · have HNO := Lib.hid (show okEff P T x y = false by unfold okEff; rw [e1]; simp)
      have HC := HV1.out w1
      rw [e1] at HC
      replace HC := Lib.hid HC
      clear e1
      go_wp2_with (first
        | (go_at_call 58; with_reducible refine HC.out.mono ?_; rintro e w' ⟨rfl, rfl⟩)
        | (refine wpList_store_row rfl 29 (.tmp 6) (.tmp 31) rfl (w.heap.size + 1) _ rfl rfl 29 _ K1.out (by kernel_rfl) rfl HONE.out ?_)
        | (refine wpList_store_row rfl 29 (.tmp 7) (.tmp 32) rfl (w.heap.size + 2) _ rfl rfl 29 _ K2.out (by kernel_rfl) rfl HONE.out ?_))
      refine bodyPost_ret (v := .tuple #[zeroF, zeroF, .int .i64 2]) (HRF.out _ _ HNO.out HB1.out rfl rfl rfl) rfl ⟨?_, HBF.out⟩
      rw [(eff_no HNO.out).1, (eff_no HNO.out).2.1, (eff_no HNO.out).2.2]
    · have hx := of_decide_eq_true e1
      have E1 := Lib.hid e1
      have HC := HV1.out w1
      rw [e1] at HC
      replace HC := Lib.hid HC
      clear e1
      cases e2 : isVar y P.length
      · have HNO := Lib.hid (show okEff P T x y = false by unfold okEff; rw [e2]; simp)
        have HC2 := HV2.out w1
        rw [e2] at HC2
        replace HC2 := Lib.hid HC2
        clear e2 hx
        go_wp2_with (first
          | (go_at_call 58; with_reducible refine HC.out.mono ?_; rintro e w' ⟨rfl, rfl⟩)
          | (go_at_call 58; with_reducible refine HC2.out.mono ?_; rintro e w' ⟨rfl, rfl⟩)
          | (refine wpList_store_row rfl 29 (.tmp 6) (.tmp 31) rfl (w.heap.size + 1) _ rfl rfl 29 _ K1.out (by kernel_rfl) rfl HONE.out ?_)
          | (refine wpList_store_row rfl 29 (.tmp 7) (.tmp 32) rfl (w.heap.size + 2) _ rfl rfl 29 _ K2.out (by kernel_rfl) rfl HONE.out ?_))
        refine bodyPost_ret (v := .tuple #[zeroF, zeroF, .int .i64 2]) (HRF.out _ _ HNO.out HB1.out rfl rfl rfl) rfl ⟨?_, HBF.out⟩
        rw [(eff_no HNO.out).1, (eff_no HNO.out).2.1, (eff_no HNO.out).2.2]
      · have hy := of_decide_eq_true e2
        have HC2 := HV2.out w1
        rw [e2] at HC2
        replace HC2 := Lib.hid HC2
        have HYES := Lib.hid (show okEff P T x y = true by unfold okEff; rw [HOK.out, E1.out, e2]; rfl)
        obtain ⟨x, rfl⟩ := Int.eq_ofNat_of_zero_le hx.1
        obtain ⟨y, rfl⟩ := Int.eq_ofNat_of_zero_le hy.1
        have hxP : x < P.length := by omega
        have hyP : y < P.length := by omega
        have hy10 : y < 10 := by omega
        clear e2 hx hy K1 K2 HBF HRF
        go_wp2_with (first
          | (go_at_call 58; with_reducible refine HC.out.mono ?_; rintro e w' ⟨rfl, rfl⟩)
          | (go_at_call 58; with_reducible refine HC2.out.mono ?_; rintro e w' ⟨rfl, rfl⟩))
        have hwy : (kl (y : Int)).wf = true := by unfold kl; exact WalkArith.wf_i64 (by omega)
        have HK := Lib.hid (keyOf_int_mk (P := Try.prog) Try.underlying3 hwy)
        have HW1 := Lib.hid (show (Lit.int .i64 1).wf = true from WalkArith.wf_i64 (by omega))
        have hfn0 := isNet_forced HN.out hxP (val := 0) (.inl rfl)
        have hfn1 := isNet_forced HN.out hxP (val := 1) (.inr rfl)
        have hc0 := fun w h => forced_any P T (.agg #[.slice pa P.length pc, .slice ta T.length tc]) x 0 w h HN.out hxP (.inl rfl)
        have hc1 := fun w h => forced_any P T (.agg #[.slice pa P.length pc, .slice ta T.length tc]) x 1 w h HN.out hxP (.inr rfl)
        obtain ⟨P0, hP0⟩ : ∃ P0, P.set x [] = P0 := ⟨_, rfl⟩
        obtain ⟨T0, hT0⟩ : ∃ T0, T.set x [16 * 0] = T0 := ⟨_, rfl⟩
        obtain ⟨T1, hT1⟩ : ∃ T1, T.set x [16 * 1] = T1 := ⟨_, rfl⟩
        have HP0 := Lib.hid hP0
        have HT0 := Lib.hid hT0
        have HT1 := Lib.hid hT1
        have hlT0 : T0.length ≤ 1000 := by rw [← hT0, List.length_set]; have := HN.out.tab; omega
        have hlT1 : T1.length ≤ 1000 := by rw [← hT1, List.length_set]; have := HN.out.tab; omega
        have hlP0 : P0.length ≤ 1000 := by rw [← hP0, List.length_set]; omega
        rw [hP0, hT0] at hfn0 hc0
        rw [hP0, hT1] at hfn1 hc1
        have HF0 := Lib.hid hfn0
        have HF1 := Lib.hid hfn1
        have HC0 := Lib.hid hc0
        have HC1 := Lib.hid hc1
        clear hc0 hc1 hP0 hT0 hT1
        have hmm := @run_makeMap Try.prog
        have hs0 := HS0.out
        have s1 := HB1.out.size
        have HTL := Lib.hid HN.out.tab
        have hT10 : T.length ≤ 10 := by rw [HTL.out]; exact h10
        clear hwy hfn0 hfn1
        refine (HC0.out w1 (HN0.out.below HB1.out (Nat.le_refl _))).mono ?_
        rintro e w2 ⟨⟨v1, v2, rfl, n1, n2⟩, hb2⟩
        obtain ⟨qa, qc, sa, sc, rfl, rfl, hnet⟩ := net_of_rows n1 n2 hlP0 hlT0
        have HNF := Lib.hid hnet
        have HB2 := Lib.hid (HB1.out.trans (hb2.mono s1))
        obtain ⟨k0, -, -⟩ := HT3.out w2 HB2.out
        have s2 := HB2.out.size
        clear n1 n2 hb2 hnet c0 c1
        go_wp2_with (refine wpList_insert_own (H := Unit) _ rfl (.tmp 36) (.tmp 37) (.const (.int .i64 1)) 85 rfl 3 3 law3 Try.underlying85 (plainElem Try.prog 3) w2.heap.size 0 (.map []) rfl (World.ownsMap_made _ _ _ _) zero_maxLen (.int .i64 (y : Int)) (.int .i64 1) (kl (y : Int)) rfl rfl HK.out (.lit (.int .i64 1)) [] (plainElem_int Try.underlying3 HW1.out) ?_; intro w3 hown3 hg3)
        have HFA := Lib.hid (facts_one hown3)
        have HB23 : Hid (Below w2.heap.size w2 w3) := ((Below.refl _ _).alloc (Nat.le_refl _) _).grown hg3 (by simp) (fun j hj => by have := Option.some.inj hj; omega)
        have HB3 := Lib.hid (HB2.out.trans (HB23.out.mono s2))
        clear hown3 hg3 k0
        have hfw := factsWeight_any P0 T0 (.agg #[.slice qa P0.length qc, .slice sa T0.length sc]) w2.heap.size (oneF y) w3 (HNF.out.below HB23.out (Nat.le_refl _)) HF0.out HFA.out (oneF_dom hy10)
        have hbd0 := fw_bd (φ := oneF y) HF0.out
        obtain ⟨e0, he0⟩ : ∃ e0, fw P0 T0 (oneF y) = e0 := ⟨_, rfl⟩
        have HE0 := Lib.hid he0
        rw [he0] at hfw hbd0
        have s3 := HB3.out.size
        clear he0
        go_wp2_with fail
        refine hfw.mono ?_
        rintro e w4 ⟨rfl, hb4⟩
        have HB4 := Lib.hid (HB3.out.trans (hb4.mono s3))
        obtain ⟨k0, -, -⟩ := HT3.out w4 HB4.out
        obtain ⟨c0, c1, -, -⟩ := cells_of2 k0
        have s4 := HB4.out.size
        clear hfw hb4 k0
        go_wp2_with fail
        refine (HC1.out w4 (HN0.out.below HB4.out (Nat.le_refl _))).mono ?_
        rintro e w5 ⟨⟨v1, v2, rfl, n1, n2⟩, hb5⟩
        obtain ⟨ra, rc, ua, uc, rfl, rfl, hnet⟩ := net_of_rows n1 n2 hlP0 hlT1
        have HNG := Lib.hid hnet
        have HB5 := Lib.hid (HB4.out.trans (hb5.mono s4))
        have s5 := HB5.out.size
        clear n1 n2 hb5 hnet c0 c1
        go_wp2_with (refine wpList_insert_own (H := Unit) _ rfl (.tmp 43) (.tmp 44) (.const (.int .i64 1)) 85 rfl 3 3 law3 Try.underlying85 (plainElem Try.prog 3) w5.heap.size 0 (.map []) rfl (World.ownsMap_made _ _ _ _) zero_maxLen (.int .i64 (y : Int)) (.int .i64 1) (kl (y : Int)) rfl rfl HK.out (.lit (.int .i64 1)) [] (plainElem_int Try.underlying3 HW1.out) ?_; intro w6 hown6 hg6)
        have HFB := Lib.hid (facts_one hown6)
        have HB56 : Hid (Below w5.heap.size w5 w6) := ((Below.refl _ _).alloc (Nat.le_refl _) _).grown hg6 (by simp) (fun j hj => by have := Option.some.inj hj; omega)
        have HB6 := Lib.hid (HB5.out.trans (HB56.out.mono s5))
        clear hown6 hg6
        have hfw := factsWeight_any P0 T1 (.agg #[.slice ra P0.length rc, .slice ua T1.length uc]) w5.heap.size (oneF y) w6 (HNG.out.below HB56.out (Nat.le_refl _)) HF1.out HFB.out (oneF_dom hy10)
        have hbd1 := fw_bd (φ := oneF y) HF1.out
        obtain ⟨e1, he1⟩ : ∃ e1, fw P0 T1 (oneF y) = e1 := ⟨_, rfl⟩
        have HE1 := Lib.hid he1
        rw [he1] at hfw hbd1
        have s6 := HB6.out.size
        clear he1 hmm
        go_wp2_with fail
        refine hfw.mono ?_
        rintro e w7 ⟨rfl, hb7⟩
        have HB7 := Lib.hid (HB6.out.trans (hb7.mono s6))
        obtain ⟨k0, -, -⟩ := HT3.out w7 HB7.out
        obtain ⟨c0, c1, -, -⟩ := cells_of2 k0
        have s7 := HB7.out.size
        clear hfw hb7 k0
        go_wp2_with fail
        have hfl := fullWeight_any P T (.agg #[.slice pa P.length pc, .slice ta T.length tc]) w7 (HN0.out.below HB7.out (Nat.le_refl _)) hT10
        have h16 := pow16_le (k := T.length) hT10
        have h16' := Int.pow_pos (n := 16) (m := T.length) (by omega)
        obtain ⟨q, hq⟩ : ∃ q : Int, (16 : Int) ^ T.length = q := ⟨_, rfl⟩
        have HQ := Lib.hid hq
        rw [hq] at hfl h16 h16'
        clear hq
        refine hfl.mono ?_
        rintro e w8 ⟨rfl, hb8⟩
        have HB8 := Lib.hid (HB7.out.trans (hb8.mono s7))
        have s8 := HB8.out.size
        clear hfl hb8 c0 c1
        go_wp2_with fail
        refine (fraction_any e0 q _ (by omega) (by omega) (by omega) (by omega)).mono ?_
        rintro e w9 ⟨rfl, hb9⟩
        have HB9 := Lib.hid (HB8.out.trans (hb9.mono s8))
        have s9 := HB9.out.size
        clear hb9
        go_wp2_with fail
        refine (fraction_any e1 q _ (by omega) (by omega) (by omega) (by omega)).mono ?_
        rintro e w10 ⟨rfl, hb10⟩
        have HB10 := Lib.hid (HB9.out.trans (hb10.mono s9))
        have s10 := HB10.out.size
        obtain ⟨-, k1, k2⟩ := HT3.out w10 HB10.out
        have K1 := Lib.hid k1
        have K2 := Lib.hid (show (w10.setRow (w.heap.size + 1) (fracC e0 q)).heap[w.heap.size + 2]? = _ from (Go.setRow_other _ _ _ _ (by omega)).trans k2)
        clear hb10 k1 k2
        go_wp2_with (first
          | (refine wpList_store_row rfl 29 (.tmp 6) (.tmp 51) rfl (w.heap.size + 1) _ rfl rfl 29 _ K1.out (by kernel_rfl) rfl (fracC_all _ _) ?_)
          | (refine wpList_store_row rfl 29 (.tmp 7) (.tmp 54) rfl (w.heap.size + 2) _ rfl rfl 29 _ K2.out (by kernel_rfl) rfl (fracC_all _ _) ?_))
        refine bodyPost_ret (v := .tuple #[fracV e0 q, fracV e1 q, .int .i64 0]) ?_ rfl ⟨?_, below_setRow (below_setRow (HB0.out.trans (HB10.out.mono (by omega))) (by omega) _) (by omega) _⟩
        · exact results_cell_cell (p := 6) (q := 7) (u := 8) (ty := 29) rfl _ _ (w.heap.size + 1) (w.heap.size + 2) 29 _ _ (0, 0) (0, 0) _ rfl ((Go.setRow_other _ _ _ _ (by omega)).trans (setRow_heap _ _ _ _ _ _ K1.out)) rfl (setRow_heap _ _ _ _ _ _ K2.out) Try.underlying29 rfl (by kernel_rfl) (by kernel_rfl)
        · rw [(eff_yes HYES.out).1, (eff_yes HYES.out).2.1, (eff_yes HYES.out).2.2]
          unfold effW
          rw [HP0.out, HT0.out, HT1.out, HE0.out, HE1.out, ← HTL.out, HQ.out]

end Go.Proofs.Ytghffnjnpgiicaa

/- Two lists of rows that grow side by side. -/
namespace Go.Proofs.Ytghffnjnpgiicaa
open Go.RowKit

/-- The two slices lie in two blocks. -/
def Apart (u v : Value) : Prop := ∀ g, u.ownBlock = some g → v.ownBlock ≠ some g
theorem Apart.symm {u v : Value} (h : Apart u v) : Apart v u := fun g h1 h2 => h g h2 h1
theorem Apart.nil (v : Value) : Apart (.slice none 0 0) v := fun g h => by simp [Value.ownBlock] at h

/-- A list of rows while another one grows. -/
theorem NewRows.while {B B' n : Nat} {w w' : World} {u v : Value} {xss : List (List Int)} {vs : List Value} (h : NewRows B w v xss) (hu : w.ownsRow B' 25 1 u n vs) (ha : Apart u v) (hg : w.grownBy w' u.ownBlock) : NewRows B w' v xss := by
  obtain ⟨ws, h1, h2, h3⟩ := h.ex
  refine ⟨ws, h1.kept hg ?_, fun j hj => let ⟨x, e, hx⟩ := h2 j hj; ⟨x, e, hx.kept hg (own_apart hx hu)⟩, h3⟩
  cases hv : v.ownBlock with
  | none => exact .inl rfl
  | some g => exact .inr (fun e => ha g e.symm hv)

theorem Apart.grow {B n : Nat} {w : World} {u u' v : Value} {vs : List Value} (ha : Apart u v) (hv : w.ownsRow B 25 1 v n vs) (hat : u'.ownBlock = u.ownBlock ∨ u'.ownBlock = some w.heap.size) : Apart u' v := by
  intro g h1 h2
  rcases hat with q | q
  · exact ha g (q ▸ h1) h2
  · rw [q] at h1
    have := (hv.lt g h2).2
    have := Option.some.inj h1
    omega

/-- Two lists of rows, under way. -/
structure Two (B : Nat) (w : World) (v1 v2 : Value) (A1 A2 : List (List Int)) : Prop where
  one : NewRows B w v1 A1
  two : NewRows B w v2 A2
  apart : Apart v1 v2

theorem Two.nil (B : Nat) (w : World) : Two B w (.slice none 0 0) (.slice none 0 0) [] [] := ⟨NewRows.nil _ _, NewRows.nil _ _, Apart.nil _⟩
theorem Two.below {B M : Nat} {w w' : World} {v1 v2 : Value} {A1 A2 : List (List Int)} (h : Two B w v1 v2 A1 A2) (hb : Below M w w') (hM : w.heap.size ≤ M) : Two B w' v1 v2 A1 A2 := ⟨h.one.below hb hM, h.two.below hb hM, h.apart⟩
theorem Two.blocks {B : Nat} {w w' : World} {v1 v2 : Value} {A1 A2 : List (List Int)} (h : Two B w v1 v2 A1 A2) (hh : ∀ g, B ≤ g → g < w.heap.size → w'.heap[g]? = w.heap[g]?) : Two B w' v1 v2 A1 A2 := ⟨h.one.blocks hh, h.two.blocks hh, h.apart⟩

/-- One row more in the first list. -/
theorem Two.first {B : Nat} {w w' : World} {v1 v2 v' u : Value} {A1 A2 : List (List Int)} {xs : List Int} {vs : List Value} (h : Two B w v1 v2 A1 A2) (h1 : w.ownsRow B 25 1 v1 A1.length vs)
    (h2 : ∀ j, j < A1.length → ∃ u, vs[j]? = some u ∧ NewInts B w u (row A1 j)) (h3 : ∀ u ∈ vs, u.oneCell' = true) (hu : NewInts B w u xs)
    (hown : w'.ownsRow B 25 1 v' (A1.length + 1) (vs ++ [u])) (hg : w.grownBy w' v1.ownBlock) (hat : v'.ownBlock = v1.ownBlock ∨ v'.ownBlock = some w.heap.size) : Two B w' v' v2 (A1 ++ [xs]) A2 := by
  obtain ⟨ws, k1, -, -⟩ := h.two.ex
  exact ⟨NewRows.snoc h1 h2 h3 hu hu.oneCell hown hg, h.two.while h1 h.apart hg, h.apart.grow k1 hat⟩
/-- One row more in the second list. -/
theorem Two.second {B : Nat} {w w' : World} {v1 v2 v' u : Value} {A1 A2 : List (List Int)} {xs : List Int} {vs : List Value} (h : Two B w v1 v2 A1 A2) (h1 : w.ownsRow B 25 1 v2 A2.length vs)
    (h2 : ∀ j, j < A2.length → ∃ u, vs[j]? = some u ∧ NewInts B w u (row A2 j)) (h3 : ∀ u ∈ vs, u.oneCell' = true) (hu : NewInts B w u xs)
    (hown : w'.ownsRow B 25 1 v' (A2.length + 1) (vs ++ [u])) (hg : w.grownBy w' v2.ownBlock) (hat : v'.ownBlock = v2.ownBlock ∨ v'.ownBlock = some w.heap.size) : Two B w' v1 v' A1 (A2 ++ [xs]) := by
  obtain ⟨ws, k1, -, -⟩ := h.one.ex
  exact ⟨h.one.while h1 h.apart.symm hg, NewRows.snoc h1 h2 h3 hu hu.oneCell hown hg, (h.apart.symm.grow k1 hat).symm⟩

theorem take_next {xss : List (List Int)} {k : Nat} (h : k < xss.length) : xss.take (k + 1) = xss.take k ++ [row xss k] := by
  rw [List.take_succ_eq_append_getElem h]
  simp [row, List.getD_eq_getElem?_getD, h]

end Go.Proofs.Ytghffnjnpgiicaa

/- The reference's Force. -/
namespace Go.Proofs.Ytghffnjnpgiicaa
open Go.RowKit

theorem own_slice' {B n : Nat} {w : World} {e : TypeId} {v : Value} {vs : List Value} (h : w.ownsRow B e 1 v n vs) (hp : 0 < n) : ∃ g cap, v = .slice (some ⟨g, 0, none⟩) n cap ∧ B ≤ g := by
  rcases h.2 with ⟨_, h2⟩ | ⟨g, cap, cur, h1, h2, h3⟩
  · omega
  · exact ⟨g, cap, h1, h2⟩

set_option maxHeartbeats 4000000 in
set_option maxRecDepth 100000 in
theorem refForce_any (P T : List (List Int)) (pa : Option Addr) (pb po pc : Nat) (A : Nat → Option Addr) (B O C : Nat → Nat) (ta : Option Addr) (tb tz tc : Nat) (A' : Nat → Option Addr) (B' O' C' : Nat → Nat) (x : Nat) (val : Int) (w : World)
    (hP : RowsAt w pa pb po P A B O C) (hT : RowsAt w ta tb tz T A' B' O' C') (cP : CapsOk P A C) (cT : CapsOk T A' C') (hn : IsNet P T) (hx : x < P.length) (hv : val = 0 ∨ val = 1) :
    Calls Try.prog 36 #[.agg #[.slice pa P.length pc, .slice ta T.length tc], .int .i64 x, .int .i64 val] w fun e w' =>
      (∃ v1 v2, e = .returned (.agg #[v1, v2]) ∧ NewRows w.heap.size w' v1 (P.set x []) ∧ NewRows w.heap.size w' v2 (T.set x [16 * val])) ∧ Below w.heap.size w w' := by
  have HN := Lib.hid hn
  have HP := Lib.hid hP
  have HT := Lib.hid hT
  have CP := Lib.hid cP
  have CT := Lib.hid cT
  have h10 := hn.le
  have htab := hn.tab
  have HTAB := Lib.hid htab
  have hv0 : 0 ≤ val := by omega
  have hv1 : val ≤ 1 := by omega
  obtain ⟨i0, hi, hz0, hz1, hz2⟩ := info_parts Try.info25
  obtain ⟨j0, hj, jz0, jz1, jz2⟩ := info_parts Try.info3
  have hl1 : (P.set x []).length = P.length := List.length_set
  have hl2 : (T.set x [16 * val]).length = P.length := by rw [List.length_set]; exact htab
  have HL1 := Lib.hid hl1
  have HL2 := Lib.hid hl2
  clear hP hT cP cT hn htab hl1 hl2
  go_enter Try.func36, Try.ntmps36
  go_wp2
  go_loopw [8, 9, 10, 11, 12] (fun i _ _ _ _ wr => ∃ (k : Nat) (v1 v2 : Value), k ≤ P.length ∧ i = .int .i64 k ∧ Below w.heap.size w wr ∧ Two (w.heap.size + 3) wr v1 v2 ((P.set x []).take k) ((T.set x [16 * val]).take k) ∧
    wr.heap[w.heap.size]? = some (.cells #[.slice pa P.length pc, .slice ta T.length tc] 24 (0, 0)) ∧ wr.heap[w.heap.size + 1]? = some (.cells #[.slice none 0 0, .slice none 0 0] 24 (0, 0)) ∧ wr.heap[w.heap.size + 2]? = some (.cells #[v1, v2] 24 (0, 0))) (fun i _ _ _ _ _ => P.length - (intOf i).toNat)
  case atStart => exact ⟨0, _, _, by omega, rfl, (((Below.refl _ _).alloc (Nat.le_refl _) _).alloc (by simp) _).alloc (by simp; omega) _, Two.nil _ _, rfl3 _ _ _ _, rfl4 _ _ _ _, rfl5 _ _ _ _⟩
  case round =>
    obtain ⟨k, v1, v2, hk, rfl, hb, htw, h0, h1, h2⟩ := hrel
    have HB := Lib.hid hb
    have HTW := Lib.hid htw
    have H0 := Lib.hid h0
    have H1 := Lib.hid h1
    have H2 := Lib.hid h2
    obtain ⟨c0, c1, -, -⟩ := cells_of2 h0
    have hs2 := lt_of_block h2
    clear hb htw h0 h1 h2
    by_cases hlt : k < P.length
    · have hlP1 : ((P.set x []).take k).length = k := by rw [List.length_take, HL1.out]; omega
      have hlT1 : ((T.set x [16 * val]).take k).length = k := by rw [List.length_take, HL2.out]; omega
      have hone : ∀ z : World, z = z := fun z => rfl
      by_cases hkx : k = x
      · have hq : ((k : Int) == (x : Int)) = true := by rw [beq_iff_eq]; omega
        obtain ⟨PK, hPK⟩ : ∃ PK, row (P.set x []) k = PK := ⟨_, rfl⟩
        obtain ⟨TK, hTK⟩ : ∃ TK, row (T.set x [16 * val]) k = TK := ⟨_, rfl⟩
        have HPK := Lib.hid hPK
        have HTK := Lib.hid hTK
        have hpk : PK = [] := by rw [← hPK, row_set hx, if_pos hkx]
        have htk : TK = [16 * val] := by rw [← hTK, row_set (by rw [HTAB.out]; exact hx), if_pos hkx]
        have HPE := Lib.hid hpk
        have HTE := Lib.hid htk
        clear hPK hTK hpk htk hkx
        have ho := own_nil (wr.alloc (.cells #[.int .i64 (16 * val)] 3)) (w.heap.size + 3)
        have HO := Lib.hid ho
        clear ho
        go_wp2_with (at_builtin; (refine wpList_append_own _ rfl (.tmp 23) (.tmp 26) 25 rfl (w.heap.size + 3) 3 j0 (.int .i64 0) 1 8 Try.underlying25 hj jz0 jz1 jz2 rfl (by decide) _ 0 [] rfl HO.out ⟨wr.heap.size, 0, none⟩ 1 1 [.int .i64 (16 * val)] rfl rfl (cell_one_new _ _ _) (by simp [Value.oneCell']) ?c1 ?c2 ?c3 ?_))
        case c1 => unfold maxLen; omega

        case c3 => first | omega | (simp; omega)
        intro u' WQ hown hg _
        obtain ⟨gs, sc, rfl, -⟩ := own_slice' hown (by omega)
        have HBQ : Hid (Below w.heap.size w WQ) := (HB.out.alloc HB.out.size _).grown hg (by have := HB.out.size; simp; omega) (fun r hr => by simp [Value.ownBlock] at hr)
        have hkeep : ∀ g, g < wr.heap.size → WQ.heap[g]? = wr.heap[g]? := fun g hg' => by
          rw [hg.block g (by simp; omega) (by simp [Value.ownBlock]), Below.heap_alloc _ _ _ (by omega)]
        have KB0 := Lib.hid ((hkeep _ (by omega)).trans H0.out)
        have KB1 := Lib.hid ((hkeep _ (by omega)).trans H1.out)
        have KB2 := Lib.hid ((hkeep _ (by omega)).trans H2.out)
        have HTWQ := Lib.hid (HTW.out.blocks (fun g _ h => hkeep g h))
        have HUP : Hid (NewInts (w.heap.size + 3) WQ (.slice none 0 0) PK) := by rw [HPE.out]; exact NewInts.nil _ _
        have HUT : Hid (NewInts (w.heap.size + 3) WQ (.slice (some ⟨gs, 0, none⟩) 1 sc) TK) := by
          rw [HTE.out]
          exact ⟨by simpa using hown, fun i => by
            match i with
            | 0 => simp [nth]; omega
            | i + 1 => simp [nth], by simp⟩
        have HSQ := hg.size
        clear hown hg hkeep HB HTW H0 H1 H2 c0 c1
        have hd := cells_of2 KB2.out
        obtain ⟨d0, d1, f0, f1⟩ := hd
        go_wp2
        go_quiet (fail)
        obtain ⟨wz, hwz⟩ : ∃ wz, WQ.drewN nq = wz := ⟨_, rfl⟩
        have HBZ : Hid (Below w.heap.size w wz) := by rw [← hwz]; exact below_drewN HBQ.out _
        have htwo : Two (w.heap.size + 3) wz v1 v2 ((P.set x []).take k) ((T.set x [16 * val]).take k) := by rw [← hwz]; exact HTWQ.out.below (below_drewN (Below.refl _ _) _) (Nat.le_refl _)
        have hup : NewInts (w.heap.size + 3) wz (.slice none 0 0) PK := by rw [← hwz]; exact HUP.out.below (below_drewN (Below.refl _ _) _) (Nat.le_refl _)
        have hut : NewInts (w.heap.size + 3) wz (.slice (some ⟨gs, 0, none⟩) 1 sc) TK := by rw [← hwz]; exact HUT.out.below (below_drewN (Below.refl _ _) _) (Nat.le_refl _)
        have hzz : wz.heap = WQ.heap := by rw [← hwz]; rfl
        have kb0 := KB0.out
        rw [← hzz] at kb0
        have kb1 := KB1.out
        rw [← hzz] at kb1
        have kb2 := KB2.out
        rw [← hzz] at kb2
        have hszz : w.heap.size + 3 ≤ wz.heap.size := by have := lt_of_block kb2; omega
        rw [hwz]
        have HTZ := Lib.hid htwo
        have HUPZ := Lib.hid hup
        have HUTZ := Lib.hid hut
        have Z0 := Lib.hid kb0
        have Z1 := Lib.hid kb1
        have Z2 := Lib.hid kb2
        clear hwz hzz htwo hup hut kb0 kb1 kb2 d0 d1 f0 f1 HUP HUT HTWQ KB0 KB1 KB2 HBQ
        obtain ⟨vs, e1, e2, e3⟩ := HTZ.out.one.ex
        have E1 := Lib.hid e1
        have E2 := Lib.hid e2
        have E3 := Lib.hid e3
        obtain ⟨d0, d1, f0, f1⟩ := cells_of2 (((Below.heap_alloc wz (.cells #[.slice none 0 0] 25) (w.heap.size + 2) (by omega))).trans Z2.out)
        have e1' := e1
        rw [hlP1] at e1'
        have E1' := Lib.hid (e1'.alloc (.cells #[.slice none 0 0] 25))
        clear e1 e2 e3 e1'
        go_wp2_with (at_builtin; refine wpList_append_own_at _ rfl (.tmp 46) (.tmp 48) 22 rfl (w.heap.size + 3) 25 i0 (.slice none 0 0) 1 24 Try.underlying22 hi hz0 hz1 hz2 rfl (by decide) v1 k vs rfl E1'.out ⟨wz.heap.size, 0, none⟩ 1 1 [.slice none 0 0] rfl rfl (cell_one_new _ _ _) (by simp [oneCell_slice]) ?r1_3 ?r1_4 ?r1_5 ?_)
        case r1_3 => unfold maxLen; omega
        case r1_4 => omega
        case r1_5 => first | omega | (simp; omega)
        intro v1' w2 hown hg hnl hat
        have hsz2 : wz.heap.size < w2.heap.size := by have := hg.size; simp at this; omega
        have htw2 := (HTZ.out.below ((Below.refl _ _).alloc (Nat.le_refl _) (.cells #[.slice none 0 0] 25)) (Nat.le_refl _)).first (E1.out.alloc _) (fun j hj => let ⟨u, q1, q2⟩ := E2.out j hj; ⟨u, q1, q2.below ((Below.refl _ _).alloc (Nat.le_refl _) _) (Nat.le_refl _)⟩) E3.out (HUPZ.out.below ((Below.refl _ _).alloc (Nat.le_refl _) _) (Nat.le_refl _)) (by rw [hlP1]; exact hown) hg (by rw [World.size_alloc]; exact hat)
        have hkeep : ∀ g, g < w.heap.size + 3 → w2.heap[g]? = wz.heap[g]? := fun g hg' => by
          rw [hg.block g (by simp; omega) (fun e => by have := (E1.out.lt g e.symm).1; omega), Below.heap_alloc _ _ _ (by omega)]
        obtain ⟨ga, ca, rfl, -⟩ := own_slice' hown (by omega)
        have k0 := (hkeep _ (by omega)).trans Z0.out
        have k1 := (hkeep _ (by omega)).trans Z1.out
        have k2 := (hkeep _ (by omega)).trans Z2.out
        have hut2 : NewInts (w.heap.size + 3) w2 (.slice (some ⟨gs, 0, none⟩) 1 sc) TK := (HUTZ.out.below ((Below.refl _ _).alloc (Nat.le_refl _) _) (Nat.le_refl _)).kept hg (own_apart HUTZ.out E1.out)
        have HB2 : Hid (Below w.heap.size w w2) := (HBZ.out.alloc HBZ.out.size _).grown hg (by have := HBZ.out.size; simp; omega) (fun r hr => by have := (E1.out.lt r hr).1; omega)
        obtain ⟨W3, hW3⟩ : ∃ W3, w2.setCell ⟨w.heap.size + 2, 0, none⟩ (.slice (some ⟨ga, 0, none⟩) (k + 1) ca) = W3 := ⟨_, rfl⟩
        have HW3 := Lib.hid hW3
        have hs3 : W3.heap.size = w2.heap.size := by rw [← hW3]; simp
        have HTW3 : Hid (Two (w.heap.size + 3) W3 (.slice (some ⟨ga, 0, none⟩) (k + 1) ca) v2 ((P.set x []).take k ++ [PK]) ((T.set x [16 * val]).take k)) := by rw [← hW3]; exact htw2.blocks (fun g h1 h2 => heap_setCell_other _ _ _ _ (by show g ≠ w.heap.size + 2; omega))
        have HUT3 : Hid (NewInts (w.heap.size + 3) W3 (.slice (some ⟨gs, 0, none⟩) 1 sc) TK) := by rw [← hW3]; exact hut2.blocks (fun g h1 h2 => heap_setCell_other _ _ _ _ (by show g ≠ w.heap.size + 2; omega))
        have HB3 : Hid (Below w.heap.size w W3) := by rw [← hW3]; exact HB2.out.setCell (by show w.heap.size ≤ w.heap.size + 2; omega) _
        have Y0 := Lib.hid ((show W3.heap[w.heap.size]? = w2.heap[w.heap.size]? by rw [← hW3, heap_setCell_other _ _ _ _ (by show w.heap.size ≠ w.heap.size + 2; omega)]).trans k0)
        have Y1 := Lib.hid ((show W3.heap[w.heap.size + 1]? = w2.heap[w.heap.size + 1]? by rw [← hW3, heap_setCell_other _ _ _ _ (by show w.heap.size + 1 ≠ w.heap.size + 2; omega)]).trans k1)
        have Y2 : Hid (W3.heap[w.heap.size + 2]? = some (.cells #[.slice (some ⟨ga, 0, none⟩) (k + 1) ca, v2] 24 (0, 0))) := by rw [← hW3]; exact heap_setCell_same _ _ 0 _ _ _ k2
        obtain ⟨d0, d1, f0, f1⟩ := cells_of2 k2
        obtain ⟨ws, e1, e2, e3⟩ := HTW3.out.two.ex
        have F1 := Lib.hid e1
        have F2 := Lib.hid e2
        have F3 := Lib.hid e3
        have e1' := e1
        rw [hlT1] at e1'
        have e1'' := e1'.alloc (.cells #[.slice (some ⟨gs, 0, none⟩) 1 sc] 25)
        have hnc := cell_one_new W3 (.slice (some ⟨gs, 0, none⟩) 1 sc) 25
        rw [hs3] at hnc
        rw [← hW3] at e1'' hnc
        have F1' := Lib.hid e1''
        have HNC := Lib.hid hnc
        have hs4 : w.heap.size + 3 ≤ w2.heap.size := by omega
        clear hown hg hnl hat htw2 hkeep k0 k1 k2 hut2 hW3 E1 E2 E3 E1' HTZ HUPZ HUTZ HBZ e1 e2 e3 e1' e1'' hnc
        go_wp2_with (at_builtin; refine wpList_append_own_at _ rfl (.tmp 51) (.tmp 53) 22 rfl (w.heap.size + 3) 25 i0 (.slice none 0 0) 1 24 Try.underlying22 hi hz0 hz1 hz2 rfl (by decide) v2 k ws rfl F1'.out ⟨w2.heap.size, 0, none⟩ 1 1 [.slice (some ⟨gs, 0, none⟩) 1 sc] rfl rfl HNC.out (by simp [oneCell_slice]) ?r1_6 ?r1_7 ?r1_8 ?_)
        case r1_6 => unfold maxLen; omega
        case r1_7 => omega
        case r1_8 => first | omega | (simp; omega)
        intro v2' w4 hown hg hnl hat
        have hW3 := HW3.out
        rw [hW3] at hg
        have htw4 := (HTW3.out.below ((Below.refl _ _).alloc (Nat.le_refl _) (.cells #[.slice (some ⟨gs, 0, none⟩) 1 sc] 25)) (Nat.le_refl _)).second (F1.out.alloc _) (fun j hj => let ⟨u, q1, q2⟩ := F2.out j hj; ⟨u, q1, q2.below ((Below.refl _ _).alloc (Nat.le_refl _) _) (Nat.le_refl _)⟩) F3.out (HUT3.out.below ((Below.refl _ _).alloc (Nat.le_refl _) _) (Nat.le_refl _)) (by rw [hlT1]; exact hown) hg (by rw [World.size_alloc, hs3]; exact hat)
        have hkeep : ∀ g, g < w.heap.size + 3 → w4.heap[g]? = W3.heap[g]? := fun g hg' => by
          rw [hg.block g (by simp; omega) (fun e => by have := (F1.out.lt g e.symm).1; omega), Below.heap_alloc _ _ _ (by omega)]
        obtain ⟨gb, cb, rfl, -⟩ := own_slice' hown (by omega)
        have k0 := (hkeep _ (by omega)).trans Y0.out
        have k1 := (hkeep _ (by omega)).trans Y1.out
        have k2 := (hkeep _ (by omega)).trans Y2.out
        have HB4 : Hid (Below w.heap.size w w4) := (HB3.out.alloc HB3.out.size _).grown hg (by have := HB3.out.size; simp; omega) (fun r hr => by have := (F1.out.lt r hr).1; omega)
        have HTW4 := Lib.hid htw4
        have X0 := Lib.hid k0
        have X1 := Lib.hid k1
        have X2 := Lib.hid k2
        obtain ⟨d0, d1, f0, f1⟩ := cells_of2 k2
        have hl4 := lt_of_block k2
        clear hown hg hnl hat htw4 hkeep k0 k1 k2 hW3 F1 F2 F3 F1' HNC HTW3 HUT3 HB3 Y0 Y1 Y2 HW3
        go_wp2
        go_roundw
        case rel =>
          refine ⟨k + 1, .slice (some ⟨ga, 0, none⟩) (k + 1) ca, .slice (some ⟨gb, 0, none⟩) (k + 1) cb, by omega, by go_num, HB4.out.setCell (by show w.heap.size ≤ w.heap.size + 1 + 1; omega) _, ?_, ?_, ?_, ?_⟩
          · rw [take_next (by rw [HL1.out]; exact hlt), take_next (by rw [HL2.out]; exact hlt), HPK.out, HTK.out]
            exact HTW4.out.blocks (fun g h1 h2 => heap_setCell_other _ _ _ _ (by show g ≠ w.heap.size + 1 + 1; omega))
          · rw [heap_setCell_other _ _ _ _ (by show w.heap.size ≠ w.heap.size + 1 + 1; omega)]; exact X0.out
          · rw [heap_setCell_other _ _ _ _ (by show w.heap.size + 1 ≠ w.heap.size + 1 + 1; omega)]; exact X1.out
          · exact heap_setCell_same _ _ 1 _ _ _ X2.out
        case measure => simp [intOf]; omega
      · obtain ⟨PK, hPK⟩ : ∃ PK, row (P.set x []) k = PK := ⟨_, rfl⟩
        obtain ⟨TK, hTK⟩ : ∃ TK, row (T.set x [16 * val]) k = TK := ⟨_, rfl⟩
        have HPK := Lib.hid hPK
        have HTK := Lib.hid hTK
        have hpk : row P k = PK := by rw [← hPK, row_set hx, if_neg hkx]
        have htk : row T k = TK := by rw [← hTK, row_set (by rw [HTAB.out]; exact hx), if_neg hkx]
        have hq : ((k : Int) == (x : Int)) = false := by rw [beq_eq_false_iff_ne]; omega
        have hPw := HP.out.below HB.out (Nat.le_refl _)
        have hTw := HT.out.below HB.out (Nat.le_refl _)
        have hkT : k < T.length := by rw [HTAB.out]; exact hlt
        obtain ⟨rfl, -⟩ := hPw.ptr (by omega)
        obtain ⟨rfl, -⟩ := hTw.ptr (by omega)
        have r0 := hPw.cell k hlt
        have r1 := hTw.cell k hkT
        have q0 := hPw.rows k hlt
        have i1 := hTw.rows k hkT
        have cp := CP.out k hlt
        have hlt3 := (HN.out.par k hlt).1
        have hltt := (HN.out.ok k hlt).1
        rw [hpk] at r0 q0 cp hlt3 hltt
        rw [htk] at r1 i1 hltt
        have hltT : 1 ≤ TK.length ∧ TK.length ≤ 8 := by
          have h3 : 2 ^ PK.length ≤ 2 ^ 3 := Nat.pow_le_pow_right (by omega) hlt3
          have h4 : 1 ≤ 2 ^ PK.length := Nat.one_le_two_pow
          omega
        have hT1 := hltT.1
        have hT8 := hltT.2
        obtain ⟨hA', -⟩ := i1.ptr (by omega)
        rw [hA'] at r1 i1
        have HI1 := Lib.hid i1
        clear hPK hTK hpk htk hkx hPw hTw hA' hltT hltt
        cases hAk : A k with
        | none =>
          have hpe : PK = [] := by
            cases hpp : PK with
            | nil => rfl
            | cons a l => rw [hAk, hpp] at q0; exact absurd (q0.ptr (by simp)).1 (by simp)
          have hc0 := cp.2 hAk
          rw [hAk, hpe, hc0] at r0
          have HPE := Lib.hid hpe
          have HO := Lib.hid (own_nil wr (w.heap.size + 3))
          have HNW := Lib.hid (news_whole i1)
          clear hpe hc0 hAk q0 cp i1
          go_wp2_with (first
            | (at_builtin; (refine wpList_append_own_none rfl (.tmp 28) (.tmp 33) 25 rfl (w.heap.size + 3) 3 j0 1 Try.underlying25 hj _ 0 [] rfl HO.out rfl ?_))
            | (at_builtin; (refine wpList_append_own _ rfl (.tmp 35) (.tmp 40) 25 rfl (w.heap.size + 3) 3 j0 (.int .i64 0) 1 8 Try.underlying25 hj jz0 jz1 jz2 rfl (by decide) _ 0 [] rfl HO.out ⟨B' k, O' k, none⟩ TK.length (C' k) (TK.map (Value.int .i64)) rfl ?a1 HNW.out (oneCell_ints _) ?a2 ?a3 ?a4 ?_)))
          case a2 => unfold maxLen; omega
          case a3 => omega
          case a4 => omega
          intro u' WQ hown hg _
          have hut : NewInts (w.heap.size + 3) WQ u' TK := ⟨by simpa using hown, HI1.out.wf, HI1.out.len⟩
          obtain ⟨so, sb, sc, rfl, -, -⟩ := hut.at
          have HBQ : Hid (Below w.heap.size w WQ) := HB.out.grown hg HB.out.size (fun r hr => by simp [Value.ownBlock] at hr)
          have hkeep : ∀ g, g < wr.heap.size → WQ.heap[g]? = wr.heap[g]? := fun g hg' => hg.block g hg' (by simp [Value.ownBlock])
          have KB0 := Lib.hid ((hkeep _ (by omega)).trans H0.out)
          have KB1 := Lib.hid ((hkeep _ (by omega)).trans H1.out)
          have KB2 := Lib.hid ((hkeep _ (by omega)).trans H2.out)
          have HTWQ := Lib.hid (HTW.out.blocks (fun g _ h => hkeep g h))
          have HUP : Hid (NewInts (w.heap.size + 3) WQ (.slice none 0 0) PK) := by rw [HPE.out]; exact NewInts.nil _ _
          have HUT := Lib.hid hut
          have HSQ := hg.size
          clear hown hg hkeep hut HB HTW H0 H1 H2 c0 c1 r0 r1 HI1 HNW HO
          have hd := cells_of2 KB2.out
          obtain ⟨d0, d1, f0, f1⟩ := hd
          go_wp2
          go_quiet (fail)
          obtain ⟨wz, hwz⟩ : ∃ wz, WQ.drewN nq = wz := ⟨_, rfl⟩
          have HBZ : Hid (Below w.heap.size w wz) := by rw [← hwz]; exact below_drewN HBQ.out _
          have htwo : Two (w.heap.size + 3) wz v1 v2 ((P.set x []).take k) ((T.set x [16 * val]).take k) := by rw [← hwz]; exact HTWQ.out.below (below_drewN (Below.refl _ _) _) (Nat.le_refl _)
          have hup : NewInts (w.heap.size + 3) wz (.slice none 0 0) PK := by rw [← hwz]; exact HUP.out.below (below_drewN (Below.refl _ _) _) (Nat.le_refl _)
          have hut : NewInts (w.heap.size + 3) wz (.slice so TK.length sc) TK := by rw [← hwz]; exact HUT.out.below (below_drewN (Below.refl _ _) _) (Nat.le_refl _)
          have hzz : wz.heap = WQ.heap := by rw [← hwz]; rfl
          have kb0 := KB0.out
          rw [← hzz] at kb0
          have kb1 := KB1.out
          rw [← hzz] at kb1
          have kb2 := KB2.out
          rw [← hzz] at kb2
          have hszz : w.heap.size + 3 ≤ wz.heap.size := by have := lt_of_block kb2; omega
          rw [hwz]
          have HTZ := Lib.hid htwo
          have HUPZ := Lib.hid hup
          have HUTZ := Lib.hid hut
          have Z0 := Lib.hid kb0
          have Z1 := Lib.hid kb1
          have Z2 := Lib.hid kb2
          clear hwz hzz htwo hup hut kb0 kb1 kb2 d0 d1 f0 f1 HUP HUT HTWQ KB0 KB1 KB2 HBQ
          obtain ⟨vs, e1, e2, e3⟩ := HTZ.out.one.ex
          have E1 := Lib.hid e1
          have E2 := Lib.hid e2
          have E3 := Lib.hid e3
          obtain ⟨d0, d1, f0, f1⟩ := cells_of2 (((Below.heap_alloc wz (.cells #[.slice none 0 0] 25) (w.heap.size + 2) (by omega))).trans Z2.out)
          have e1' := e1
          rw [hlP1] at e1'
          have E1' := Lib.hid (e1'.alloc (.cells #[.slice none 0 0] 25))
          clear e1 e2 e3 e1'
          go_wp2_with (at_builtin; refine wpList_append_own_at _ rfl (.tmp 46) (.tmp 48) 22 rfl (w.heap.size + 3) 25 i0 (.slice none 0 0) 1 24 Try.underlying22 hi hz0 hz1 hz2 rfl (by decide) v1 k vs rfl E1'.out ⟨wz.heap.size, 0, none⟩ 1 1 [.slice none 0 0] rfl rfl (cell_one_new _ _ _) (by simp [oneCell_slice]) ?r2_3 ?r2_4 ?r2_5 ?_)
          case r2_3 => unfold maxLen; omega
          case r2_4 => omega
          case r2_5 => first | omega | (simp; omega)
          intro v1' w2 hown hg hnl hat
          have hsz2 : wz.heap.size < w2.heap.size := by have := hg.size; simp at this; omega
          have htw2 := (HTZ.out.below ((Below.refl _ _).alloc (Nat.le_refl _) (.cells #[.slice none 0 0] 25)) (Nat.le_refl _)).first (E1.out.alloc _) (fun j hj => let ⟨u, q1, q2⟩ := E2.out j hj; ⟨u, q1, q2.below ((Below.refl _ _).alloc (Nat.le_refl _) _) (Nat.le_refl _)⟩) E3.out (HUPZ.out.below ((Below.refl _ _).alloc (Nat.le_refl _) _) (Nat.le_refl _)) (by rw [hlP1]; exact hown) hg (by rw [World.size_alloc]; exact hat)
          have hkeep : ∀ g, g < w.heap.size + 3 → w2.heap[g]? = wz.heap[g]? := fun g hg' => by
            rw [hg.block g (by simp; omega) (fun e => by have := (E1.out.lt g e.symm).1; omega), Below.heap_alloc _ _ _ (by omega)]
          obtain ⟨ga, ca, rfl, -⟩ := own_slice' hown (by omega)
          have k0 := (hkeep _ (by omega)).trans Z0.out
          have k1 := (hkeep _ (by omega)).trans Z1.out
          have k2 := (hkeep _ (by omega)).trans Z2.out
          have hut2 : NewInts (w.heap.size + 3) w2 (.slice so TK.length sc) TK := (HUTZ.out.below ((Below.refl _ _).alloc (Nat.le_refl _) _) (Nat.le_refl _)).kept hg (own_apart HUTZ.out E1.out)
          have HB2 : Hid (Below w.heap.size w w2) := (HBZ.out.alloc HBZ.out.size _).grown hg (by have := HBZ.out.size; simp; omega) (fun r hr => by have := (E1.out.lt r hr).1; omega)
          obtain ⟨W3, hW3⟩ : ∃ W3, w2.setCell ⟨w.heap.size + 2, 0, none⟩ (.slice (some ⟨ga, 0, none⟩) (k + 1) ca) = W3 := ⟨_, rfl⟩
          have HW3 := Lib.hid hW3
          have hs3 : W3.heap.size = w2.heap.size := by rw [← hW3]; simp
          have HTW3 : Hid (Two (w.heap.size + 3) W3 (.slice (some ⟨ga, 0, none⟩) (k + 1) ca) v2 ((P.set x []).take k ++ [PK]) ((T.set x [16 * val]).take k)) := by rw [← hW3]; exact htw2.blocks (fun g h1 h2 => heap_setCell_other _ _ _ _ (by show g ≠ w.heap.size + 2; omega))
          have HUT3 : Hid (NewInts (w.heap.size + 3) W3 (.slice so TK.length sc) TK) := by rw [← hW3]; exact hut2.blocks (fun g h1 h2 => heap_setCell_other _ _ _ _ (by show g ≠ w.heap.size + 2; omega))
          have HB3 : Hid (Below w.heap.size w W3) := by rw [← hW3]; exact HB2.out.setCell (by show w.heap.size ≤ w.heap.size + 2; omega) _
          have Y0 := Lib.hid ((show W3.heap[w.heap.size]? = w2.heap[w.heap.size]? by rw [← hW3, heap_setCell_other _ _ _ _ (by show w.heap.size ≠ w.heap.size + 2; omega)]).trans k0)
          have Y1 := Lib.hid ((show W3.heap[w.heap.size + 1]? = w2.heap[w.heap.size + 1]? by rw [← hW3, heap_setCell_other _ _ _ _ (by show w.heap.size + 1 ≠ w.heap.size + 2; omega)]).trans k1)
          have Y2 : Hid (W3.heap[w.heap.size + 2]? = some (.cells #[.slice (some ⟨ga, 0, none⟩) (k + 1) ca, v2] 24 (0, 0))) := by rw [← hW3]; exact heap_setCell_same _ _ 0 _ _ _ k2
          obtain ⟨d0, d1, f0, f1⟩ := cells_of2 k2
          obtain ⟨ws, e1, e2, e3⟩ := HTW3.out.two.ex
          have F1 := Lib.hid e1
          have F2 := Lib.hid e2
          have F3 := Lib.hid e3
          have e1' := e1
          rw [hlT1] at e1'
          have e1'' := e1'.alloc (.cells #[.slice so TK.length sc] 25)
          have hnc := cell_one_new W3 (.slice so TK.length sc) 25
          rw [hs3] at hnc
          rw [← hW3] at e1'' hnc
          have F1' := Lib.hid e1''
          have HNC := Lib.hid hnc
          have hs4 : w.heap.size + 3 ≤ w2.heap.size := by omega
          clear hown hg hnl hat htw2 hkeep k0 k1 k2 hut2 hW3 E1 E2 E3 E1' HTZ HUPZ HUTZ HBZ e1 e2 e3 e1' e1'' hnc
          go_wp2_with (at_builtin; refine wpList_append_own_at _ rfl (.tmp 51) (.tmp 53) 22 rfl (w.heap.size + 3) 25 i0 (.slice none 0 0) 1 24 Try.underlying22 hi hz0 hz1 hz2 rfl (by decide) v2 k ws rfl F1'.out ⟨w2.heap.size, 0, none⟩ 1 1 [.slice so TK.length sc] rfl rfl HNC.out (by simp [oneCell_slice]) ?r2_6 ?r2_7 ?r2_8 ?_)
          case r2_6 => unfold maxLen; omega
          case r2_7 => omega
          case r2_8 => first | omega | (simp; omega)
          intro v2' w4 hown hg hnl hat
          have hW3 := HW3.out
          rw [hW3] at hg
          have htw4 := (HTW3.out.below ((Below.refl _ _).alloc (Nat.le_refl _) (.cells #[.slice so TK.length sc] 25)) (Nat.le_refl _)).second (F1.out.alloc _) (fun j hj => let ⟨u, q1, q2⟩ := F2.out j hj; ⟨u, q1, q2.below ((Below.refl _ _).alloc (Nat.le_refl _) _) (Nat.le_refl _)⟩) F3.out (HUT3.out.below ((Below.refl _ _).alloc (Nat.le_refl _) _) (Nat.le_refl _)) (by rw [hlT1]; exact hown) hg (by rw [World.size_alloc, hs3]; exact hat)
          have hkeep : ∀ g, g < w.heap.size + 3 → w4.heap[g]? = W3.heap[g]? := fun g hg' => by
            rw [hg.block g (by simp; omega) (fun e => by have := (F1.out.lt g e.symm).1; omega), Below.heap_alloc _ _ _ (by omega)]
          obtain ⟨gb, cb, rfl, -⟩ := own_slice' hown (by omega)
          have k0 := (hkeep _ (by omega)).trans Y0.out
          have k1 := (hkeep _ (by omega)).trans Y1.out
          have k2 := (hkeep _ (by omega)).trans Y2.out
          have HB4 : Hid (Below w.heap.size w w4) := (HB3.out.alloc HB3.out.size _).grown hg (by have := HB3.out.size; simp; omega) (fun r hr => by have := (F1.out.lt r hr).1; omega)
          have HTW4 := Lib.hid htw4
          have X0 := Lib.hid k0
          have X1 := Lib.hid k1
          have X2 := Lib.hid k2
          obtain ⟨d0, d1, f0, f1⟩ := cells_of2 k2
          have hl4 := lt_of_block k2
          clear hown hg hnl hat htw4 hkeep k0 k1 k2 hW3 F1 F2 F3 F1' HNC HTW3 HUT3 HB3 Y0 Y1 Y2 HW3
          go_wp2
          go_roundw
          case rel =>
            refine ⟨k + 1, .slice (some ⟨ga, 0, none⟩) (k + 1) ca, .slice (some ⟨gb, 0, none⟩) (k + 1) cb, by omega, by go_num, HB4.out.setCell (by show w.heap.size ≤ w.heap.size + 1 + 1; omega) _, ?_, ?_, ?_, ?_⟩
            · rw [take_next (by rw [HL1.out]; exact hlt), take_next (by rw [HL2.out]; exact hlt), HPK.out, HTK.out]
              exact HTW4.out.blocks (fun g h1 h2 => heap_setCell_other _ _ _ _ (by show g ≠ w.heap.size + 1 + 1; omega))
            · rw [heap_setCell_other _ _ _ _ (by show w.heap.size ≠ w.heap.size + 1 + 1; omega)]; exact X0.out
            · rw [heap_setCell_other _ _ _ _ (by show w.heap.size + 1 ≠ w.heap.size + 1 + 1; omega)]; exact X1.out
            · exact heap_setCell_same _ _ 1 _ _ _ X2.out
          case measure => simp [intOf]; omega
        | some ad =>
          rw [hAk] at r0 q0
          have HI0 := Lib.hid q0
          have HO := Lib.hid (own_nil wr (w.heap.size + 3))
          have HNP := Lib.hid (news_whole q0)
          clear hAk q0 cp i1
          go_wp2_with (at_builtin; (refine wpList_append_own _ rfl (.tmp 28) (.tmp 33) 25 rfl (w.heap.size + 3) 3 j0 (.int .i64 0) 1 8 Try.underlying25 hj jz0 jz1 jz2 rfl (by decide) _ 0 [] rfl HO.out ad PK.length (C k) (PK.map (Value.int .i64)) rfl ?b1 HNP.out (oneCell_ints _) ?b2 ?b3 ?b4 ?_))
          case b2 => unfold maxLen; omega
          case b3 => omega
          case b4 => omega
          intro u' WP hown hg _
          have hup : NewInts (w.heap.size + 3) WP u' PK := ⟨by simpa using hown, HI0.out.wf, HI0.out.len⟩
          obtain ⟨uo, ub, uc, rfl, -, -⟩ := hup.at
          have HBP : Hid (Below w.heap.size w WP) := HB.out.grown hg HB.out.size (fun r hr => by simp [Value.ownBlock] at hr)
          have HBrP : Hid (Below wr.heap.size wr WP) := (Below.refl _ _).grown hg (Nat.le_refl _) (fun r hr => by simp [Value.ownBlock] at hr)
          have J0 := Lib.hid ((HBrP.out.block _ (by omega)).trans H0.out)
          have J1 := Lib.hid ((HBrP.out.block _ (by omega)).trans H1.out)
          have J2 := Lib.hid ((HBrP.out.block _ (by omega)).trans H2.out)
          have HTWP := Lib.hid (HTW.out.below HBrP.out (Nat.le_refl _))
          have HUPP := Lib.hid hup
          have hTw := HT.out.below HBP.out (Nat.le_refl _)
          have r1' := hTw.cell k hkT
          have hI1' := HI1.out.below HBrP.out (Nat.le_refl _)
          have HNW := Lib.hid (news_whole hI1')
          have HO2 := Lib.hid (own_nil WP (w.heap.size + 3))
          obtain ⟨x0, x1, -, -⟩ := cells_of2 J0.out
          have hsP := HBrP.out.size
          have hr1 := r1
          have HR1 := Lib.hid (HBrP.out.cell (p := ⟨tb, tz + k, none⟩) (by
            have := (HT.out.ptr (by omega)).2
            have := HB.out.size
            show tb < wr.heap.size; omega))
          rw [← HR1.out] at hr1
          clear hown hg hup hTw r1' hI1' c0 c1 r0 r1 HI0 HNP HO HB HTW H0 H1 H2 HBrP
          go_wp2_with (at_builtin; (refine wpList_append_own _ rfl (.tmp 35) (.tmp 40) 25 rfl (w.heap.size + 3) 3 j0 (.int .i64 0) 1 8 Try.underlying25 hj jz0 jz1 jz2 rfl (by decide) _ 0 [] rfl HO2.out ⟨B' k, O' k, none⟩ TK.length (C' k) (TK.map (Value.int .i64)) rfl ?d1 HNW.out (oneCell_ints _) ?d2 ?d3 ?d4 ?_))
          case d1 => first | (rw [List.length_map]; done) | (rw [List.length_map]; omega)
          case d2 => unfold maxLen; omega
          case d3 => omega
          case d4 => omega
          intro u' WQ hown hg _
          have hut : NewInts (w.heap.size + 3) WQ u' TK := ⟨by simpa using hown, HI1.out.wf, HI1.out.len⟩
          obtain ⟨so, sb, sc, rfl, -, -⟩ := hut.at
          have HBQ : Hid (Below w.heap.size w WQ) := HBP.out.grown hg HBP.out.size (fun r hr => by simp [Value.ownBlock] at hr)
          have hkeep : ∀ g, g < WP.heap.size → WQ.heap[g]? = WP.heap[g]? := fun g hg' => hg.block g hg' (by simp [Value.ownBlock])
          have KB0 := Lib.hid ((hkeep _ (by omega)).trans J0.out)
          have KB1 := Lib.hid ((hkeep _ (by omega)).trans J1.out)
          have KB2 := Lib.hid ((hkeep _ (by omega)).trans J2.out)
          have HTWQ := Lib.hid (HTWP.out.blocks (fun g _ h => hkeep g h))
          have HUP := Lib.hid (HUPP.out.blocks (fun g _ h => hkeep g h))
          have HUT := Lib.hid hut
          have HSQ := hg.size
          clear hown hg hkeep hut HBP HTWP J0 J1 J2 x0 x1 hr1 HR1 HI1 HNW HO2 HUPP
          have hd := cells_of2 KB2.out
          obtain ⟨d0, d1, f0, f1⟩ := hd
          go_wp2
          go_quiet (fail)
          obtain ⟨wz, hwz⟩ : ∃ wz, WQ.drewN nq = wz := ⟨_, rfl⟩
          have HBZ : Hid (Below w.heap.size w wz) := by rw [← hwz]; exact below_drewN HBQ.out _
          have htwo : Two (w.heap.size + 3) wz v1 v2 ((P.set x []).take k) ((T.set x [16 * val]).take k) := by rw [← hwz]; exact HTWQ.out.below (below_drewN (Below.refl _ _) _) (Nat.le_refl _)
          have hup : NewInts (w.heap.size + 3) wz (.slice uo PK.length uc) PK := by rw [← hwz]; exact HUP.out.below (below_drewN (Below.refl _ _) _) (Nat.le_refl _)
          have hut : NewInts (w.heap.size + 3) wz (.slice so TK.length sc) TK := by rw [← hwz]; exact HUT.out.below (below_drewN (Below.refl _ _) _) (Nat.le_refl _)
          have hzz : wz.heap = WQ.heap := by rw [← hwz]; rfl
          have kb0 := KB0.out
          rw [← hzz] at kb0
          have kb1 := KB1.out
          rw [← hzz] at kb1
          have kb2 := KB2.out
          rw [← hzz] at kb2
          have hszz : w.heap.size + 3 ≤ wz.heap.size := by have := lt_of_block kb2; omega
          rw [hwz]
          have HTZ := Lib.hid htwo
          have HUPZ := Lib.hid hup
          have HUTZ := Lib.hid hut
          have Z0 := Lib.hid kb0
          have Z1 := Lib.hid kb1
          have Z2 := Lib.hid kb2
          clear hwz hzz htwo hup hut kb0 kb1 kb2 d0 d1 f0 f1 HUP HUT HTWQ KB0 KB1 KB2 HBQ
          obtain ⟨vs, e1, e2, e3⟩ := HTZ.out.one.ex
          have E1 := Lib.hid e1
          have E2 := Lib.hid e2
          have E3 := Lib.hid e3
          obtain ⟨d0, d1, f0, f1⟩ := cells_of2 (((Below.heap_alloc wz (.cells #[.slice uo PK.length uc] 25) (w.heap.size + 2) (by omega))).trans Z2.out)
          have e1' := e1
          rw [hlP1] at e1'
          have E1' := Lib.hid (e1'.alloc (.cells #[.slice uo PK.length uc] 25))
          clear e1 e2 e3 e1'
          go_wp2_with (at_builtin; refine wpList_append_own_at _ rfl (.tmp 46) (.tmp 48) 22 rfl (w.heap.size + 3) 25 i0 (.slice none 0 0) 1 24 Try.underlying22 hi hz0 hz1 hz2 rfl (by decide) v1 k vs rfl E1'.out ⟨wz.heap.size, 0, none⟩ 1 1 [.slice uo PK.length uc] rfl rfl (cell_one_new _ _ _) (by simp [oneCell_slice]) ?r3_3 ?r3_4 ?r3_5 ?_)
          case r3_3 => unfold maxLen; omega
          case r3_4 => omega
          case r3_5 => first | omega | (simp; omega)
          intro v1' w2 hown hg hnl hat
          have hsz2 : wz.heap.size < w2.heap.size := by have := hg.size; simp at this; omega
          have htw2 := (HTZ.out.below ((Below.refl _ _).alloc (Nat.le_refl _) (.cells #[.slice uo PK.length uc] 25)) (Nat.le_refl _)).first (E1.out.alloc _) (fun j hj => let ⟨u, q1, q2⟩ := E2.out j hj; ⟨u, q1, q2.below ((Below.refl _ _).alloc (Nat.le_refl _) _) (Nat.le_refl _)⟩) E3.out (HUPZ.out.below ((Below.refl _ _).alloc (Nat.le_refl _) _) (Nat.le_refl _)) (by rw [hlP1]; exact hown) hg (by rw [World.size_alloc]; exact hat)
          have hkeep : ∀ g, g < w.heap.size + 3 → w2.heap[g]? = wz.heap[g]? := fun g hg' => by
            rw [hg.block g (by simp; omega) (fun e => by have := (E1.out.lt g e.symm).1; omega), Below.heap_alloc _ _ _ (by omega)]
          obtain ⟨ga, ca, rfl, -⟩ := own_slice' hown (by omega)
          have k0 := (hkeep _ (by omega)).trans Z0.out
          have k1 := (hkeep _ (by omega)).trans Z1.out
          have k2 := (hkeep _ (by omega)).trans Z2.out
          have hut2 : NewInts (w.heap.size + 3) w2 (.slice so TK.length sc) TK := (HUTZ.out.below ((Below.refl _ _).alloc (Nat.le_refl _) _) (Nat.le_refl _)).kept hg (own_apart HUTZ.out E1.out)
          have HB2 : Hid (Below w.heap.size w w2) := (HBZ.out.alloc HBZ.out.size _).grown hg (by have := HBZ.out.size; simp; omega) (fun r hr => by have := (E1.out.lt r hr).1; omega)
          obtain ⟨W3, hW3⟩ : ∃ W3, w2.setCell ⟨w.heap.size + 2, 0, none⟩ (.slice (some ⟨ga, 0, none⟩) (k + 1) ca) = W3 := ⟨_, rfl⟩
          have HW3 := Lib.hid hW3
          have hs3 : W3.heap.size = w2.heap.size := by rw [← hW3]; simp
          have HTW3 : Hid (Two (w.heap.size + 3) W3 (.slice (some ⟨ga, 0, none⟩) (k + 1) ca) v2 ((P.set x []).take k ++ [PK]) ((T.set x [16 * val]).take k)) := by rw [← hW3]; exact htw2.blocks (fun g h1 h2 => heap_setCell_other _ _ _ _ (by show g ≠ w.heap.size + 2; omega))
          have HUT3 : Hid (NewInts (w.heap.size + 3) W3 (.slice so TK.length sc) TK) := by rw [← hW3]; exact hut2.blocks (fun g h1 h2 => heap_setCell_other _ _ _ _ (by show g ≠ w.heap.size + 2; omega))
          have HB3 : Hid (Below w.heap.size w W3) := by rw [← hW3]; exact HB2.out.setCell (by show w.heap.size ≤ w.heap.size + 2; omega) _
          have Y0 := Lib.hid ((show W3.heap[w.heap.size]? = w2.heap[w.heap.size]? by rw [← hW3, heap_setCell_other _ _ _ _ (by show w.heap.size ≠ w.heap.size + 2; omega)]).trans k0)
          have Y1 := Lib.hid ((show W3.heap[w.heap.size + 1]? = w2.heap[w.heap.size + 1]? by rw [← hW3, heap_setCell_other _ _ _ _ (by show w.heap.size + 1 ≠ w.heap.size + 2; omega)]).trans k1)
          have Y2 : Hid (W3.heap[w.heap.size + 2]? = some (.cells #[.slice (some ⟨ga, 0, none⟩) (k + 1) ca, v2] 24 (0, 0))) := by rw [← hW3]; exact heap_setCell_same _ _ 0 _ _ _ k2
          obtain ⟨d0, d1, f0, f1⟩ := cells_of2 k2
          obtain ⟨ws, e1, e2, e3⟩ := HTW3.out.two.ex
          have F1 := Lib.hid e1
          have F2 := Lib.hid e2
          have F3 := Lib.hid e3
          have e1' := e1
          rw [hlT1] at e1'
          have e1'' := e1'.alloc (.cells #[.slice so TK.length sc] 25)
          have hnc := cell_one_new W3 (.slice so TK.length sc) 25
          rw [hs3] at hnc
          rw [← hW3] at e1'' hnc
          have F1' := Lib.hid e1''
          have HNC := Lib.hid hnc
          have hs4 : w.heap.size + 3 ≤ w2.heap.size := by omega
          clear hown hg hnl hat htw2 hkeep k0 k1 k2 hut2 hW3 E1 E2 E3 E1' HTZ HUPZ HUTZ HBZ e1 e2 e3 e1' e1'' hnc
          go_wp2_with (at_builtin; refine wpList_append_own_at _ rfl (.tmp 51) (.tmp 53) 22 rfl (w.heap.size + 3) 25 i0 (.slice none 0 0) 1 24 Try.underlying22 hi hz0 hz1 hz2 rfl (by decide) v2 k ws rfl F1'.out ⟨w2.heap.size, 0, none⟩ 1 1 [.slice so TK.length sc] rfl rfl HNC.out (by simp [oneCell_slice]) ?r3_6 ?r3_7 ?r3_8 ?_)
          case r3_6 => unfold maxLen; omega
          case r3_7 => omega
          case r3_8 => first | omega | (simp; omega)
          intro v2' w4 hown hg hnl hat
          have hW3 := HW3.out
          rw [hW3] at hg
          have htw4 := (HTW3.out.below ((Below.refl _ _).alloc (Nat.le_refl _) (.cells #[.slice so TK.length sc] 25)) (Nat.le_refl _)).second (F1.out.alloc _) (fun j hj => let ⟨u, q1, q2⟩ := F2.out j hj; ⟨u, q1, q2.below ((Below.refl _ _).alloc (Nat.le_refl _) _) (Nat.le_refl _)⟩) F3.out (HUT3.out.below ((Below.refl _ _).alloc (Nat.le_refl _) _) (Nat.le_refl _)) (by rw [hlT1]; exact hown) hg (by rw [World.size_alloc, hs3]; exact hat)
          have hkeep : ∀ g, g < w.heap.size + 3 → w4.heap[g]? = W3.heap[g]? := fun g hg' => by
            rw [hg.block g (by simp; omega) (fun e => by have := (F1.out.lt g e.symm).1; omega), Below.heap_alloc _ _ _ (by omega)]
          obtain ⟨gb, cb, rfl, -⟩ := own_slice' hown (by omega)
          have k0 := (hkeep _ (by omega)).trans Y0.out
          have k1 := (hkeep _ (by omega)).trans Y1.out
          have k2 := (hkeep _ (by omega)).trans Y2.out
          have HB4 : Hid (Below w.heap.size w w4) := (HB3.out.alloc HB3.out.size _).grown hg (by have := HB3.out.size; simp; omega) (fun r hr => by have := (F1.out.lt r hr).1; omega)
          have HTW4 := Lib.hid htw4
          have X0 := Lib.hid k0
          have X1 := Lib.hid k1
          have X2 := Lib.hid k2
          obtain ⟨d0, d1, f0, f1⟩ := cells_of2 k2
          have hl4 := lt_of_block k2
          clear hown hg hnl hat htw4 hkeep k0 k1 k2 hW3 F1 F2 F3 F1' HNC HTW3 HUT3 HB3 Y0 Y1 Y2 HW3
          go_wp2
          go_roundw
          case rel =>
            refine ⟨k + 1, .slice (some ⟨ga, 0, none⟩) (k + 1) ca, .slice (some ⟨gb, 0, none⟩) (k + 1) cb, by omega, by go_num, HB4.out.setCell (by show w.heap.size ≤ w.heap.size + 1 + 1; omega) _, ?_, ?_, ?_, ?_⟩
            · rw [take_next (by rw [HL1.out]; exact hlt), take_next (by rw [HL2.out]; exact hlt), HPK.out, HTK.out]
              exact HTW4.out.blocks (fun g h1 h2 => heap_setCell_other _ _ _ _ (by show g ≠ w.heap.size + 1 + 1; omega))
            · rw [heap_setCell_other _ _ _ _ (by show w.heap.size ≠ w.heap.size + 1 + 1; omega)]; exact X0.out
            · rw [heap_setCell_other _ _ _ _ (by show w.heap.size + 1 ≠ w.heap.size + 1 + 1; omega)]; exact X1.out
            · exact heap_setCell_same _ _ 1 _ _ _ X2.out
          case measure => simp [intOf]; omega
    · have hkl : k = P.length := by omega
      have hsl : w.heap.size + 1 < wr.heap.size := by omega
      have hP' : NewRows (w.heap.size + 3) wr v1 (P.set x []) := by have := HTW.out.one; rw [List.take_of_length_le (by rw [HL1.out]; omega)] at this; exact this
      have hT' : NewRows (w.heap.size + 3) wr v2 (T.set x [16 * val]) := by have := HTW.out.two; rw [List.take_of_length_le (by rw [HL2.out]; omega)] at this; exact this
      obtain ⟨d0, d1, -, -⟩ := cells_of2 H2.out
      have hone : (#[v1, v2] : Array Value).all (·.oneCell') = true := by simp [hP'.oneCell, hT'.oneCell]
      have HONE := Lib.hid hone
      have HP' := Lib.hid hP'
      have HT' := Lib.hid hT'
      clear hone hP' hT' hkl
      go_wp2_with (refine wpList_store_row rfl 24 (.tmp 6) (.tmp 56) rfl (w.heap.size + 1) _ rfl rfl 24 _ H1.out (by kernel_rfl) rfl HONE.out ?_)
      refine bodyPost_ret (v := .agg #[v1, v2]) ?_ rfl ⟨⟨v1, v2, rfl, ?_, ?_⟩, below_setRow HB.out (by omega) _⟩
      · rw [results_cell_row (ty := 24) (p := 6) rfl _ _ (w.heap.size + 1) 24 _ (0, 0) _ rfl (setRow_heap _ _ _ _ _ _ H1.out) Try.underlying24 rfl (by kernel_rfl)]
      · exact (HP'.out.blocks (fun g h1 h2 => Go.setRow_other _ _ _ _ (by omega))).mono (by omega)
      · exact (HT'.out.blocks (fun g h1 h2 => Go.setRow_other _ _ _ _ (by omega))).mono (by omega)

end Go.Proofs.Ytghffnjnpgiicaa

/- The law's equality of two networks. -/
namespace Go.Proofs.Ytghffnjnpgiicaa
open Go.RowKit

set_option maxHeartbeats 4000000 in
set_option maxRecDepth 100000 in
theorem same_any (P T : List (List Int)) (pa : Option Addr) (pb po pc : Nat) (A : Nat → Option Addr) (B O C : Nat → Nat) (ta : Option Addr) (tb tz tc : Nat) (A' : Nat → Option Addr) (B' O' C' : Nat → Nat)
    (qa : Option Addr) (qb qo qc : Nat) (D : Nat → Option Addr) (E F G : Nat → Nat) (sa : Option Addr) (sb so sc : Nat) (D' : Nat → Option Addr) (E' F' G' : Nat → Nat) (w : World)
    (hP : RowsAt w pa pb po P A B O C) (hT : RowsAt w ta tb tz T A' B' O' C') (hQ : RowsAt w qa qb qo P D E F G) (hS : RowsAt w sa sb so T D' E' F' G') :
    Calls Try.prog 35 #[.agg #[.slice pa P.length pc, .slice ta T.length tc], .agg #[.slice qa P.length qc, .slice sa T.length sc]] w fun e w' => e = .returned (.bool true) ∧ Below w.heap.size w w' := by
  obtain ⟨wA, hwA⟩ : ∃ wA, (w.alloc (.cells #[.slice pa P.length pc, .slice ta T.length tc] 24)).alloc (.cells #[.slice qa P.length qc, .slice sa T.length sc] 24) = wA := ⟨_, rfl⟩
  have HWA := Lib.hid hwA
  have hsA : wA.heap.size = w.heap.size + 2 := by rw [← hwA]; simp
  have HSA := Lib.hid hsA
  have HB0 : Hid (Below w.heap.size w wA) := by rw [← hwA]; exact ((Below.refl _ _).alloc (Nat.le_refl _) _).alloc (by simp) _
  have HP := Lib.hid (hP.below HB0.out (Nat.le_refl _))
  have HT := Lib.hid (hT.below HB0.out (Nat.le_refl _))
  have HQ := Lib.hid (hQ.below HB0.out (Nat.le_refl _))
  have HS := Lib.hid (hS.below HB0.out (Nat.le_refl _))
  have hb0 : wA.heap[w.heap.size]? = some (.cells #[.slice pa P.length pc, .slice ta T.length tc] 24 (0, 0)) ∧ wA.heap[w.heap.size + 1]? = some (.cells #[.slice qa P.length qc, .slice sa T.length sc] 24 (0, 0)) := by
    rw [← hwA]
    exact ⟨(Below.heap_alloc _ _ _ (by simp)).trans (heap_alloc_new _ _), by have := heap_alloc_new (w.alloc (.cells #[.slice pa P.length pc, .slice ta T.length tc] 24)) (.cells #[.slice qa P.length qc, .slice sa T.length sc] 24); simpa using this⟩
  have HBX := Lib.hid hb0
  have HTC := Lib.hid (show ∀ w', Below wA.heap.size wA w' → w'.cell? ⟨w.heap.size, 0, none⟩ = some (.slice pa P.length pc) ∧ w'.cell? ⟨w.heap.size, 1, none⟩ = some (.slice ta T.length tc) ∧ w'.cell? ⟨w.heap.size + 1, 0, none⟩ = some (.slice qa P.length qc) ∧ w'.cell? ⟨w.heap.size + 1, 1, none⟩ = some (.slice sa T.length sc) from
    fun w' h => by
      obtain ⟨x0, x1, -, -⟩ := cells_of2 ((h.block _ (by omega)).trans HBX.out.1)
      obtain ⟨y0, y1, -, -⟩ := cells_of2 ((h.block _ (by omega)).trans HBX.out.2)
      exact ⟨x0, x1, y0, y1⟩)
  have lP := hP.len
  have lT := hT.len
  have q1 : ((P.length : Int) != (P.length : Int)) = false := by simp
  have q2 : ((T.length : Int) != (T.length : Int)) = false := by simp
  clear hP hT hQ hS hwA hb0
  go_enter Try.func35, Try.ntmps35
  go_upto_region 1 with fail
  rw [HWA.out]
  have htc := HTC.out _ (Below.refl _ _)
  obtain ⟨x0, x1, y0, y1⟩ := htc
  go_wp2
  clear x0 x1 y0 y1
  go_loopw [5] (fun i wr => ∃ k : Nat, k ≤ P.length ∧ i = .int .i64 k ∧ Below wA.heap.size wA wr) (fun i _ => P.length - (intOf i).toNat)
  case atStart => exact ⟨0, by omega, rfl, Below.refl _ _⟩
  case round =>
    obtain ⟨k, hk, rfl, hb⟩ := hrel
    have HB := Lib.hid hb
    have s0 := hb.size
    obtain ⟨x0, x1, y0, y1⟩ := HTC.out _ hb
    clear hb
    by_cases hlt : k < P.length
    · have hPw := HP.out.below HB.out (Nat.le_refl _)
      have hQw := HQ.out.below HB.out (Nat.le_refl _)
      obtain ⟨rfl, hpb⟩ := hPw.ptr (by omega)
      obtain ⟨rfl, hqb⟩ := hQw.ptr (by omega)
      have r0 := hPw.cell k hlt
      have r1 := hQw.cell k hlt
      have i0 := hPw.rows k hlt
      have i1 := hQw.rows k hlt
      obtain ⟨xs, hxs⟩ : ∃ xs, row P k = xs := ⟨_, rfl⟩
      rw [hxs] at r0 r1 i0 i1
      have R0 := Lib.hid r0
      have R1 := Lib.hid r1
      have HT2 := Lib.hid (show ∀ w', Below wr.heap.size wr w' → w'.cell? ⟨w.heap.size, 0, none⟩ = some (.slice (some ⟨pb, po, none⟩) P.length pc) ∧ w'.cell? ⟨w.heap.size + 1, 0, none⟩ = some (.slice (some ⟨qb, qo, none⟩) P.length qc) ∧ w'.cell? ⟨pb, po + k, none⟩ = some (.slice (A k) xs.length (C k)) ∧ w'.cell? ⟨qb, qo + k, none⟩ = some (.slice (D k) xs.length (G k)) from
        fun w' h => by
          obtain ⟨x0, x1, y0, y1⟩ := HTC.out _ (HB.out.trans (h.mono s0))
          exact ⟨x0, y0, (h.cell (p := ⟨pb, po + k, none⟩) hpb).trans R0.out, (h.cell (p := ⟨qb, qo + k, none⟩) hqb).trans R1.out⟩)
      have HD := Lib.hid (below_dr (Below.refl wr.heap.size wr))
      have HCL := Lib.hid (show ∀ W, Below wr.heap.size wr W → Calls Try.prog 26 #[.slice (A k) xs.length (C k), .slice (D k) xs.length (G k)] W fun e w' => e = .returned (.bool true) ∧ Below wr.heap.size wr w' from
        fun W hW => (ints_any xs xs (A k) (D k) _ _ _ _ _ _ W (i0.below hW (Nat.le_refl _)) (i1.below hW (Nat.le_refl _))).mono fun e w' h => ⟨h.1.trans (by simp), hW.trans (h.2.mono hW.size)⟩)
      have j0 : (0 : Int) ≤ (k : Int) := by omega
      have j1 : (k : Int) < (P.length : Int) := by omega
      clear hPw hQw i0 i1 hxs r0 r1 x1 y1
      go_wp2
      go_region_held3 (fun w' => w'.cell? ⟨w.heap.size, 0, none⟩ = some (.slice (some ⟨pb, po, none⟩) P.length pc) ∧ w'.cell? ⟨w.heap.size + 1, 0, none⟩ = some (.slice (some ⟨qb, qo, none⟩) P.length qc) ∧ w'.cell? ⟨pb, po + k, none⟩ = some (.slice (A k) xs.length (C k)) ∧ w'.cell? ⟨qb, qo + k, none⟩ = some (.slice (D k) xs.length (G k)))
        (first | exact HT2.out _ HB1.out | exact HT2.out _ HD.out)
        ((go_simp; go_at_call 26; with_reducible refine (HCL.out _ HD.out).mono ?_; rintro e w1 ⟨rfl, hb1⟩; have HB1 := Lib.hid hb1; clear hb1))
      all_goals go_wp2
      all_goals go_roundw
      case rel => exact ⟨k + 1, by omega, by go_num, HB.out.trans (HB1.out.mono s0)⟩
      case measure => simp [intOf]; omega
    · go_wp2
      clear x0 x1 y0 y1
      go_loopw [6] (fun i wr => ∃ k : Nat, k ≤ T.length ∧ i = .int .i64 k ∧ Below wA.heap.size wA wr) (fun i _ => T.length - (intOf i).toNat)
      case atStart => exact ⟨0, by omega, rfl, HB.out⟩
      case round =>
        obtain ⟨k2, hk2, rfl, hb⟩ := hrel
        have HBZ := Lib.hid hb
        have s1 := hb.size
        obtain ⟨x0, x1, y0, y1⟩ := HTC.out _ hb
        clear hb
        by_cases hlt2 : k2 < T.length
        · have hPw := HT.out.below HBZ.out (Nat.le_refl _)
          have hQw := HS.out.below HBZ.out (Nat.le_refl _)
          obtain ⟨rfl, hpb⟩ := hPw.ptr (by omega)
          obtain ⟨rfl, hqb⟩ := hQw.ptr (by omega)
          have r0 := hPw.cell k2 hlt2
          have r1 := hQw.cell k2 hlt2
          have i0 := hPw.rows k2 hlt2
          have i1 := hQw.rows k2 hlt2
          obtain ⟨xs, hxs⟩ : ∃ xs, row T k2 = xs := ⟨_, rfl⟩
          rw [hxs] at r0 r1 i0 i1
          have R0 := Lib.hid r0
          have R1 := Lib.hid r1
          have HT2 := Lib.hid (show ∀ w', Below wr.heap.size wr w' → w'.cell? ⟨w.heap.size, 1, none⟩ = some (.slice (some ⟨tb, tz, none⟩) T.length tc) ∧ w'.cell? ⟨w.heap.size + 1, 1, none⟩ = some (.slice (some ⟨sb, so, none⟩) T.length sc) ∧ w'.cell? ⟨tb, tz + k2, none⟩ = some (.slice (A' k2) xs.length (C' k2)) ∧ w'.cell? ⟨sb, so + k2, none⟩ = some (.slice (D' k2) xs.length (G' k2)) from
            fun w' h => by
              obtain ⟨x0, x1, y0, y1⟩ := HTC.out _ (HBZ.out.trans (h.mono s1))
              exact ⟨x1, y1, (h.cell (p := ⟨tb, tz + k2, none⟩) hpb).trans R0.out, (h.cell (p := ⟨sb, so + k2, none⟩) hqb).trans R1.out⟩)
          have HD := Lib.hid (below_dr (Below.refl wr.heap.size wr))
          have HCL := Lib.hid (show ∀ W, Below wr.heap.size wr W → Calls Try.prog 26 #[.slice (A' k2) xs.length (C' k2), .slice (D' k2) xs.length (G' k2)] W fun e w' => e = .returned (.bool true) ∧ Below wr.heap.size wr w' from
            fun W hW => (ints_any xs xs (A' k2) (D' k2) _ _ _ _ _ _ W (i0.below hW (Nat.le_refl _)) (i1.below hW (Nat.le_refl _))).mono fun e w' h => ⟨h.1.trans (by simp), hW.trans (h.2.mono hW.size)⟩)
          have j0 : (0 : Int) ≤ (k2 : Int) := by omega
          have j1 : (k2 : Int) < (T.length : Int) := by omega
          clear hPw hQw i0 i1 hxs r0 r1 x0 y0
          go_wp2
          go_region_held3 (fun w' => w'.cell? ⟨w.heap.size, 1, none⟩ = some (.slice (some ⟨tb, tz, none⟩) T.length tc) ∧ w'.cell? ⟨w.heap.size + 1, 1, none⟩ = some (.slice (some ⟨sb, so, none⟩) T.length sc) ∧ w'.cell? ⟨tb, tz + k2, none⟩ = some (.slice (A' k2) xs.length (C' k2)) ∧ w'.cell? ⟨sb, so + k2, none⟩ = some (.slice (D' k2) xs.length (G' k2)))
            (first | exact HT2.out _ HB1.out | exact HT2.out _ HD.out)
            ((go_simp; go_at_call 26; with_reducible refine (HCL.out _ HD.out).mono ?_; rintro e w1 ⟨rfl, hb1⟩; have HB1 := Lib.hid hb1; clear hb1))
          all_goals go_wp2
          all_goals go_roundw
          case rel => exact ⟨k2 + 1, by omega, by go_num, HBZ.out.trans (HB1.out.mono s1)⟩
          case measure => simp [intOf]; omega
        · go_wp2
          go_ret
          exact ⟨rfl, HB0.out.trans (HBZ.out.mono (by omega))⟩

end Go.Proofs.Ytghffnjnpgiicaa

