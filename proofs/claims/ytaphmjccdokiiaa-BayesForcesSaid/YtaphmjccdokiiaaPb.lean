/- Effect. -/
import Derived.Test.YtaphmjccdokiiaaOb
namespace Go.Proofs.Ytaphmjccdokiiaa
open Go.RowKit Go.Maps

theorem zero_maxLen : 0 < maxLen := by unfold maxLen; omega
/-- The arguments of Effect are right. -/
def okEff (P T : List (List Int)) (x y : Int) : Bool := isNet P T && isVar x P.length && isVar y P.length
/-- The weight that y has the value 1 if x is forced. -/
def effW (P T : List (List Int)) (x y : Nat) (val : Int) : Int := fw (P.set x []) (T.set x [16 * val]) (oneF y)
def effV (P T : List (List Int)) (x y val : Int) : Value := if okEff P T x y = true then fracV (effW P T x.toNat y.toNat val) (16 ^ P.length) else zeroF
def effE (P T : List (List Int)) (x y : Int) : Int := if okEff P T x y = true then 0 else 2
theorem eff_no {P T : List (List Int)} {x y : Int} (h : okEff P T x y = false) : effV P T x y 0 = zeroF ∧ effV P T x y 1 = zeroF ∧ effE P T x y = 2 := by
  unfold effV effE; rw [h]; exact ⟨rfl, rfl, rfl⟩
theorem eff_yes {P T : List (List Int)} {x y : Nat} (h : okEff P T (x : Int) (y : Int) = true) : effV P T x y 0 = fracV (effW P T x y 0) (16 ^ P.length) ∧ effV P T x y 1 = fracV (effW P T x y 1) (16 ^ P.length) ∧ effE P T x y = 0 := by
  unfold effV effE; rw [h]; simp

theorem results_cell_cell {P : Program} {fn : Func} {p q u : Tmp} {ty : TypeId} (h : fn.results = #[.cell p ty, .cell q ty, .tmp u]) (tmps : Array Value) (w : World) (g g' : Nat) (t : TypeId) (cs cs' : Array Value) (fr fr' : Nat × Nat) (d : TypeDesc)
    (hp : tmps.getD p undef = .pointer (some ⟨g, 0, none⟩)) (hg : w.heap[g]? = some (.cells cs t fr)) (hq : tmps.getD q undef = .pointer (some ⟨g', 0, none⟩)) (hg' : w.heap[g']? = some (.cells cs' t fr'))
    (hu : P.underlying ty = some d) (hd : (match d with | .struct _ | .array _ _ => true | _ => false) = true) (hi : (P.info? ty).map (·.size) = some cs.size) (hi' : (P.info? ty).map (·.size) = some cs'.size) :
    (results fn tmps).run P w = .ok (.tuple #[.agg cs, .agg cs', tmps.getD u undef]) w := by
  have hp' : tmps[p]?.getD undef = .pointer (some ⟨g, 0, none⟩) := by simpa using hp
  have hq' : tmps[q]?.getD undef = .pointer (some ⟨g', 0, none⟩) := by simpa using hq
  simp only [results, h]
  simp [Sem.run_bind, Result.andThen, hp', hq', asAddr, run_loadVar_row w g t ty cs fr d hg hu hd hi, run_loadVar_row w g' t ty cs' fr' d hg' hu hd hi']

/-- What Effect answers. -/
def EffectSays (P T : List (List Int)) (x y : Int) (w : World) (e : Ending) (w' : World) : Prop :=
  e = .returned (.tuple #[effV P T x y 0, effV P T x y 1, .int .i64 (effE P T x y)]) ∧ Below w.heap.size w w'

set_option maxHeartbeats 4000000 in
set_option maxRecDepth 100000 in
theorem effect_any (P T : List (List Int)) (v : Value) (x y : Int) (w : World) (h : NetAt w v P T) :
    Calls Try.prog 34 #[v, .int .i64 x, .int .i64 y] w (EffectSays P T x y w) := by
  have HNet := Lib.hid h
  obtain ⟨pa, b, o, pc, A, B, O, C, ta, b', o', tc, A', B', O', C', rfl, hP, hT⟩ := h.ex
  obtain ⟨W0, hW0⟩ : ∃ W0, ((w.alloc (.cells #[.slice pa P.length pc, .slice ta T.length tc] 24)).alloc (.cells #[.int .i64 0, .int .i64 0] 29)).alloc (.cells #[.int .i64 0, .int .i64 0] 29) = W0 := ⟨_, rfl⟩
  have HW0 := Lib.hid hW0
  have hs0 : W0.heap.size = w.heap.size + 3 := by rw [← hW0]; simp
  have HS0 := Lib.hid hs0
  have HB0 : Hid (Below w.heap.size w W0) := by rw [← hW0]; exact (((Below.refl _ _).alloc (Nat.le_refl _) _).alloc (by simp) _).alloc (by simp; omega) _
  have HX0 : Hid (W0.heap[w.heap.size]? = some (.cells #[.slice pa P.length pc, .slice ta T.length tc] 24 (0, 0)) ∧ W0.heap[w.heap.size + 1]? = some (.cells #[.int .i64 0, .int .i64 0] 29 (0, 0)) ∧ W0.heap[w.heap.size + 2]? = some (.cells #[.int .i64 0, .int .i64 0] 29 (0, 0))) := by
    rw [← hW0]; exact ⟨rfl3 _ _ _ _, rfl4 _ _ _ _, rfl5 _ _ _ _⟩
  have HT3 := Lib.hid (show ∀ w', Below W0.heap.size W0 w' → w'.heap[w.heap.size]? = some (.cells #[.slice pa P.length pc, .slice ta T.length tc] 24 (0, 0)) ∧ w'.heap[w.heap.size + 1]? = some (.cells #[.int .i64 0, .int .i64 0] 29 (0, 0)) ∧ w'.heap[w.heap.size + 2]? = some (.cells #[.int .i64 0, .int .i64 0] 29 (0, 0)) from
    fun w' h => ⟨(h.block _ (by omega)).trans HX0.out.1, (h.block _ (by omega)).trans HX0.out.2.1, (h.block _ (by omega)).trans HX0.out.2.2⟩)
  have HN0 := Lib.hid (HNet.out.below HB0.out (Nat.le_refl _))
  have hv1 := fun w => isVariable_any x P.length w
  have hv2 := fun w => isVariable_any y P.length w
  have HV1 := Lib.hid hv1
  have HV2 := Lib.hid hv2
  have HONE := Lib.hid (show (#[Value.int .i64 0, Value.int .i64 0] : Array Value).all (·.oneCell') = true by simp [Value.oneCell'])
  clear h hP hT hv1 hv2 hW0 hs0
  obtain ⟨ok, hok⟩ : ∃ ok, isNet P T = ok := ⟨_, rfl⟩
  have HOK := Lib.hid hok
  clear hok
  have HRF := Lib.hid (show ∀ w' tmps, okEff P T x y = false → Below W0.heap.size W0 w' → tmps.getD 6 undef = .pointer (some ⟨w.heap.size + 1, 0, none⟩) → tmps.getD 7 undef = .pointer (some ⟨w.heap.size + 2, 0, none⟩) → tmps.getD 8 undef = .int .i64 2 →
      (results Try.f34 tmps).run Try.prog ((w'.setRow (w.heap.size + 1) #[.int .i64 0, .int .i64 0]).setRow (w.heap.size + 2) #[.int .i64 0, .int .i64 0]) = .ok (.tuple #[zeroF, zeroF, .int .i64 2]) ((w'.setRow (w.heap.size + 1) #[.int .i64 0, .int .i64 0]).setRow (w.heap.size + 2) #[.int .i64 0, .int .i64 0]) from
    fun w' tmps _ hb h1 h2 h3 => by
      obtain ⟨-, q1, q2⟩ := HT3.out w' hb
      have r1 := setRow_heap w' (w.heap.size + 1) _ #[.int .i64 0, .int .i64 0] _ _ q1
      have r2 : (w'.setRow (w.heap.size + 1) #[.int .i64 0, .int .i64 0]).heap[w.heap.size + 2]? = _ := (Go.setRow_other _ _ _ _ (by omega)).trans q2
      rw [results_cell_cell (fn := Try.f34) (p := 6) (q := 7) (u := 8) (ty := 29) rfl tmps _ (w.heap.size + 1) (w.heap.size + 2) 29 _ _ (0, 0) (0, 0) _ h1 ((Go.setRow_other _ _ _ _ (by omega)).trans r1) h2 (setRow_heap _ _ _ _ _ _ r2) Try.underlying29 rfl (by kernel_rfl) (by kernel_rfl), h3]
      rfl)
  go_enter Try.func34, Try.ntmps34
  go_wp2_with fail
  rw [HW0.out]
  refine (isNetwork_any P T _ _ HN0.out).mono ?_
  rw [HOK.out]
  rintro e w1 ⟨rfl, hb1⟩
  have HB1 : Hid (Below W0.heap.size W0 w1) := hb1
  obtain ⟨k0, k1, k2⟩ := HT3.out w1 hb1
  obtain ⟨c0, c1, -, -⟩ := cells_of2 k0
  have K1 := Lib.hid k1
  have K2 := Lib.hid (show (w1.setRow (w.heap.size + 1) #[.int .i64 0, .int .i64 0]).heap[w.heap.size + 2]? = _ from (Go.setRow_other _ _ _ _ (by omega)).trans k2)
  clear hb1 k0 k1 k2
  have HBF := Lib.hid (show Below w.heap.size w ((w1.setRow (w.heap.size + 1) #[.int .i64 0, .int .i64 0]).setRow (w.heap.size + 2) #[.int .i64 0, .int .i64 0]) from
    below_setRow (below_setRow (HB0.out.trans (HB1.out.mono (by have := HS0.out; omega))) (by omega) _) (by omega) _)
  cases ok
  · have HNO := Lib.hid (show okEff P T x y = false by unfold okEff; rw [HOK.out]; rfl)
    go_wp2_with (first
      | (refine wpList_store_row rfl 29 (.tmp 6) (.tmp 31) rfl (w.heap.size + 1) _ rfl rfl 29 _ K1.out (by kernel_rfl) rfl HONE.out ?_)
      | (refine wpList_store_row rfl 29 (.tmp 7) (.tmp 32) rfl (w.heap.size + 2) _ rfl rfl 29 _ K2.out (by kernel_rfl) rfl HONE.out ?_))
    refine bodyPost_ret (v := .tuple #[zeroF, zeroF, .int .i64 2]) (HRF.out _ _ HNO.out HB1.out rfl rfl rfl) rfl ⟨?_, HBF.out⟩
    rw [(eff_no HNO.out).1, (eff_no HNO.out).2.1, (eff_no HNO.out).2.2]
  · have HN := Lib.hid (of_decide_eq_true HOK.out : IsNet P T)
    have h10 := HN.out.le
    cases e1 : isVar x P.length
    · have HNO := Lib.hid (show okEff P T x y = false by unfold okEff; rw [e1]; simp)
      have HC := HV1.out w1
      rw [e1] at HC
      replace HC := Lib.hid HC
      clear e1
      go_wp2_with (first
        | (go_at_call 58; with_reducible refine HC.out.mono ?_; rintro e w' ⟨rfl, rfl⟩)
        | (refine wpList_store_row rfl 29 (.tmp 6) (.tmp 31) rfl (w.heap.size + 1) _ rfl rfl 29 _ K1.out (by kernel_rfl) rfl HONE.out ?_)
        | (refine wpList_store_row rfl 29 (.tmp 7) (.tmp 32) rfl (w.heap.size + 2) _ rfl rfl 29 _ K2.out (by kernel_rfl) rfl HONE.out ?_))
      refine bodyPost_ret (v := .tuple #[zeroF, zeroF, .int .i64 2]) (HRF.out _ _ HNO.out HB1.out rfl rfl rfl) rfl ⟨?_, HBF.out⟩
      rw [(eff_no HNO.out).1, (eff_no HNO.out).2.1, (eff_no HNO.out).2.2]
    · have hx := of_decide_eq_true e1
      have E1 := Lib.hid e1
      have HC := HV1.out w1
      rw [e1] at HC
      replace HC := Lib.hid HC
      clear e1
      cases e2 : isVar y P.length
      · have HNO := Lib.hid (show okEff P T x y = false by unfold okEff; rw [e2]; simp)
        have HC2 := HV2.out w1
        rw [e2] at HC2
        replace HC2 := Lib.hid HC2
        clear e2 hx
        go_wp2_with (first
          | (go_at_call 58; with_reducible refine HC.out.mono ?_; rintro e w' ⟨rfl, rfl⟩)
          | (go_at_call 58; with_reducible refine HC2.out.mono ?_; rintro e w' ⟨rfl, rfl⟩)
          | (refine wpList_store_row rfl 29 (.tmp 6) (.tmp 31) rfl (w.heap.size + 1) _ rfl rfl 29 _ K1.out (by kernel_rfl) rfl HONE.out ?_)
          | (refine wpList_store_row rfl 29 (.tmp 7) (.tmp 32) rfl (w.heap.size + 2) _ rfl rfl 29 _ K2.out (by kernel_rfl) rfl HONE.out ?_))
        refine bodyPost_ret (v := .tuple #[zeroF, zeroF, .int .i64 2]) (HRF.out _ _ HNO.out HB1.out rfl rfl rfl) rfl ⟨?_, HBF.out⟩
        rw [(eff_no HNO.out).1, (eff_no HNO.out).2.1, (eff_no HNO.out).2.2]
      · have hy := of_decide_eq_true e2
        have HC2 := HV2.out w1
        rw [e2] at HC2
        replace HC2 := Lib.hid HC2
        have HYES := Lib.hid (show okEff P T x y = true by unfold okEff; rw [HOK.out, E1.out, e2]; rfl)
        obtain ⟨x, rfl⟩ := Int.eq_ofNat_of_zero_le hx.1
        obtain ⟨y, rfl⟩ := Int.eq_ofNat_of_zero_le hy.1
        have hxP : x < P.length := by omega
        have hyP : y < P.length := by omega
        have hy10 : y < 10 := by omega
        clear e2 hx hy K1 K2 HBF HRF
        go_wp2_with (first
          | (go_at_call 58; with_reducible refine HC.out.mono ?_; rintro e w' ⟨rfl, rfl⟩)
          | (go_at_call 58; with_reducible refine HC2.out.mono ?_; rintro e w' ⟨rfl, rfl⟩))
        have hwy : (kl (y : Int)).wf = true := by unfold kl; exact WalkArith.wf_i64 (by omega)
        have HK := Lib.hid (keyOf_int_mk (P := Try.prog) Try.underlying3 hwy)
        have HW1 := Lib.hid (show (Lit.int .i64 1).wf = true from WalkArith.wf_i64 (by omega))
        have hfn0 := isNet_forced HN.out hxP (val := 0) (.inl rfl)
        have hfn1 := isNet_forced HN.out hxP (val := 1) (.inr rfl)
        have hc0 := fun w h => forced_any P T (.agg #[.slice pa P.length pc, .slice ta T.length tc]) x 0 w h HN.out hxP (.inl rfl)
        have hc1 := fun w h => forced_any P T (.agg #[.slice pa P.length pc, .slice ta T.length tc]) x 1 w h HN.out hxP (.inr rfl)
        obtain ⟨P0, hP0⟩ : ∃ P0, P.set x [] = P0 := ⟨_, rfl⟩
        obtain ⟨T0, hT0⟩ : ∃ T0, T.set x [16 * 0] = T0 := ⟨_, rfl⟩
        obtain ⟨T1, hT1⟩ : ∃ T1, T.set x [16 * 1] = T1 := ⟨_, rfl⟩
        have HP0 := Lib.hid hP0
        have HT0 := Lib.hid hT0
        have HT1 := Lib.hid hT1
        have hlT0 : T0.length ≤ 1000 := by rw [← hT0, List.length_set]; have := HN.out.tab; omega
        have hlT1 : T1.length ≤ 1000 := by rw [← hT1, List.length_set]; have := HN.out.tab; omega
        have hlP0 : P0.length ≤ 1000 := by rw [← hP0, List.length_set]; omega
        rw [hP0, hT0] at hfn0 hc0
        rw [hP0, hT1] at hfn1 hc1
        have HF0 := Lib.hid hfn0
        have HF1 := Lib.hid hfn1
        have HC0 := Lib.hid hc0
        have HC1 := Lib.hid hc1
        clear hc0 hc1 hP0 hT0 hT1
        have hmm := @run_makeMap Try.prog
        have hs0 := HS0.out
        have s1 := HB1.out.size
        have HTL := Lib.hid HN.out.tab
        have hT10 : T.length ≤ 10 := by rw [HTL.out]; exact h10
        clear hwy hfn0 hfn1
        refine (HC0.out w1 (HN0.out.below HB1.out (Nat.le_refl _))).mono ?_
        rintro e w2 ⟨⟨v1, v2, rfl, n1, n2⟩, hb2⟩
        obtain ⟨qa, qc, sa, sc, rfl, rfl, hnet⟩ := net_of_rows n1 n2 hlP0 hlT0
        have HNF := Lib.hid hnet
        have HB2 := Lib.hid (HB1.out.trans (hb2.mono s1))
        obtain ⟨k0, -, -⟩ := HT3.out w2 HB2.out
        have s2 := HB2.out.size
        clear n1 n2 hb2 hnet c0 c1
        go_wp2_with (refine wpList_insert_own (H := Unit) _ rfl (.tmp 36) (.tmp 37) (.const (.int .i64 1)) 85 rfl 3 3 law3 Try.underlying85 (plainElem Try.prog 3) w2.heap.size 0 (.map []) rfl (World.ownsMap_made _ _ _ _) zero_maxLen (.int .i64 (y : Int)) (.int .i64 1) (kl (y : Int)) rfl rfl HK.out (.lit (.int .i64 1)) [] (plainElem_int Try.underlying3 HW1.out) ?_; intro w3 hown3 hg3)
        have HFA := Lib.hid (facts_one hown3)
        have HB23 : Hid (Below w2.heap.size w2 w3) := ((Below.refl _ _).alloc (Nat.le_refl _) _).grown hg3 (by simp) (fun j hj => by have := Option.some.inj hj; omega)
        have HB3 := Lib.hid (HB2.out.trans (HB23.out.mono s2))
        clear hown3 hg3 k0
        have hfw := factsWeight_any P0 T0 (.agg #[.slice qa P0.length qc, .slice sa T0.length sc]) w2.heap.size (oneF y) w3 (HNF.out.below HB23.out (Nat.le_refl _)) HF0.out HFA.out (oneF_dom hy10)
        have hbd0 := fw_bd (φ := oneF y) HF0.out
        obtain ⟨e0, he0⟩ : ∃ e0, fw P0 T0 (oneF y) = e0 := ⟨_, rfl⟩
        have HE0 := Lib.hid he0
        rw [he0] at hfw hbd0
        have s3 := HB3.out.size
        clear he0
        go_wp2_with fail
        refine hfw.mono ?_
        rintro e w4 ⟨rfl, hb4⟩
        have HB4 := Lib.hid (HB3.out.trans (hb4.mono s3))
        obtain ⟨k0, -, -⟩ := HT3.out w4 HB4.out
        obtain ⟨c0, c1, -, -⟩ := cells_of2 k0
        have s4 := HB4.out.size
        clear hfw hb4 k0
        go_wp2_with fail
        refine (HC1.out w4 (HN0.out.below HB4.out (Nat.le_refl _))).mono ?_
        rintro e w5 ⟨⟨v1, v2, rfl, n1, n2⟩, hb5⟩
        obtain ⟨ra, rc, ua, uc, rfl, rfl, hnet⟩ := net_of_rows n1 n2 hlP0 hlT1
        have HNG := Lib.hid hnet
        have HB5 := Lib.hid (HB4.out.trans (hb5.mono s4))
        have s5 := HB5.out.size
        clear n1 n2 hb5 hnet c0 c1
        go_wp2_with (refine wpList_insert_own (H := Unit) _ rfl (.tmp 43) (.tmp 44) (.const (.int .i64 1)) 85 rfl 3 3 law3 Try.underlying85 (plainElem Try.prog 3) w5.heap.size 0 (.map []) rfl (World.ownsMap_made _ _ _ _) zero_maxLen (.int .i64 (y : Int)) (.int .i64 1) (kl (y : Int)) rfl rfl HK.out (.lit (.int .i64 1)) [] (plainElem_int Try.underlying3 HW1.out) ?_; intro w6 hown6 hg6)
        have HFB := Lib.hid (facts_one hown6)
        have HB56 : Hid (Below w5.heap.size w5 w6) := ((Below.refl _ _).alloc (Nat.le_refl _) _).grown hg6 (by simp) (fun j hj => by have := Option.some.inj hj; omega)
        have HB6 := Lib.hid (HB5.out.trans (HB56.out.mono s5))
        clear hown6 hg6
        have hfw := factsWeight_any P0 T1 (.agg #[.slice ra P0.length rc, .slice ua T1.length uc]) w5.heap.size (oneF y) w6 (HNG.out.below HB56.out (Nat.le_refl _)) HF1.out HFB.out (oneF_dom hy10)
        have hbd1 := fw_bd (φ := oneF y) HF1.out
        obtain ⟨e1, he1⟩ : ∃ e1, fw P0 T1 (oneF y) = e1 := ⟨_, rfl⟩
        have HE1 := Lib.hid he1
        rw [he1] at hfw hbd1
        have s6 := HB6.out.size
        clear he1 hmm
        go_wp2_with fail
        refine hfw.mono ?_
        rintro e w7 ⟨rfl, hb7⟩
        have HB7 := Lib.hid (HB6.out.trans (hb7.mono s6))
        obtain ⟨k0, -, -⟩ := HT3.out w7 HB7.out
        obtain ⟨c0, c1, -, -⟩ := cells_of2 k0
        have s7 := HB7.out.size
        clear hfw hb7 k0
        go_wp2_with fail
        have hfl := fullWeight_any P T (.agg #[.slice pa P.length pc, .slice ta T.length tc]) w7 (HN0.out.below HB7.out (Nat.le_refl _)) hT10
        have h16 := pow16_le (k := T.length) hT10
        have h16' := Int.pow_pos (n := 16) (m := T.length) (by omega)
        obtain ⟨q, hq⟩ : ∃ q : Int, (16 : Int) ^ T.length = q := ⟨_, rfl⟩
        have HQ := Lib.hid hq
        rw [hq] at hfl h16 h16'
        clear hq
        refine hfl.mono ?_
        rintro e w8 ⟨rfl, hb8⟩
        have HB8 := Lib.hid (HB7.out.trans (hb8.mono s7))
        have s8 := HB8.out.size
        clear hfl hb8 c0 c1
        go_wp2_with fail
        refine (fraction_any e0 q _ (by omega) (by omega) (by omega) (by omega)).mono ?_
        rintro e w9 ⟨rfl, hb9⟩
        have HB9 := Lib.hid (HB8.out.trans (hb9.mono s8))
        have s9 := HB9.out.size
        clear hb9
        go_wp2_with fail
        refine (fraction_any e1 q _ (by omega) (by omega) (by omega) (by omega)).mono ?_
        rintro e w10 ⟨rfl, hb10⟩
        have HB10 := Lib.hid (HB9.out.trans (hb10.mono s9))
        have s10 := HB10.out.size
        obtain ⟨-, k1, k2⟩ := HT3.out w10 HB10.out
        have K1 := Lib.hid k1
        have K2 := Lib.hid (show (w10.setRow (w.heap.size + 1) (fracC e0 q)).heap[w.heap.size + 2]? = _ from (Go.setRow_other _ _ _ _ (by omega)).trans k2)
        clear hb10 k1 k2
        go_wp2_with (first
          | (refine wpList_store_row rfl 29 (.tmp 6) (.tmp 51) rfl (w.heap.size + 1) _ rfl rfl 29 _ K1.out (by kernel_rfl) rfl (fracC_all _ _) ?_)
          | (refine wpList_store_row rfl 29 (.tmp 7) (.tmp 54) rfl (w.heap.size + 2) _ rfl rfl 29 _ K2.out (by kernel_rfl) rfl (fracC_all _ _) ?_))
        refine bodyPost_ret (v := .tuple #[fracV e0 q, fracV e1 q, .int .i64 0]) ?_ rfl ⟨?_, below_setRow (below_setRow (HB0.out.trans (HB10.out.mono (by omega))) (by omega) _) (by omega) _⟩
        · exact results_cell_cell (p := 6) (q := 7) (u := 8) (ty := 29) rfl _ _ (w.heap.size + 1) (w.heap.size + 2) 29 _ _ (0, 0) (0, 0) _ rfl ((Go.setRow_other _ _ _ _ (by omega)).trans (setRow_heap _ _ _ _ _ _ K1.out)) rfl (setRow_heap _ _ _ _ _ _ K2.out) Try.underlying29 rfl (by kernel_rfl) (by kernel_rfl)
        · rw [(eff_yes HYES.out).1, (eff_yes HYES.out).2.1, (eff_yes HYES.out).2.2]
          unfold effW
          rw [HP0.out, HT0.out, HT1.out, HE0.out, HE1.out, ← HTL.out, HQ.out]

end Go.Proofs.Ytaphmjccdokiiaa
