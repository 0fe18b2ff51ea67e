/- H6: Eb Gb -/
import Derived.Test.YtghffnjnpgiicaaH5
import Derived.Test.YtghffnjnpgiicaaG7
import Derived.Deep.Cut
import Derived.Deep.CutRange
import Derived.Test.YtghffnjnpgiicaaG9
/- BayesSeparates: the walk. -/
namespace Go.Proofs.Ytghffnjnpgiicaa
open Go.RowKit

/-- The arguments of Separated are right. -/
def okAll (P T : List (List Int)) (x y : Int) (set : List Int) : Bool := isNet P T && okSep P.length x y set
def sepR (P T : List (List Int)) (x y : Int) (set : List Int) : Option (List Nat) := if okAll P T x y set = true then sepTrail P set x.toNat y.toNat else none
def sepE (P T : List (List Int)) (x y : Int) (set : List Int) : Int := if okAll P T x y set = true then 0 else 2
def sepI (P T : List (List Int)) (x y : Int) (set : List Int) : Bool := okAll P T x y set && (sepTrail P set x.toNat y.toNat).isNone

theorem okAll_parts {P T : List (List Int)} {x y : Int} {set : List Int} (h : okAll P T x y set = true) :
    isNet P T = true ∧ (0 ≤ x ∧ x < P.length) ∧ (0 ≤ y ∧ y < P.length) ∧ x ≠ y ∧ okSet set P.length = true ∧ hasI set x = false ∧ hasI set y = false := by
  unfold okAll okSep isVar at h
  simp only [Bool.and_eq_true, decide_eq_true_eq, Bool.not_eq_true'] at h
  obtain ⟨h1, ⟨⟨⟨⟨⟨h2, h3⟩, h4⟩, h5⟩, h6⟩, h7⟩⟩ := h
  exact ⟨h1, h2, h3, h4, h5, h6, h7⟩

/-- What Separated answers. -/
def SepSays (P T : List (List Int)) (x y : Int) (set : List Int) (w : World) (e : Ending) (w' : World) : Prop :=
  ∃ v, e = .returned (.tuple #[.bool (sepI P T x y set), v, .int .i64 (sepE P T x y set)]) ∧ NewInts w.heap.size w' v (ints ((sepR P T x y set).getD [])) ∧ Below w.heap.size w w'

theorem sep_any (P T : List (List Int)) (v : Value) (x y : Int) (set : List Int) (so : Option Addr) (sb sf sc : Nat) (w : World) (h : NetAt w v P T) (hS : IntsAt w so sb sf set) :
    Calls Try.prog 27 #[v, .int .i64 x, .int .i64 y, .slice so set.length sc] w (SepSays P T x y set w) := by
  cases ho : okAll P T x y set
  · have he : sepI P T x y set = false ∧ sepE P T x y set = 2 ∧ sepR P T x y set = none := by
      unfold sepI sepE sepR; rw [ho]; exact ⟨rfl, rfl, rfl⟩
    have hr : Calls Try.prog 27 #[v, .int .i64 x, .int .i64 y, .slice so set.length sc] w fun e w' => e = .returned (.tuple #[.bool false, .slice none 0 0, .int .i64 2]) ∧ Below w.heap.size w w' := by
      cases hn : isNet P T
      · exact sep_noNet P T v _ _ _ w h hn
      · exact sep_bad P T v x y set so sb sf sc w h hS hn (by unfold okAll at ho; rw [hn, Bool.true_and] at ho; exact ho)
    refine hr.mono ?_
    rintro e w' ⟨rfl, hb⟩
    exact ⟨.slice none 0 0, by rw [he.1, he.2.1], by rw [he.2.2]; exact NewInts.nil _ _, hb⟩
  · obtain ⟨h1, h2, h3, h4, h5, h6, h7⟩ := okAll_parts ho
    obtain ⟨x, rfl⟩ := Int.eq_ofNat_of_zero_le h2.1
    obtain ⟨y, rfl⟩ := Int.eq_ofNat_of_zero_le h3.1
    refine (sep_ok P T v set x y so sb sf sc w h hS h1 (by omega) (by omega) (by omega) h5 h6 h7).mono ?_
    rintro e w' ⟨u, rfl, hu, -, hb⟩
    refine ⟨u, ?_, ?_, hb⟩
    · unfold sepI sepE; rw [ho]; simp
    · unfold sepR; rw [ho]; simpa using hu

/-- What is wrong before the set is looked through. -/
def badB (P T : List (List Int)) (x y : Int) (set : List Int) : Bool := !isNet P T || !isVar x P.length || !isVar y P.length || decide (x = y) || !okSet set P.length
theorem bad_ok (P T : List (List Int)) (x y : Int) (set : List Int) : (badB P T x y set || (hasI set x || hasI set y)) = !okAll P T x y set := by
  unfold badB okAll okSep
  cases isNet P T <;> cases isVar x P.length <;> cases isVar y P.length <;> by_cases h : x = y <;> cases okSet set P.length <;> cases hasI set x <;> cases hasI set y <;> simp [h]

theorem hasTo_succ (xs : List Int) (k : Nat) (x : Int) : hasTo xs (k + 1) x = (hasTo xs k x || decide (nth xs k = x)) := by
  unfold hasTo
  rw [Bool.eq_iff_iff]
  simp only [decide_eq_true_eq, Bool.or_eq_true]
  constructor
  · rintro ⟨i, hi, e⟩
    by_cases h : i = k
    · subst h; exact .inr e
    · exact .inl ⟨i, by omega, e⟩
  · rintro (⟨i, hi, e⟩ | e)
    · exact ⟨i, by omega, e⟩
    · exact ⟨k, by omega, e⟩
theorem hasTo_zero (xs : List Int) (x : Int) : hasTo xs 0 x = false := decide_eq_false (fun ⟨i, h, _⟩ => absurd h (by omega))

set_option maxHeartbeats 4000000 in
set_option maxRecDepth 100000 in
theorem separates_any (P T : List (List Int)) (pa : Option Addr) (pb po pc : Nat) (A : Nat → Option Addr) (B O C : Nat → Nat) (ta : Option Addr) (tb tz tc : Nat) (A' : Nat → Option Addr) (B' O' C' : Nat → Nat)
    (x y : Int) (xs : List Int) (ao : Option Addr) (xb xo xc : Nat) (w : World)
    (hP : RowsAt w pa pb po P A B O C) (hT : RowsAt w ta tb tz T A' B' O' C') (cP : CapsOk P A C) (cT : CapsOk T A' C') (hx : -9223372036854775808 ≤ x ∧ x ≤ 9223372036854775807) (hy : -9223372036854775808 ≤ y ∧ y ≤ 9223372036854775807) (hX : IntsAt w ao xb xo xs) (hcap : xs.length ≤ xc) (hnil : ao = none → xc = 0) :
    Calls Try.prog 6 #[.agg #[.slice pa P.length pc, .slice ta T.length tc], .agg #[.int .i64 x, .int .i64 y], .slice ao xs.length xc] w fun e w' => e = .returned (.bool true) ∧ Below w.heap.size w w' := by
  have HP := Lib.hid hP
  have HT := Lib.hid hT
  have CP := Lib.hid cP
  have CT := Lib.hid cT
  have HX := Lib.hid hX
  have HC := Lib.hid hcap
  have HN := Lib.hid hnil
  have HBW : Hid (Below w.heap.size w ((w.alloc (.cells #[.slice pa P.length pc, .slice ta T.length tc] 24)).alloc (.cells #[.int .i64 x, .int .i64 y] 52))) := ((Below.refl _ _).alloc (Nat.le_refl _) _).alloc (by simp) _
  clear hP hT cP cT hX hcap hnil
  go_enter Try.func6, Try.ntmps6
  go_wp2_with fail
  refine (network_any P T pa pb po pc A B O C ta tb tz tc A' B' O' C' _ (HP.out.below HBW.out (Nat.le_refl _)) (HT.out.below HBW.out (Nat.le_refl _)) CP.out CT.out).mono ?_
  rintro e w1 ⟨⟨v1, v2, rfl, n1, n2⟩, hb1⟩
  obtain ⟨qa, qc, sa, sc, rfl, rfl, hnet⟩ := net_of_new n1 n2
  obtain ⟨-, k1⟩ := two2 (hb1.mono (B' := w.heap.size + 2) (by simp)) (Nat.le_refl _)
  have K1 := Lib.hid k1
  have HB1 := Lib.hid (HBW.out.trans (hb1.mono (by simp; omega)))
  have HNET := Lib.hid hnet
  clear hb1 n1 n2 hnet k1
  go_wp2_with fail
  refine (list_any xs ao xb xo xc _ (HX.out.below HB1.out (Nat.le_refl _)) HC.out HN.out).mono ?_
  rintro e w2 ⟨v, rfl, hv, hb2⟩
  obtain ⟨ya, yb, yc, rfl, hy', -⟩ := hv.at
  have hcap2 : (xs.take 20).length ≤ yc := by
    rcases hv.own.2 with ⟨h1, h2⟩ | ⟨g, cap, cur, h1, _, _, h2, _⟩
    · simp at h1; omega
    · simp at h1; omega
  have HY := Lib.hid (hy'.alloc (.cells #[.slice qa (trim P).length qc, .slice sa (trim T).length sc] 24))
  have HNET2 := Lib.hid ((HNET.out.below hb2 (Nat.le_refl _)).alloc (.cells #[.slice qa (trim P).length qc, .slice sa (trim T).length sc] 24))
  have HB2 := Lib.hid ((HB1.out.trans (hb2.mono HB1.out.size)).alloc (by have := HB1.out.size; have := hb2.size; omega) (.cells #[.slice qa (trim P).length qc, .slice sa (trim T).length sc] 24))
  have k2 := (hb2.block _ (lt_of_block K1.out)).trans K1.out
  have hlt2 := lt_of_block k2
  obtain ⟨c0, c1, -, -⟩ := cells_of2 k2
  obtain ⟨P', hP'⟩ : ∃ P', trim P = P' := ⟨_, rfl⟩
  obtain ⟨T', hT'⟩ : ∃ T', trim T = T' := ⟨_, rfl⟩
  obtain ⟨ys, hys⟩ : ∃ ys, xs.take 20 = ys := ⟨_, rfl⟩
  rw [hys] at HY hcap2 ⊢
  rw [hP', hT'] at HY HNET2 HB2 ⊢
  clear hv hy' hb2 HNET HB1 HX HP HT CP CT HC HN hP' hT' hys k2 HBW K1
  go_wp2
  go_quiet (fail)
  obtain ⟨nb, hnb⟩ : ∃ nb, w2.heap.size = nb := ⟨_, rfl⟩
  obtain ⟨wa, hwa⟩ : ∃ wa, (w2.alloc (.cells #[.slice qa P'.length qc, .slice sa T'.length sc] 24)).drewN nq = wa := ⟨_, rfl⟩
  have hblk : wa.heap[nb]? = some (.cells #[.slice qa P'.length qc, .slice sa T'.length sc] 24 (0, 0)) := by rw [← hwa, ← hnb]; exact heap_alloc_new _ _
  have HBLK := Lib.hid hblk
  have HYa : Hid (IntsAt wa ya yb 0 ys) := by rw [← hwa]; exact HY.out.drewN _
  have HNa : Hid (NetAt wa (.agg #[.slice qa P'.length qc, .slice sa T'.length sc]) P' T') := by rw [← hwa]; exact HNET2.out.below (below_drewN (Below.refl _ _) _) (Nat.le_refl _)
  have HBa : Hid (Below w.heap.size w wa) := by rw [← hwa]; exact below_drewN HB2.out _
  rw [hwa, hnb]
  obtain ⟨c0, c1, -, -⟩ := cells_of2 hblk
  clear hwa hblk HY HNET2 HB2 hnb hlt2
  go_wp2_with fail
  refine (sep_any P' T' (.agg #[.slice qa P'.length qc, .slice sa T'.length sc]) x y ys ya yb 0 yc wa HNa.out HYa.out).mono ?_
  rintro e w3 ⟨u, rfl, hu, hb3⟩
  obtain ⟨ua, ub, uc, rfl, hui, -⟩ := hu.at
  have hcapu : (ints ((sepR P' T' x y ys).getD [])).length ≤ uc := by
    rcases hu.own.2 with ⟨h1, h2⟩ | ⟨g, cap, cur, h1, _, _, h2, _⟩
    · simp at h1; omega
    · simp at h1; omega
  have HUI := Lib.hid hui
  have HB3 := Lib.hid hb3
  obtain ⟨c0, c1, -, -⟩ := cells_of2 ((HB3.out.block _ (lt_of_block HBLK.out)).trans HBLK.out)
  have hlt : nb < w3.heap.size := Nat.lt_of_lt_of_le (lt_of_block HBLK.out) HB3.out.size
  obtain ⟨ur, hur⟩ : ∃ ur, ints ((sepR P' T' x y ys).getD []) = ur := ⟨_, rfl⟩
  have HUR := Lib.hid hur
  rw [hur] at HUI hcapu ⊢
  obtain ⟨is, his⟩ : ∃ is, sepI P' T' x y ys = is := ⟨_, rfl⟩
  have HIS := Lib.hid his
  obtain ⟨ee, hee⟩ : ∃ ee, sepE P' T' x y ys = ee := ⟨_, rfl⟩
  have HEE := Lib.hid hee
  rw [his, hee]
  have HBW3 := Lib.hid (HBa.out.trans (HB3.out.mono HBa.out.size))
  have HN3 := Lib.hid (HNa.out.below HB3.out (Nat.le_refl _))
  have HY3 := Lib.hid (HYa.out.below HB3.out (Nat.le_refl _))
  have HBLK3 := Lib.hid ((HB3.out.block _ (lt_of_block HBLK.out)).trans HBLK.out)
  have hl20 : ys.length ≤ 140737488351232 := HYa.out.len
  clear hu hui hb3 hur his hee HNa HYa HB3 HBLK HBa
  go_upto_region 5 with fail
  go_cut [15] from 16 to 159 (fun bb wx => bb = .bool (badB P' T' x y ys) ∧ Below w3.heap.size w3 wx)
  case first =>
    have hr := refNetwork_any P' T' (.agg #[.slice qa P'.length qc, .slice sa T'.length sc]) w3 HN3.out
    cases hn : isNet P' T'
    · rw [hn] at hr
      have HF := Lib.hid (show badB P' T' x y ys = true by unfold badB; rw [hn]; rfl)
      clear hn
      go_wp2_with fail
      refine hr.mono ?_
      rintro e w4 ⟨rfl, hb4⟩
      have HB4 : Hid (Below w3.heap.size w3 w4) := hb4
      clear hb4 hr
      go_wp2_with fail
      go_meet
      exact ⟨by rw [HF.out], HB4.out⟩
    · rw [hn] at hr
      have HI := Lib.hid hn
      have HIN := Lib.hid (of_decide_eq_true hn : IsNet P' T')
      have h10 := HIN.out.le
      clear hn
      go_wp2_with fail
      refine hr.mono ?_
      rintro e w4 ⟨rfl, hb4⟩
      have HB4 : Hid (Below w3.heap.size w3 w4) := hb4
      clear hb4 hr
      by_cases e1 : x < 0
      · have t1 : decide (x < 0) = true := decide_eq_true e1
        have HF := Lib.hid (show badB P' T' x y ys = true by unfold badB isVar; rw [decide_eq_false (show ¬ (0 ≤ x ∧ x < (P'.length : Int)) by omega)]; simp)
        clear e1
        go_wp2_with fail
        go_meet
        exact ⟨by rw [HF.out], HB4.out⟩
      · have t1 : decide (x < 0) = false := decide_eq_false e1
        by_cases e2 : (P'.length : Int) ≤ x
        · have t2 : decide ((P'.length : Int) ≤ x) = true := decide_eq_true e2
          have HF := Lib.hid (show badB P' T' x y ys = true by unfold badB isVar; rw [decide_eq_false (show ¬ (0 ≤ x ∧ x < (P'.length : Int)) by omega)]; simp)
          clear e1 e2
          go_wp2_with fail
          go_meet
          exact ⟨by rw [HF.out], HB4.out⟩
        · have t2 : decide ((P'.length : Int) ≤ x) = false := decide_eq_false e2
          have HXV := Lib.hid (show isVar x P'.length = true from decide_eq_true (by omega))
          by_cases e3 : y < 0
          · have t3 : decide (y < 0) = true := decide_eq_true e3
            have HF := Lib.hid (show badB P' T' x y ys = true by unfold badB isVar; rw [decide_eq_false (show ¬ (0 ≤ y ∧ y < (P'.length : Int)) by omega)]; simp)
            clear e1 e2 e3
            go_wp2_with fail
            go_meet
            exact ⟨by rw [HF.out], HB4.out⟩
          · have t3 : decide (y < 0) = false := decide_eq_false e3
            by_cases e4 : (P'.length : Int) ≤ y
            · have t4 : decide ((P'.length : Int) ≤ y) = true := decide_eq_true e4
              have HF := Lib.hid (show badB P' T' x y ys = true by unfold badB isVar; rw [decide_eq_false (show ¬ (0 ≤ y ∧ y < (P'.length : Int)) by omega)]; simp)
              clear e1 e2 e3 e4
              go_wp2_with fail
              go_meet
              exact ⟨by rw [HF.out], HB4.out⟩
            · have t4 : decide ((P'.length : Int) ≤ y) = false := decide_eq_false e4
              have HYV := Lib.hid (show isVar y P'.length = true from decide_eq_true (by omega))
              clear e1 e2 e3 e4
              by_cases e5 : x = y
              · have t5 : (x == y) = true := by rw [beq_iff_eq]; exact e5
                have HF := Lib.hid (show badB P' T' x y ys = true by unfold badB; rw [decide_eq_true e5]; simp)
                clear e5
                go_wp2_with fail
                go_meet
                exact ⟨by rw [HF.out], HB4.out⟩
              · have t5 : (x == y) = false := by rw [beq_eq_false_iff_ne]; exact e5
                have HE5 := Lib.hid (decide_eq_false e5)
                have HF := Lib.hid (show badB P' T' x y ys = !okSet ys P'.length by unfold badB; rw [HI.out, HXV.out, HYV.out, HE5.out]; simp)
                clear e5
                have hd := different_any ys P'.length ya yb 0 yc w4 (HY3.out.below HB4.out (Nat.le_refl _)) hcap2
                obtain ⟨ok, hok⟩ : ∃ ok, okSet ys P'.length = ok := ⟨_, rfl⟩
                have HOK := Lib.hid hok
                rw [hok] at hd
                clear hok
                go_wp2_with fail
                refine hd.mono ?_
                rintro e w5 ⟨rfl, m, rfl⟩
                clear hd
                cases ok
                · go_wp2_with fail
                  go_meet
                  exact ⟨by rw [HF.out, HOK.out]; rfl, below_drewN HB4.out _⟩
                · go_wp2_with fail
                  go_meet
                  exact ⟨by rw [HF.out, HOK.out]; rfl, below_drewN HB4.out _⟩
  case rest =>
    obtain ⟨rfl, hbc⟩ := hcut
    have HBC := Lib.hid hbc
    have HYc := Lib.hid (HY3.out.below hbc (Nat.le_refl _))
    have HNc := Lib.hid (HN3.out.below hbc (Nat.le_refl _))
    have HUc := Lib.hid (HUI.out.below hbc (Nat.le_refl _))
    have HBLKc := Lib.hid ((hbc.block _ (lt_of_block HBLK3.out)).trans HBLK3.out)
    have HBWc := Lib.hid (HBW3.out.trans (hbc.mono HBW3.out.size))
    have HBO := Lib.hid (bad_ok P' T' x y ys)
    obtain ⟨b0, hb0⟩ : ∃ b0, badB P' T' x y ys = b0 := ⟨_, rfl⟩
    rw [hb0] at HBO ⊢
    have HB0 := Lib.hid hb0
    have hltc := lt_of_block HBLKc.out
    clear hbc HBC HY3 HN3 HUI HBLK3 HBW3 hb0 c0 c1 hlt
    go_wp2
    go_loop [15, 16] (fun b i => ∃ k : Nat, k ≤ ys.length ∧ b = .bool (b0 || (hasTo ys k x || hasTo ys k y)) ∧ i = .int .i64 k) (fun _ i => ys.length - (intOf i).toNat)
    case atStart => exact ⟨0, by omega, by rw [hasTo_zero, hasTo_zero]; simp, rfl⟩
    case round =>
      obtain ⟨k, hk, rfl, rfl⟩ := hrel
      by_cases hlt : k < ys.length
      · obtain ⟨rfl, -⟩ := HYc.out.ptr (by omega)
        have hc := HYc.out.cell k hlt
        rw [Nat.zero_add] at hc
        have H1 := Lib.hid (hasTo_succ ys k x)
        have H2 := Lib.hid (hasTo_succ ys k y)
        obtain ⟨b1, hb1⟩ : ∃ b1, hasTo ys k x = b1 := ⟨_, rfl⟩
        obtain ⟨b2, hb2⟩ : ∃ b2, hasTo ys k y = b2 := ⟨_, rfl⟩
        rw [hb1] at H1
        rw [hb2] at H2
        rw [hb1, hb2]
        clear hb1 hb2
        obtain ⟨bb, hbb⟩ : ∃ bb, (b0 || (b1 || b2)) = bb := ⟨_, rfl⟩
        have HBB := Lib.hid hbb
        rw [hbb]
        clear hbb
        cases bb
        · by_cases e1 : nth ys k = x
          · have t1 : (nth ys k == x) = true := by rw [beq_iff_eq]; exact e1
            have HF := Lib.hid (show (b0 || (hasTo ys (k + 1) x || hasTo ys (k + 1) y)) = true by rw [H1.out, decide_eq_true e1]; simp)
            clear e1
            go_wp2
            go_round
            case rel => exact ⟨k + 1, by omega, by rw [HF.out], by go_num⟩
            case measure => simp [intOf]; omega
          · have t1 : (nth ys k == x) = false := by rw [beq_eq_false_iff_ne]; exact e1
            by_cases e2 : nth ys k = y
            · have t2 : (nth ys k == y) = true := by rw [beq_iff_eq]; exact e2
              have HF := Lib.hid (show (b0 || (hasTo ys (k + 1) x || hasTo ys (k + 1) y)) = true by rw [H2.out, decide_eq_true e2]; simp)
              clear e1 e2
              go_wp2
              go_round
              case rel => exact ⟨k + 1, by omega, by rw [HF.out], by go_num⟩
              case measure => simp [intOf]; omega
            · have t2 : (nth ys k == y) = false := by rw [beq_eq_false_iff_ne]; exact e2
              have HF := Lib.hid (show (b0 || (hasTo ys (k + 1) x || hasTo ys (k + 1) y)) = false by rw [H1.out, H2.out, decide_eq_false e1, decide_eq_false e2, Bool.or_false, Bool.or_false]; exact HBB.out)
              clear e1 e2
              go_wp2
              go_round
              case rel => exact ⟨k + 1, by omega, by rw [HF.out], by go_num⟩
              case measure => simp [intOf]; omega
        · have HF := Lib.hid (show (b0 || (hasTo ys (k + 1) x || hasTo ys (k + 1) y)) = true by
            rw [H1.out, H2.out]
            have := HBB.out
            revert this
            cases b0 <;> cases b1 <;> cases b2 <;> simp)
          go_wp2
          go_round
          case rel => exact ⟨k + 1, by omega, by rw [HF.out], by go_num⟩
          case measure => simp [intOf]; omega
      · have hkl : k = ys.length := by omega
        subst hkl
        rw [hasTo_len, hasTo_len, HBO.out]
        cases ho : okAll P' T' x y ys
        · have hi := HIS.out
          have he := HEE.out
          have hl := HUR.out
          unfold sepI at hi
          unfold sepE at he
          unfold sepR at hl
          rw [ho] at hi he hl
          simp [ints] at hi he hl
          subst hi he hl
          clear ho HIS HEE HUR HBO HB0
          go_wp2_with fail
          refine (awake_any _).mono ?_
          rintro e w5 ⟨rfl, hb5⟩
          have HB5 := Lib.hid (HBWc.out.trans (hb5.mono HBWc.out.size))
          clear hb5
          go_wp2
          go_ret
          exact ⟨rfl, HB5.out⟩
        · obtain ⟨hn, hx, hy, hxy, hok, hhx, hhy⟩ := okAll_parts ho
          obtain ⟨x, rfl⟩ := Int.eq_ofNat_of_zero_le hx.1
          obtain ⟨y, rfl⟩ := Int.eq_ofNat_of_zero_le hy.1
          have HIN := Lib.hid (of_decide_eq_true hn : IsNet P' T')
          have hx' : x < P'.length := by omega
          have hy' : y < P'.length := by omega
          have hi := HIS.out
          have he := HEE.out
          have hl := HUR.out
          unfold sepI at hi
          unfold sepE at he
          unfold sepR at hl
          rw [ho] at hi he hl
          simp only [Int.toNat_natCast, Bool.true_and, if_true] at hi he hl
          have HCN := Lib.hid (sep_conn HIN.out hok (y := y) hx')
          have HFD := Lib.hid (fun r => sep_found HIN.out hok (y := y) hx' (r := r))
          have HOK := Lib.hid hok
          have HXY := Lib.hid hxy
          obtain ⟨c0, c1, -, -⟩ := cells_of2 HBLKc.out
          have hnew := heap_alloc_new wc (.cells #[.int .i64 (x : Int)] 3)
          have HB1 := Lib.hid ((Below.refl _ wc).alloc (Nat.le_refl _) (.cells #[.int .i64 (x : Int)] 3))
          have hX1 : IntsAt (wc.alloc (.cells #[.int .i64 (x : Int)] 3)) (some ⟨wc.heap.size, 0, none⟩) wc.heap.size 0 (ints [x]) :=
            ⟨fun _ => ⟨rfl, by simp⟩, fun i hi => by
              simp [ints] at hi
              subst hi
              rw [cell_of_row _ _ _ _ _ _ hnew]; rfl, by simp [ints], fun i => by
              rw [nth_ints]
              match i with
              | 0 => simp; have := HIN.out.le; omega
              | i + 1 => simp⟩
          have h10 := HIN.out.le
          have hcn := connected_any P' T' ys y HIN.out hok P'.length [x] (.agg #[.slice qa P'.length qc, .slice sa T'.length sc]) ⟨wc.heap.size, 0, none⟩ wc.heap.size 0 1 ya yb 0 yc _ ((HNc.out.below HB1.out (Nat.le_refl _))) hX1 (HYc.out.below HB1.out (Nat.le_refl _)) (by simp) ⟨by simp, fun z hz => by simp at hz; omega⟩ (by simp)
          rw [HCN.out] at hcn
          clear hnew hX1 ho hn hx hy hok hhx hhy hxy HCN HBO HB0 HIS HEE HUR
          subst he
          cases htr : sepTrail P' ys x y with
          | none =>
            rw [htr] at hi hl hcn
            simp [ints] at hi hl
            subst hi hl
            clear htr HFD
            go_wp2_with fail
            refine hcn.mono ?_
            rintro e w5 ⟨rfl, hb5⟩
            have HB5 := Lib.hid (HBWc.out.trans ((HB1.out.trans (hb5.mono (by simp))).mono HBWc.out.size))
            clear hb5 hcn c0 c1
            go_wp2_with fail
            refine (awake_any _).mono ?_
            rintro e w6 ⟨rfl, hb6⟩
            have HB6 := Lib.hid (HB5.out.trans (hb6.mono HB5.out.size))
            clear hb6
            go_wp2
            go_ret
            exact ⟨rfl, HB6.out⟩
          | some r =>
            have HF := Lib.hid (HFD.out r htr)
            rw [htr] at hi hl hcn
            simp at hi hl
            subst hi hl
            clear htr HFD
            obtain ⟨rl, hrl⟩ : ∃ rl, (ints r).length = rl := ⟨_, rfl⟩
            have hrl' : r.length = rl := by rw [← hrl, ints_length]
            have hr2 : 2 ≤ rl := by
              have hp : 0 < r.length := List.length_pos_iff.2 HF.out.good.1
              by_cases h1 : r.length = 1
              · exfalso
                have e1 := HF.out.first
                have e2 := HF.out.last
                rw [h1] at e2
                exact HXY.out (by rw [← e1, ← e2])
              · omega
            have hnt := HF.out.good.2.1
            have hlen := hnt.le
            obtain ⟨rfl, -⟩ := HUc.out.ptr (by omega)
            have d0 := HUc.out.cell 0 (by omega)
            have d1 := HUc.out.cell (rl - 1) (by omega)
            rw [nth_ints, HF.out.first, Nat.zero_add] at d0
            rw [nth_ints, ← hrl', HF.out.last, hrl', Nat.zero_add] at d1
            rw [hrl]
            have HRL := Lib.hid hrl
            have HRL' := Lib.hid hrl'
            rw [hrl] at hcapu
            have hubc : ub < wc.heap.size := (HUc.out.ptr (by omega)).2
            have hrl10 : rl ≤ 10 := by omega
            have hrl1 : ((rl : Int) - 1).toNat = rl - 1 := by omega
            have hrl2 : (0 : Int) ≤ (rl : Int) - 1 := by omega
            have hrl3 : (rl : Int) - 1 < (rl : Int) := by omega
            clear hrl hrl' hnt
            go_wp2_with fail
            refine hcn.mono ?_
            rintro e w5 ⟨rfl, hb5⟩
            have HBc5 := Lib.hid (HB1.out.trans (hb5.mono (by simp)))
            have HB5 := Lib.hid (HBWc.out.trans (HBc5.out.mono HBWc.out.size))
            have D0 := (HBc5.out.cell (p := ⟨ub, 0, none⟩) hubc).trans d0
            have D1 := (HBc5.out.cell (p := ⟨ub, rl - 1, none⟩) hubc).trans d1
            obtain ⟨y0, y1, -, -⟩ := cells_of2 ((HBc5.out.block _ hltc).trans HBLKc.out)
            have HU5 := Lib.hid (HUc.out.below HBc5.out (Nat.le_refl _))
            have HN5 := Lib.hid (HNc.out.below HBc5.out (Nat.le_refl _))
            have hlt5 : nb < w5.heap.size := Nat.lt_of_lt_of_le hltc HBc5.out.size
            have htl := trail_any P' T' (.agg #[.slice qa P'.length qc, .slice sa T'.length sc]) (ints r) (some ⟨ub, 0, none⟩) ub 0 uc w5 HN5.out HU5.out (by rw [HRL.out]; exact hcapu)
            rw [HF.out.good.2.2.1, HRL.out] at htl
            clear hb5 hcn c0 c1 d0 d1
            go_wp2_with fail
            refine htl.mono ?_
            rintro e w6 ⟨rfl, hb6⟩
            have HB56 : Hid (Below w5.heap.size w5 w6) := hb6
            have HB6 := Lib.hid (HB5.out.trans (hb6.mono HB5.out.size))
            clear htl hb6 D0 D1 y0 y1
            obtain ⟨y0, y1, -, -⟩ := cells_of2 ((HB56.out.block _ hlt5).trans ((HBc5.out.block _ hltc).trans HBLKc.out))
            have hac := refActive_any P' T' (.agg #[.slice qa P'.length qc, .slice sa T'.length sc]) (ints r) ys (some ⟨ub, 0, none⟩) ub 0 uc ya yb 0 yc w6 (HN5.out.below HB56.out (Nat.le_refl _)) HIN.out (HU5.out.below HB56.out (Nat.le_refl _)) ((HYc.out.below HBc5.out (Nat.le_refl _)).below HB56.out (Nat.le_refl _)) (okSet_ints HF.out.good.2.1) HOK.out
            rw [HF.out.good.2.2.2, HRL.out] at hac
            go_wp2_with fail
            refine hac.mono ?_
            rintro e w7 ⟨rfl, hb7⟩
            have HB7 := Lib.hid (HB6.out.trans (hb7.mono HB6.out.size))
            clear hac hb7 y0 y1
            go_wp2_with fail
            refine (awake_any _).mono ?_
            rintro e w8 ⟨rfl, hb8⟩
            have HB8 := Lib.hid (HB7.out.trans (hb8.mono HB7.out.size))
            clear hb8
            go_wp2
            go_ret
            exact ⟨rfl, HB8.out⟩

end Go.Proofs.Ytghffnjnpgiicaa

/-
  BayesSeparates, proved: for every network, every two ints and every list of ints the statement's function returns true. The arguments read behind the call as they read before it. No condition.
-/
namespace Go.Proofs.Ytghffnjnpgiicaa
open Go.ChangeShapes Go.WideShapes Go.ChangeAt Go.RowKit Go.Joins

theorem Try.own6 : ownKnob Try.prog.godebug = none := by kernel_rfl
theorem Try.laidOut6 : laidOutB Try.prog = true := by kernel_rfl

set_option maxHeartbeats 1000000 in
set_option maxRecDepth 100000 in
theorem separates_lifted (os : Os) (started : os.Started) (H : Type) (enc : TypeId × Value → H) :
    ReturnsInHanded {} Try.checked os 6 .any (Rows.bayesSeparatesSpec.pre6 enc Try.prog Try.f6 Rows.bayesSeparatesRow.domain false) (Rows.bayesSeparatesSpec.post enc Try.prog Try.f6 false true false false) := by
  refine returnsInHanded_of_change_sized (C := Try.checked) Try.own6 started (by kernel_rfl) Try.func6
    (ChangeSpec.witness6 (enc := enc) (C := Try.checked) false ⟨#[], #[.agg #[.slice none 0 0, .slice none 0 0], .agg #[.int .i64 0, .int .i64 0], .slice none 0 0], []⟩ 8 (by kernel_rfl) (by kernel_rfl) (by kernel_rfl) (by kernel_rfl)) ?_
  intro W base args ds gs before hval0 hW _ hsz0 _
  have hsz : (DataW.weightsEach Try.prog (Try.f6.params.toList ++ Rows.bayesSeparatesSpec.plain.varTypes Try.prog) (ds ++ gs)).all (· ≤ reachBytes) = true := hsz0
  clear hsz0
  have hval : ∀ (j : Nat) t v, Try.f6.params[j]? = some t → args[j]? = some v → Value.okWide Try.prog W .any base t v := hval0
  have hW' := hW
  obtain ⟨p, q, hA0, hV, rfl, _, _⟩ := hW
  have hA : DataW.TrodAll enc Try.prog W 0 (fun _ => true) true Try.f6.params.toList args.toList ds p := hA0
  rw [Try.params6] at hA hval hsz
  obtain ⟨v0, v1, v2, d0, d1, d2, p0, p1, p2, rfl, rfl, rfl, h0, h1, h2⟩ := trodAll_three hA
  obtain ⟨rfl, rfl⟩ := trodVars_none hV
  have h0k := h0
  have h1k := h1
  have h2k := h2
  clear hA0 hval0
  simp only [List.append_nil] at hW'
  have hlt0 : ∀ x ∈ p0, x.block < W.heap.size := fun x hx => hW'.lt x (by simp [hx])
  have hlt1 : ∀ x ∈ p1, x.block < W.heap.size := fun x hx => hW'.lt x (by simp [hx])
  have hlt2 : ∀ x ∈ p2, x.block < W.heap.size := fun x hx => hW'.lt x (by simp [hx])
  have hw0 : ∀ n ∈ d0.weights Try.prog 24, n ≤ 140737488351232 := fun n hn => by
    exact of_decide_eq_true (List.all_eq_true.1 hsz _ (DataW.weights_mem_each (j := 0) (t := 24) rfl rfl n hn))
  obtain ⟨pa, P, pb, po, pc, A, B, O, C, ta, T, tb, tz, tc, A', B', O', C', rfl, r1, r2, r3, r4⟩ := open_net (hval 0 24 v0 rfl rfl) h0 hw0
  obtain ⟨x1, y1, rfl, hx1, hy1⟩ := open_pair2 (hval 1 52 v1 rfl rfl) h1
  have hw2 : ∀ n ∈ d2.weights Try.prog 25, n ≤ 140737488351232 := fun n hn => by
    exact of_decide_eq_true (List.all_eq_true.1 hsz _ (DataW.weights_mem_each (j := 2) (t := 25) rfl rfl n hn))
  have hs2 := okWide_slice Try.underlying25 (hval 2 25 v2 rfl rfl)
  obtain ⟨fuel2, hf2⟩ := h2
  obtain ⟨xo2, xs2, xb2, xf2, xc2, rfl, hx2, hxc2, hxn2⟩ := open_list hs2 (by obtain ⟨_, _, _, rfl⟩ := hs2; simpa [Value.cells] using hf2) hw2
  refine (separates_any P T pa pb po pc A B O C ta tb tz tc A' B' O' C' x1 y1 xs2 xo2 xb2 xf2 xc2 W r1 r3 r2 r4 hx1 hy1 hx2 hxc2 hxn2).mono fun e W' ⟨he, hbelow⟩ => ?_
  subst he
  refine ⟨_, rfl, _, _, _, [], p0 ++ (p1 ++ p2), [], hW', ?_, ?_, ?_, hbelow.frame _, fun h => by cases h⟩
  · exact trodAll_mk1 (shut_bool Try.underlying4 true)
  · exact trodAll_mk3 (Below.trod Try.laidOut6 (by kernel_rfl) (of_decide_eq_true (by kernel_rfl)) h0k hbelow hlt0) (Below.trod Try.laidOut6 (by kernel_rfl) (of_decide_eq_true (by kernel_rfl)) h1k hbelow hlt1) (Below.trod Try.laidOut6 (by kernel_rfl) (of_decide_eq_true (by kernel_rfl)) h2k hbelow hlt2)
  · exact rfl

theorem separates_holds : Rows.BayesSeparatesSaid :=
  OpenClaim.holds_of_wide 6 Try.f6 rfl rfl rfl rfl rfl rfl rfl ⟨rfl, rfl, rfl, rfl, rfl⟩ rfl rfl rfl rfl rfl (by kernel_rfl) Try.func6 (by kernel_rfl)
    (of_decide_eq_true (by kernel_rfl)) (by unfold Func.isWrapper; first | (rw [if_pos (by decide +kernel)]; kernel_rfl) | (rw [if_neg (by decide +kernel)]; exact ⟨rfl, rfl⟩))
    (fun os started H enc _ => separates_lifted os started H enc)

end Go.Proofs.Ytghffnjnpgiicaa

