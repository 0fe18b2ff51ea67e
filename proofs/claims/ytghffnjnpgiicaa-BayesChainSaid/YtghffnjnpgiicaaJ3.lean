/- BayesSums: the walk. -/
import Derived.Test.YtghffnjnpgiicaaJ2
import Derived.Test.YtghffnjnpgiicaaI5
import Derived.Test.YtghffnjnpgiicaaI6
import Derived.Test.YtghffnjnpgiicaaG7
namespace Go.Proofs.Ytghffnjnpgiicaa
open Go.RowKit

/-- The parts of a reduced fraction. -/
theorem frac_parts {n D : Int} (h0 : 0 ≤ n) (h1 : n ≤ D) (h2 : 1 ≤ D) :
    (1 ≤ D / (Int.gcd n D : Int) ∧ D / (Int.gcd n D : Int) ≤ D) ∧ (0 ≤ n / (Int.gcd n D : Int) ∧ n / (Int.gcd n D : Int) ≤ D / (Int.gcd n D : Int)) ∧
      D % (D / (Int.gcd n D : Int)) = 0 ∧ n / (Int.gcd n D : Int) * (D / (D / (Int.gcd n D : Int))) = n ∧ 1 ≤ D / (D / (Int.gcd n D : Int)) ∧ D / (D / (Int.gcd n D : Int)) ≤ D := by
  have hg := gcd_pos (num := n) h2
  have hgl := gcd_le (num := n) h2
  obtain ⟨a, ha⟩ : (Int.gcd n D : Int) ∣ n := Int.gcd_dvd_left ..
  obtain ⟨d, hd⟩ : (Int.gcd n D : Int) ∣ D := Int.gcd_dvd_right ..
  obtain ⟨g, hgg⟩ : ∃ g : Int, (Int.gcd n D : Int) = g := ⟨_, rfl⟩
  rw [hgg] at hg hgl ha hd ⊢
  have ea : n / g = a := by rw [ha]; exact Int.mul_ediv_cancel_left _ (by omega)
  have ed : D / g = d := by rw [hd]; exact Int.mul_ediv_cancel_left _ (by omega)
  have hd1 : 1 ≤ d := by
    rcases Int.lt_or_le 0 d with h | h
    · omega
    · have := Int.mul_nonneg (a := g) (b := -d) (by omega) (by omega)
      rw [Int.mul_neg] at this
      omega
  have ha0 : 0 ≤ a := by
    rcases Int.lt_or_le a 0 with h | h
    · have := Int.mul_le_mul_of_nonneg_left (a := a) (b := -1) (c := g) (by omega) (by omega)
      omega
    · exact h
  have had : a ≤ d := by
    refine Int.le_of_mul_le_mul_left (a := g) ?_ (by omega)
    rw [← ha, ← hd]; exact h1
  have hdd : D / d = g := by rw [hd]; exact Int.mul_ediv_cancel _ (by omega)
  have hdD : d ≤ D := by
    rw [hd]
    have := Int.mul_le_mul_of_nonneg_right (a := 1) (b := g) (c := d) (by omega) (by omega)
    omega
  rw [ea, ed, hdd]
  refine ⟨⟨hd1, hdD⟩, ⟨ha0, had⟩, ?_, by rw [Int.mul_comm]; exact ha.symm, by omega, hgl⟩
  rw [hd]; exact Int.mul_emod_left _ _

theorem pow16_7 {k : Nat} (h : k ≤ 7) : 1 ≤ (16 : Int) ^ k ∧ (16 : Int) ^ k ≤ 268435456 := by
  have h1 : 16 ^ k ≤ 16 ^ 7 := Nat.pow_le_pow_right (by omega) h
  have h2 : ((16 ^ k : Nat) : Int) = (16 : Int) ^ k := by simp
  have h3 : 0 < 16 ^ k := Nat.pow_pos (by omega)
  omega
theorem pow2_7 {k : Nat} (h : k ≤ 7) : 2 ^ k ≤ 128 := by
  have h1 : 2 ^ k ≤ 2 ^ 7 := Nat.pow_le_pow_right (by omega) h
  simpa using h1

/-- The first j facts agree with the values. -/
def agTo (g : List (Int × Int)) (a : Nat → Int) (j : Nat) : Bool := decide (∀ i, i < j → a (pf g i).toNat = pv g i)
theorem agTo_zero (g : List (Int × Int)) (a : Nat → Int) : agTo g a 0 = true := decide_eq_true fun i hi => absurd hi (by omega)
theorem agTo_step (g : List (Int × Int)) (a : Nat → Int) (j : Nat) : agTo g a (j + 1) = (agTo g a j && decide (a (pf g j).toNat = pv g j)) := by
  unfold agTo
  rw [Bool.eq_iff_iff]
  simp only [Bool.and_eq_true, decide_eq_true_eq]
  constructor
  · intro h; exact ⟨fun i hi => h i (by omega), h j (by omega)⟩
  · intro ⟨h1, h2⟩ i hi
    by_cases e : i = j
    · subst e; exact h2
    · exact h1 i (by omega)
theorem agTo_all (g : List (Int × Int)) (a : Nat → Int) {n : Nat} (h : okFacts g n = true) (hn : n ≤ 10) : agTo g a g.length = agr (look g) a := (agr_look h hn a).symm

set_option maxHeartbeats 8000000 in
set_option maxRecDepth 100000 in
theorem sums_any (P T : List (List Int)) (pa : Option Addr) (pb po pc : Nat) (A : Nat → Option Addr) (B O C : Nat → Nat) (ta : Option Addr) (tb tz tc : Nat) (A' : Nat → Option Addr) (B' O' C' : Nat → Nat)
    (x : Int) (gs : List (Int × Int)) (go : Option Addr) (gb gf gc : Nat) (w : World)
    (hP : RowsAt w pa pb po P A B O C) (hT : RowsAt w ta tb tz T A' B' O' C') (cP : CapsOk P A C) (cT : CapsOk T A' C') (hx : -9223372036854775808 ≤ x ∧ x ≤ 9223372036854775807) (hG : PairsAt w go gb gf gs) (_hgc : gs.length ≤ gc) (_hgn : go = none → gc = 0) :
    Calls Try.prog 9 #[.agg #[.slice pa P.length pc, .slice ta T.length tc], .int .i64 x, .slice go gs.length gc] w fun e w' => e = .returned (.bool true) ∧ Below w.heap.size w w' := by
  have HP := Lib.hid hP
  have HT := Lib.hid hT
  have CP := Lib.hid cP
  have CT := Lib.hid cT
  have HG := Lib.hid hG
  have HBW : Hid (Below w.heap.size w (w.alloc (.cells #[.slice pa P.length pc, .slice ta T.length tc] 24))) := (Below.refl _ _).alloc (Nat.le_refl _) _
  clear hP hT cP cT hG _hgc _hgn
  go_enter Try.func9, Try.ntmps9
  go_wp2_with fail
  refine (tame_any P T pa pb po pc A B O C ta tb tz tc A' B' O' C' 7 _ (by omega) (by omega) (HP.out.below HBW.out (Nat.le_refl _)) (HT.out.below HBW.out (Nat.le_refl _)) CP.out CT.out).mono ?_
  rintro e w1 ⟨⟨v1, v2, P', T', rfl, n1, n2, hin, hle⟩, hb1⟩
  obtain ⟨qa, qc, sa, sc, rfl, rfl, hnet⟩ := net_of_rows n1 n2 (by omega) (by have := hin.tab; omega)
  obtain ⟨wa, hwa⟩ : ∃ wa, w1.alloc (.cells #[.slice qa P'.length qc, .slice sa T'.length sc] 24) = wa := ⟨_, rfl⟩
  obtain ⟨nb, hnb⟩ : ∃ nb, w1.heap.size = nb := ⟨_, rfl⟩
  have HIN := Lib.hid hin
  have HISN : Hid (isNet P' T' = true) := decide_eq_true hin
  have h1 := hin.pos
  have HWA := Lib.hid hwa
  have HNB := Lib.hid hnb
  have HBA : Hid (Below w.heap.size w wa) := by rw [← hwa]; exact (HBW.out.trans (hb1.mono (by simp))).alloc (by have := hb1.size; simp at this; omega) _
  have HNET : Hid (NetAt wa (.agg #[.slice qa P'.length qc, .slice sa T'.length sc]) P' T') := by rw [← hwa]; exact hnet.alloc _
  have HBLK : Hid (wa.heap[nb]? = some (.cells #[.slice qa P'.length qc, .slice sa T'.length sc] 24 (0, 0))) := by rw [← hwa, ← hnb]; exact heap_alloc_new _ _
  have HGA := Lib.hid (HG.out.below HBA.out (Nat.le_refl _))
  have HK := Lib.hid (show ∀ w', Below wa.heap.size wa w' → w'.cell? ⟨nb, 0, none⟩ = some (.slice qa P'.length qc) ∧ w'.cell? ⟨nb, 1, none⟩ = some (.slice sa T'.length sc) from
    fun w' h => by
      obtain ⟨y0, y1, -, -⟩ := cells_of2 ((h.block _ (lt_of_block HBLK.out)).trans HBLK.out)
      exact ⟨y0, y1⟩)
  clear hb1 n1 n2 hnet hin hwa hnb HP HT CP CT HG HBW
  have hmod : ∀ W, Calls Try.prog 38 #[.int .i64 x, .int .i64 (P'.length : Int)] W fun e w' => e = .returned (.int .i64 (modI x (P'.length : Int))) ∧ W = w' := fun W => (mod_any _ _ W hx (by omega) (by omega)).mono fun _ _ h => ⟨h.1, h.2.symm⟩
  have hvb := modI_bd (x := x) (n := (P'.length : Int)) (by omega)
  obtain ⟨vv, hvv⟩ : ∃ vv : Nat, modI x (P'.length : Int) = (vv : Int) := ⟨(modI x (P'.length : Int)).toNat, by omega⟩
  rw [hvv] at hmod hvb
  have HMOD := Lib.hid hmod
  have hvl : vv < P'.length := by omega
  clear hvv hmod
  go_wp2_with fail
  rw [HWA.out, HNB.out]
  refine (HMOD.out _).mono ?_
  rintro e w2 ⟨rfl, rfl⟩
  obtain ⟨c0, c1⟩ := HK.out _ (Below.refl _ _)
  go_wp2_with fail
  refine (some_any P' T' (.agg #[.slice qa P'.length qc, .slice sa T'.length sc]) gs go gb gf gc (vv : Int) (vv : Int) wa HNET.out h1 (by omega) HGA.out).mono ?_
  rintro e w2 ⟨v, g, rfl, hg, hg6, hok, hav, hb2⟩
  obtain ⟨eo, eb, ec, rfl, he, -, -⟩ := hg.at2
  have hlook := (look_avoid hav).1
  have HE := Lib.hid he
  have HOK := Lib.hid hok
  have HLK := Lib.hid hlook
  have HB2 := Lib.hid hb2
  have hs2 := hb2.size
  clear hg hok hav hlook he hb2 c0 c1 HMOD HGA HWA HNB
  go_wp2
  go_loop [10, 11] (fun p i => ∃ j : Nat, j ≤ P'.length ∧ i = .int .i64 j ∧ p = .int .i64 ((16 : Int) ^ j)) (fun _ i => P'.length - (intOf i).toNat)
  case atStart => exact ⟨0, by omega, rfl, rfl⟩
  case round =>
    obtain ⟨j, hj, rfl, rfl⟩ := hrel
    by_cases hlt : j < P'.length
    · have hq := pow16_7 (k := j) (by omega)
      have hq2 : (16 : Int) ^ j ≤ 16777216 := by
        have h1 : 16 ^ j ≤ 16 ^ 6 := Nat.pow_le_pow_right (by omega) (by omega)
        have h2 : ((16 ^ j : Nat) : Int) = (16 : Int) ^ j := by simp
        omega
      have HS := Lib.hid (Int.pow_succ (16 : Int) j)
      obtain ⟨q, hq'⟩ : ∃ q : Int, (16 : Int) ^ j = q := ⟨_, rfl⟩
      rw [hq'] at hq hq2 HS ⊢
      clear hq'
      go_wp2
      go_round
      case rel => exact ⟨j + 1, by omega, by go_num, by rw [HS.out]⟩
      case measure => simp [intOf]; omega
    · obtain rfl : j = P'.length := by omega
      have hD := pow16_7 (k := P'.length) (by omega)
      obtain ⟨D, hDD⟩ : ∃ D : Int, (16 : Int) ^ P'.length = D := ⟨_, rfl⟩
      have HDD := Lib.hid hDD
      have hp := wrap_pow P'.length (by omega)
      have hM := pow2_7 (k := P'.length) (by omega)
      obtain ⟨M, hMM⟩ : ∃ M : Nat, 2 ^ P'.length = M := ⟨_, rfl⟩
      have HMM := Lib.hid hMM
      rw [hMM] at hp hM
      rw [hDD] at hD ⊢
      clear hDD hMM hj hlt
      have HPW := Lib.hid hp
      go_wp2
      clear hp
      go_loopw [12, 13, 14, 15, 16, 17, 18, 19, 20, 21] (fun s p a i _ _ _ _ _ _ wr => ∃ m : Nat, m ≤ M ∧ i = .int .i64 m ∧ s = .int .i64 (wsum P' T' m) ∧ p = .int .i64 (fwTo P' T' (look g) m) ∧ a = .int .i64 (askTo P' T' (look g) vv m) ∧ Below w2.heap.size w2 wr) (fun _ _ _ i _ _ _ _ _ _ _ => M - (intOf i).toNat)
      case atStart => exact ⟨0, by omega, rfl, rfl, rfl, rfl, Below.refl _ _⟩
      case round =>
        obtain ⟨m, hm, rfl, rfl, rfl, rfl, hb⟩ := hrel
        obtain ⟨wq, rfl⟩ : ∃ x, x = wr := ⟨_, rfl⟩
        have HB := Lib.hid hb
        have HBq := Lib.hid (HB2.out.trans (hb.mono hs2))
        have hsq := hb.size
        have b1 := wsum_bd HIN.out m
        have b2 := fwTo_bd (φ := look g) HIN.out m
        have b3 := askTo_bd (φ := look g) (v := vv) HIN.out m
        have HW1 := Lib.hid (show wsum P' T' (m + 1) = wsum P' T' m + wt P' T' (bitv P'.length m) P'.length from rfl)
        have HF1 := Lib.hid (show fwTo P' T' (look g) (m + 1) = fwTo P' T' (look g) m + if agr (look g) (bitv P'.length m) = true then wt P' T' (bitv P'.length m) P'.length else 0 from rfl)
        have HA1 := Lib.hid (show askTo P' T' (look g) vv (m + 1) = askTo P' T' (look g) vv m + if agr (look g) (bitv P'.length m) = true then wt P' T' (bitv P'.length m) P'.length * bitv P'.length m vv else 0 from rfl)
        have HWALL := Lib.hid (wsum_all HIN.out)
        obtain ⟨s, hs⟩ : ∃ s, wsum P' T' m = s := ⟨_, rfl⟩
        obtain ⟨p, hpp⟩ : ∃ p, fwTo P' T' (look g) m = p := ⟨_, rfl⟩
        obtain ⟨a, haa⟩ : ∃ a, askTo P' T' (look g) vv m = a := ⟨_, rfl⟩
        have HSS := Lib.hid hs
        have HPP := Lib.hid hpp
        have HAA := Lib.hid haa
        rw [hs] at b1 HW1 ⊢
        rw [hpp] at b2 b3 HF1 ⊢
        rw [haa] at b3 HA1 ⊢
        clear hb hs hpp haa
        by_cases hlt : m < M
        · have hvals := refValues_any P'.length m wq (by omega) (by omega)
          have hW := wt_le HIN.out (bitv_Bits P'.length m) P'.length (Nat.le_refl _)
          have hW2 := (wt_bd HIN.out (bitv_Bits P'.length m) P'.length (Nat.le_refl _)).2
          rw [HDD.out] at hW2
          obtain ⟨W, hWW⟩ : ∃ W, wt P' T' (bitv P'.length m) P'.length = W := ⟨_, rfl⟩
          rw [hWW] at hW hW2 HW1 HF1 HA1
          have HWW := Lib.hid hWW
          obtain ⟨⟨d1, d2⟩, ⟨u1, u2⟩, r1, r2, t1, t2⟩ := frac_parts hW.1 hW2 hD.1
          have hval := frac_valid (num := W) (den := D) hW.1 hD.1
          obtain ⟨u, hu⟩ : ∃ u, W / (Int.gcd W D : Int) = u := ⟨_, rfl⟩
          obtain ⟨d, hd⟩ : ∃ d, D / (Int.gcd W D : Int) = d := ⟨_, rfl⟩
          have HFR : Hid (fracV W D = .agg #[.int .i64 u, .int .i64 d]) := by show fracV W D = _; rw [fracV, fracC, hu, hd]
          rw [hu] at u1 u2 r2 hval
          rw [hd] at d1 d2 u2 r1 r2 t1 t2 hval
          obtain ⟨t, ht⟩ : ∃ t, D / d = t := ⟨_, rfl⟩
          rw [ht] at r2 t1 t2
          have q1 : (D % d != 0) = false := by rw [r1]; simp
          have q2 : D.tdiv d = t := by rw [Int.tdiv_eq_ediv_of_nonneg (by omega)]; exact ht
          have q3 : IntKind.i64.wrap (u * t) = W := by rw [r2]; exact IntWalk.i64_in _ (by omega)
          have q4 : decide (u < 0) = false := decide_eq_false (by omega)
          have q5 : decide (d < u) = false := decide_eq_false (by omega)
          have HQ := Lib.hid (And.intro q1 (And.intro q2 (And.intro q3 (And.intro ht r2))))
          have hvd := fun W' => refValid_any u d W' u1 (by omega) d1 (by omega)
          rw [decide_eq_true hval] at hvd
          have HVD := Lib.hid hvd
          have HVALS := Lib.hid hvals
          clear hvals hWW hval hu hd ht r1 r2 q1 q2 q3 hvd
          have hp := HPW.out
          go_wp2_with fail
          clear hp
          refine HVALS.out.mono ?_
          rintro e w4 ⟨rfl, hrow, hb4⟩
          have hI : IntsAt w4 (some ⟨wq.heap.size, 0, none⟩) wq.heap.size 0 (vals P'.length m) := intsAt_of_row (by rw [vals_length, nth_vals']; exact hrow) (by rw [vals_length]; omega) (fun i => by rw [nth_vals]; have := bitv_Bits P'.length m i; omega)
          have HI := Lib.hid hI
          have HB4 := Lib.hid (HB.out.trans (hb4.mono hsq))
          have HBA4 := Lib.hid (HBq.out.trans (hb4.mono HBq.out.size))
          obtain ⟨c0, c1⟩ := HK.out _ HBA4.out
          clear hrow hb4 hI
          go_wp2_with fail
          have hj := joint_ok P' T' (.agg #[.slice qa P'.length qc, .slice sa T'.length sc]) (vals P'.length m) (some ⟨wq.heap.size, 0, none⟩) wq.heap.size 0 P'.length w4 (HNET.out.below HBA4.out (Nat.le_refl _)) HI.out HISN.out (decide_eq_true ⟨vals_length _ _, fun i _ => by rw [nth_vals]; exact bitv_Bits P'.length m i⟩)
          rw [vals_length, nth_vals', HWW.out, HDD.out, HFR.out] at hj
          refine hj.mono ?_
          rintro e w5 ⟨rfl, hb5⟩
          have HB5 := Lib.hid (HB4.out.trans (hb5.mono HB4.out.size))
          have HI5 := Lib.hid (HI.out.below hb5 (Nat.le_refl _))
          clear hj hb5 c0 c1 HVALS
          obtain ⟨wf, hwf⟩ : ∃ wf, w5.alloc (.cells #[.int .i64 u, .int .i64 d] 29) = wf := ⟨_, rfl⟩
          obtain ⟨nf, hnf⟩ : ∃ nf, w5.heap.size = nf := ⟨_, rfl⟩
          have HWF := Lib.hid hwf
          have HNF := Lib.hid hnf
          have HBF : Hid (Below w2.heap.size w2 wf) := by rw [← hwf]; exact HB5.out.alloc HB5.out.size _
          have HFB : Hid (wf.heap[nf]? = some (.cells #[.int .i64 u, .int .i64 d] 29 (0, 0))) := by rw [← hwf, ← hnf]; exact heap_alloc_new _ _
          have HIF : Hid (IntsAt wf (some ⟨wq.heap.size, 0, none⟩) wq.heap.size 0 (vals P'.length m)) := by rw [← hwf]; exact HI5.out.alloc _
          clear hwf hnf
          go_wp2_with fail
          rw [HWF.out, HNF.out]
          refine (HVD.out _).mono ?_
          rintro e w6 ⟨rfl, hb6⟩
          have HB6 := Lib.hid (HBF.out.trans (hb6.mono HBF.out.size))
          obtain ⟨f0, f1, -, -⟩ := cells_of2 ((hb6.block _ (lt_of_block HFB.out)).trans HFB.out)
          have HI6 := Lib.hid (HIF.out.below hb6 (Nat.le_refl _))
          obtain ⟨q1, q2, q3, q6, q7⟩ := HQ.out
          clear hb6 HI HI5 HIF HWF HNF HB4 HBA4 HB5 HFR HVD
          go_upto_region 18 with fail
          go_cut [19] from 85 to 91 (fun z wx => z = .int .i64 W ∧ Below w6.heap.size w6 wx)
          case first =>
            go_quiet (fail)
            go_wp2
            go_meet
            exact ⟨rfl, below_drewN (Below.refl _ _) _⟩
          case rest =>
            obtain ⟨rfl, hb7⟩ := hcut
            obtain ⟨w7, rfl⟩ : ∃ x, x = wc := ⟨_, rfl⟩
            have HB7 := Lib.hid (HB6.out.trans (hb7.mono HB6.out.size))
            have HI7 := Lib.hid (HI6.out.below hb7 (Nat.le_refl _))
            clear hb7 f0 f1 q1 q2 q3 q6 q7 HQ HI6 HB6 HBF HFB
            go_wp2
            go_loopw [20, 21] (fun b i wr => ∃ j : Nat, j ≤ g.length ∧ i = .int .i64 j ∧ b = .bool (agTo g (bitv P'.length m) j) ∧ Below w7.heap.size w7 wr) (fun _ i _ => g.length - (intOf i).toNat)
            case atStart => exact ⟨0, by omega, rfl, by rw [agTo_zero], Below.refl _ _⟩
            case round =>
              obtain ⟨j, hj, rfl, rfl, hb8⟩ := hrel
              obtain ⟨wz, rfl⟩ : ∃ x, x = wr := ⟨_, rfl⟩
              have HB8 := Lib.hid hb8
              have HBz := Lib.hid (HB7.out.trans (hb8.mono HB7.out.size))
              have HIz := HI7.out.below hb8 (Nat.le_refl _)
              obtain ⟨-, hlz⟩ := HIz.ptr (by rw [vals_length]; omega)
              clear hb8
              by_cases hlt2 : j < g.length
              · have hp := HE.out.below HBz.out (Nat.le_refl _)
                obtain ⟨rfl, -⟩ := hp.ptr (by omega)
                have e0 := hp.cell0 j hlt2
                have e1 := hp.cell1 j hlt2
                have hgood := (okFacts_good HOK.out j hlt2).1
                rw [Nat.zero_add] at e0 e1
                obtain ⟨q, hq⟩ : ∃ q : Nat, pf g j = (q : Int) := ⟨(pf g j).toNat, by omega⟩
                have hql : q < P'.length := by omega
                have e2 := HIz.cell q (by rw [vals_length]; exact hql)
                rw [Nat.zero_add, nth_vals] at e2
                have HST := Lib.hid (agTo_step g (bitv P'.length m) j)
                rw [hq, Int.toNat_natCast] at HST
                rw [hq] at e0
                obtain ⟨ag, hag⟩ : ∃ ag, agTo g (bitv P'.length m) j = ag := ⟨_, rfl⟩
                rw [hag] at HST ⊢
                obtain ⟨y, hy⟩ : ∃ y, bitv P'.length m q = y := ⟨_, rfl⟩
                rw [hy] at HST e2
                obtain ⟨z, hz⟩ : ∃ z, pv g j = z := ⟨_, rfl⟩
                rw [hz] at HST e1
                clear hp hq hgood hag hy hz HIz
                cases ag
                · go_wp2
                  go_quiet (fail)
                  go_wp2
                  go_roundw
                  case rel => exact ⟨j + 1, by omega, by go_num, by rw [HST.out]; rfl, below_drewN HB8.out _⟩
                  case measure => simp [intOf]; omega
                · by_cases e : y = z
                  · have t5 : (y == z) = true := by rw [e]; simp
                    have HST2 : Hid (agTo g (bitv P'.length m) (j + 1) = true) := by show _ = true; rw [HST.out, decide_eq_true e]; rfl
                    clear e
                    go_wp2
                    go_quiet (fail)
                    go_wp2
                    go_roundw
                    case rel => exact ⟨j + 1, by omega, by go_num, by rw [HST2.out], below_drewN HB8.out _⟩
                    case measure => simp [intOf]; omega
                  · have t5 : (y == z) = false := by simpa using e
                    have HST2 : Hid (agTo g (bitv P'.length m) (j + 1) = false) := by show _ = false; rw [HST.out, decide_eq_false e]; rfl
                    clear e
                    go_wp2
                    go_quiet (fail)
                    go_wp2
                    go_roundw
                    case rel => exact ⟨j + 1, by omega, by go_num, by rw [HST2.out], below_drewN HB8.out _⟩
                    case measure => simp [intOf]; omega
              · obtain rfl : j = g.length := by omega
                have hag0 := agTo_all g (bitv P'.length m) HOK.out (by omega)
                obtain ⟨ag, hag⟩ : ∃ ag, agTo g (bitv P'.length m) g.length = ag := ⟨_, rfl⟩
                rw [hag] at hag0 ⊢
                have HAG := Lib.hid hag0.symm
                have HBF := Lib.hid (HB7.out.trans (HB8.out.mono HB7.out.size))
                have e2 := HIz.cell vv (by rw [vals_length]; exact hvl)
                rw [Nat.zero_add, nth_vals] at e2
                have hbit := bitv_Bits P'.length m vv
                obtain ⟨y, hy⟩ : ∃ y, bitv P'.length m vv = y := ⟨_, rfl⟩
                rw [hy] at HA1 e2 hbit
                clear hag hag0 hy HIz
                cases ag
                · clear hbit
                  go_wp2
                  go_roundw
                  case rel => exact ⟨m + 1, by omega, by go_num, by rw [HW1.out], by rw [HF1.out, HAG.out]; simp, by rw [HA1.out, HAG.out]; simp, HBF.out⟩
                  case measure => simp [intOf]; omega
                · rcases hbit with rfl | rfl
                  all_goals
                    go_wp2
                    go_roundw
                    case rel => exact ⟨m + 1, by omega, by go_num, by rw [HW1.out], by rw [HF1.out, HAG.out]; simp, by rw [HA1.out, HAG.out]; simp, HBF.out⟩
                    case measure => simp [intOf]; omega
        · obtain rfl : m = M := by omega
          have hsD : s = D := by rw [← HSS.out, ← HMM.out, HWALL.out, HDD.out]
          have hfw : fw P' T' (look g) = p := by rw [← HPP.out, ← HMM.out]; rfl
          have hch := ch_ask HIN.out hvl HOK.out HLK.out
          rw [hfw, HMM.out, HAA.out] at hch
          have HCH := Lib.hid hch
          have hcn := chance_net P' T' (.agg #[.slice qa P'.length qc, .slice sa T'.length sc]) [((vv : Int), (1 : Int))] g (some ⟨wq.heap.size, 0, none⟩) wq.heap.size 0 1 eo eb 0 ec (wq.alloc (.cells #[.int .i64 (vv : Int), .int .i64 1] 52)) ((HNET.out.below HBq.out (Nat.le_refl _)).alloc _) HISN.out (pairs_one wq (by omega)) ((HE.out.below HB.out (Nat.le_refl _)).alloc _) (by simp) (by omega)
          obtain ⟨c0, c1⟩ := HK.out _ HBq.out
          have HBC := Lib.hid ((HBA.out.trans (HBq.out.mono HBA.out.size)).alloc (by have := HBA.out.size; have := HBq.out.size; omega) (.cells #[.int .i64 (vv : Int), .int .i64 1] 52))
          subst hsD
          have t1 : (s != s) = false := by simp
          clear hfw hch HSS HPP HAA HWALL HW1 HF1 HA1 HB HMM HK
          by_cases hz : p = 0
          · obtain ⟨z1, z2⟩ := HCH.out.1 hz
            rw [z1, z2] at hcn
            unfold zeroF at hcn
            have t2 : (p == 0) = true := by rw [hz]; rfl
            have HCN := Lib.hid hcn
            clear z1 z2 hcn hz HCH
            have hp := HPW.out
            go_wp2_with fail
            clear hp
            refine HCN.out.mono ?_
            rintro e w9 ⟨rfl, hb9⟩
            have HB9 := Lib.hid ((HBC.out.trans (hb9.mono HBC.out.size)).alloc (by have := HBC.out.size; have := hb9.size; omega) (.cells #[.int .i64 0, .int .i64 0] 29))
            clear hb9 c0 c1
            go_wp2_with fail
            refine (awake_any _).mono ?_
            rintro e w10 ⟨rfl, hb10⟩
            have HB10 := Lib.hid (HB9.out.trans (hb10.mono HB9.out.size))
            clear hb10
            go_wp2
            go_ret
            exact ⟨rfl, HB10.out⟩
          · obtain ⟨z1, z2⟩ := HCH.out.2 hz
            obtain ⟨ca, cb, hcab⟩ : ∃ ca cb, fracV a p = .agg #[.int .i64 ca, .int .i64 cb] := ⟨_, _, rfl⟩
            rw [z1, z2, hcab] at hcn
            have t2 : (p == 0) = false := by simpa using hz
            have HCN := Lib.hid hcn
            have hp1 : 1 ≤ p := by omega
            have hrd : ∀ W, Calls Try.prog 42 #[.int .i64 a, .int .i64 p] W fun e w' => e = .returned (.agg #[.int .i64 ca, .int .i64 cb]) ∧ Below W.heap.size W w' := fun W => by
              rw [← hcab]; exact reduced_any a p W (by omega) (by omega) (by omega) (by omega)
            have HRD := Lib.hid hrd
            clear z1 z2 hcn hz HCH hcab hrd
            have hp := HPW.out
            go_wp2_with fail
            clear hp
            refine HCN.out.mono ?_
            rintro e w9 ⟨rfl, hb9⟩
            obtain ⟨wv, hwv⟩ : ∃ wv, w9.alloc (.cells #[.int .i64 ca, .int .i64 cb] 29) = wv := ⟨_, rfl⟩
            obtain ⟨nv, hnv⟩ : ∃ nv, w9.heap.size = nv := ⟨_, rfl⟩
            have HWV := Lib.hid hwv
            have HNV := Lib.hid hnv
            have HB9 : Hid (Below w.heap.size w wv) := by rw [← hwv]; exact (HBC.out.trans (hb9.mono HBC.out.size)).alloc (by have := HBC.out.size; have := hb9.size; omega) _
            have HVB : Hid (wv.heap[nv]? = some (.cells #[.int .i64 ca, .int .i64 cb] 29 (0, 0))) := by rw [← hwv, ← hnv]; exact heap_alloc_new _ _
            clear hb9 c0 c1 hwv hnv
            go_upto_region 33 with fail
            rw [HWV.out, HNV.out]
            have HD := Lib.hid (below_dr (Below.refl wv.heap.size wv))
            have HVK := Lib.hid (show ∀ w', Below wv.heap.size wv w' → w'.cell? ⟨nv, 0, none⟩ = some (.int .i64 ca) ∧ w'.cell? ⟨nv, 1, none⟩ = some (.int .i64 cb) from fun w' h => by
              obtain ⟨y0, y1, -, -⟩ := cells_of2 ((h.block _ (lt_of_block HVB.out)).trans HVB.out)
              exact ⟨y0, y1⟩)
            have HRDz := Lib.hid (show ∀ W, Below wv.heap.size wv W → Calls Try.prog 42 #[.int .i64 a, .int .i64 p] W fun e w' => e = .returned (.agg #[.int .i64 ca, .int .i64 cb]) ∧ Below wv.heap.size wv w' from fun W hW => (HRD.out W).mono fun e w' h => ⟨h.1, hW.trans (h.2.mono hW.size)⟩)
            have HAWz := Lib.hid (show ∀ W, Below wv.heap.size wv W → Calls Try.prog 19 #[] W fun e w' => e = .returned (.bool true) ∧ Below wv.heap.size wv w' from fun W hW => (awake_any W).mono fun e w' h => ⟨h.1, hW.trans (h.2.mono hW.size)⟩)
            go_region_held3 (fun w' => w'.cell? ⟨nv, 0, none⟩ = some (.int .i64 ca) ∧ w'.cell? ⟨nv, 1, none⟩ = some (.int .i64 cb))
              (first | exact HVK.out _ HBB.out | exact HVK.out _ HBR.out | exact HVK.out _ HD.out)
              (first
                | (go_simp; go_at_call 42; (with_reducible refine (HRDz.out _ HD.out).mono ?_); rintro e wr1 ⟨rfl, hbr⟩; have HBR := Lib.hid hbr; clear hbr)
                | (go_simp; go_at_call 19; (with_reducible refine (HAWz.out _ HBR.out).mono ?_); rintro e wr2 ⟨rfl, hbb⟩; have HBB := Lib.hid hbb; clear hbb))
            all_goals go_wp2
            all_goals go_ret
            all_goals exact ⟨rfl, HB9.out.trans (HBB.out.mono HB9.out.size)⟩

end Go.Proofs.Ytghffnjnpgiicaa
