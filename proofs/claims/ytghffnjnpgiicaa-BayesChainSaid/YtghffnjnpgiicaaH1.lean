/- H1: La Na -/
import Derived.Test.YtghffnjnpgiicaaG8
import Derived.Test.YtghffnjnpgiicaaG9
import Derived.Test.YtghffnjnpgiicaaG7
import Derived.Deep.RegionHeld3
import Derived.Deep.Cut
import Derived.Deep.CutRange
/- BayesChances: the walk. -/
namespace Go.Proofs.Ytghffnjnpgiicaa
open Go.RowKit

theorem below_drew {B : Nat} {w0 w : World} (h : Below B w0 w) : Below B w0 w.drew := h.trans ⟨rfl, rfl, rfl, Nat.le_refl _, fun _ _ => rfl⟩

/-- What the first statement leaves. -/
structure Got (w wx : World) (P T : List (List Int)) (qs gs : List (Int × Int)) (p a b : Value) : Prop where
  ex : ∃ nb pa pc ta tc qo qb qc go gb gc, p = .pointer (some ⟨nb, 0, none⟩) ∧ wx.heap[nb]? = some (.cells #[.slice pa (List.length P) pc, .slice ta (List.length T) tc] 24 (0, 0)) ∧
    NetAt wx (.agg #[.slice pa (List.length P) pc, .slice ta (List.length T) tc]) P T ∧ a = .slice qo (List.length qs) qc ∧ PairsAt wx qo qb 0 qs ∧ b = .slice go (List.length gs) gc ∧ PairsAt wx go gb 0 gs
  below : Below w.heap.size w wx

theorem NewPairs.blocks {B : Nat} {w w' : World} {v : Value} {ps : List (Int × Int)} (h : NewPairs B w v ps) (hh : ∀ g, B ≤ g → g < w.heap.size → w'.heap[g]? = w.heap[g]?) : NewPairs B w' v ps := by
  refine ⟨⟨h.own.1, ?_⟩, h.wf, h.len⟩
  rcases h.own.2 with h2 | ⟨g, cap, cur, hv, hg, hb, rest⟩
  · exact .inl h2
  · exact .inr ⟨g, cap, cur, hv, hg, (hh g hg (lt_of_block hb)).trans hb, rest⟩

theorem Got.mk' {w wx w1 w2 w3 : World} {P T : List (List Int)} {qs gs : List (Int × Int)} {v1 v2 v3 v4 : Value} {B1 B2 B3 nb : Nat} (n1 : NewRows B1 w1 v1 (trim P)) (n2 : NewRows B1 w1 v2 (trim T)) (n3 : NewPairs B2 w2 v3 qs) (n4 : NewPairs B3 w3 v4 gs)
    (h12 : Below w1.heap.size w1 w2) (h23 : Below w2.heap.size w2 w3) (k : ∀ g, g < w3.heap.size → g ≠ nb → wx.heap[g]? = w3.heap[g]?) (d1 : nb < B1 ∨ w1.heap.size ≤ nb) (d2 : nb < B2 ∨ w2.heap.size ≤ nb) (d3 : nb < B3 ∨ w3.heap.size ≤ nb)
    (hn : wx.heap[nb]? = some (.cells #[v1, v2] 24 (0, 0))) (hb : Below w.heap.size w wx) :
    Got w wx (trim P) (trim T) qs gs (.pointer (some ⟨nb, 0, none⟩)) v3 v4 := by
  have s12 := h12.size
  have s23 := h23.size
  have hr : ∀ g, B1 ≤ g → g < w1.heap.size → wx.heap[g]? = w1.heap[g]? := fun g h1 h2 => by rw [k g (by omega) (by omega), h23.block g (by omega), h12.block g (by omega)]
  obtain ⟨pa, pc, ta, tc, rfl, rfl, hnet⟩ := net_of_new (n1.blocks hr) (n2.blocks hr)
  obtain ⟨qo, qb, qc, rfl, hq⟩ := (n3.blocks (w' := wx) fun g h1 h2 => by rw [k g (by omega) (by omega), h23.block g (by omega)]).at
  obtain ⟨go, gb, gc, rfl, hg⟩ := (n4.blocks (w' := wx) fun g h1 h2 => k g (by omega) (by omega)).at
  exact ⟨⟨nb, pa, pc, ta, tc, qo, qb, qc, go, gb, gc, rfl, hn, hnet, rfl, hq, rfl, hg⟩, hb⟩

theorem chV_form (P T : List (List Int)) (qs gs : List (Int × Int)) : ∃ a b : Int, chV P T qs gs = .agg #[.int .i64 a, .int .i64 b] := by
  unfold chV zeroF fracV fracC
  split
  · split
    · exact ⟨_, _, rfl⟩
    · split
      · exact ⟨_, _, rfl⟩
      · exact ⟨_, _, rfl⟩
  · exact ⟨_, _, rfl⟩

set_option maxHeartbeats 4000000 in
set_option maxRecDepth 100000 in
theorem chances_any (P T : List (List Int)) (pa : Option Addr) (pb po pc : Nat) (A : Nat → Option Addr) (B O C : Nat → Nat) (ta : Option Addr) (tb tz tc : Nat) (A' : Nat → Option Addr) (B' O' C' : Nat → Nat)
    (qs gs : List (Int × Int)) (qo : Option Addr) (qb qf qc : Nat) (go : Option Addr) (gb gf gc : Nat) (w : World)
    (hP : RowsAt w pa pb po P A B O C) (hT : RowsAt w ta tb tz T A' B' O' C') (cP : CapsOk P A C) (cT : CapsOk T A' C')
    (hQ : PairsAt w qo qb qf qs) (hqc : qs.length ≤ qc) (hqn : qo = none → qc = 0) (hG : PairsAt w go gb gf gs) (hgc : gs.length ≤ gc) (hgn : go = none → gc = 0) :
    Calls Try.prog 4 #[.agg #[.slice pa P.length pc, .slice ta T.length tc], .agg #[.slice qo qs.length qc, .slice go gs.length gc]] w fun e w' => e = .returned (.bool true) ∧ Below w.heap.size w w' := by
  have HP := Lib.hid hP
  have HT := Lib.hid hT
  have CP := Lib.hid cP
  have CT := Lib.hid cT
  have HQ := Lib.hid hQ
  have HQC := Lib.hid hqc
  have HQN := Lib.hid hqn
  have HG := Lib.hid hG
  have HGC := Lib.hid hgc
  have HGN := Lib.hid hgn
  clear hP hT cP cT hQ hqc hqn hG hgc hgn
  obtain ⟨wa, hwa⟩ : ∃ wa, (w.alloc (.cells #[.slice pa P.length pc, .slice ta T.length tc] 24)).alloc (.cells #[.slice qo qs.length qc, .slice go gs.length gc] 40) = wa := ⟨_, rfl⟩
  have HWA := Lib.hid hwa
  have W0n : w.heap.size + 2 ≤ wa.heap.size := by rw [← hwa]; simp
  have HBW : Hid (Below w.heap.size w wa) := by rw [← hwa]; exact ((Below.refl _ _).alloc (Nat.le_refl _) _).alloc (by simp) _
  have HW0n := Lib.hid W0n
  have HT2 := Lib.hid (show ∀ w', Below wa.heap.size wa w' → w'.cell? ⟨w.heap.size, 0, none⟩ = some (.slice pa P.length pc) ∧ w'.cell? ⟨w.heap.size, 1, none⟩ = some (.slice ta T.length tc) ∧
      w'.cell? ⟨w.heap.size + 1, 0, none⟩ = some (.slice qo qs.length qc) ∧ w'.cell? ⟨w.heap.size + 1, 1, none⟩ = some (.slice go gs.length gc) from
    fun w' h => by
      obtain ⟨k0, k1⟩ := two2 (by rw [hwa]; exact h.mono W0n) (Nat.le_refl _)
      obtain ⟨c0, c1, -, -⟩ := cells_of2 k0
      obtain ⟨d0, d1, -, -⟩ := cells_of2 k1
      exact ⟨c0, c1, d0, d1⟩)
  have HPa := Lib.hid (HP.out.below HBW.out (Nat.le_refl _))
  have HTa := Lib.hid (HT.out.below HBW.out (Nat.le_refl _))
  have HQa := Lib.hid (HQ.out.below HBW.out (Nat.le_refl _))
  have HGa := Lib.hid (HG.out.below HBW.out (Nat.le_refl _))
  have HD := Lib.hid (below_drew (Below.refl wa.heap.size wa))
  have HDA := Lib.hid (below_drew ((Below.refl wa.heap.size wa).alloc (Nat.le_refl _) (.cells #[.slice none 0 0, .slice none 0 0] 24)))
  have HHA : Hid ((wa.alloc (.cells #[.slice none 0 0, .slice none 0 0] 24)).drew.heap[wa.heap.size]? = some (.cells #[.slice none 0 0, .slice none 0 0] 24 (0, 0))) := heap_alloc_new wa _
  have HC15 := Lib.hid (show ∀ W, Below wa.heap.size wa W → Calls Try.prog 15 #[.agg #[.slice pa P.length pc, .slice ta T.length tc]] W fun e w' => (∃ v1 v2, e = .returned (.agg #[v1, v2]) ∧ NewRows W.heap.size w' v1 (trim P) ∧ NewRows W.heap.size w' v2 (trim T)) ∧ Below W.heap.size W w' ∧ Below wa.heap.size wa w' from
    fun W hW => (network_any P T pa pb po pc A B O C ta tb tz tc A' B' O' C' W (HPa.out.below hW (Nat.le_refl _)) (HTa.out.below hW (Nat.le_refl _)) CP.out CT.out).mono fun e w' h => ⟨h.1, h.2, hW.trans (h.2.mono hW.size)⟩)
  have HCq := Lib.hid (show ∀ W, Below wa.heap.size wa W → Calls Try.prog 21 #[.slice qo qs.length qc] W fun e w' => ∃ v, e = .returned v ∧ NewPairs W.heap.size w' v (qs.take 20) ∧ Below W.heap.size W w' ∧ Below wa.heap.size wa w' from
    fun W hW => (facts_any qs qo qb qf qc W (HQa.out.below hW (Nat.le_refl _)) HQC.out HQN.out).mono fun e w' ⟨v, h1, h2, h3⟩ => ⟨v, h1, h2, h3, hW.trans (h3.mono hW.size)⟩)
  have HCg := Lib.hid (show ∀ W, Below wa.heap.size wa W → Calls Try.prog 21 #[.slice go gs.length gc] W fun e w' => ∃ v, e = .returned v ∧ NewPairs W.heap.size w' v (gs.take 20) ∧ Below W.heap.size W w' ∧ Below wa.heap.size wa w' from
    fun W hW => (facts_any gs go gb gf gc W (HGa.out.below hW (Nat.le_refl _)) HGC.out HGN.out).mono fun e w' ⟨v, h1, h2, h3⟩ => ⟨v, h1, h2, h3, hW.trans (h3.mono hW.size)⟩)
  clear W0n hwa HP HT HQ HG
  go_enter Try.func4, Try.ntmps4
  go_upto_region 1 with fail
  rw [HWA.out]
  go_cut [5, 6, 7] from 8 to 57 (fun p a b wx => Got w wx (trim P) (trim T) (qs.take 20) (gs.take 20) p a b)
  case first =>
    go_region_held3 (fun w' => w'.cell? ⟨w.heap.size, 0, none⟩ = some (.slice pa P.length pc) ∧ w'.cell? ⟨w.heap.size, 1, none⟩ = some (.slice ta T.length tc) ∧
        w'.cell? ⟨w.heap.size + 1, 0, none⟩ = some (.slice qo qs.length qc) ∧ w'.cell? ⟨w.heap.size + 1, 1, none⟩ = some (.slice go gs.length gc))
      (first | exact HT2.out _ HB3.out | exact HT2.out _ (HB3.out.alloc HB3.out.size _) | exact HT2.out _ HB2.out | exact HT2.out _ (HB2.out.alloc HB2.out.size _) | exact HT2.out _ HB1.out | exact HT2.out _ (HB1.out.alloc HB1.out.size _) | exact HT2.out _ HD.out | exact HT2.out _ (HD.out.alloc HD.out.size _) | exact HT2.out _ ((HB3.out.setCell (p := ⟨_, 0, none⟩) (by first | exact HB2.out.size | exact HB1.out.size | exact HD.out.size) _).setCell (p := ⟨_, 1, none⟩) (by first | exact HB2.out.size | exact HB1.out.size | exact HD.out.size) _))
      (first
        | (go_simp; go_at_call 15; with_reducible refine (HC15.out _ HD.out).mono ?_; rintro e w1 ⟨⟨v1, v2, rfl, n1, n2⟩, -, hb1⟩; have HB1 := Lib.hid hb1; obtain ⟨qa, qd, sa, sd, rfl, rfl, -⟩ := net_of_new n1 n2; have HN1 := Lib.hid n1; have HN2 := Lib.hid n2; clear hb1 n1 n2)
        | (go_simp; go_at_call 21; with_reducible refine (HCq.out _ HB1.out).mono ?_; rintro e w2 ⟨v3, rfl, n3, hb, hb2⟩; have HB12 := Lib.hid hb; have HB2 := Lib.hid hb2; have HN3 := Lib.hid n3; first | (have HH2 := Lib.hid ((HB12.out.block _ (lt_of_block HH1.out)).trans HH1.out)) | skip; clear hb hb2 n3)
        | (go_simp; go_at_call 21; with_reducible refine (HCq.out _ (HB1.out.alloc HB1.out.size _)).mono ?_; rintro e w2 ⟨v3, rfl, n3, hb, hb2⟩; have HH2 := Lib.hid ((hb.block w1.heap.size (by simp)).trans (heap_alloc_new w1 _)); have HB12 := Lib.hid (((Below.refl _ w1).alloc (Nat.le_refl _) _).trans (hb.mono (by simp))); have HB2 := Lib.hid hb2; have HN3 := Lib.hid n3; clear hb hb2 n3)
        | (go_simp; go_at_call 21; with_reducible refine (HCg.out _ HB2.out).mono ?_; rintro e w3 ⟨v4, rfl, n4, hb, hb3⟩; have HB23 := Lib.hid hb; have HB3 := Lib.hid hb3; have HN4 := Lib.hid n4; first | (have HH3 := Lib.hid ((HB23.out.block _ (lt_of_block HH2.out)).trans HH2.out); obtain ⟨z0, z1, z2, z3⟩ := cells_of2 HH3.out) | skip; clear hb hb3 n4)
        | (go_simp; go_at_call 21; with_reducible refine (HCg.out _ (HB2.out.alloc HB2.out.size _)).mono ?_; rintro e w3 ⟨v4, rfl, n4, hb, hb3⟩; have HH3 := Lib.hid ((hb.block w2.heap.size (by simp)).trans (heap_alloc_new w2 _)); have HB23 := Lib.hid (((Below.refl _ w2).alloc (Nat.le_refl _) _).trans (hb.mono (by simp))); have HB3 := Lib.hid hb3; have HN4 := Lib.hid n4; obtain ⟨z0, z1, z2, z3⟩ := cells_of2 HH3.out; clear hb hb3 n4)
        | (go_simp; go_at_call 15; with_reducible refine (HC15.out _ HDA.out).mono ?_; rintro e w1 ⟨⟨v1, v2, rfl, n1, n2⟩, hb, hb1⟩; have HH1 := Lib.hid ((hb.block _ (lt_of_block HHA.out)).trans HHA.out); have HB1 := Lib.hid hb1; obtain ⟨qa, qd, sa, sd, rfl, rfl, -⟩ := net_of_new n1 n2; have HN1 := Lib.hid n1; have HN2 := Lib.hid n2; clear hb hb1 n1 n2))
    all_goals (go_wp2_with fail; go_meet)
    · have s1 := HB12.out.size
      have s2 := HB23.out.size
      exact Got.mk' HN1.out HN2.out HN3.out HN4.out HB12.out HB23.out (fun g h1 h2 => Below.heap_alloc _ _ _ h1) (by omega) (by omega) (by omega) (heap_alloc_new _ _) (HBW.out.trans ((HB3.out.alloc HB3.out.size _).mono (by have := HW0n.out; omega)))
    all_goals
      have s1 := HB12.out.size
      have s2 := HB23.out.size
      have s3 := HB1.out.size
      have s4 := HW0n.out
      try have s6 := lt_of_block HH2.out
      try have s7 := lt_of_block HH1.out
      refine Got.mk' HN1.out HN2.out HN3.out HN4.out HB12.out HB23.out (fun g h1 h2 => by rw [heap_setCell_other _ _ _ _ h2, heap_setCell_other _ _ _ _ h2]) ?_ ?_ ?_ (heap_setCell_same _ _ _ _ _ _ (heap_setCell_same _ _ _ _ _ _ HH3.out)) (HBW.out.trans (((HB3.out.setCell (p := ⟨_, 0, none⟩) ?_ _).setCell (p := ⟨_, 1, none⟩) ?_ _).mono (by omega)))
      all_goals first | omega | (simp [World.drew]; done) | (simp [World.drew]; omega) | (show wa.heap.size ≤ _; omega)
  case rest =>
    obtain ⟨⟨nb, qa, qd, sa, sd, fo, fb, fc, ho, hb, hc, rfl, hblk, hnet, rfl, hfa, rfl, hga⟩, hbw⟩ := hcut
    have HBLK := Lib.hid hblk
    have HNET := Lib.hid hnet
    have HFA := Lib.hid hfa
    have HGA := Lib.hid hga
    have HB := Lib.hid hbw
    obtain ⟨P', hP'⟩ : ∃ P', trim P = P' := ⟨_, rfl⟩
    obtain ⟨T', hT'⟩ : ∃ T', trim T = T' := ⟨_, rfl⟩
    have hlq : (qs.take 20).length ≤ 1000 := by rw [List.length_take]; omega
    have hlg : (gs.take 20).length ≤ 1000 := by rw [List.length_take]; omega
    obtain ⟨xs, hxs⟩ : ∃ xs, qs.take 20 = xs := ⟨_, rfl⟩
    obtain ⟨ys, hys⟩ : ∃ ys, gs.take 20 = ys := ⟨_, rfl⟩
    rw [hP', hT'] at HBLK HNET hblk
    rw [hxs] at HFA hlq
    rw [hys] at HGA hlg
    rw [hxs, hys]
    obtain ⟨c0, c1, -, -⟩ := cells_of2 hblk
    have hnb := lt_of_block hblk
    clear hblk hnet hfa hga hbw hP' hT' hxs hys HC15 HCq HCg HPa HTa HQa HGa HD HDA HHA HT2 HBW HW0n HWA CP CT HQC HQN HGC HGN
    go_wp2_with fail
    cases hn : isNet P' T'
    · have HI := Lib.hid hn
      have hj0 := chance_noNet P' T' (.agg #[.slice qa P'.length qd, .slice sa T'.length sd]) (.slice fo xs.length fc) (.slice ho ys.length hc) wc HNET.out hn
      unfold zeroF at hj0
      refine hj0.mono ?_
      rintro e w3 ⟨rfl, hb3⟩
      have HB3 := Lib.hid hb3
      obtain ⟨c0, c1, -, -⟩ := cells_of2 ((HB3.out.block _ (lt_of_block HBLK.out)).trans HBLK.out)
      have hlt : nb < w3.heap.size := Nat.lt_of_lt_of_le (lt_of_block HBLK.out) HB3.out.size
      clear hb3 hn hj0
      go_wp2_with fail
      have hr := refNetwork_any P' T' (.agg #[.slice qa P'.length qd, .slice sa T'.length sd]) (w3.alloc (.cells #[.int .i64 0, .int .i64 0] 29)) ((HNET.out.below HB3.out (Nat.le_refl _)).alloc _)
      rw [HI.out] at hr
      refine hr.mono ?_
      rintro e w4 ⟨rfl, hb4⟩
      obtain ⟨d0, d1, -, -⟩ := cells_of2 ((hb4.block w3.heap.size (by simp)).trans (heap_alloc_new _ _))
      have HB4 := Lib.hid (((HB.out.trans (HB3.out.mono HB.out.size)).alloc (by have := HB.out.size; have := HB3.out.size; omega) (.cells #[.int .i64 0, .int .i64 0] 29)).trans (hb4.mono (by have := HB.out.size; have := HB3.out.size; simp; omega)))
      clear hr hb4 c0 c1
      go_wp2_with fail
      refine (awake_any _).mono ?_
      rintro e w5 ⟨rfl, hb5⟩
      have HB5 := Lib.hid (HB4.out.trans (hb5.mono HB4.out.size))
      clear hb5
      go_wp2
      go_ret
      exact ⟨rfl, HB5.out⟩
    · have HI := Lib.hid hn
      have hj0 := chance_net P' T' (.agg #[.slice qa P'.length qd, .slice sa T'.length sd]) xs ys fo fb 0 fc ho hb 0 hc wc HNET.out hn HFA.out HGA.out hlq hlg
      obtain ⟨ca, cb, hcab⟩ := chV_form P' T' xs ys
      obtain ⟨ce, hce⟩ : ∃ ce, chE P' T' xs ys = ce := ⟨_, rfl⟩
      have HCAB := Lib.hid hcab
      have HCE := Lib.hid hce
      rw [hcab, hce] at hj0
      refine hj0.mono ?_
      rintro e w3 ⟨rfl, hb3⟩
      have HB3 := Lib.hid hb3
      obtain ⟨c0, c1, -, -⟩ := cells_of2 ((HB3.out.block _ (lt_of_block HBLK.out)).trans HBLK.out)
      have hlt : nb < w3.heap.size := Nat.lt_of_lt_of_le (lt_of_block HBLK.out) HB3.out.size
      clear hb3 hn hj0 hcab hce
      go_wp2_with fail
      have hr := refNetwork_any P' T' (.agg #[.slice qa P'.length qd, .slice sa T'.length sd]) (w3.alloc (.cells #[.int .i64 ca, .int .i64 cb] 29)) ((HNET.out.below HB3.out (Nat.le_refl _)).alloc _)
      rw [HI.out] at hr
      refine hr.mono ?_
      rintro e w4 ⟨rfl, hb4⟩
      have HB34 := Lib.hid (((Below.refl _ w3).alloc (Nat.le_refl _) (.cells #[.int .i64 ca, .int .i64 cb] 29)).trans (hb4.mono (by simp)))
      have HF4 := Lib.hid ((hb4.block w3.heap.size (by simp)).trans (heap_alloc_new w3 (.cells #[.int .i64 ca, .int .i64 cb] 29)))
      obtain ⟨d0, d1, -, -⟩ := cells_of2 ((HB34.out.block _ hlt).trans ((HB3.out.block _ (lt_of_block HBLK.out)).trans HBLK.out))
      have hlt4 : nb < w4.heap.size := Nat.lt_of_lt_of_le hlt HB34.out.size
      have hf4 := lt_of_block HF4.out
      clear hr hb4 c0 c1
      go_wp2_with fail
      have hj := refChance_any P' T' (.agg #[.slice qa P'.length qd, .slice sa T'.length sd]) xs ys fo fb 0 fc ho hb 0 hc w4 ((HNET.out.below HB3.out (Nat.le_refl _)).below HB34.out (Nat.le_refl _)) (of_decide_eq_true HI.out) ((HFA.out.below HB3.out (Nat.le_refl _)).below HB34.out (Nat.le_refl _)) ((HGA.out.below HB3.out (Nat.le_refl _)).below HB34.out (Nat.le_refl _)) hlq hlg
      rw [HCAB.out, HCE.out] at hj
      refine hj.mono ?_
      rintro e w5 ⟨rfl, hb5⟩
      obtain ⟨e0, e1, -, -⟩ := cells_of2 ((hb5.block _ hf4).trans HF4.out)
      have hf5 : w3.heap.size < w5.heap.size := Nat.lt_of_lt_of_le hf4 hb5.size
      have HB5 := Lib.hid (((HB.out.trans (HB3.out.mono HB.out.size)).trans (HB34.out.mono (by have := HB.out.size; have := HB3.out.size; omega))).trans (hb5.mono (by have := HB.out.size; have := HB3.out.size; have := HB34.out.size; omega)))
      clear hj hb5 d0 d1
      go_wp2_with fail
      refine (awake_any _).mono ?_
      rintro e w6 ⟨rfl, hb6⟩
      have HB6 := Lib.hid ((HB5.out.alloc HB5.out.size (.cells #[.int .i64 ca, .int .i64 cb] 29)).trans (hb6.mono (by have := HB5.out.size; simp; omega)))
      clear hb6
      go_wp2
      go_ret
      exact ⟨rfl, HB6.out⟩

end Go.Proofs.Ytghffnjnpgiicaa

/-
  BayesChances, proved: for every network and every two lists of pairs the statement's function returns true, and its arguments read behind the call as they read before it. No condition.
-/
namespace Go.Proofs.Ytghffnjnpgiicaa
open Go.ChangeShapes Go.WideShapes Go.ChangeAt Go.RowKit

theorem Try.own4 : ownKnob Try.prog.godebug = none := by kernel_rfl
theorem Try.laidOut4 : laidOutB Try.prog = true := by kernel_rfl

set_option maxHeartbeats 1000000 in
set_option maxRecDepth 100000 in
theorem chances_lifted (os : Os) (started : os.Started) (H : Type) (enc : TypeId × Value → H) :
    ReturnsInHanded {} Try.checked os 4 .any (Rows.bayesChancesSpec.pre6 enc Try.prog Try.f4 Rows.bayesChancesRow.domain false) (Rows.bayesChancesSpec.post enc Try.prog Try.f4 false true false false) := by
  refine returnsInHanded_of_change_sized (C := Try.checked) Try.own4 started (by kernel_rfl) Try.func4
    (ChangeSpec.witness6 (enc := enc) (C := Try.checked) false ⟨#[], #[.agg #[.slice none 0 0, .slice none 0 0], .agg #[.slice none 0 0, .slice none 0 0]], []⟩ 8 (by kernel_rfl) (by kernel_rfl) (by kernel_rfl) (by kernel_rfl)) ?_
  intro W base args ds gs before hval0 hW _ hsz0 _
  have hsz : (DataW.weightsEach Try.prog (Try.f4.params.toList ++ Rows.bayesChancesSpec.plain.varTypes Try.prog) (ds ++ gs)).all (· ≤ reachBytes) = true := hsz0
  clear hsz0
  have hval : ∀ (j : Nat) t v, Try.f4.params[j]? = some t → args[j]? = some v → Value.okWide Try.prog W .any base t v := hval0
  have hW' := hW
  obtain ⟨p, q, hA0, hV, rfl, _, _⟩ := hW
  have hA : DataW.TrodAll enc Try.prog W 0 (fun _ => true) true Try.f4.params.toList args.toList ds p := hA0
  rw [Try.params4] at hA hval hsz
  obtain ⟨v0, v1, d0, d1, p0, p1, rfl, rfl, rfl, h0, h1⟩ := trodAll_two hA
  obtain ⟨rfl, rfl⟩ := trodVars_none hV
  have h0k := h0
  have h1k := h1
  clear hA0 hval0
  simp only [List.append_nil] at hW'
  have hlt0 : ∀ x ∈ p0, x.block < W.heap.size := fun x hx => hW'.lt x (by simp [hx])
  have hlt1 : ∀ x ∈ p1, x.block < W.heap.size := fun x hx => hW'.lt x (by simp [hx])
  have hw0 : ∀ n ∈ d0.weights Try.prog 24, n ≤ 140737488351232 := fun n hn => by
    exact of_decide_eq_true (List.all_eq_true.1 hsz _ (DataW.weights_mem_each (j := 0) (t := 24) rfl rfl n hn))
  have hw1 : ∀ n ∈ d1.weights Try.prog 40, n ≤ 140737488351232 := fun n hn => by
    exact of_decide_eq_true (List.all_eq_true.1 hsz _ (DataW.weights_mem_each (j := 1) (t := 40) rfl rfl n hn))
  obtain ⟨pa, P, pb, po, pc, A, B, O, C, ta, T, tb, tz, tc, A', B', O', C', rfl, r1, r2, r3, r4⟩ := open_net (hval 0 24 v0 rfl rfl) h0 hw0
  obtain ⟨qo, qs, qb, qf, qc, go, gs, gb, gf, gc, rfl, a1, a2, a3, a4, a5, a6⟩ := open_ask (hval 1 40 v1 rfl rfl) h1 hw1
  refine (chances_any P T pa pb po pc A B O C ta tb tz tc A' B' O' C' qs gs qo qb qf qc go gb gf gc W r1 r3 r2 r4 a1 a2 a3 a4 a5 a6).mono fun e W' ⟨he, hbelow⟩ => ?_
  subst he
  refine ⟨_, rfl, _, _, _, [], p0 ++ p1, [], hW', ?_, ?_, ?_, hbelow.frame _, fun h => by cases h⟩
  · exact trodAll_mk1 (shut_bool Try.underlying4 true)
  · exact trodAll_mk2 (Below.trod Try.laidOut4 (by kernel_rfl) (of_decide_eq_true (by kernel_rfl)) h0k hbelow hlt0) (Below.trod Try.laidOut4 (by kernel_rfl) (of_decide_eq_true (by kernel_rfl)) h1k hbelow hlt1)
  · exact rfl

theorem chances_holds : Rows.BayesChancesSaid :=
  OpenClaim.holds_of_wide 4 Try.f4 rfl rfl rfl rfl rfl rfl rfl ⟨rfl, rfl, rfl, rfl, rfl⟩ rfl rfl rfl rfl rfl (by kernel_rfl) Try.func4 (by kernel_rfl)
    (of_decide_eq_true (by kernel_rfl)) (by unfold Func.isWrapper; first | (rw [if_pos (by decide +kernel)]; kernel_rfl) | (rw [if_neg (by decide +kernel)]; exact ⟨rfl, rfl⟩))
    (fun os started H enc _ => chances_lifted os started H enc)

end Go.Proofs.Ytghffnjnpgiicaa

