/- BayesChain: the walk. -/
import Derived.Test.YtghffnjnpgiicaaK3
import Derived.Test.YtghffnjnpgiicaaK4
import Derived.Test.YtghffnjnpgiicaaK1
import Derived.Test.YtghffnjnpgiicaaH1
import Derived.Test.YtghffnjnpgiicaaI6
namespace Go.Proofs.Ytghffnjnpgiicaa
open Go.RowKit

theorem pairs_block {W : World} {n : Nat} {x y : Int} (h : W.heap[n]? = some (.cells #[.int .i64 x, .int .i64 y] 52 (0, 0))) (hx : -9223372036854775808 ≤ x ∧ x ≤ 9223372036854775807) (hy : -9223372036854775808 ≤ y ∧ y ≤ 9223372036854775807) : PairsAt W (some ⟨n, 0, none⟩) n 0 [(x, y)] := by
  obtain ⟨c0, c1, -, -⟩ := cells_of2 h
  refine ⟨fun _ => ⟨rfl, lt_of_block h⟩, fun i hi => ?_, fun i hi => ?_, by simp, fun i => ?_⟩
  · have : i = 0 := by simpa using hi
    subst this
    exact c0
  · have : i = 0 := by simpa using hi
    subst this
    exact c1
  · match i with
    | 0 => exact ⟨hx, hy⟩
    | i + 1 => simp [pf, pv]
theorem pairs_two (W : World) {x y z u : Int} (hx : -9223372036854775808 ≤ x ∧ x ≤ 9223372036854775807) (hy : -9223372036854775808 ≤ y ∧ y ≤ 9223372036854775807) (hz : -9223372036854775808 ≤ z ∧ z ≤ 9223372036854775807) (hu : -9223372036854775808 ≤ u ∧ u ≤ 9223372036854775807) :
    PairsAt (W.alloc (.cells #[.int .i64 x, .int .i64 y, .int .i64 z, .int .i64 u] 52)) (some ⟨W.heap.size, 0, none⟩) W.heap.size 0 [(x, y), (z, u)] := by
  have hb := heap_alloc_new W (.cells #[.int .i64 x, .int .i64 y, .int .i64 z, .int .i64 u] 52)
  have k : ∀ j : Nat, (W.alloc (.cells #[.int .i64 x, .int .i64 y, .int .i64 z, .int .i64 u] 52)).cell? ⟨W.heap.size, j, none⟩ = (#[Value.int .i64 x, .int .i64 y, .int .i64 z, .int .i64 u] : Array Value)[j]? := fun j => by rw [cell_of_row _ _ _ _ _ _ hb]
  refine ⟨fun _ => ⟨rfl, by simp⟩, fun i hi => ?_, fun i hi => ?_, by simp, fun i => ?_⟩
  · have hi2 : i = 0 ∨ i = 1 := by simp at hi; omega
    rcases hi2 with rfl | rfl <;> rw [k] <;> rfl
  · have hi2 : i = 0 ∨ i = 1 := by simp at hi; omega
    rcases hi2 with rfl | rfl <;> rw [k] <;> rfl
  · match i with
    | 0 => exact ⟨hx, hy⟩
    | 1 => exact ⟨hz, hu⟩
    | i + 2 => simp [pf, pv]

set_option maxHeartbeats 16000000 in
set_option maxRecDepth 100000 in
theorem chains_any (P T : List (List Int)) (pa : Option Addr) (pb po pc : Nat) (A : Nat → Option Addr) (B O C : Nat → Nat) (ta : Option Addr) (tb tz tc : Nat) (A' : Nat → Option Addr) (B' O' C' : Nat → Nat)
    (x y : Int) (gs : List (Int × Int)) (go : Option Addr) (gb gf gc : Nat) (w : World)
    (hP : RowsAt w pa pb po P A B O C) (hT : RowsAt w ta tb tz T A' B' O' C') (cP : CapsOk P A C) (cT : CapsOk T A' C') (hx : -9223372036854775808 ≤ x ∧ x ≤ 9223372036854775807) (hy : -9223372036854775808 ≤ y ∧ y ≤ 9223372036854775807) (hG : PairsAt w go gb gf gs) (_hgc : gs.length ≤ gc) (_hgn : go = none → gc = 0) :
    Calls Try.prog 10 #[.agg #[.slice pa P.length pc, .slice ta T.length tc], .agg #[.int .i64 x, .int .i64 y], .slice go gs.length gc] w fun e w' => e = .returned (.bool true) ∧ Below w.heap.size w w' := by
  have HP := Lib.hid hP
  have HT := Lib.hid hT
  have CP := Lib.hid cP
  have CT := Lib.hid cT
  have HG := Lib.hid hG
  have HBW : Hid (Below w.heap.size w ((w.alloc (.cells #[.slice pa P.length pc, .slice ta T.length tc] 24)).alloc (.cells #[.int .i64 x, .int .i64 y] 52))) := ((Below.refl _ _).alloc (Nat.le_refl _) _).alloc (by simp) _
  have HBX : Hid (((w.alloc (.cells #[.slice pa P.length pc, .slice ta T.length tc] 24)).alloc (.cells #[.int .i64 x, .int .i64 y] 52)).heap[w.heap.size + 1]? = some (.cells #[.int .i64 x, .int .i64 y] 52 (0, 0))) := heap_alloc2_new _ _ _
  clear hP hT cP cT hG _hgc _hgn
  go_enter Try.func10, Try.ntmps10
  go_wp2_with fail
  refine (tame_any P T pa pb po pc A B O C ta tb tz tc A' B' O' C' 5 _ (by omega) (by omega) (HP.out.below HBW.out (Nat.le_refl _)) (HT.out.below HBW.out (Nat.le_refl _)) CP.out CT.out).mono ?_
  rintro e w1 ⟨⟨v1, v2, P', T', rfl, n1, n2, hin, hle⟩, hb1⟩
  obtain ⟨qa, qc, sa, sc, rfl, rfl, hnet⟩ := net_of_rows n1 n2 (by omega) (by have := hin.tab; omega)
  obtain ⟨wa, hwa⟩ : ∃ wa, w1.alloc (.cells #[.slice qa P'.length qc, .slice sa T'.length sc] 24) = wa := ⟨_, rfl⟩
  obtain ⟨nb, hnb⟩ : ∃ nb, w1.heap.size = nb := ⟨_, rfl⟩
  have HIN := Lib.hid hin
  have HISN : Hid (isNet P' T' = true) := decide_eq_true hin
  have h1 := hin.pos
  have HWA := Lib.hid hwa
  have HNB := Lib.hid hnb
  have HBA : Hid (Below w.heap.size w wa) := by rw [← hwa]; exact (HBW.out.trans (hb1.mono (by simp; omega))).alloc (by have := hb1.size; simp at this; omega) _
  have HNET : Hid (NetAt wa (.agg #[.slice qa P'.length qc, .slice sa T'.length sc]) P' T') := by rw [← hwa]; exact hnet.alloc _
  have HBLK : Hid (wa.heap[nb]? = some (.cells #[.slice qa P'.length qc, .slice sa T'.length sc] 24 (0, 0))) := by rw [← hwa, ← hnb]; exact heap_alloc_new _ _
  have HGA := Lib.hid (HG.out.below HBA.out (Nat.le_refl _))
  have HXA : Hid (wa.heap[w.heap.size + 1]? = some (.cells #[.int .i64 x, .int .i64 y] 52 (0, 0))) := by
    rw [← hwa]; exact (Below.heap_alloc _ _ _ (by have := hb1.size; simp at this; omega)).trans ((hb1.block _ (by simp)).trans HBX.out)
  have HK := Lib.hid (show ∀ w', Below wa.heap.size wa w' → (w'.cell? ⟨nb, 0, none⟩ = some (.slice qa P'.length qc) ∧ w'.cell? ⟨nb, 1, none⟩ = some (.slice sa T'.length sc)) ∧ w'.cell? ⟨w.heap.size + 1, 0, none⟩ = some (.int .i64 x) ∧ w'.cell? ⟨w.heap.size + 1, 1, none⟩ = some (.int .i64 y) from
    fun w' h => by
      obtain ⟨y0, y1, -, -⟩ := cells_of2 ((h.block _ (lt_of_block HBLK.out)).trans HBLK.out)
      obtain ⟨z0, z1, -, -⟩ := cells_of2 ((h.block _ (lt_of_block HXA.out)).trans HXA.out)
      exact ⟨⟨y0, y1⟩, z0, z1⟩)
  have HNBL := Lib.hid (And.intro (lt_of_block HBLK.out) (lt_of_block HXA.out))
  clear hb1 n1 n2 hnet hin hwa hnb HP HT CP CT HG HBW HBX
  have hm1 : ∀ W, Calls Try.prog 38 #[.int .i64 x, .int .i64 (P'.length : Int)] W fun e w' => e = .returned (.int .i64 (modI x (P'.length : Int))) ∧ w' = W := fun W => mod_any _ _ W hx (by omega) (by omega)
  have hm2 : ∀ W, Calls Try.prog 38 #[.int .i64 y, .int .i64 (P'.length : Int)] W fun e w' => e = .returned (.int .i64 (modI y (P'.length : Int))) ∧ w' = W := fun W => mod_any _ _ W hy (by omega) (by omega)
  have hm3 : ∀ W, Calls Try.prog 38 #[.int .i64 x, .int .i64 2] W fun e w' => e = .returned (.int .i64 (modI x 2)) ∧ W = w' := fun W => (mod_any _ _ W hx (by omega) (by omega)).mono fun _ _ h => ⟨h.1, h.2.symm⟩
  have hb1 := modI_bd (x := x) (n := (P'.length : Int)) (by omega)
  have hb2 := modI_bd (x := y) (n := (P'.length : Int)) (by omega)
  have hb3 := modI_bd (x := x) (n := 2) (by omega)
  obtain ⟨v, hv⟩ : ∃ v : Nat, modI x (P'.length : Int) = (v : Int) := ⟨(modI x (P'.length : Int)).toNat, by omega⟩
  obtain ⟨u, hu⟩ : ∃ u : Nat, modI y (P'.length : Int) = (u : Int) := ⟨(modI y (P'.length : Int)).toNat, by omega⟩
  obtain ⟨c, hc⟩ : ∃ c, modI x 2 = c := ⟨_, rfl⟩
  rw [hv] at hm1 hb1
  rw [hu] at hm2 hb2
  rw [hc] at hm3 hb3
  have HM1 := Lib.hid hm1
  have HM2 := Lib.hid hm2
  have HM3 := Lib.hid hm3
  have hvl : v < P'.length := by omega
  have hul : u < P'.length := by omega
  clear hv hu hc hm1 hm2 hm3
  obtain ⟨⟨c0, c1⟩, b0, b1⟩ := HK.out _ (Below.refl _ _)
  go_upto_region 3 with fail
  rw [HWA.out, HNB.out]
  go_cut [9, 10] from 25 to 32 (fun a b wx => a = .int .i64 (v : Int) ∧ b = .int .i64 (u : Int) ∧ Below wa.heap.size wa wx)
  case first =>
    go_quiet ((first | (go_at_call 38; with_reducible exact Calls.quiet_of_same (HM1.out _)) | (go_at_call 38; with_reducible exact Calls.quiet_of_same (HM2.out _))))
    go_wp2
    go_meet
    exact ⟨rfl, rfl, below_drewN (Below.refl _ _) _⟩
  case rest =>
    obtain ⟨rfl, rfl, hbc⟩ := hcut
    obtain ⟨wb, rfl⟩ : ∃ x, x = wc := ⟨_, rfl⟩
    have HBB := Lib.hid hbc
    clear c0 c1 b0 b1 HM1 HM2 HWA HNB
    obtain ⟨⟨c0, c1⟩, -⟩ := HK.out _ hbc
    clear hbc
    go_wp2_with fail
    refine (some_any P' T' (.agg #[.slice qa P'.length qc, .slice sa T'.length sc]) gs go gb gf gc (v : Int) (u : Int) wb (HNET.out.below HBB.out (Nat.le_refl _)) h1 (by omega) (HGA.out.below HBB.out (Nat.le_refl _))).mono ?_
    rintro e w2 ⟨gv, g, rfl, hg, hg6, hok, hav, hb2⟩
    obtain ⟨eo, eb, ec, rfl, he, hec, hen⟩ := hg.at2
    have HE := Lib.hid he
    have HEC := Lib.hid hec
    have HEN := Lib.hid hen
    have HOK := Lib.hid hok
    have HAV := Lib.hid hav
    have HB2 := Lib.hid (HBB.out.trans (hb2.mono HBB.out.size))
    have hs2 := HB2.out.size
    have HBW2 := Lib.hid (HBA.out.trans (HB2.out.mono HBA.out.size))
    clear hg hok hav he hec hen hb2 c0 c1 HGA
    by_cases hvu : v = u
    · have t1 : ((v : Int) == (u : Int)) = true := by rw [hvu]; simp
      clear hvu
      go_wp2_with fail
      refine (awake_any _).mono ?_
      rintro e w10 ⟨rfl, hb10⟩
      have HB10 := Lib.hid (HBW2.out.trans (hb10.mono HBW2.out.size))
      clear hb10
      go_wp2
      go_ret
      exact ⟨rfl, HB10.out⟩
    · have t1 : ((v : Int) == (u : Int)) = false := by rw [beq_eq_false_iff_ne]; omega
      obtain ⟨N, Nx, Nxy, hcs⟩ := chain_says (T := T') HIN.out HOK.out HAV.out hvl hul hvu (show c = 0 ∨ c = 1 by omega)
      obtain ⟨Ba, Bb, hB⟩ := chV_form P' T' [((v : Int), (1 : Int)), ((u : Int), c)] g
      obtain ⟨Oa, Ob, hO⟩ := chV_form P' T' [((v : Int), (1 : Int))] g
      obtain ⟨Ha, Hb, hH⟩ := chV_form P' T' [((u : Int), c)] (g ++ [((v : Int), (1 : Int))])
      obtain ⟨fb, hfb⟩ : ∃ fb, chE P' T' [((v : Int), (1 : Int)), ((u : Int), c)] g = fb := ⟨_, rfl⟩
      obtain ⟨fo, hfo⟩ : ∃ fo, chE P' T' [((v : Int), (1 : Int))] g = fo := ⟨_, rfl⟩
      obtain ⟨fh, hfh⟩ : ∃ fh, chE P' T' [((u : Int), c)] (g ++ [((v : Int), (1 : Int))]) = fh := ⟨_, rfl⟩
      have HCS := Lib.hid hcs
      have HB := Lib.hid (And.intro hB hfb)
      have HO := Lib.hid (And.intro hO hfo)
      have HH := Lib.hid (And.intro hH hfh)
      obtain ⟨-, b0, b1⟩ := HK.out _ HB2.out
      clear hvu hcs hB hO hH hfb hfo hfh
      go_wp2_with fail
      refine (HM3.out _).mono ?_
      rintro e w3 ⟨rfl, rfl⟩
      obtain ⟨wp, hwp⟩ : ∃ wp, (w2.alloc (.cells #[.int .i64 (v : Int), .int .i64 1] 52)).alloc (.cells #[.int .i64 (u : Int), .int .i64 c] 52) = wp := ⟨_, rfl⟩
      obtain ⟨pA, hpA⟩ : ∃ pA, w2.heap.size = pA := ⟨_, rfl⟩
      have HWP := Lib.hid hwp
      have HPA := Lib.hid hpA
      have HBP : Hid (Below wa.heap.size wa wp) := by rw [← hwp]; exact (HB2.out.alloc hs2 _).alloc (by simp; omega) _
      have HAB : Hid (wp.heap[pA]? = some (.cells #[.int .i64 (v : Int), .int .i64 1] 52 (0, 0)) ∧ wp.heap[pA + 1]? = some (.cells #[.int .i64 (u : Int), .int .i64 c] 52 (0, 0))) := by
        rw [← hwp, ← hpA]; exact ⟨heap_alloc2_old _ _ _, heap_alloc2_new _ _ _⟩
      have HEP : Hid (PairsAt wp eo eb 0 g) := by rw [← hwp]; exact (HE.out.alloc _).alloc _
      clear hwp hpA b0 b1
      go_upto_region 8 with fail
      rw [HWP.out, HPA.out]
      have HL := Lib.hid (show ∀ w', Below wp.heap.size wp w' → ((w'.cell? ⟨nb, 0, none⟩ = some (.slice qa P'.length qc) ∧ w'.cell? ⟨nb, 1, none⟩ = some (.slice sa T'.length sc)) ∧ nb < w'.heap.size) ∧ ((w'.cell? ⟨pA, 0, none⟩ = some (.int .i64 (v : Int)) ∧ w'.cell? ⟨pA, 1, none⟩ = some (.int .i64 1)) ∧ pA < w'.heap.size) ∧ (w'.cell? ⟨pA + 1, 0, none⟩ = some (.int .i64 (u : Int)) ∧ w'.cell? ⟨pA + 1, 1, none⟩ = some (.int .i64 c)) ∧ pA + 1 < w'.heap.size from
        fun w' h => by
          obtain ⟨k, -⟩ := HK.out _ (HBP.out.trans (h.mono HBP.out.size))
          have hb0 := (h.block _ (lt_of_block HAB.out.1)).trans HAB.out.1
          have hb1 := (h.block _ (lt_of_block HAB.out.2)).trans HAB.out.2
          obtain ⟨y0, y1, -, -⟩ := cells_of2 hb0
          obtain ⟨z0, z1, -, -⟩ := cells_of2 hb1
          exact ⟨⟨k, Nat.lt_of_lt_of_le HNBL.out.1 (Nat.le_trans HBP.out.size h.size)⟩, ⟨⟨y0, y1⟩, lt_of_block hb0⟩, ⟨z0, z1⟩, lt_of_block hb1⟩)
      obtain ⟨⟨⟨c0, c1⟩, l0⟩, ⟨⟨a0, a1⟩, l1⟩, ⟨e0, e1⟩, l2⟩ := HL.out _ (Below.refl _ _)
      go_wp2_with fail
      have hcn := chance_net P' T' (.agg #[.slice qa P'.length qc, .slice sa T'.length sc]) [((v : Int), (1 : Int)), ((u : Int), c)] g (some ⟨wp.heap.size, 0, none⟩) wp.heap.size 0 2 eo eb 0 ec
        (wp.alloc (.cells #[.int .i64 (v : Int), .int .i64 1, .int .i64 (u : Int), .int .i64 c] 52)) ((HNET.out.below HBP.out (Nat.le_refl _)).alloc _) HISN.out (pairs_two wp (by omega) (by omega) (by omega) (by omega)) (HEP.out.alloc _) (by simp) (by omega)
      rw [HB.out.1, HB.out.2] at hcn
      refine hcn.mono ?_
      rintro e w4 ⟨rfl, hb4⟩
      have HB4 := Lib.hid (((Below.refl _ wp).alloc (Nat.le_refl _) (.cells #[.int .i64 (v : Int), .int .i64 1, .int .i64 (u : Int), .int .i64 c] 52)).trans (hb4.mono (by simp)))
      clear hcn hb4 c0 c1 l0 a0 a1 l1 e0 e1 l2
      obtain ⟨⟨⟨c0, c1⟩, l0⟩, ⟨⟨a0, a1⟩, l1⟩, -⟩ := HL.out _ HB4.out
      go_wp2_with fail
      have hcn := chance_net P' T' (.agg #[.slice qa P'.length qc, .slice sa T'.length sc]) [((v : Int), (1 : Int))] g (some ⟨w4.heap.size + 1, 0, none⟩) (w4.heap.size + 1) 0 1 eo eb 0 ec
        ((w4.alloc (.cells #[.int .i64 Ba, .int .i64 Bb] 29)).alloc (.cells #[.int .i64 (v : Int), .int .i64 1] 52)) ((((HNET.out.below HBP.out (Nat.le_refl _)).below HB4.out (Nat.le_refl _)).alloc _).alloc _) HISN.out
        (by have := pairs_new (w4.alloc (.cells #[.int .i64 Ba, .int .i64 Bb] 29)) (x := (v : Int)) (y := 1) (by omega) (by omega); rw [World.size_alloc] at this; exact this) (((HEP.out.below HB4.out (Nat.le_refl _)).alloc _).alloc _) (by simp) (by omega)
      rw [HO.out.1, HO.out.2] at hcn
      refine hcn.mono ?_
      rintro e w5 ⟨rfl, hb5⟩
      have HB45 := Lib.hid ((((Below.refl _ w4).alloc (Nat.le_refl _) (.cells #[.int .i64 Ba, .int .i64 Bb] 29)).alloc (by simp) (.cells #[.int .i64 (v : Int), .int .i64 1] 52)).trans (hb5.mono (by simp; omega)))
      have HBB5 := Lib.hid ((hb5.block w4.heap.size (by simp; omega)).trans (heap_alloc2_old w4 (.cells #[.int .i64 Ba, .int .i64 Bb] 29) (.cells #[.int .i64 (v : Int), .int .i64 1] 52)))
      obtain ⟨wz, hwz⟩ : ∃ wz, w5.alloc (.cells #[.int .i64 Oa, .int .i64 Ob] 29) = wz := ⟨_, rfl⟩
      obtain ⟨nB, hnB⟩ : ∃ nB, w4.heap.size = nB := ⟨_, rfl⟩
      obtain ⟨nO, hnO⟩ : ∃ nO, w5.heap.size = nO := ⟨_, rfl⟩
      have HWZ := Lib.hid hwz
      have HNBn := Lib.hid hnB
      have HNO := Lib.hid hnO
      have HBZ : Hid (Below wp.heap.size wp wz) := by rw [← hwz]; exact (HB4.out.trans (HB45.out.mono HB4.out.size)).alloc (by have := HB4.out.size; have := HB45.out.size; omega) _
      have HBO : Hid (wz.heap[nB]? = some (.cells #[.int .i64 Ba, .int .i64 Bb] 29 (0, 0)) ∧ wz.heap[nO]? = some (.cells #[.int .i64 Oa, .int .i64 Ob] 29 (0, 0))) := by
        rw [← hwz, ← hnB, ← hnO]; exact ⟨(Below.heap_alloc _ _ _ (lt_of_block HBB5.out)).trans HBB5.out, heap_alloc_new _ _⟩
      have HEZ := Lib.hid (HEP.out.below HBZ.out (Nat.le_refl _))
      have HNZ := Lib.hid ((HNET.out.below HBP.out (Nat.le_refl _)).below HBZ.out (Nat.le_refl _))
      clear hcn hb5 hwz hnB hnO c0 c1 l0 a0 a1 l1 HBB5 HEP HAB
      go_upto_region 10 with fail
      rw [HWZ.out, HNBn.out, HNO.out]
      clear HWZ HNBn HNO HWP HPA HB4 HB45 HM3
      have HS := Lib.hid (show ∀ w', Below wz.heap.size wz w' → (w'.cell? ⟨nb, 0, none⟩ = some (.slice qa P'.length qc) ∧ w'.cell? ⟨nb, 1, none⟩ = some (.slice sa T'.length sc)) ∧ (w'.cell? ⟨pA, 0, none⟩ = some (.int .i64 (v : Int)) ∧ w'.cell? ⟨pA, 1, none⟩ = some (.int .i64 1)) ∧ w'.cell? ⟨pA + 1, 0, none⟩ = some (.int .i64 (u : Int)) ∧ w'.cell? ⟨pA + 1, 1, none⟩ = some (.int .i64 c) from
        fun w' h => by
          obtain ⟨⟨k0, -⟩, ⟨k1, -⟩, k2, -⟩ := HL.out _ (HBZ.out.trans (h.mono HBZ.out.size))
          exact ⟨k0, k1, k2⟩)
      have HCF := Lib.hid (show ∀ W nb na nl (Q : Ending → World → Prop), Rg wz W #[.int .i64 (v : Int), .int .i64 1] #[.int .i64 (u : Int), .int .i64 c] g (g ++ [((v : Int), (1 : Int))]) nb na nl none none → (∀ v1 w', Rg wz w' #[.int .i64 (v : Int), .int .i64 1] #[.int .i64 (u : Int), .int .i64 c] g (g ++ [((v : Int), (1 : Int))]) nb na nl (some v1) none → Q (.returned v1) w') → Calls Try.prog 21 #[.slice eo g.length ec] W Q from
        fun W nb na nl Q st h => (rg_facts eo eb ec HEZ.out HEC.out HEN.out (by omega) W st).mono fun e w' ⟨v1, he, hs⟩ => by rw [he]; exact h v1 w' hs)
      have HCC := Lib.hid (show ∀ W n na nl gg cap (Q : Ending → World → Prop), Rg wz W #[.int .i64 (v : Int), .int .i64 1] #[.int .i64 (u : Int), .int .i64 c] g (g ++ [((v : Int), (1 : Int))]) (some n) na nl none (some (.slice (some ⟨gg, 0, none⟩) (g.length + 1) cap)) → (∀ w', Rg wz w' #[.int .i64 (v : Int), .int .i64 1] #[.int .i64 (u : Int), .int .i64 c] g (g ++ [((v : Int), (1 : Int))]) (some n) na nl none none → Q (.returned (.tuple #[.agg #[.int .i64 Ha, .int .i64 Hb], .int .i64 fh])) w') → Calls Try.prog 22 #[.agg #[.slice qa P'.length qc, .slice sa T'.length sc], .slice (some ⟨n, 0, none⟩) 1 1, .slice (some ⟨gg, 0, none⟩) (g.length + 1) cap] W Q from
        fun W n na nl gg cap Q st hQ => by
          obtain ⟨ao, b, cap', hs, hp, -, -⟩ := (st.ap _ rfl).at2
          have hl : (g ++ [((v : Int), (1 : Int))]).length = g.length + 1 := by rw [List.length_append]; rfl
          injection hs with i1 i2 i3
          subst i1
          have hcn := chance_net P' T' (.agg #[.slice qa P'.length qc, .slice sa T'.length sc]) [((u : Int), c)] (g ++ [((v : Int), (1 : Int))]) (some ⟨n, 0, none⟩) n 0 1 (some ⟨gg, 0, none⟩) b 0 cap W (HNZ.out.below st.below (Nat.le_refl _)) HISN.out (pairs_block (st.b n rfl) (by omega) (by omega)) hp (by simp) (by omega)
          rw [HH.out.1, HH.out.2, hl] at hcn
          refine hcn.mono fun e w' h => ?_
          rw [h.1]
          have h2 := st.more h.2
          exact hQ w' ⟨h2.below, h2.b, h2.a, h2.al, (fun q e => by cases e), (fun q e => by cases e)⟩)
      have ST : Hid (Rg wz wz #[.int .i64 (v : Int), .int .i64 1] #[.int .i64 (u : Int), .int .i64 c] g (g ++ [((v : Int), (1 : Int))]) none none none none none) := Rg.start
      have HBk := Lib.hid (Below.refl wz.heap.size wz)
      go_cut [18, 19] from 66 to 77 (fun p e wx => ∃ n, p = .pointer (some ⟨n, 0, none⟩) ∧ wx.heap[n]? = some (.cells #[.int .i64 Ha, .int .i64 Hb] 29 (0, 0)) ∧ e = .int .i64 fh ∧ Below wz.heap.size wz wx)
      case first =>
        go_region_held3 (fun w' => (w'.cell? ⟨nb, 0, none⟩ = some (.slice qa P'.length qc) ∧ w'.cell? ⟨nb, 1, none⟩ = some (.slice sa T'.length sc)) ∧ (w'.cell? ⟨pA, 0, none⟩ = some (.int .i64 (v : Int)) ∧ w'.cell? ⟨pA, 1, none⟩ = some (.int .i64 1)) ∧ w'.cell? ⟨pA + 1, 0, none⟩ = some (.int .i64 (u : Int)) ∧ w'.cell? ⟨pA + 1, 1, none⟩ = some (.int .i64 c))
          ((refine HS.out _ ?_; (repeat (first | exact HBk.out | apply below_dr | apply Below.setCell | apply Below.alloc)); all_goals (first | exact HNL.out | (have hbk := HBk.out.size; simp; done) | (have hbk := HBk.out.size; simp; omega))))
          (first
            | (go_simp; go_at_call 21; (with_reducible apply HCF.out); (focus (repeat (first | exact ST.out | apply Rg.drew | apply Rg.allocB' | apply Rg.allocA' | apply Rg.allocL' | (focus (simp only [World.size_alloc]; done)) | (focus (simp only [World.size_alloc]; rfl)) | (focus rfl)))); intro v1 w6 st; have ST := Lib.hid st; have HBk := Lib.hid st.below; clear st)
            | (go_simp; go_at_call 22; (with_reducible apply HCC.out); (focus (repeat (first | exact ST.out | apply Rg.drew | apply Rg.allocB' | apply Rg.allocA' | apply Rg.allocL' | (focus (simp only [World.size_alloc]; done)) | (focus (simp only [World.size_alloc]; rfl)) | (focus rfl)))); intro w8 st; have ST := Lib.hid st; have HBk := Lib.hid st.below; (first | (obtain ⟨z0, z1, z2, z3⟩ := cells_of2 (st.al _ rfl).2; have HNL := Lib.hid (st.al _ rfl).1) | skip); clear st)
            | (apply rg_append (wz := wz) (Bv := #[.int .i64 (u : Int), .int .i64 c]) (g := g) (x := (v : Int)) (y := 1); (focus rfl); (focus rfl); (focus (repeat (first | exact ST.out | apply Rg.drew | apply Rg.allocB' | apply Rg.allocA' | apply Rg.allocL' | (focus (simp only [World.size_alloc]; done)) | (focus (simp only [World.size_alloc]; rfl)) | (focus rfl)))); (focus rfl); (focus rfl); (focus omega); (focus exact ⟨⟨by omega, by omega⟩, by omega, by omega⟩); intro gg cap w7 st; have ST := Lib.hid st; have HBk := Lib.hid st.below; clear st)
            | (fail))
        all_goals (go_wp2_with fail; go_meet)
        all_goals first
          | exact ⟨_, rfl, heap_alloc_new _ _, rfl, HBk.out.alloc HBk.out.size _⟩
          | exact ⟨_, rfl, heap_setCell_same _ _ _ _ _ _ (heap_setCell_same _ _ _ _ _ _ (ST.out.al _ rfl).2), rfl, (HBk.out.setCell (p := ⟨_, 0, none⟩) HNL.out _).setCell (p := ⟨_, 1, none⟩) HNL.out _⟩
      case rest =>
        obtain ⟨nH, rfl, hbH, rfl, hbx⟩ := hcut
        obtain ⟨wx, rfl⟩ : ∃ x, x = wc := ⟨_, rfl⟩
        have HBWZ := Lib.hid (HBA.out.trans ((HBP.out.trans (HBZ.out.mono HBP.out.size)).mono HBA.out.size))
        have HBWX := Lib.hid (HBWZ.out.trans (hbx.mono HBWZ.out.size))
        have HKS := Lib.hid (And.intro ((hbx.block _ (lt_of_block HBO.out.1)).trans HBO.out.1) (And.intro ((hbx.block _ (lt_of_block HBO.out.2)).trans HBO.out.2) hbH))
        obtain ⟨y0, y1, -, -⟩ := cells_of2 HKS.out.1
        obtain ⟨o0, o1, -, -⟩ := cells_of2 HKS.out.2.1
        obtain ⟨⟨q1, q2⟩, q3, q4⟩ := HCS.out.bd
        have hD := pow16_7 (k := P'.length) (by omega)
        obtain ⟨D, hDD⟩ : ∃ D : Int, (16 : Int) ^ P'.length = D := ⟨_, rfl⟩
        rw [hDD] at q4 hD
        have f2 : (fb != fb) = false := by simp
        clear hbH hbx hDD HS HCF HCC ST HBk HBO HEZ HNZ HL
        by_cases hN : N = 0
        · obtain ⟨⟨e1, e2⟩, e3, e4⟩ := HCS.out.none hN
          obtain ⟨e5, e6⟩ := HCS.out.none2 (by omega)
          rw [HB.out.1] at e1
          rw [HB.out.2] at e2
          rw [HO.out.1] at e3
          rw [HO.out.2] at e4
          rw [HH.out.2] at e6
          subst e2 e4 e6
          clear e1 e3 e5 hN q1 q2 q3 q4
          go_wp2_with fail
          refine (awake_any _).mono ?_
          rintro e w10 ⟨rfl, hb10⟩
          have HB10 := Lib.hid (HBWX.out.trans (hb10.mono HBWX.out.size))
          clear hb10
          go_wp2
          go_ret
          exact ⟨rfl, HB10.out⟩
        · obtain ⟨⟨e1, e2⟩, e3, e4⟩ := HCS.out.some hN
          rw [HB.out.1] at e1
          rw [HB.out.2] at e2
          rw [HO.out.1] at e3
          rw [HO.out.2] at e4
          subst e2 e4
          have hN1 : 1 ≤ N := by omega
          by_cases hX : Nx = 0
          · obtain ⟨-, e6⟩ := HCS.out.none2 hX
            rw [HH.out.2] at e6
            subst e6
            have hXY : Nxy = 0 := by omega
            rw [hXY, frac_zero hN1] at e1
            rw [hX, frac_zero hN1] at e3
            simp at e1 e3
            obtain ⟨rfl, rfl⟩ := e1
            obtain ⟨rfl, rfl⟩ := e3
            clear hN hX hXY q1 q2 q3 q4
            go_wp2_with fail
            refine (awake_any _).mono ?_
            rintro e w10 ⟨rfl, hb10⟩
            have HB10 := Lib.hid (HBWX.out.trans (hb10.mono HBWX.out.size))
            clear hb10
            go_wp2
            go_ret
            exact ⟨rfl, HB10.out⟩
          · obtain ⟨e5, e6⟩ := HCS.out.some2 hX
            rw [HH.out.1] at e5
            rw [HH.out.2] at e6
            subst e6
            obtain ⟨⟨d1, d2⟩, ⟨u1, u2⟩, r1, r2, t2, t3⟩ := frac_parts (n := Nx) (D := N) (by omega) q3 hN1
            obtain ⟨⟨d3, d4⟩, ⟨u3, u4⟩, r3, r4, t4, t5⟩ := frac_parts (n := Nxy) (D := Nx) q1 q2 (by omega)
            rw [fracV, fracC] at e3 e5
            simp at e3 e5
            obtain ⟨g1, g2⟩ := e3
            obtain ⟨g3, g4⟩ := e5
            rw [← g1] at u1 u2 r2
            rw [← g2] at d1 d2 u2 r1 r2 t2 t3
            rw [← g3] at u3 u4 r4
            rw [← g4] at d3 d4 u4 r3 r4 t4 t5
            obtain ⟨t, ht⟩ : ∃ t, N / Ob = t := ⟨_, rfl⟩
            obtain ⟨s, hs⟩ : ∃ s, Nx / Hb = s := ⟨_, rfl⟩
            rw [ht] at r2 t2 t3
            rw [hs] at r4 t4 t5
            have k1 : Ob * t = N := by rw [← ht]; have := Int.mul_ediv_add_emod N Ob; rw [r1] at this; omega
            have k2 : Hb * s = Nx := by rw [← hs]; have := Int.mul_ediv_add_emod Nx Hb; rw [r3] at this; omega
            have htm := chain_times r2 k1 r4 k2 t2 t4 d1 d3 hN1
            rw [← e1] at htm
            have hoa : 1 ≤ Oa := by
              rcases Int.lt_or_le 0 Oa with h | h
              · omega
              · have : Oa = 0 := by omega
                rw [this, Int.zero_mul] at r2; exact absurd r2.symm hX
            have t6 : (Oa == 0) = false := by rw [beq_eq_false_iff_ne]; omega
            have htc := fun W => times_any Oa Ob Ha Hb W u1 u2 d1 (by omega) u3 u4 d3 (by omega)
            rw [htm] at htc
            have HTM := Lib.hid htc
            clear e1 g1 g2 g3 g4 r1 r2 r3 r4 ht hs k1 k2 htm htc hN hX
            go_upto_region 15 with fail
            have HD := Lib.hid (below_dr (Below.refl wx.heap.size wx))
            have HVK := Lib.hid (show ∀ w', Below wx.heap.size wx w' → (w'.cell? ⟨nB, 0, none⟩ = some (.int .i64 Ba) ∧ w'.cell? ⟨nB, 1, none⟩ = some (.int .i64 Bb)) ∧ (w'.cell? ⟨nO, 0, none⟩ = some (.int .i64 Oa) ∧ w'.cell? ⟨nO, 1, none⟩ = some (.int .i64 Ob)) ∧ w'.cell? ⟨nH, 0, none⟩ = some (.int .i64 Ha) ∧ w'.cell? ⟨nH, 1, none⟩ = some (.int .i64 Hb) from fun w' h => by
              obtain ⟨p0, p1, -, -⟩ := cells_of2 ((h.block _ (lt_of_block HKS.out.1)).trans HKS.out.1)
              obtain ⟨p2, p3, -, -⟩ := cells_of2 ((h.block _ (lt_of_block HKS.out.2.1)).trans HKS.out.2.1)
              obtain ⟨p4, p5, -, -⟩ := cells_of2 ((h.block _ (lt_of_block HKS.out.2.2)).trans HKS.out.2.2)
              exact ⟨⟨p0, p1⟩, ⟨p2, p3⟩, p4, p5⟩)
            have HTMz := Lib.hid (show ∀ W, Below wx.heap.size wx W → Calls Try.prog 43 #[.agg #[.int .i64 Oa, .int .i64 Ob], .agg #[.int .i64 Ha, .int .i64 Hb]] W fun e w' => e = .returned (.agg #[.int .i64 Ba, .int .i64 Bb]) ∧ Below wx.heap.size wx w' from fun W hW => (HTM.out W).mono fun e w' h => ⟨h.1, hW.trans (h.2.mono hW.size)⟩)
            have HAWz := Lib.hid (show ∀ W, Below wx.heap.size wx W → Calls Try.prog 19 #[] W fun e w' => e = .returned (.bool true) ∧ Below wx.heap.size wx w' from fun W hW => (awake_any W).mono fun e w' h => ⟨h.1, hW.trans (h.2.mono hW.size)⟩)
            go_region_held3 (fun w' => (w'.cell? ⟨nB, 0, none⟩ = some (.int .i64 Ba) ∧ w'.cell? ⟨nB, 1, none⟩ = some (.int .i64 Bb)) ∧ (w'.cell? ⟨nO, 0, none⟩ = some (.int .i64 Oa) ∧ w'.cell? ⟨nO, 1, none⟩ = some (.int .i64 Ob)) ∧ w'.cell? ⟨nH, 0, none⟩ = some (.int .i64 Ha) ∧ w'.cell? ⟨nH, 1, none⟩ = some (.int .i64 Hb))
              (first | exact HVK.out _ HBb.out | exact HVK.out _ HBr.out | exact HVK.out _ HD.out)
              (first
                | (go_simp; go_at_call 43; (with_reducible refine (HTMz.out _ HD.out).mono ?_); rintro e wr1 ⟨rfl, hbr⟩; have HBr := Lib.hid hbr; clear hbr)
                | (go_simp; go_at_call 19; (with_reducible refine (HAWz.out _ HBr.out).mono ?_); rintro e wr2 ⟨rfl, hbb⟩; have HBb := Lib.hid hbb; clear hbb)
                | (fail))
            all_goals go_wp2
            all_goals go_ret
            all_goals exact ⟨rfl, HBWX.out.trans (HBb.out.mono HBWX.out.size)⟩

end Go.Proofs.Ytghffnjnpgiicaa
