/- Best of a chain. -/
import Derived.Test.YthnkmmjelpdamaaC1
import Derived.Laws.AppendOwn
import Derived.Maps.AppendAt
namespace Go.Proofs.Ythnkmmjelpdamaa
open Go.RowKit

/-- The states in which the value is Pay. -/
def stopL (P : List Int) (b : Nat → Int × Int) (k : Nat) : List Nat := (List.range k).filter fun s => decide (b s = fr (nth P s) 1)

theorem infoInt : (Try.prog.info? 3).map (fun i => (i.zero, i.size, i.bytes)) = some (some (.int .i64 0), 1, 8) := by kernel_rfl
theorem own_below {B : Nat} {w w' : World} {e : TypeId} {v : Value} {n : Nat} {vs : List Value} (h : w.ownsRow B e 1 v n vs) (hb : Below w.heap.size w w') : w'.ownsRow B e 1 v n vs := by
  rcases h with ⟨h0, h1 | ⟨g, cap, cur, h1, h2, h3, h4, h5⟩⟩
  · exact ⟨h0, .inl h1⟩
  · exact ⟨h0, .inr ⟨g, cap, cur, h1, h2, (hb.block _ (Array.getElem?_eq_some_iff.1 h3).1).trans h3, h4, h5⟩⟩
theorem own_le {B B' : Nat} {w : World} {e : TypeId} {v : Value} {n : Nat} {vs : List Value} (h : w.ownsRow B e 1 v n vs) (hB : B' ≤ B) : w.ownsRow B' e 1 v n vs := by
  rcases h with ⟨h0, h1 | ⟨g, cap, cur, h1, h2, h3⟩⟩
  · exact ⟨h0, .inl h1⟩
  · exact ⟨h0, .inr ⟨g, cap, cur, h1, by omega, h3⟩⟩
theorem own_block {B : Nat} {w : World} {e : TypeId} {v : Value} {n : Nat} {vs : List Value} (h : w.ownsRow B e 1 v n vs) (k : Nat) (hk : v.ownBlock = some k) : B ≤ k := by
  rcases h with ⟨h0, ⟨rfl, -⟩ | ⟨g, cap, cur, rfl, h2, h3⟩⟩
  · simp [Value.ownBlock] at hk
  · simp [Value.ownBlock] at hk; omega
theorem stopL_snoc (P : List Int) (b : Nat → Int × Int) (k : Nat) : stopL P b (k + 1) = if b k = fr (nth P k) 1 then stopL P b k ++ [k] else stopL P b k := by
  unfold stopL
  rw [List.range_succ, List.filter_append]
  by_cases h : b k = fr (nth P k) 1 <;> simp [h]

set_option maxHeartbeats 8000000 in
set_option maxRecDepth 100000 in
theorem best_yes (N : List (List Int)) (P C : List Int) (v : Value) (w : World) (h : ChainAt w v N P C) (hc : IsChain N P C) (hok : ∀ x, x < 2 ^ N.length → soundB N (ruleB N.length x) = true → SolveOk (eqF N P C (ruleB N.length x))) :
    Calls Try.prog 16 #[v] w fun e w' => ∃ g rv, e = .returned (.tuple #[.slice (some ⟨g, 0, none⟩) N.length N.length, rv, .int .i64 0]) ∧ w.heap.size ≤ g ∧
      w'.heap[g]? = some (.cells ((vC (bestF N P C)).toList.take (N.length * 2)).toArray 47 (0, 0)) ∧
      w'.ownsRow w.heap.size 3 1 rv (stopL P (bestF N P C) N.length).length ((stopL P (bestF N P C) N.length).map fun s : Nat => Value.int .i64 (s : Int)) ∧ Below w.heap.size w w' := by
  obtain ⟨na, nb, no, nc, A, B, O, D, pa, pb, po, pc, ca, cb, co, cc, hv, hN, hP, hC⟩ := h.ex
  obtain ⟨wa, hwa⟩ : ∃ wa, w.alloc (.cells #[.slice na N.length nc, .slice pa P.length pc, .slice ca C.length cc] 25) = wa := ⟨_, rfl⟩
  have hsa : wa.heap.size = w.heap.size + 1 := by rw [← hwa]; simp
  have HB : Hid (Below w.heap.size w wa) := by rw [← hwa]; exact (Below.refl _ _).alloc (Nat.le_refl _) _
  have HCC : Hid (wa.heap[w.heap.size]? = some (.cells #[.slice na N.length nc, .slice pa P.length pc, .slice ca C.length cc] 25 (0, 0))) := by rw [← hwa]; exact heap_alloc_new _ _
  obtain ⟨c0, c1, c2⟩ := cells_of3 HCC.out
  have HS := Lib.hid (isChain_any N P C v wa (h.below HB.out (Nat.le_refl _)))
  rw [show isChain N P C = true from decide_eq_true hc] at HS
  have HBV := Lib.hid (show ∀ W', Below w.heap.size w W' → Calls Try.prog 49 #[v] W' fun e w' => e = .returned (.agg (vC (bestF N P C))) ∧ Below W'.heap.size W' w' from fun W' hb => bestValues_any N P C v W' (h.below hb (Nat.le_refl _)) hc hok)
  obtain ⟨b, hb⟩ : ∃ b, bestF N P C = b := ⟨_, rfl⟩
  rw [hb, vC_lit] at HBV
  rw [hb]
  rw [hv] at HS HBV ⊢
  have HWA := Lib.hid hwa
  have HSA := Lib.hid hsa
  have HCH := Lib.hid hc
  have HP := Lib.hid hP
  clear hwa h hN hP hC hc hv hok hb hsa
  go_enter Try.func16, Try.ntmps16
  go_upto_region 1 with fail
  rw [HWA.out]
  go_wp2_with fail
  refine HS.out.mono ?_
  rintro e w1 ⟨rfl, hb1⟩
  have HB1 := Lib.hid (HB.out.trans (hb1.mono HB.out.size))
  have hk1 := (hb1.block _ (by rw [HSA.out]; omega)).trans HCC.out
  have hs1 := hb1.size
  obtain ⟨c0, c1, c2⟩ := cells_of3 hk1
  have HK1 := Lib.hid hk1
  clear hb1 hk1
  go_wp2_with fail
  refine (HBV.out w1 HB1.out).mono ?_
  rintro e w2 ⟨rfl, hb2⟩
  have HB2 := Lib.hid (HB1.out.trans (hb2.mono HB1.out.size))
  have hk2 := (hb2.block _ (by have := HSA.out; omega)).trans HK1.out
  have hs2 := hb2.size
  have HSS := Lib.hid (show w.heap.size + 1 ≤ w2.heap.size by have := HSA.out; omega)
  clear hb2 c0 c1 c2 hs1 hs2
  obtain ⟨w3, hw3⟩ : ∃ w3, w2.alloc (.cells (vC b) 77) = w3 := ⟨_, rfl⟩
  have HK3 : Hid (w3.heap[w.heap.size]? = some (.cells #[.slice na N.length nc, .slice pa P.length pc, .slice ca C.length cc] 25 (0, 0))) := by
    rw [← hw3, Below.heap_alloc _ _ _ (by have := HSS.out; omega)]; exact hk2
  have HV3 : Hid (w3.heap[w2.heap.size]? = some (.cells (vC b) 77 (0, 0))) := by rw [← hw3]; exact heap_alloc_new _ _
  have HB3 : Hid (Below w.heap.size w w3) := by rw [← hw3]; exact HB2.out.alloc (by have := HSS.out; omega) _
  have hs3 : w3.heap.size = w2.heap.size + 1 := by rw [← hw3, World.size_alloc]
  have hw3' : w2.alloc (.cells #[.int .i64 (b 0).1, .int .i64 (b 0).2, .int .i64 (b 1).1, .int .i64 (b 1).2, .int .i64 (b 2).1, .int .i64 (b 2).2, .int .i64 (b 3).1, .int .i64 (b 3).2, .int .i64 (b 4).1, .int .i64 (b 4).2, .int .i64 (b 5).1, .int .i64 (b 5).2] 77) = w3 := hw3
  have HW3 := Lib.hid hw3'
  clear hw3 hw3' hk2
  go_upto_region 4 with fail
  rw [HW3.out]
  obtain ⟨H, hH⟩ : ∃ H, w2.heap.size = H := ⟨_, rfl⟩
  rw [hH] at HV3 hs3 HSS ⊢
  obtain ⟨c0, c1, c2⟩ := cells_of3 HK3.out
  clear HW3 hH
  go_wp2
  have HPL : Hid (P.length = N.length) := HCH.out.pay
  have hp6 : P.length ≤ 6 := by rw [HPL.out]; exact HCH.out.le
  go_loopw [6, 7, 8, 17] (fun rv _ _ y wr => ∃ k : Nat, k ≤ P.length ∧ y = .int .i64 k ∧ wr.ownsRow (H + 1) 3 1 rv (stopL P b k).length ((stopL P b k).map fun s : Nat => Value.int .i64 (s : Int)) ∧ Below (H + 1) w3 wr) (fun _ _ _ y _ => P.length - (intOf y).toNat)
  case atStart => exact ⟨0, by omega, rfl, World.ownsRow_nil _ _ _ _, Below.refl _ _⟩
  case round =>
    obtain ⟨k, hk, rfl, ho, hb⟩ := hrel
    obtain ⟨wq, rfl⟩ : ∃ x, x = wr := ⟨_, rfl⟩
    have HO := Lib.hid ho
    have HBq := Lib.hid hb
    clear ho hb c0 c1 c2
    by_cases hlt : k < P.length
    · have hpq := HP.out.below (HB3.out.trans (HBq.out.mono (by have := HSS.out; omega))) (Nat.le_refl _)
      obtain ⟨rfl, -⟩ := hpq.ptr (by omega)
      have p0 := hpq.cell k hlt
      have hpb := HCH.out.payOk k (by rw [← HPL.out]; exact hlt)
      obtain ⟨p, hp⟩ : ∃ p, nth P k = p := ⟨_, rfl⟩
      rw [hp] at p0 hpb
      obtain ⟨a0, a1, -, -⟩ := cell_vC ((HBq.out.block H (by omega)).trans HV3.out) (show k < 6 by omega)
      obtain ⟨x, hx⟩ : ∃ x, b k = x := ⟨_, rfl⟩
      rw [hx] at a0 a1
      obtain ⟨x1, x2⟩ := x
      dsimp only at a0 a1
      obtain ⟨f1, hf1⟩ : ∃ f1, p / (Int.gcd p 1 : Int) = f1 := ⟨_, rfl⟩
      obtain ⟨f2, hf2⟩ : ∃ f2, (1 : Int) / (Int.gcd p 1 : Int) = f2 := ⟨_, rfl⟩
      have HFR := Lib.hid (fun W' => fraction_any p 1 W' (by omega) (by omega) (by omega) (by omega))
      rw [fracV, fracC, hf1, hf2] at HFR
      have hp0 := hp
      clear hp hpq
      have hsq : H + 1 ≤ wq.heap.size := by have := HBq.out.size; omega
      have HFZ := Lib.hid (show ∀ W' w', Below W'.heap.size W' w' → (∀ q : Addr, W'.cell? q = wq.cell? q) → W'.heap.size = wq.heap.size → w'.cell? ⟨H, k * 2, none⟩ = some (.int .i64 x1) ∧ w'.cell? ⟨H, k * 2 + 1, none⟩ = some (.int .i64 x2) from fun W' w' h3 h1 h2 =>
        ⟨((h3.cell (p := ⟨H, k * 2, none⟩) (by show H < _; omega)).trans (h1 _)).trans a0, ((h3.cell (p := ⟨H, k * 2 + 1, none⟩) (by show H < _; omega)).trans (h1 _)).trans a1⟩)
      have HSN := Lib.hid (stopL_snoc P b k)
      unfold Hid fr at HSN
      rw [hp0, hf1, hf2, hx] at HSN
      have HSN := Lib.hid HSN
      by_cases z1 : x1 = f1
      · by_cases z2 : x2 = f2
        · subst z1 z2
          obtain ⟨i0, hi, hz0, hz1, hz2⟩ := info_parts infoInt
          have hll : (stopL P b k).length ≤ k := by have := List.length_filter_le (fun s => decide (b s = fr (nth P s) 1)) (List.range k); rw [List.length_range] at this; exact this
          have HYES := Lib.hid (show stopL P b (k + 1) = stopL P b k ++ [k] by rw [HSN.out, if_pos rfl])
          clear hf1 hf2
          go_wp2_with fail
          go_region_with (refine (HFR.out _).mono ?_; rintro e w' ⟨rfl, hbw⟩; obtain ⟨g0, g1⟩ := HFZ.out _ w' hbw (fun _ => rfl) rfl)
          all_goals (
            have hbq : Below wq.heap.size wq w' := (below_dr (Below.refl _ wq)).trans hbw
            have HOw := Lib.hid (own_below (own_below HO.out hbq) ((Below.refl _ w').alloc (Nat.le_refl _) (.cells #[.int .i64 k] 3)))
            have HBw := Lib.hid ((HBq.out.trans (hbq.mono (by omega))).alloc (by have := hbq.size; omega) (.cells #[.int .i64 k] 3))
            have hsw : H + 1 ≤ w'.heap.size := by have := hbq.size; omega
            clear hbq hbw g0 g1
            go_wp2_with (at_builtin; (refine wpList_append_own _ rfl (.tmp 28) (.tmp 30) 23 rfl (H + 1) 3 i0 (.int .i64 0) 1 8 Try.underlying23 hi hz0 hz1 hz2 rfl (by decide) _ (stopL P b k).length ((stopL P b k).map fun s : Nat => Value.int .i64 (s : Int)) rfl HOw.out ⟨w'.heap.size, 0, none⟩ 1 1 [.int .i64 k] rfl rfl (cell_one_new _ _ _) (by simp [Value.oneCell']) (by unfold maxLen; omega) (by omega) (by simp; omega) ?_); intro v' w9 hown hgrow _)
            have HV9 := Lib.hid (show w9.ownsRow (H + 1) 3 1 v' (stopL P b (k + 1)).length ((stopL P b (k + 1)).map fun s : Nat => Value.int .i64 (s : Int)) by
              rw [HYES.out, List.length_append, List.map_append]; exact hown)
            have HB9 := Lib.hid (HBw.out.grown hgrow (by simp; omega) (fun r hr => own_block HOw.out r hr))
            clear hown hgrow
            go_wp2
            go_roundw
            case rel => exact ⟨k + 1, by omega, by go_num, HV9.out, HB9.out⟩
            case measure => simp [intOf]; omega)
        · have HNO := Lib.hid (show stopL P b (k + 1) = stopL P b k by rw [HSN.out, if_neg (fun q => z2 (Prod.mk.inj q).2)])
          clear hf1 hf2
          subst z1
          go_wp2_with fail
          go_region_with (refine (HFR.out _).mono ?_; rintro e w' ⟨rfl, hbw⟩; obtain ⟨g0, g1⟩ := HFZ.out _ w' hbw (fun _ => rfl) rfl)
          all_goals (
            have hbq : Below wq.heap.size wq w' := (below_dr (Below.refl _ wq)).trans hbw
            have HOw := Lib.hid (own_below HO.out hbq)
            have HBw := Lib.hid (HBq.out.trans (hbq.mono (by omega)))
            clear hbq hbw g0 g1
            go_wp2
            go_roundw
            case rel => exact ⟨k + 1, by omega, by go_num, by rw [HNO.out]; exact HOw.out, HBw.out⟩
            case measure => simp [intOf]; omega)
      · have HNO := Lib.hid (show stopL P b (k + 1) = stopL P b k by rw [HSN.out, if_neg (fun q => z1 (Prod.mk.inj q).1)])
        clear hf1 hf2
        go_wp2_with fail
        go_region_with (refine (HFR.out _).mono ?_; rintro e w' ⟨rfl, hbw⟩; obtain ⟨g0, g1⟩ := HFZ.out _ w' hbw (fun _ => rfl) rfl)
        all_goals (
          have hbq : Below wq.heap.size wq w' := (below_dr (Below.refl _ wq)).trans hbw
          have HOw := Lib.hid (own_below HO.out hbq)
          have HBw := Lib.hid (HBq.out.trans (hbq.mono (by omega)))
          clear hbq hbw g0 g1
          go_wp2
          go_roundw
          case rel => exact ⟨k + 1, by omega, by go_num, by rw [HNO.out]; exact HOw.out, HBw.out⟩
          case measure => simp [intOf]; omega)
    · obtain rfl : k = P.length := by omega
      have hbq1 := (HBq.out.block _ (by have := HSS.out; omega)).trans HK3.out
      have HVq := Lib.hid ((HBq.out.block H (by omega)).trans HV3.out)
      obtain ⟨c0, c1, c2⟩ := cells_of3 hbq1
      clear hbq1
      have HVL := Lib.hid (vlist_any (vC b) N.length wq (vC_size b) (vC_all b) HCH.out.le)
      go_wp2_with (refine wpList_load_row rfl 77 (.tmp 5) rfl H rfl 77 _ _ _ HVq.out Try.underlying77 rfl (info_vC _) ?_)
      refine HVL.out.mono ?_
      rintro e w' ⟨rfl, hcl, hbw⟩
      have HCL := Lib.hid hcl
      have HBZ := Lib.hid (HB3.out.trans ((HBq.out.mono (by have := HSS.out; omega)).trans (hbw.mono (by have := HBq.out.size; have := HSS.out; omega))))
      have HOZ := Lib.hid (own_below HO.out hbw)
      have hgz : w.heap.size ≤ wq.heap.size + 1 := by have := HBq.out.size; have := HSS.out; omega
      clear hcl hbw c0 c1 c2
      go_wp2
      rw [HPL.out] at HOZ
      refine bodyPost_ret (v := .tuple #[.slice (some ⟨wq.heap.size + 1, 0, none⟩) N.length N.length, u6, .int .i64 0]) ?_ rfl ⟨_, _, rfl, hgz, HCL.out, own_le HOZ.out (by have := HSS.out; omega), HBZ.out⟩
      simp [results, Try.results16, go_sem]

end Go.Proofs.Ythnkmmjelpdamaa
