/- The law's some: facts about a network made from any pairs. -/
import Derived.Test.YtghffnjnpgiicaaI4
import Derived.Test.YtghffnjnpgiicaaG9
import Derived.Test.YtghffnjnpgiicaaG8
import Derived.Deep.AppendLies
import Derived.Deep.RegionHeld3
import Derived.Deep.Cut
import Derived.Deep.CutRange
namespace Go.Proofs.Ytghffnjnpgiicaa
open Go.RowKit

theorem NewPairs.mono {B B' : Nat} {w : World} {v : Value} {ps : List (Int × Int)} (h : NewPairs B w v ps) (hB : B' ≤ B) : NewPairs B' w v ps := by
  refine ⟨⟨h.own.1, ?_⟩, h.wf, h.len⟩
  rcases h.own.2 with h2 | ⟨g, cap, cur, hv, hg, rest⟩
  · exact .inl h2
  · exact .inr ⟨g, cap, cur, hv, Nat.le_trans hB hg, rest⟩
theorem NewPairs.later {B M : Nat} {w w' : World} {v : Value} {ps : List (Int × Int)} (h : NewPairs B w v ps) (hb : Below M w w') (hM : w.heap.size ≤ M) : NewPairs B w' v ps := by
  refine ⟨⟨h.own.1, ?_⟩, h.wf, h.len⟩
  rcases h.own.2 with h2 | ⟨g, cap, cur, hv, hg, hh, rest⟩
  · exact .inl h2
  · exact .inr ⟨g, cap, cur, hv, hg, (hb.block _ (Nat.lt_of_lt_of_le (lt_of_block hh) hM)).trans hh, rest⟩
theorem NewPairs.at2 {B : Nat} {w : World} {v : Value} {ps : List (Int × Int)} (h : NewPairs B w v ps) : ∃ ao b cap, v = .slice ao ps.length cap ∧ PairsAt w ao b 0 ps ∧ ps.length ≤ cap ∧ (ao = none → cap = 0) := by
  obtain ⟨ao, b, cap, rfl, hp⟩ := h.at
  refine ⟨ao, b, cap, rfl, hp, ?_⟩
  rcases h.own.2 with ⟨h2, h3⟩ | ⟨g, cap', cur, hv, hg, hh, hc, -⟩
  · injection h2 with e1 e2 e3
    exact ⟨by omega, fun _ => e3⟩
  · injection hv with e1 e2 e3
    exact ⟨by omega, fun e => by rw [e1] at e; cases e⟩

theorem pf_snoc (ps : List (Int × Int)) (p : Int × Int) (i : Nat) : pf (ps ++ [p]) i = if i = ps.length then p.1 else pf ps i := by
  unfold pf
  rw [List.getD_eq_getElem?_getD, List.getD_eq_getElem?_getD]
  by_cases h : i < ps.length
  · rw [if_neg (by omega), List.getElem?_append_left h]
  · by_cases e : i = ps.length
    · subst e; simp
    · rw [if_neg e, List.getElem?_eq_none (by simp; omega), List.getElem?_eq_none (by omega)]
theorem pv_snoc (ps : List (Int × Int)) (p : Int × Int) (i : Nat) : pv (ps ++ [p]) i = if i = ps.length then p.2 else pv ps i := by
  unfold pv
  rw [List.getD_eq_getElem?_getD, List.getD_eq_getElem?_getD]
  by_cases h : i < ps.length
  · rw [if_neg (by omega), List.getElem?_append_left h]
  · by_cases e : i = ps.length
    · subst e; simp
    · rw [if_neg e, List.getElem?_eq_none (by simp; omega), List.getElem?_eq_none (by omega)]
theorem cells2_snoc : ∀ (ps : List (Int × Int)) (p : Int × Int), cells2 (ps ++ [p]) = cells2 ps ++ [.int .i64 p.1, .int .i64 p.2]
  | [], p => rfl
  | q :: l, p => by simp [cells2, cells2_snoc l p]

/-- The pairs name neither x nor y. -/
def Avoids (g : List (Int × Int)) (x y : Int) : Prop := ∀ i, i < g.length → pf g i ≠ x ∧ pf g i ≠ y

/-- What some answers. -/
def SomeSays (n : Nat) (x y : Int) (w : World) (e : Ending) (w' : World) : Prop :=
  ∃ v g, e = .returned v ∧ NewPairs w.heap.size w' v g ∧ g.length ≤ 6 ∧ okFacts g n = true ∧ Avoids g x y ∧ Below w.heap.size w w'

/-- Own pairs, and one more. -/
theorem NewPairs.snoc {B C : Nat} {w w' : World} {v v' : Value} {ps : List (Int × Int)} {p : Int × Int} (h : NewPairs C w v ps) (hl : ps.length ≤ 1000) (hp : (-9223372036854775808 ≤ p.1 ∧ p.1 ≤ 9223372036854775807) ∧ -9223372036854775808 ≤ p.2 ∧ p.2 ≤ 9223372036854775807)
    (hown : w'.ownsRow B 52 2 v' (ps.length + 1) (cells2 ps ++ [.int .i64 p.1, .int .i64 p.2])) : NewPairs B w' v' (ps ++ [p]) := by
  refine ⟨by rw [List.length_append, cells2_snoc]; exact hown, fun i => ?_, by rw [List.length_append]; simp; omega⟩
  rw [pf_snoc, pv_snoc]
  split
  · exact hp
  · exact h.wf i

set_option maxHeartbeats 4000000 in
set_option maxRecDepth 100000 in
theorem some_any (P T : List (List Int)) (v : Value) (ps : List (Int × Int)) (ao : Option Addr) (b o cap : Nat) (x y : Int) (w : World) (h : NetAt w v P T) (h1 : 1 ≤ P.length) (h10 : P.length ≤ 10) (hp : PairsAt w ao b o ps) :
    Calls Try.prog 39 #[v, .slice ao ps.length cap, .int .i64 x, .int .i64 y] w (SomeSays P.length x y w) := by
  obtain ⟨pa, pb, po, pc, A, B, O, C, ta, tb, tz, tc, A', B', O', C', rfl, hP, hT⟩ := h.ex
  have hlen := hp.len
  obtain ⟨i0, hi, hz0, hz1, hz2⟩ := info_parts Try.info52
  obtain ⟨wa, hwa⟩ : ∃ wa, w.alloc (.cells #[.slice pa P.length pc, .slice ta T.length tc] 24) = wa := ⟨_, rfl⟩
  have HWA := Lib.hid hwa
  have HBA : Hid (Below w.heap.size w wa) := by rw [← hwa]; exact (Below.refl _ _).alloc (Nat.le_refl _) _
  have HSZ : Hid (w.heap.size + 1 = wa.heap.size) := by rw [← hwa]; show _ = _; simp
  have HBLK : Hid (wa.heap[w.heap.size]? = some (.cells #[.slice pa P.length pc, .slice ta T.length tc] 24 (0, 0))) := by rw [← hwa]; exact heap_alloc_new _ _
  have HP := Lib.hid (hp.below HBA.out (Nat.le_refl _))
  clear hP hT h hp hwa
  go_enter Try.func39, Try.ntmps39
  go_upto_region 1 with fail
  rw [HWA.out]
  go_wp2
  go_loopw [9, 10, 11, 12] (fun v i _ _ wr => ∃ (k : Nat) (g : List (Int × Int)), k ≤ 6 ∧ k ≤ ps.length ∧ i = .int .i64 k ∧ NewPairs wa.heap.size wr v g ∧ g.length ≤ 6 ∧ g.length ≤ k ∧ okFacts g P.length = true ∧ Avoids g x y ∧ Below wa.heap.size wa wr) (fun _ i _ _ _ => 6 - (intOf i).toNat)
  case atStart => exact ⟨0, [], by omega, by omega, rfl, NewPairs.nil _ _, by simp, by simp, by simp [okFacts], fun i hi => by simp at hi, Below.refl _ _⟩
  case round =>
    obtain ⟨k, g, hk6, hk, rfl, hg, hg6, hgk, hok, hav, hb⟩ := hrel
    obtain ⟨wq, rfl⟩ : ∃ x, x = wr := ⟨_, rfl⟩
    obtain ⟨go, gb, gc, rfl, hga, hgc, hgn⟩ := hg.at2
    have HG := Lib.hid hg
    have HOK := Lib.hid hok
    have HAV := Lib.hid hav
    have HB := Lib.hid hb
    have hs := hb.size
    have hsw := HSZ.out
    have HGA := Lib.hid hga
    have HGC := Lib.hid hgc
    have HGN := Lib.hid hgn
    have HSW := Lib.hid hsw
    clear hg hok hav hga hgc hgn hsw
    by_cases hlt : k < ps.length
    · by_cases h6 : k < 6
      · have t6 : decide ((k : Int) < 6) = true := decide_eq_true (by omega)
        have hpq := HP.out.below hb (Nat.le_refl _)
        obtain ⟨rfl, -⟩ := hpq.ptr (by omega)
        have c0 := hpq.cell0 k hlt
        have c1 := hpq.cell1 k hlt
        have hwf := hpq.wf k
        obtain ⟨d0, d1, -, -⟩ := cells_of2 ((hb.block _ (lt_of_block HBLK.out)).trans HBLK.out)
        have hmod : ∀ W, Calls Try.prog 38 #[.int .i64 (pf ps k), .int .i64 (P.length : Int)] W fun e w' => e = .returned (.int .i64 (modI (pf ps k) (P.length : Int))) ∧ w' = W := fun W => mod_any _ _ W hwf.1 (by omega) (by omega)
        have hmod2 : ∀ W, Calls Try.prog 38 #[.int .i64 (pv ps k), .int .i64 2] W fun e w' => e = .returned (.int .i64 (modI (pv ps k) 2)) ∧ W = w' := fun W => (mod_any _ _ W hwf.2 (by omega) (by omega)).mono fun _ _ h => ⟨h.1, h.2.symm⟩
        have hmb := modI_bd (x := pf ps k) (n := (P.length : Int)) (by omega)
        have hmb2 := modI_bd (x := pv ps k) (n := 2) (by omega)
        obtain ⟨a, ha⟩ : ∃ a, pf ps k = a := ⟨_, rfl⟩
        obtain ⟨c, hc⟩ : ∃ c, pv ps k = c := ⟨_, rfl⟩
        rw [ha] at c0 hmod hmb hwf
        rw [hc] at c1 hmod2 hmb2 hwf
        obtain ⟨m, hm⟩ : ∃ m, modI a (P.length : Int) = m := ⟨_, rfl⟩
        obtain ⟨r, hr⟩ : ∃ r, modI c 2 = r := ⟨_, rfl⟩
        rw [hm] at hmod hmb
        rw [hr] at hmod2 hmb2
        have HM1 := Lib.hid hmod
        have HM2 := Lib.hid hmod2
        have C1 := Lib.hid c1
        clear hpq ha hc hm hr hmod hmod2 hwf c1 hb
        go_upto_region 5 with fail
        go_cut [11] from 23 to 31 (fun z wx => z = .int .i64 m ∧ Below wq.heap.size wq wx)
        case first =>
          go_quiet ((go_at_call 38; exact Calls.quiet_of_same (HM1.out _)))
          go_wp2
          go_meet
          exact ⟨rfl, below_drewN (Below.refl _ _) _⟩
        case rest =>
          obtain ⟨rfl, hbc⟩ := hcut
          obtain ⟨wz, rfl⟩ : ∃ x, x = wc := ⟨_, rfl⟩
          have HBZ := Lib.hid hbc
          have hsz := hbc.size
          have HD := Lib.hid (below_dr (Below.refl wz.heap.size wz))
          have HDA := Lib.hid (below_dr ((Below.refl wz.heap.size wz).alloc (Nat.le_refl _) (.cells #[.int .i64 m, .int .i64 r] 52)))
          have HHA : Hid ((wz.alloc (.cells #[.int .i64 m, .int .i64 r] 52)).drew.heap[wz.heap.size]? = some (.cells #[.int .i64 m, .int .i64 r] 52 (0, 0))) := heap_alloc_new wz _
          have HKc := Lib.hid (show ∀ w', Below wz.heap.size wz w' → w'.cell? ⟨b, o + k * 2 + 1, none⟩ = some (.int .i64 c) from fun w' hw => ((hbc.trans (hw.mono hsz)).cell (p := ⟨b, o + k * 2 + 1, none⟩) (World.block_lt_of_cell? _ _ C1.out)).trans C1.out)
          have HCF := Lib.hid (show ∀ W, Below wz.heap.size wz W → Calls Try.prog 21 #[.slice go g.length gc] W fun e w' => ∃ v, e = .returned v ∧ NewPairs W.heap.size w' v g ∧ Below W.heap.size W w' ∧ Below wz.heap.size wz w' from
            fun W hW => (facts_any g go gb 0 gc W (HGA.out.below (hbc.trans (hW.mono hsz)) (Nat.le_refl _)) HGC.out HGN.out).mono fun e w' ⟨v, h1, h2, h3⟩ => ⟨v, h1, by rw [List.take_of_length_le (by omega)] at h2; exact h2, h3, hW.trans (h3.mono hW.size)⟩)
          have HBC := Lib.hid (HB.out.trans (hbc.mono HB.out.size))
          have hwz : wa.heap.size ≤ wz.heap.size := by omega
          clear c0 d0 d1 hbc
          go_upto_region 6 with fail
          go_cut [12] from 32 to 43 (fun z wx => NewPairs wa.heap.size wx z (g ++ [(m, r)]) ∧ Below wz.heap.size wz wx)
          case first =>
            go_region_held3 (fun w' => w'.cell? ⟨b, o + k * 2 + 1, none⟩ = some (.int .i64 c))
              (first | exact HKc.out _ HB3.out | exact HKc.out _ HB1.out | exact HKc.out _ (HB1.out.alloc HB1.out.size _) | exact HKc.out _ HDA.out | exact HKc.out _ HD.out)
              (first
                | (go_simp; go_at_call 21; (with_reducible refine (HCF.out _ HD.out).mono ?_); rintro e w1 ⟨v1, rfl, n1, hb, hb1⟩; have HB1 := Lib.hid hb1; have HN1 := Lib.hid (n1.mono (B' := wz.heap.size) (Nat.le_refl wz.heap.size)); clear hb hb1 n1)
                | (go_simp; go_at_call 38; (with_reducible refine (HM2.out _).mono ?_); rintro e w2 ⟨rfl, rfl⟩)
                | (refine step_append_lies _ (by rfl) _ _ _ (by rfl) wz.heap.size 52 i0 (.agg #[.int .i64 0, .int .i64 0]) 2 16 Try.underlying38 hi hz0 hz1 hz2 rfl (by omega) v1 g.length (cells2 g) (by rfl) (HN1.out.own.alloc _) ⟨w1.heap.size, 0, none⟩ 1 1 [.int .i64 m, .int .i64 r] (by rfl) (by rfl) (World.news_of_block (cs := #[.int .i64 m, .int .i64 r]) (t := 52) (fr := (0, 0)) (heap_alloc_new w1 _)) (by simp [Value.oneCell']) (by omega) (by unfold maxLen; omega) (by omega) (by have := HB1.out.size; simp; omega) (w1.heap.size + 1) (by simp) ?_; intro gg cap w3 hown3 hgrow hat hlt3; have HO3 := Lib.hid hown3; have HB3 := Lib.hid ((HB1.out.alloc HB1.out.size (.cells #[.int .i64 m, .int .i64 r] 52)).grown hgrow (by have := HB1.out.size; simp; omega) (fun q hq => (HN1.out.own.lt q hq).1)); clear hown3 hgrow hat hlt3))
            all_goals (go_wp2_with fail; go_meet)
            all_goals exact ⟨(HN1.out.snoc (by omega) (by constructor <;> constructor <;> simp <;> omega) HO3.out).mono hwz, HB3.out⟩
          case rest =>
            obtain ⟨hn3, hb3⟩ := hcut
            obtain ⟨wy, rfl⟩ : ∃ x, x = wc := ⟨_, rfl⟩
            obtain ⟨g', hg'⟩ : ∃ g', g ++ [(m, r)] = g' := ⟨_, rfl⟩
            rw [hg'] at hn3
            obtain ⟨eo, eb, ec, rfl, he, hec, hen⟩ := hn3.at2
            have hgl : g'.length = g.length + 1 := by rw [← hg', List.length_append]; rfl
            have HGL := Lib.hid hgl
            have hgl2 : g'.length ≤ 1000 := by omega
            have HG' := Lib.hid hg'
            have HN3 := Lib.hid hn3
            have HB3 := Lib.hid hb3
            have HBY := Lib.hid (HBC.out.trans (hb3.mono HBC.out.size))
            have HOld := Lib.hid (HG.out.later (HBZ.out.trans (hb3.mono HBZ.out.size)) (Nat.le_refl _))
            obtain ⟨d0, d1, -, -⟩ := cells_of2 ((HBY.out.block _ (lt_of_block HBLK.out)).trans HBLK.out)
            have hf := refFacts_any g' P.length eo eb 0 ec wy he h10 hgl2
            clear hg' hn3 hb3 he hec hen hgl HM1 HM2 HCF HKc HD HDA HHA
            by_cases e1 : m = x
            · have t1 : (m != x) = false := by rw [e1]; simp
              clear e1 hf
              go_wp2
              go_roundw
              case rel => exact ⟨k + 1, g, by omega, by omega, by go_num, HOld.out, hg6, by omega, HOK.out, HAV.out, HBY.out⟩
              case measure => simp [intOf]; omega
            · have t1 : (m != x) = true := by simpa using e1
              by_cases e2 : m = y
              · have t2 : (m != y) = false := by rw [e2]; simp
                clear e1 e2 hf
                go_wp2
                go_roundw
                case rel => exact ⟨k + 1, g, by omega, by omega, by go_num, HOld.out, hg6, by omega, HOK.out, HAV.out, HBY.out⟩
                case measure => simp [intOf]; omega
              · have t2 : (m != y) = true := by simpa using e2
                have HE := Lib.hid (And.intro e1 e2)
                clear e1 e2
                cases e3 : okFacts g' P.length
                · rw [e3] at hf
                  have HF := Lib.hid hf
                  clear e3 hf
                  go_wp2_with fail
                  refine HF.out.mono ?_
                  rintro e w4 ⟨rfl, hb4⟩
                  have HB4 := Lib.hid hb4
                  clear hb4
                  go_wp2
                  go_roundw
                  case rel => exact ⟨k + 1, g, by omega, by omega, by go_num, HOld.out.later HB4.out (Nat.le_refl _), hg6, by omega, HOK.out, HAV.out, HBY.out.trans (HB4.out.mono HBY.out.size)⟩
                  case measure => simp [intOf]; omega
                · rw [e3] at hf
                  have HF := Lib.hid hf
                  have HOK' := Lib.hid e3
                  clear e3 hf
                  go_wp2_with fail
                  refine HF.out.mono ?_
                  rintro e w4 ⟨rfl, hb4⟩
                  have HB4 := Lib.hid hb4
                  have hl6 : g'.length ≤ 6 := by have := HGL.out; omega
                  have hlk : g'.length ≤ k + 1 := by have := HGL.out; omega
                  clear hb4
                  go_wp2
                  go_roundw
                  case rel =>
                    refine ⟨k + 1, g', by omega, by omega, by go_num, HN3.out.later HB4.out (Nat.le_refl _), hl6, hlk, HOK'.out, fun i hi => ?_, HBY.out.trans (HB4.out.mono HBY.out.size)⟩
                    rw [← HG'.out, pf_snoc]
                    split
                    · exact HE.out
                    · exact HAV.out i (by have := HGL.out; omega)
                  case measure => simp [intOf]; omega
      · go_wp2
        go_ret
        exact ⟨_, g, rfl, HG.out.mono (by have := HSW.out; omega), hg6, HOK.out, HAV.out, HBA.out.trans (HB.out.mono HBA.out.size)⟩
    · go_wp2
      go_ret
      exact ⟨_, g, rfl, HG.out.mono (by have := HSW.out; omega), hg6, HOK.out, HAV.out, HBA.out.trans (HB.out.mono HBA.out.size)⟩

end Go.Proofs.Ytghffnjnpgiicaa
