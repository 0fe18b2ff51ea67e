/- The gain of a rule: the walk. -/
import Derived.Sort.QuietIn
import Derived.Sort.BigQuietIn
import Derived.Test.YthnkmmjelpdamaaD5
namespace Go.Proofs.Ythnkmmjelpdamaa
open Go.RowKit Go.Shelf

attribute [local go_sem] Oper.semAt_some

set_option maxRecDepth 100000 in
set_option maxHeartbeats 4000000 in
theorem gainP_any (L : List (List (Int × Int))) (ao : Option Addr) (b o cap : Nat) (A : Nat → Option Addr) (B O C : Nat → Nat) (w : World) (h : OffsAt w ao b o L A B O C) (hok : okOffs L = true) :
    CallsIn Fence.wide 8 Try.prog 65 #[.slice ao L.length cap, .func (.func 66) #[] #[]] w fun e w' => e = .returned (fracV (gL accP L (dn L.length L.length)).1 (16 ^ L.length)) ∧ Below w.heap.size w w' := by
  have hok' : L.length ≤ 6 ∧ ∀ i, i < L.length → okOff (rowP L i) = true := of_decide_eq_true hok
  have hl6 := hok'.1
  have HOK := Lib.hid hok'.2
  have HBD := Lib.hid (fun pre => gL_bd (acc := accP) hok'.2 pre)
  have HH := Lib.hid h
  have HFR : Hid (∀ W, Calls Try.prog 50 #[.int .i64 (gL accP L (dn L.length L.length)).1, .int .i64 (16 ^ L.length)] W fun e w' => e = .returned (fracV (gL accP L (dn L.length L.length)).1 (16 ^ L.length)) ∧ Below W.heap.size W w') := fun W => by
    have h1 := HBD.out (dn L.length L.length)
    have h2 := pow16_nat hl6
    rw [dn_length] at h1
    exact fraction_any _ _ W (by omega) (by omega) (by omega) (by omega)
  obtain ⟨fa, fb, hf⟩ : ∃ a b, fracV (gL accP L (dn L.length L.length)).1 (16 ^ L.length) = .agg #[.int .i64 a, .int .i64 b] := ⟨_, _, rfl⟩
  rw [hf] at HFR ⊢
  clear hok hok' hf h
  refine callsIn_of_wp_marks Try.func65 rfl trivial ?_ rfl
  simp only [Try.ntmps65, List.size_toArray, List.length_cons, List.length_nil, Nat.reduceAdd, Nat.reduceSub, Array.replicate_succ, Array.replicate_zero, List.push_toArray, List.append_toArray, List.nil_append, List.cons_append]
  gi_wp2_with fail
  obtain ⟨G, hG⟩ : ∃ G, w.heap.size = G := ⟨_, rfl⟩
  obtain ⟨V, hV⟩ : ∃ V : Value, V = .func (.func 66) #[] #[] := ⟨_, rfl⟩
  obtain ⟨wb, hwb⟩ : ∃ wb, (((w.alloc (.cells #[.func (.func 66) #[] #[]] 96)).alloc (.cells #[.int .i64 0, .int .i64 0] 47)).alloc (.cells #[.int .i64 0] 3)).alloc (.cells #[.int .i64 1] 3) = wb := ⟨_, rfl⟩
  have HI : Hid (GnAt w G V 0 1 wb) := by
    rw [← hwb, ← hV, ← hG]
    refine ⟨?_, ?_, ?_, ?_, ?_, by simp⟩
    · rw [Below.heap_alloc _ _ _ (by simp; omega), Below.heap_alloc _ _ _ (by simp; omega), Below.heap_alloc _ _ _ (by simp)]; exact heap_alloc_new w _
    · rw [Below.heap_alloc _ _ _ (by simp), Below.heap_alloc _ _ _ (by simp)]
      have := heap_alloc_new (w.alloc (.cells #[V] 96)) (.cells #[.int .i64 0, .int .i64 0] 47)
      simpa using this
    · rw [Below.heap_alloc _ _ _ (by simp)]
      have := heap_alloc_new ((w.alloc (.cells #[V] 96)).alloc (.cells #[.int .i64 0, .int .i64 0] 47)) (.cells #[.int .i64 0] 3)
      simpa using this
    · have := heap_alloc_new (((w.alloc (.cells #[V] 96)).alloc (.cells #[.int .i64 0, .int .i64 0] 47)).alloc (.cells #[.int .i64 0] 3)) (.cells #[.int .i64 1] 3)
      simpa using this
    · exact ((((Below.refl _ w).alloc (Nat.le_refl _) _).alloc (by simp) _).alloc (by simp; omega) _).alloc (by simp; omega) _
  have hws : wb.heap.size = G + 4 := by rw [← hwb, ← hG]; simp
  rw [hwb, hG]
  clear hwb
  have HV := Lib.hid hV
  have HG := Lib.hid hG
  have HBK := Lib.hid (backward_in Fence.wide 7 trivial rfl _ ao L.length cap rfl wb)
  clear hV hG
  refine ⟨trivial, HBK.out.mono ?_⟩
  rintro e w' ⟨rfl, rfl⟩
  gi_wp2
  obtain ⟨wl, hwl⟩ : ∃ wl, wb.alloc (.cells #[.slice ao L.length cap] 56) = wl := ⟨_, rfl⟩
  have hls : wl.heap.size = G + 4 + 1 := by rw [← hwl, World.size_alloc, hws]
  have HIL : Hid (GnAt w G V 0 1 wl) := by rw [← hwl]; exact HI.out.below ((Below.refl _ _).alloc (Nat.le_refl _) _) (by omega)
  have HBX : Hid (wl.heap[G + 4]? = some (.cells #[.slice ao L.length cap] 56 (0, 0))) := by rw [← hwl, ← hws]; exact heap_alloc_new _ _
  rw [hwl]
  clear hwl HI HBK hws
  obtain ⟨D, hDb, hDG⟩ : ∃ D, (0 < L.length → D = b) ∧ (D < G ∨ D = G + 4) := by
    by_cases h0 : 0 < L.length
    · exact ⟨b, fun _ => rfl, .inl (by rw [← HG.out]; exact (HH.out.ptr h0).2)⟩
    · exact ⟨G + 4, fun q => absurd q h0, .inr rfl⟩
  have HOL := HH.out.below HIL.out.keep (by rw [HG.out]; exact Nat.le_refl _)
  have HPX : Hid (∀ x W', Below G w W' → PairsAt W' (A x) (B x) (O x) (rowP L x)) := fun x W' hb => by
    by_cases hx : x < L.length
    · exact (HH.out.rows x hx).below hb (by rw [HG.out]; exact Nat.le_refl _)
    · rw [rowP_nil (by omega)]; exact pairsAt_nil _ _ _ _
  have HRX : Hid (∀ x, (rowP L x).length ≤ 8 ∧ (∀ i, i < (rowP L x).length → goodP (rowP L x) i) ∧ wsTo (rowP L x) (rowP L x).length ≤ 16) := fun x => by
    by_cases hx : x < L.length
    · have hr : (rowP L x).length ≤ 8 ∧ (∀ i, i < (rowP L x).length → goodP (rowP L x) i) ∧ wsTo (rowP L x) (rowP L x).length = 16 := of_decide_eq_true (HOK.out x hx)
      exact ⟨hr.1, hr.2.1, by omega⟩
    · rw [rowP_nil (by omega)]; simp [wsTo]
  rename_i hKK
  refine wpIn_rangeFunc_ownH rfl (by omega) (gf := 81) (lb := #[.pointer (some ⟨G + 4, 0, none⟩)]) rfl trivial (enters_of Try.func81 (by kernel_rfl) rfl)
    (backward_stops Fence.wide 7 trivial rfl (by omega) D (G + 4) L ao b o cap A B O C wl HOL hDb (by omega) (by omega) HBX.out) Keep2.trans (keep2_put (by omega) (by omega)) (Below.refl _ _) (fun _ => rfl)
    (fun pre W => GnAt w G V (gL accP L pre).1 (gL accP L pre).2 W ∧ G + 4 + 1 ≤ W.heap.size)
    (fun _ _ _ => False)
    (OwnFrom.and (gnAt_own (by omega) _) (fun _ _ _ _ hs hg _ => Nat.le_trans hs hg.size))
    (fun _ _ _ _ _ hs _ _ => hs)
    ⟨HIL.out, by omega⟩
    (fun x a' _ => a' = { tmps := #[.slice ao L.length cap, .func (.func 66) #[] #[], undef, .pointer (some ⟨G, 0, none⟩), .pointer (some ⟨G + 1, 0, none⟩), .pointer (some ⟨G + 1 + 1, 0, none⟩), .pointer (some ⟨G + 1 + 1 + 1, 0, none⟩), undef, .slice (A x) (rowP L x).length (C x), undef, undef, undef, undef, undef, .slice ao L.length cap, .func (.func 81) #[] #[.pointer (some ⟨G + 4, 0, none⟩)], .int .i64 x, .slice (A x) (rowP L x).length (C x), undef, undef, undef, undef, undef, undef, undef, undef, undef, undef, undef, undef, undef, undef, undef, undef, undef, undef, undef, undef, undef, undef, undef, undef, undef, undef, undef, undef, undef, undef, undef, undef, undef, undef], defers := [] })
    (fun _ _ _ _ _ _ hs _ _ => hs)
    ?assign ?body ?done ?stop
  case assign =>
    rintro l pre x W K ⟨hi, hsz⟩ hK
    have HK := Lib.hid hK
    have HI := Lib.hid hi
    clear hK hi
    dsimp only
    unfold offEnc
    gi_wp2
    exact HK.out _ _ (KeepsFrom.refl _ _) (Keep2.refl _ _ _) ⟨HI.out, hsz⟩ rfl
  case body =>
    rintro l pre x a' W hl ⟨r0, hr⟩ ⟨hi, hsz⟩ rfl hlt
    clear hr hl
    obtain ⟨hb0, hb1, hb2⟩ := HBD.out pre
    have HSN := Lib.hid (gL_snoc accP L pre x)
    obtain ⟨la, hla⟩ : ∃ la, (gL accP L pre).1 = la := ⟨_, rfl⟩
    obtain ⟨wh, hwh⟩ : ∃ wh, (gL accP L pre).2 = wh := ⟨_, rfl⟩
    have HST := Lib.hid (show gL accP L (pre ++ [x]) = (offS accP (rowP L x) la wh (rowP L x).length, wh * 16) by
      rw [HSN.out, gStep, hla, hwh])
    rw [hla, hwh] at hi
    rw [hla] at hb0 hb1
    rw [hwh] at hb1 hb2
    have hwb : 1 ≤ wh ∧ wh ≤ 16777216 := by
      have := pow16_nat (show pre.length ≤ 6 by omega)
      omega
    have hw16 : wrap64 (wh * 16) = wh * 16 := IntWalk.wrap64_in _ ⟨by omega, by omega⟩
    have hw16' : IntKind.i64.wrap (wh * 16) = wh * 16 := IntWalk.i64_in _ (by omega)
    have HI := Lib.hid hi
    obtain ⟨hr8, hrg, hrw⟩ := HRX.out x
    have HRG := Lib.hid hrg
    obtain ⟨r, hrr⟩ : ∃ r, rowP L x = r := ⟨_, rfl⟩
    have HPR := Lib.hid (HPX.out x)
    rw [hrr] at hr8 hrw HRG HST HPR ⊢
    have hgs := hi.size
    clear hb2 hla hwh hi hrr hrg HSN HPX HRX
    gi_wp2
    gi_loopw [9, 11, 12, 13, 20] (fun y _ _ _ z wr => ∃ i : Nat, i ≤ r.length ∧ z = .int .i64 i ∧ y = .int .i64 (offS accP r la wh i) ∧ Below W.heap.size W wr) (fun _ _ _ _ z _ => r.length - (intOf z).toNat)
    case atStart => exact ⟨0, Nat.zero_le _, rfl, rfl, Below.refl _ _⟩
    case round =>
      obtain ⟨i, hi, rfl, rfl, hb⟩ := hrel
      obtain ⟨wq, rfl⟩ : ∃ x, x = wr := ⟨_, rfl⟩
      have HB := Lib.hid hb
      have HIq := Lib.hid (HI.out.below hb hgs)
      have hsq := HIq.out.size
      have hbs := hb.size
      clear hb
      by_cases hlr : i < r.length
      · have hp := HPR.out wq HIq.out.keep
        obtain ⟨hA, -⟩ := hp.ptr (by omega)
        have q0 := hp.cell0 i hlr
        have q1 := hp.cell1 i hlr
        obtain ⟨⟨g0, g1⟩, g2, g3⟩ := HRG.out i hlr
        obtain ⟨s0, s1⟩ := offS_bd (acc := accP) hb0 hb1 (by omega) (fun j (hj : j < i) => HRG.out j (by omega))
        have HSS := Lib.hid (show offS accP r la wh (i + 1) = offS accP r la wh i + (if accP (qf r i) la wh = true then qv r i * qf r i * wh else qv r i * la) from rfl)
        have hws : wsTo r i ≤ 16 * i := (wsTo_bd (fun j (hj : j < i) => HRG.out j (by omega))).2
        obtain ⟨s, hs⟩ : ∃ s, offS accP r la wh i = s := ⟨_, rfl⟩
        obtain ⟨X, hX⟩ : ∃ X, qf r i = X := ⟨_, rfl⟩
        obtain ⟨Y, hY⟩ : ∃ Y, qv r i = Y := ⟨_, rfl⟩
        rw [hs] at s0 s1 HSS ⊢
        rw [hX] at q0 g0 g1 HSS
        rw [hY] at q1 g2 g3 HSS
        have hs2 : s ≤ 128 * (1000 * wh) := Int.le_trans s1 (Int.mul_le_mul_of_nonneg_right (by omega) (by omega))
        have m1 : 0 ≤ Y * X ∧ Y * X ≤ 16000 := ⟨Int.mul_nonneg (by omega) g0, by have := Int.mul_le_mul g3 g1 g0 (by omega : (0:Int) ≤ 16); omega⟩
        obtain ⟨YX, hYX⟩ : ∃ z, Y * X = z := ⟨_, rfl⟩
        rw [hYX] at m1 HSS
        have m2 : 0 ≤ YX * wh ∧ YX * wh ≤ 16000 * wh := ⟨Int.mul_nonneg m1.1 (by omega), Int.mul_le_mul_of_nonneg_right m1.2 (by omega)⟩
        have m3 : 0 ≤ Y * la ∧ Y * la ≤ 16 * la := ⟨Int.mul_nonneg (by omega) hb0, Int.mul_le_mul_of_nonneg_right g3 hb0⟩
        obtain ⟨p1, hp1⟩ : ∃ z, YX * wh = z := ⟨_, rfl⟩
        obtain ⟨p2, hp2⟩ : ∃ z, Y * la = z := ⟨_, rfl⟩
        rw [hp1] at m2 HSS
        rw [hp2] at m3 HSS
        have v1 : wrap64 (Y * X) = YX := by rw [hYX]; exact IntWalk.wrap64_in _ ⟨by omega, by omega⟩
        have v2 : wrap64 (YX * wh) = p1 := by rw [hp1]; exact IntWalk.wrap64_in _ ⟨by omega, by omega⟩
        have v3 : wrap64 (Y * la) = p2 := by rw [hp2]; exact IntWalk.wrap64_in _ ⟨by omega, by omega⟩
        have v4 : wrap64 (s + p1) = s + p1 := IntWalk.wrap64_in _ ⟨by omega, by omega⟩
        have v5 : wrap64 (s + p2) = s + p2 := IntWalk.wrap64_in _ ⟨by omega, by omega⟩
        obtain ⟨bb, hbb⟩ : ∃ bb, accP X la wh = bb := ⟨_, rfl⟩
        rw [hbb] at HSS
        obtain ⟨wz, hwz⟩ : ∃ wz, wq.alloc (.cells #[.int .i64 X, .int .i64 Y] 69) = wz := ⟨_, rfl⟩
        have hbz : Below wq.heap.size wq wz := by rw [← hwz]; exact (Below.refl _ _).alloc (Nat.le_refl _) _
        have HBZ := Lib.hid (HB.out.trans (hbz.mono hbs))
        have HIz := Lib.hid (HIq.out.below hbz hsq)
        obtain ⟨c0, c1, -, -⟩ := block_of_cells (show wz.heap[wq.heap.size]? = some (.cells #[.int .i64 X, .int .i64 Y] 69 (0, 0)) by rw [← hwz]; exact heap_alloc_new _ _)
        have HAC := Lib.hid (CallsIn.inRound l (callsIn_wide (n := 5).2 (prophetRule_any X la wh wz.drew (by have := Int.mul_le_mul_of_nonneg_right g1 (show (0:Int) ≤ wh by omega); have := Int.mul_nonneg g0 (show (0:Int) ≤ wh by omega); omega))))
        rw [hbb] at HAC
        have HWZ := Lib.hid hwz
        have hzs := HBZ.out.size
        rw [hA]
        clear hp hA hs hX hY hYX hp1 hp2 hbb hwz hbz s1
        obtain ⟨a0, a1, a2, -, -⟩ := HIz.out.cells
        rw [HV.out] at a0
        have hmx : Try.prog.follows .mixedOrders = true := by kernel_rfl
        gi_wp2
        rw [HWZ.out]
        clear q0 q1
        gi_region
        all_goals (
          gi_wp2_with fail
          refine ⟨trivial, HAC.out.mono ?_⟩
          rintro e w1 ⟨rfl, hb1⟩
          have hbq : Below wz.heap.size wz w1 := (below_dr (Below.refl _ wz)).trans hb1
          have HB1 := Lib.hid (HBZ.out.trans (hbq.mono hzs))
          obtain ⟨-, b1, b2, -, -⟩ := (HIz.out.below hbq HIz.out.size).cells
          clear hb1 hbq a0 a1 a2 c0 c1
          cases bb
          all_goals (
            gi_wp2
            go_roundw
            case rel => exact ⟨i + 1, by omega, by go_num, by rw [HSS.out]; simp, HB1.out⟩
            case measure => simp [intOf]; omega))
      · obtain rfl : i = r.length := by omega
        obtain ⟨-, b1, b2, f1, f2⟩ := HIq.out.cells
        have hmx : Try.prog.follows .mixedOrders = true := by kernel_rfl
        obtain ⟨w2, hw2⟩ : ∃ w2, ((wq.setCell ⟨G + 1 + 1, 0, none⟩ (.int .i64 (offS accP r la wh r.length))).setCell ⟨G + 1 + 1 + 1, 0, none⟩ (.int .i64 (wh * 16))).drew = w2 := ⟨_, rfl⟩
        have HKF : Hid (KeepsFrom wl.heap.size W w2) := by
          rw [← hw2]
          exact (KeepsFrom.of_grownBy (B := wl.heap.size) (below_grown' HB.out) (fun j e => by cases e)).trans ((((KeepsOthers.setCell _ _ _).trans (KeepsOthers.setCell _ _ _)).trans (KeepsOthers.drew _)).from _)
        have HKP : Hid (Keep2 D (G + 4) W w2) := by
          rw [← hw2]
          refine ⟨?_, ?_, ?_⟩
          · show ((wq.setCell ⟨G + 1 + 1, 0, none⟩ _).setCell ⟨G + 1 + 1 + 1, 0, none⟩ _).heap[D]? = _
            rw [heap_setCell_other _ _ _ _ (by show D ≠ G + 1 + 1 + 1; omega), heap_setCell_other _ _ _ _ (by show D ≠ G + 1 + 1; omega)]
            exact HB.out.block D (by omega)
          · show ((wq.setCell ⟨G + 1 + 1, 0, none⟩ _).setCell ⟨G + 1 + 1 + 1, 0, none⟩ _).heap[G + 4]? = _
            rw [heap_setCell_other _ _ _ _ (by show G + 4 ≠ G + 1 + 1 + 1; omega), heap_setCell_other _ _ _ _ (by show G + 4 ≠ G + 1 + 1; omega)]
            exact HB.out.block (G + 4) (by omega)
          · show W.heap.size ≤ ((wq.setCell ⟨G + 1 + 1, 0, none⟩ _).setCell ⟨G + 1 + 1 + 1, 0, none⟩ _).heap.size
            simpa using hbs
        have HGN : Hid (GnAt w G V (offS accP r la wh r.length) (wh * 16) w2) := by
          rw [← hw2]
          exact (HIq.out.set _ _).below (below_dr (Below.refl _ _)) (by simpa using hsq)
        have hs2 : G + 4 + 1 ≤ w2.heap.size := Nat.le_trans hsz HKP.out.2.2
        have HW2 := Lib.hid hw2
        clear hw2
        gi_wp2
        gi_region
        all_goals (
          gi_wp2
          rw [HW2.out]
          exact ⟨HKF.out, HKP.out, by rw [HST.out]; exact HGN.out, hs2⟩)
  case done =>
    rintro D' zs W hD' rfl ⟨hi, -⟩ hK
    simp only [Exit.inBlock, Exit.then]
    refine hKK _ _ ?_
    rw [wpIn_wide]
    have hpw := (HBD.out (dn L.length L.length)).2.2
    rw [dn_length] at hpw
    rw [hpw] at hi
    obtain ⟨-, b1, b2, -, -⟩ := hi.cells
    have HI9 := Lib.hid hi
    have HK9 := Lib.hid hK
    have hgs := hi.size
    clear hi hK hpw
    go_wp2_with fail
    refine (HFR.out _).mono ?_
    rintro e w6 ⟨rfl, hb6⟩
    have HI6 := Lib.hid (HI9.out.below hb6 hgs)
    have HK6 := Lib.hid ((hb6.block D' (Array.getElem?_eq_some_iff.1 HK9.out).1).trans HK9.out)
    clear hb6 b1 b2
    obtain ⟨c0, c1, f0, f1⟩ := block_of_cells HI6.out.res
    go_wp2
    have hK4 : ((w6.setCell ⟨G + 1, 0, none⟩ (.int .i64 fa)).setCell ⟨G + 1, 1, none⟩ (.int .i64 fb)).heap[D']? = some (.deferred (some [])) := by
      rw [heap_setCell_other _ _ _ _ (by show D' ≠ G + 1; omega), heap_setCell_other _ _ _ _ (by show D' ≠ G + 1; omega)]; exact HK6.out
    have hR5 : (((w6.setCell ⟨G + 1, 0, none⟩ (.int .i64 fa)).setCell ⟨G + 1, 1, none⟩ (.int .i64 fb)).putObj D' (.deferred none)).heap[G + 1]? = some (.cells #[.int .i64 fa, .int .i64 fb] 47 (0, 0)) := by
      rw [World.putObj_heap_other (by omega), heap_setCell_same _ _ _ _ _ _ (heap_setCell_same _ _ _ _ _ _ HI6.out.res)]; rfl
    obtain ⟨g0, g1, -, -⟩ := block_of_cells hR5
    refine ⟨by simp, .inl ⟨_, _, rfl, run_takeDeferred hK4, ?_⟩⟩
    refine ⟨.agg #[.int .i64 fa, .int .i64 fb], ?_, rfl, ?_⟩
    · simp [results, Try.results65, Result.andThen, asAddr, Act.put, go_sem, g0, g1]
    · have hb1 := (HI6.out.keep.setCell (p := ⟨G + 1, 0, none⟩) (by show G ≤ G + 1; omega) (.int .i64 fa)).setCell (p := ⟨G + 1, 1, none⟩) (by show G ≤ G + 1; omega) (.int .i64 fb)
      rw [HG.out]
      exact hb1.trans ((Below.refl G _).grown (grownBy_putObj' _ D' (.deferred none)) (by have := HI6.out.size; simp; omega) (fun k e => by cases e; omega))
  case stop =>
    rintro D' c pre W _ _ h _
    exact h.elim

end Go.Proofs.Ythnkmmjelpdamaa
