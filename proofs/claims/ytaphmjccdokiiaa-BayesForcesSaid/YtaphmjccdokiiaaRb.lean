/- The reference's Force. -/
import Derived.Test.YtaphmjccdokiiaaQb
namespace Go.Proofs.Ytaphmjccdokiiaa
open Go.RowKit

theorem own_slice' {B n : Nat} {w : World} {e : TypeId} {v : Value} {vs : List Value} (h : w.ownsRow B e 1 v n vs) (hp : 0 < n) : ∃ g cap, v = .slice (some ⟨g, 0, none⟩) n cap ∧ B ≤ g := by
  rcases h.2 with ⟨_, h2⟩ | ⟨g, cap, cur, h1, h2, h3⟩
  · omega
  · exact ⟨g, cap, h1, h2⟩

set_option maxHeartbeats 4000000 in
set_option maxRecDepth 100000 in
theorem refForce_any (P T : List (List Int)) (pa : Option Addr) (pb po pc : Nat) (A : Nat → Option Addr) (B O C : Nat → Nat) (ta : Option Addr) (tb tz tc : Nat) (A' : Nat → Option Addr) (B' O' C' : Nat → Nat) (x : Nat) (val : Int) (w : World)
    (hP : RowsAt w pa pb po P A B O C) (hT : RowsAt w ta tb tz T A' B' O' C') (cP : CapsOk P A C) (cT : CapsOk T A' C') (hn : IsNet P T) (hx : x < P.length) (hv : val = 0 ∨ val = 1) :
    Calls Try.prog 36 #[.agg #[.slice pa P.length pc, .slice ta T.length tc], .int .i64 x, .int .i64 val] w fun e w' =>
      (∃ v1 v2, e = .returned (.agg #[v1, v2]) ∧ NewRows w.heap.size w' v1 (P.set x []) ∧ NewRows w.heap.size w' v2 (T.set x [16 * val])) ∧ Below w.heap.size w w' := by
  have HN := Lib.hid hn
  have HP := Lib.hid hP
  have HT := Lib.hid hT
  have CP := Lib.hid cP
  have CT := Lib.hid cT
  have h10 := hn.le
  have htab := hn.tab
  have HTAB := Lib.hid htab
  have hv0 : 0 ≤ val := by omega
  have hv1 : val ≤ 1 := by omega
  obtain ⟨i0, hi, hz0, hz1, hz2⟩ := info_parts Try.info25
  obtain ⟨j0, hj, jz0, jz1, jz2⟩ := info_parts Try.info3
  have hl1 : (P.set x []).length = P.length := List.length_set
  have hl2 : (T.set x [16 * val]).length = P.length := by rw [List.length_set]; exact htab
  have HL1 := Lib.hid hl1
  have HL2 := Lib.hid hl2
  clear hP hT cP cT hn htab hl1 hl2
  go_enter Try.func36, Try.ntmps36
  go_wp2
  go_loopw [8, 9, 10, 11, 12] (fun i _ _ _ _ wr => ∃ (k : Nat) (v1 v2 : Value), k ≤ P.length ∧ i = .int .i64 k ∧ Below w.heap.size w wr ∧ Two (w.heap.size + 3) wr v1 v2 ((P.set x []).take k) ((T.set x [16 * val]).take k) ∧
    wr.heap[w.heap.size]? = some (.cells #[.slice pa P.length pc, .slice ta T.length tc] 24 (0, 0)) ∧ wr.heap[w.heap.size + 1]? = some (.cells #[.slice none 0 0, .slice none 0 0] 24 (0, 0)) ∧ wr.heap[w.heap.size + 2]? = some (.cells #[v1, v2] 24 (0, 0))) (fun i _ _ _ _ _ => P.length - (intOf i).toNat)
  case atStart => exact ⟨0, _, _, by omega, rfl, (((Below.refl _ _).alloc (Nat.le_refl _) _).alloc (by simp) _).alloc (by simp; omega) _, Two.nil _ _, rfl3 _ _ _ _, rfl4 _ _ _ _, rfl5 _ _ _ _⟩
  case round =>
    obtain ⟨k, v1, v2, hk, rfl, hb, htw, h0, h1, h2⟩ := hrel
    have HB := Lib.hid hb
    have HTW := Lib.hid htw
    have H0 := Lib.hid h0
    have H1 := Lib.hid h1
    have H2 := Lib.hid h2
    obtain ⟨c0, c1, -, -⟩ := cells_of2 h0
    have hs2 := lt_of_block h2
    clear hb htw h0 h1 h2
    by_cases hlt : k < P.length
    · have hlP1 : ((P.set x []).take k).length = k := by rw [List.length_take, HL1.out]; omega
      have hlT1 : ((T.set x [16 * val]).take k).length = k := by rw [List.length_take, HL2.out]; omega
      have hone : ∀ z : World, z = z := fun z => rfl
      by_cases hkx : k = x
      · have hq : ((k : Int) == (x : Int)) = true := by rw [beq_iff_eq]; omega
        obtain ⟨PK, hPK⟩ : ∃ PK, row (P.set x []) k = PK := ⟨_, rfl⟩
        obtain ⟨TK, hTK⟩ : ∃ TK, row (T.set x [16 * val]) k = TK := ⟨_, rfl⟩
        have HPK := Lib.hid hPK
        have HTK := Lib.hid hTK
        have hpk : PK = [] := by rw [← hPK, row_set hx, if_pos hkx]
        have htk : TK = [16 * val] := by rw [← hTK, row_set (by rw [HTAB.out]; exact hx), if_pos hkx]
        have HPE := Lib.hid hpk
        have HTE := Lib.hid htk
        clear hPK hTK hpk htk hkx
        have ho := own_nil (wr.alloc (.cells #[.int .i64 (16 * val)] 3)) (w.heap.size + 3)
        have HO := Lib.hid ho
        clear ho
        go_wp2_with (at_builtin; (refine wpList_append_own _ rfl (.tmp 23) (.tmp 26) 25 rfl (w.heap.size + 3) 3 j0 (.int .i64 0) 1 8 Try.underlying25 hj jz0 jz1 jz2 rfl (by decide) _ 0 [] rfl HO.out ⟨wr.heap.size, 0, none⟩ 1 1 [.int .i64 (16 * val)] rfl rfl (cell_one_new _ _ _) (by simp [Value.oneCell']) ?c1 ?c2 ?c3 ?_))
        case c1 => unfold maxLen; omega

        case c3 => first | omega | (simp; omega)
        intro u' WQ hown hg _
        obtain ⟨gs, sc, rfl, -⟩ := own_slice' hown (by omega)
        have HBQ : Hid (Below w.heap.size w WQ) := (HB.out.alloc HB.out.size _).grown hg (by have := HB.out.size; simp; omega) (fun r hr => by simp [Value.ownBlock] at hr)
        have hkeep : ∀ g, g < wr.heap.size → WQ.heap[g]? = wr.heap[g]? := fun g hg' => by
          rw [hg.block g (by simp; omega) (by simp [Value.ownBlock]), Below.heap_alloc _ _ _ (by omega)]
        have KB0 := Lib.hid ((hkeep _ (by omega)).trans H0.out)
        have KB1 := Lib.hid ((hkeep _ (by omega)).trans H1.out)
        have KB2 := Lib.hid ((hkeep _ (by omega)).trans H2.out)
        have HTWQ := Lib.hid (HTW.out.blocks (fun g _ h => hkeep g h))
        have HUP : Hid (NewInts (w.heap.size + 3) WQ (.slice none 0 0) PK) := by rw [HPE.out]; exact NewInts.nil _ _
        have HUT : Hid (NewInts (w.heap.size + 3) WQ (.slice (some ⟨gs, 0, none⟩) 1 sc) TK) := by
          rw [HTE.out]
          exact ⟨by simpa using hown, fun i => by
            match i with
            | 0 => simp [nth]; omega
            | i + 1 => simp [nth], by simp⟩
        have HSQ := hg.size
        clear hown hg hkeep HB HTW H0 H1 H2 c0 c1
        have hd := cells_of2 KB2.out
        obtain ⟨d0, d1, f0, f1⟩ := hd
        go_wp2
        go_quiet (fail)
        obtain ⟨wz, hwz⟩ : ∃ wz, WQ.drewN nq = wz := ⟨_, rfl⟩
        have HBZ : Hid (Below w.heap.size w wz) := by rw [← hwz]; exact below_drewN HBQ.out _
        have htwo : Two (w.heap.size + 3) wz v1 v2 ((P.set x []).take k) ((T.set x [16 * val]).take k) := by rw [← hwz]; exact HTWQ.out.below (below_drewN (Below.refl _ _) _) (Nat.le_refl _)
        have hup : NewInts (w.heap.size + 3) wz (.slice none 0 0) PK := by rw [← hwz]; exact HUP.out.below (below_drewN (Below.refl _ _) _) (Nat.le_refl _)
        have hut : NewInts (w.heap.size + 3) wz (.slice (some ⟨gs, 0, none⟩) 1 sc) TK := by rw [← hwz]; exact HUT.out.below (below_drewN (Below.refl _ _) _) (Nat.le_refl _)
        have hzz : wz.heap = WQ.heap := by rw [← hwz]; rfl
        have kb0 := KB0.out
        rw [← hzz] at kb0
        have kb1 := KB1.out
        rw [← hzz] at kb1
        have kb2 := KB2.out
        rw [← hzz] at kb2
        have hszz : w.heap.size + 3 ≤ wz.heap.size := by have := lt_of_block kb2; omega
        rw [hwz]
        have HTZ := Lib.hid htwo
        have HUPZ := Lib.hid hup
        have HUTZ := Lib.hid hut
        have Z0 := Lib.hid kb0
        have Z1 := Lib.hid kb1
        have Z2 := Lib.hid kb2
        clear hwz hzz htwo hup hut kb0 kb1 kb2 d0 d1 f0 f1 HUP HUT HTWQ KB0 KB1 KB2 HBQ
        obtain ⟨vs, e1, e2, e3⟩ := HTZ.out.one.ex
        have E1 := Lib.hid e1
        have E2 := Lib.hid e2
        have E3 := Lib.hid e3
        obtain ⟨d0, d1, f0, f1⟩ := cells_of2 (((Below.heap_alloc wz (.cells #[.slice none 0 0] 25) (w.heap.size + 2) (by omega))).trans Z2.out)
        have e1' := e1
        rw [hlP1] at e1'
        have E1' := Lib.hid (e1'.alloc (.cells #[.slice none 0 0] 25))
        clear e1 e2 e3 e1'
        go_wp2_with (at_builtin; refine wpList_append_own_at _ rfl (.tmp 46) (.tmp 48) 22 rfl (w.heap.size + 3) 25 i0 (.slice none 0 0) 1 24 Try.underlying22 hi hz0 hz1 hz2 rfl (by decide) v1 k vs rfl E1'.out ⟨wz.heap.size, 0, none⟩ 1 1 [.slice none 0 0] rfl rfl (cell_one_new _ _ _) (by simp [oneCell_slice]) ?r1_3 ?r1_4 ?r1_5 ?_)
        case r1_3 => unfold maxLen; omega
        case r1_4 => omega
        case r1_5 => first | omega | (simp; omega)
        intro v1' w2 hown hg hnl hat
        have hsz2 : wz.heap.size < w2.heap.size := by have := hg.size; simp at this; omega
        have htw2 := (HTZ.out.below ((Below.refl _ _).alloc (Nat.le_refl _) (.cells #[.slice none 0 0] 25)) (Nat.le_refl _)).first (E1.out.alloc _) (fun j hj => let ⟨u, q1, q2⟩ := E2.out j hj; ⟨u, q1, q2.below ((Below.refl _ _).alloc (Nat.le_refl _) _) (Nat.le_refl _)⟩) E3.out (HUPZ.out.below ((Below.refl _ _).alloc (Nat.le_refl _) _) (Nat.le_refl _)) (by rw [hlP1]; exact hown) hg (by rw [World.size_alloc]; exact hat)
        have hkeep : ∀ g, g < w.heap.size + 3 → w2.heap[g]? = wz.heap[g]? := fun g hg' => by
          rw [hg.block g (by simp; omega) (fun e => by have := (E1.out.lt g e.symm).1; omega), Below.heap_alloc _ _ _ (by omega)]
        obtain ⟨ga, ca, rfl, -⟩ := own_slice' hown (by omega)
        have k0 := (hkeep _ (by omega)).trans Z0.out
        have k1 := (hkeep _ (by omega)).trans Z1.out
        have k2 := (hkeep _ (by omega)).trans Z2.out
        have hut2 : NewInts (w.heap.size + 3) w2 (.slice (some ⟨gs, 0, none⟩) 1 sc) TK := (HUTZ.out.below ((Below.refl _ _).alloc (Nat.le_refl _) _) (Nat.le_refl _)).kept hg (own_apart HUTZ.out E1.out)
        have HB2 : Hid (Below w.heap.size w w2) := (HBZ.out.alloc HBZ.out.size _).grown hg (by have := HBZ.out.size; simp; omega) (fun r hr => by have := (E1.out.lt r hr).1; omega)
        obtain ⟨W3, hW3⟩ : ∃ W3, w2.setCell ⟨w.heap.size + 2, 0, none⟩ (.slice (some ⟨ga, 0, none⟩) (k + 1) ca) = W3 := ⟨_, rfl⟩
        have HW3 := Lib.hid hW3
        have hs3 : W3.heap.size = w2.heap.size := by rw [← hW3]; simp
        have HTW3 : Hid (Two (w.heap.size + 3) W3 (.slice (some ⟨ga, 0, none⟩) (k + 1) ca) v2 ((P.set x []).take k ++ [PK]) ((T.set x [16 * val]).take k)) := by rw [← hW3]; exact htw2.blocks (fun g h1 h2 => heap_setCell_other _ _ _ _ (by show g ≠ w.heap.size + 2; omega))
        have HUT3 : Hid (NewInts (w.heap.size + 3) W3 (.slice (some ⟨gs, 0, none⟩) 1 sc) TK) := by rw [← hW3]; exact hut2.blocks (fun g h1 h2 => heap_setCell_other _ _ _ _ (by show g ≠ w.heap.size + 2; omega))
        have HB3 : Hid (Below w.heap.size w W3) := by rw [← hW3]; exact HB2.out.setCell (by show w.heap.size ≤ w.heap.size + 2; omega) _
        have Y0 := Lib.hid ((show W3.heap[w.heap.size]? = w2.heap[w.heap.size]? by rw [← hW3, heap_setCell_other _ _ _ _ (by show w.heap.size ≠ w.heap.size + 2; omega)]).trans k0)
        have Y1 := Lib.hid ((show W3.heap[w.heap.size + 1]? = w2.heap[w.heap.size + 1]? by rw [← hW3, heap_setCell_other _ _ _ _ (by show w.heap.size + 1 ≠ w.heap.size + 2; omega)]).trans k1)
        have Y2 : Hid (W3.heap[w.heap.size + 2]? = some (.cells #[.slice (some ⟨ga, 0, none⟩) (k + 1) ca, v2] 24 (0, 0))) := by rw [← hW3]; exact heap_setCell_same _ _ 0 _ _ _ k2
        obtain ⟨d0, d1, f0, f1⟩ := cells_of2 k2
        obtain ⟨ws, e1, e2, e3⟩ := HTW3.out.two.ex
        have F1 := Lib.hid e1
        have F2 := Lib.hid e2
        have F3 := Lib.hid e3
        have e1' := e1
        rw [hlT1] at e1'
        have e1'' := e1'.alloc (.cells #[.slice (some ⟨gs, 0, none⟩) 1 sc] 25)
        have hnc := cell_one_new W3 (.slice (some ⟨gs, 0, none⟩) 1 sc) 25
        rw [hs3] at hnc
        rw [← hW3] at e1'' hnc
        have F1' := Lib.hid e1''
        have HNC := Lib.hid hnc
        have hs4 : w.heap.size + 3 ≤ w2.heap.size := by omega
        clear hown hg hnl hat htw2 hkeep k0 k1 k2 hut2 hW3 E1 E2 E3 E1' HTZ HUPZ HUTZ HBZ e1 e2 e3 e1' e1'' hnc
        go_wp2_with (at_builtin; refine wpList_append_own_at _ rfl (.tmp 51) (.tmp 53) 22 rfl (w.heap.size + 3) 25 i0 (.slice none 0 0) 1 24 Try.underlying22 hi hz0 hz1 hz2 rfl (by decide) v2 k ws rfl F1'.out ⟨w2.heap.size, 0, none⟩ 1 1 [.slice (some ⟨gs, 0, none⟩) 1 sc] rfl rfl HNC.out (by simp [oneCell_slice]) ?r1_6 ?r1_7 ?r1_8 ?_)
        case r1_6 => unfold maxLen; omega
        case r1_7 => omega
        case r1_8 => first | omega | (simp; omega)
        intro v2' w4 hown hg hnl hat
        have hW3 := HW3.out
        rw [hW3] at hg
        have htw4 := (HTW3.out.below ((Below.refl _ _).alloc (Nat.le_refl _) (.cells #[.slice (some ⟨gs, 0, none⟩) 1 sc] 25)) (Nat.le_refl _)).second (F1.out.alloc _) (fun j hj => let ⟨u, q1, q2⟩ := F2.out j hj; ⟨u, q1, q2.below ((Below.refl _ _).alloc (Nat.le_refl _) _) (Nat.le_refl _)⟩) F3.out (HUT3.out.below ((Below.refl _ _).alloc (Nat.le_refl _) _) (Nat.le_refl _)) (by rw [hlT1]; exact hown) hg (by rw [World.size_alloc, hs3]; exact hat)
        have hkeep : ∀ g, g < w.heap.size + 3 → w4.heap[g]? = W3.heap[g]? := fun g hg' => by
          rw [hg.block g (by simp; omega) (fun e => by have := (F1.out.lt g e.symm).1; omega), Below.heap_alloc _ _ _ (by omega)]
        obtain ⟨gb, cb, rfl, -⟩ := own_slice' hown (by omega)
        have k0 := (hkeep _ (by omega)).trans Y0.out
        have k1 := (hkeep _ (by omega)).trans Y1.out
        have k2 := (hkeep _ (by omega)).trans Y2.out
        have HB4 : Hid (Below w.heap.size w w4) := (HB3.out.alloc HB3.out.size _).grown hg (by have := HB3.out.size; simp; omega) (fun r hr => by have := (F1.out.lt r hr).1; omega)
        have HTW4 := Lib.hid htw4
        have X0 := Lib.hid k0
        have X1 := Lib.hid k1
        have X2 := Lib.hid k2
        obtain ⟨d0, d1, f0, f1⟩ := cells_of2 k2
        have hl4 := lt_of_block k2
        clear hown hg hnl hat htw4 hkeep k0 k1 k2 hW3 F1 F2 F3 F1' HNC HTW3 HUT3 HB3 Y0 Y1 Y2 HW3
        go_wp2
        go_roundw
        case rel =>
          refine ⟨k + 1, .slice (some ⟨ga, 0, none⟩) (k + 1) ca, .slice (some ⟨gb, 0, none⟩) (k + 1) cb, by omega, by go_num, HB4.out.setCell (by show w.heap.size ≤ w.heap.size + 1 + 1; omega) _, ?_, ?_, ?_, ?_⟩
          · rw [take_next (by rw [HL1.out]; exact hlt), take_next (by rw [HL2.out]; exact hlt), HPK.out, HTK.out]
            exact HTW4.out.blocks (fun g h1 h2 => heap_setCell_other _ _ _ _ (by show g ≠ w.heap.size + 1 + 1; omega))
          · rw [heap_setCell_other _ _ _ _ (by show w.heap.size ≠ w.heap.size + 1 + 1; omega)]; exact X0.out
          · rw [heap_setCell_other _ _ _ _ (by show w.heap.size + 1 ≠ w.heap.size + 1 + 1; omega)]; exact X1.out
          · exact heap_setCell_same _ _ 1 _ _ _ X2.out
        case measure => simp [intOf]; omega
      · obtain ⟨PK, hPK⟩ : ∃ PK, row (P.set x []) k = PK := ⟨_, rfl⟩
        obtain ⟨TK, hTK⟩ : ∃ TK, row (T.set x [16 * val]) k = TK := ⟨_, rfl⟩
        have HPK := Lib.hid hPK
        have HTK := Lib.hid hTK
        have hpk : row P k = PK := by rw [← hPK, row_set hx, if_neg hkx]
        have htk : row T k = TK := by rw [← hTK, row_set (by rw [HTAB.out]; exact hx), if_neg hkx]
        have hq : ((k : Int) == (x : Int)) = false := by rw [beq_eq_false_iff_ne]; omega
        have hPw := HP.out.below HB.out (Nat.le_refl _)
        have hTw := HT.out.below HB.out (Nat.le_refl _)
        have hkT : k < T.length := by rw [HTAB.out]; exact hlt
        obtain ⟨rfl, -⟩ := hPw.ptr (by omega)
        obtain ⟨rfl, -⟩ := hTw.ptr (by omega)
        have r0 := hPw.cell k hlt
        have r1 := hTw.cell k hkT
        have q0 := hPw.rows k hlt
        have i1 := hTw.rows k hkT
        have cp := CP.out k hlt
        have hlt3 := (HN.out.par k hlt).1
        have hltt := (HN.out.ok k hlt).1
        rw [hpk] at r0 q0 cp hlt3 hltt
        rw [htk] at r1 i1 hltt
        have hltT : 1 ≤ TK.length ∧ TK.length ≤ 8 := by
          have h3 : 2 ^ PK.length ≤ 2 ^ 3 := Nat.pow_le_pow_right (by omega) hlt3
          have h4 : 1 ≤ 2 ^ PK.length := Nat.one_le_two_pow
          omega
        have hT1 := hltT.1
        have hT8 := hltT.2
        obtain ⟨hA', -⟩ := i1.ptr (by omega)
        rw [hA'] at r1 i1
        have HI1 := Lib.hid i1
        clear hPK hTK hpk htk hkx hPw hTw hA' hltT hltt
        cases hAk : A k with
        | none =>
          have hpe : PK = [] := by
            cases hpp : PK with
            | nil => rfl
            | cons a l => rw [hAk, hpp] at q0; exact absurd (q0.ptr (by simp)).1 (by simp)
          have hc0 := cp.2 hAk
          rw [hAk, hpe, hc0] at r0
          have HPE := Lib.hid hpe
          have HO := Lib.hid (own_nil wr (w.heap.size + 3))
          have HNW := Lib.hid (news_whole i1)
          clear hpe hc0 hAk q0 cp i1
          go_wp2_with (first
            | (at_builtin; (refine wpList_append_own_none rfl (.tmp 28) (.tmp 33) 25 rfl (w.heap.size + 3) 3 j0 1 Try.underlying25 hj _ 0 [] rfl HO.out rfl ?_))
            | (at_builtin; (refine wpList_append_own _ rfl (.tmp 35) (.tmp 40) 25 rfl (w.heap.size + 3) 3 j0 (.int .i64 0) 1 8 Try.underlying25 hj jz0 jz1 jz2 rfl (by decide) _ 0 [] rfl HO.out ⟨B' k, O' k, none⟩ TK.length (C' k) (TK.map (Value.int .i64)) rfl ?a1 HNW.out (oneCell_ints _) ?a2 ?a3 ?a4 ?_)))
          case a2 => unfold maxLen; omega
          case a3 => omega
          case a4 => omega
          intro u' WQ hown hg _
          have hut : NewInts (w.heap.size + 3) WQ u' TK := ⟨by simpa using hown, HI1.out.wf, HI1.out.len⟩
          obtain ⟨so, sb, sc, rfl, -, -⟩ := hut.at
          have HBQ : Hid (Below w.heap.size w WQ) := HB.out.grown hg HB.out.size (fun r hr => by simp [Value.ownBlock] at hr)
          have hkeep : ∀ g, g < wr.heap.size → WQ.heap[g]? = wr.heap[g]? := fun g hg' => hg.block g hg' (by simp [Value.ownBlock])
          have KB0 := Lib.hid ((hkeep _ (by omega)).trans H0.out)
          have KB1 := Lib.hid ((hkeep _ (by omega)).trans H1.out)
          have KB2 := Lib.hid ((hkeep _ (by omega)).trans H2.out)
          have HTWQ := Lib.hid (HTW.out.blocks (fun g _ h => hkeep g h))
          have HUP : Hid (NewInts (w.heap.size + 3) WQ (.slice none 0 0) PK) := by rw [HPE.out]; exact NewInts.nil _ _
          have HUT := Lib.hid hut
          have HSQ := hg.size
          clear hown hg hkeep hut HB HTW H0 H1 H2 c0 c1 r0 r1 HI1 HNW HO
          have hd := cells_of2 KB2.out
          obtain ⟨d0, d1, f0, f1⟩ := hd
          go_wp2
          go_quiet (fail)
          obtain ⟨wz, hwz⟩ : ∃ wz, WQ.drewN nq = wz := ⟨_, rfl⟩
          have HBZ : Hid (Below w.heap.size w wz) := by rw [← hwz]; exact below_drewN HBQ.out _
          have htwo : Two (w.heap.size + 3) wz v1 v2 ((P.set x []).take k) ((T.set x [16 * val]).take k) := by rw [← hwz]; exact HTWQ.out.below (below_drewN (Below.refl _ _) _) (Nat.le_refl _)
          have hup : NewInts (w.heap.size + 3) wz (.slice none 0 0) PK := by rw [← hwz]; exact HUP.out.below (below_drewN (Below.refl _ _) _) (Nat.le_refl _)
          have hut : NewInts (w.heap.size + 3) wz (.slice so TK.length sc) TK := by rw [← hwz]; exact HUT.out.below (below_drewN (Below.refl _ _) _) (Nat.le_refl _)
          have hzz : wz.heap = WQ.heap := by rw [← hwz]; rfl
          have kb0 := KB0.out
          rw [← hzz] at kb0
          have kb1 := KB1.out
          rw [← hzz] at kb1
          have kb2 := KB2.out
          rw [← hzz] at kb2
          have hszz : w.heap.size + 3 ≤ wz.heap.size := by have := lt_of_block kb2; omega
          rw [hwz]
          have HTZ := Lib.hid htwo
          have HUPZ := Lib.hid hup
          have HUTZ := Lib.hid hut
          have Z0 := Lib.hid kb0
          have Z1 := Lib.hid kb1
          have Z2 := Lib.hid kb2
          clear hwz hzz htwo hup hut kb0 kb1 kb2 d0 d1 f0 f1 HUP HUT HTWQ KB0 KB1 KB2 HBQ
          obtain ⟨vs, e1, e2, e3⟩ := HTZ.out.one.ex
          have E1 := Lib.hid e1
          have E2 := Lib.hid e2
          have E3 := Lib.hid e3
          obtain ⟨d0, d1, f0, f1⟩ := cells_of2 (((Below.heap_alloc wz (.cells #[.slice none 0 0] 25) (w.heap.size + 2) (by omega))).trans Z2.out)
          have e1' := e1
          rw [hlP1] at e1'
          have E1' := Lib.hid (e1'.alloc (.cells #[.slice none 0 0] 25))
          clear e1 e2 e3 e1'
          go_wp2_with (at_builtin; refine wpList_append_own_at _ rfl (.tmp 46) (.tmp 48) 22 rfl (w.heap.size + 3) 25 i0 (.slice none 0 0) 1 24 Try.underlying22 hi hz0 hz1 hz2 rfl (by decide) v1 k vs rfl E1'.out ⟨wz.heap.size, 0, none⟩ 1 1 [.slice none 0 0] rfl rfl (cell_one_new _ _ _) (by simp [oneCell_slice]) ?r2_3 ?r2_4 ?r2_5 ?_)
          case r2_3 => unfold maxLen; omega
          case r2_4 => omega
          case r2_5 => first | omega | (simp; omega)
          intro v1' w2 hown hg hnl hat
          have hsz2 : wz.heap.size < w2.heap.size := by have := hg.size; simp at this; omega
          have htw2 := (HTZ.out.below ((Below.refl _ _).alloc (Nat.le_refl _) (.cells #[.slice none 0 0] 25)) (Nat.le_refl _)).first (E1.out.alloc _) (fun j hj => let ⟨u, q1, q2⟩ := E2.out j hj; ⟨u, q1, q2.below ((Below.refl _ _).alloc (Nat.le_refl _) _) (Nat.le_refl _)⟩) E3.out (HUPZ.out.below ((Below.refl _ _).alloc (Nat.le_refl _) _) (Nat.le_refl _)) (by rw [hlP1]; exact hown) hg (by rw [World.size_alloc]; exact hat)
          have hkeep : ∀ g, g < w.heap.size + 3 → w2.heap[g]? = wz.heap[g]? := fun g hg' => by
            rw [hg.block g (by simp; omega) (fun e => by have := (E1.out.lt g e.symm).1; omega), Below.heap_alloc _ _ _ (by omega)]
          obtain ⟨ga, ca, rfl, -⟩ := own_slice' hown (by omega)
          have k0 := (hkeep _ (by omega)).trans Z0.out
          have k1 := (hkeep _ (by omega)).trans Z1.out
          have k2 := (hkeep _ (by omega)).trans Z2.out
          have hut2 : NewInts (w.heap.size + 3) w2 (.slice so TK.length sc) TK := (HUTZ.out.below ((Below.refl _ _).alloc (Nat.le_refl _) _) (Nat.le_refl _)).kept hg (own_apart HUTZ.out E1.out)
          have HB2 : Hid (Below w.heap.size w w2) := (HBZ.out.alloc HBZ.out.size _).grown hg (by have := HBZ.out.size; simp; omega) (fun r hr => by have := (E1.out.lt r hr).1; omega)
          obtain ⟨W3, hW3⟩ : ∃ W3, w2.setCell ⟨w.heap.size + 2, 0, none⟩ (.slice (some ⟨ga, 0, none⟩) (k + 1) ca) = W3 := ⟨_, rfl⟩
          have HW3 := Lib.hid hW3
          have hs3 : W3.heap.size = w2.heap.size := by rw [← hW3]; simp
          have HTW3 : Hid (Two (w.heap.size + 3) W3 (.slice (some ⟨ga, 0, none⟩) (k + 1) ca) v2 ((P.set x []).take k ++ [PK]) ((T.set x [16 * val]).take k)) := by rw [← hW3]; exact htw2.blocks (fun g h1 h2 => heap_setCell_other _ _ _ _ (by show g ≠ w.heap.size + 2; omega))
          have HUT3 : Hid (NewInts (w.heap.size + 3) W3 (.slice so TK.length sc) TK) := by rw [← hW3]; exact hut2.blocks (fun g h1 h2 => heap_setCell_other _ _ _ _ (by show g ≠ w.heap.size + 2; omega))
          have HB3 : Hid (Below w.heap.size w W3) := by rw [← hW3]; exact HB2.out.setCell (by show w.heap.size ≤ w.heap.size + 2; omega) _
          have Y0 := Lib.hid ((show W3.heap[w.heap.size]? = w2.heap[w.heap.size]? by rw [← hW3, heap_setCell_other _ _ _ _ (by show w.heap.size ≠ w.heap.size + 2; omega)]).trans k0)
          have Y1 := Lib.hid ((show W3.heap[w.heap.size + 1]? = w2.heap[w.heap.size + 1]? by rw [← hW3, heap_setCell_other _ _ _ _ (by show w.heap.size + 1 ≠ w.heap.size + 2; omega)]).trans k1)
          have Y2 : Hid (W3.heap[w.heap.size + 2]? = some (.cells #[.slice (some ⟨ga, 0, none⟩) (k + 1) ca, v2] 24 (0, 0))) := by rw [← hW3]; exact heap_setCell_same _ _ 0 _ _ _ k2
          obtain ⟨d0, d1, f0, f1⟩ := cells_of2 k2
          obtain ⟨ws, e1, e2, e3⟩ := HTW3.out.two.ex
          have F1 := Lib.hid e1
          have F2 := Lib.hid e2
          have F3 := Lib.hid e3
          have e1' := e1
          rw [hlT1] at e1'
          have e1'' := e1'.alloc (.cells #[.slice so TK.length sc] 25)
          have hnc := cell_one_new W3 (.slice so TK.length sc) 25
          rw [hs3] at hnc
          rw [← hW3] at e1'' hnc
          have F1' := Lib.hid e1''
          have HNC := Lib.hid hnc
          have hs4 : w.heap.size + 3 ≤ w2.heap.size := by omega
          clear hown hg hnl hat htw2 hkeep k0 k1 k2 hut2 hW3 E1 E2 E3 E1' HTZ HUPZ HUTZ HBZ e1 e2 e3 e1' e1'' hnc
          go_wp2_with (at_builtin; refine wpList_append_own_at _ rfl (.tmp 51) (.tmp 53) 22 rfl (w.heap.size + 3) 25 i0 (.slice none 0 0) 1 24 Try.underlying22 hi hz0 hz1 hz2 rfl (by decide) v2 k ws rfl F1'.out ⟨w2.heap.size, 0, none⟩ 1 1 [.slice so TK.length sc] rfl rfl HNC.out (by simp [oneCell_slice]) ?r2_6 ?r2_7 ?r2_8 ?_)
          case r2_6 => unfold maxLen; omega
          case r2_7 => omega
          case r2_8 => first | omega | (simp; omega)
          intro v2' w4 hown hg hnl hat
          have hW3 := HW3.out
          rw [hW3] at hg
          have htw4 := (HTW3.out.below ((Below.refl _ _).alloc (Nat.le_refl _) (.cells #[.slice so TK.length sc] 25)) (Nat.le_refl _)).second (F1.out.alloc _) (fun j hj => let ⟨u, q1, q2⟩ := F2.out j hj; ⟨u, q1, q2.below ((Below.refl _ _).alloc (Nat.le_refl _) _) (Nat.le_refl _)⟩) F3.out (HUT3.out.below ((Below.refl _ _).alloc (Nat.le_refl _) _) (Nat.le_refl _)) (by rw [hlT1]; exact hown) hg (by rw [World.size_alloc, hs3]; exact hat)
          have hkeep : ∀ g, g < w.heap.size + 3 → w4.heap[g]? = W3.heap[g]? := fun g hg' => by
            rw [hg.block g (by simp; omega) (fun e => by have := (F1.out.lt g e.symm).1; omega), Below.heap_alloc _ _ _ (by omega)]
          obtain ⟨gb, cb, rfl, -⟩ := own_slice' hown (by omega)
          have k0 := (hkeep _ (by omega)).trans Y0.out
          have k1 := (hkeep _ (by omega)).trans Y1.out
          have k2 := (hkeep _ (by omega)).trans Y2.out
          have HB4 : Hid (Below w.heap.size w w4) := (HB3.out.alloc HB3.out.size _).grown hg (by have := HB3.out.size; simp; omega) (fun r hr => by have := (F1.out.lt r hr).1; omega)
          have HTW4 := Lib.hid htw4
          have X0 := Lib.hid k0
          have X1 := Lib.hid k1
          have X2 := Lib.hid k2
          obtain ⟨d0, d1, f0, f1⟩ := cells_of2 k2
          have hl4 := lt_of_block k2
          clear hown hg hnl hat htw4 hkeep k0 k1 k2 hW3 F1 F2 F3 F1' HNC HTW3 HUT3 HB3 Y0 Y1 Y2 HW3
          go_wp2
          go_roundw
          case rel =>
            refine ⟨k + 1, .slice (some ⟨ga, 0, none⟩) (k + 1) ca, .slice (some ⟨gb, 0, none⟩) (k + 1) cb, by omega, by go_num, HB4.out.setCell (by show w.heap.size ≤ w.heap.size + 1 + 1; omega) _, ?_, ?_, ?_, ?_⟩
            · rw [take_next (by rw [HL1.out]; exact hlt), take_next (by rw [HL2.out]; exact hlt), HPK.out, HTK.out]
              exact HTW4.out.blocks (fun g h1 h2 => heap_setCell_other _ _ _ _ (by show g ≠ w.heap.size + 1 + 1; omega))
            · rw [heap_setCell_other _ _ _ _ (by show w.heap.size ≠ w.heap.size + 1 + 1; omega)]; exact X0.out
            · rw [heap_setCell_other _ _ _ _ (by show w.heap.size + 1 ≠ w.heap.size + 1 + 1; omega)]; exact X1.out
            · exact heap_setCell_same _ _ 1 _ _ _ X2.out
          case measure => simp [intOf]; omega
        | some ad =>
          rw [hAk] at r0 q0
          have HI0 := Lib.hid q0
          have HO := Lib.hid (own_nil wr (w.heap.size + 3))
          have HNP := Lib.hid (news_whole q0)
          clear hAk q0 cp i1
          go_wp2_with (at_builtin; (refine wpList_append_own _ rfl (.tmp 28) (.tmp 33) 25 rfl (w.heap.size + 3) 3 j0 (.int .i64 0) 1 8 Try.underlying25 hj jz0 jz1 jz2 rfl (by decide) _ 0 [] rfl HO.out ad PK.length (C k) (PK.map (Value.int .i64)) rfl ?b1 HNP.out (oneCell_ints _) ?b2 ?b3 ?b4 ?_))
          case b2 => unfold maxLen; omega
          case b3 => omega
          case b4 => omega
          intro u' WP hown hg _
          have hup : NewInts (w.heap.size + 3) WP u' PK := ⟨by simpa using hown, HI0.out.wf, HI0.out.len⟩
          obtain ⟨uo, ub, uc, rfl, -, -⟩ := hup.at
          have HBP : Hid (Below w.heap.size w WP) := HB.out.grown hg HB.out.size (fun r hr => by simp [Value.ownBlock] at hr)
          have HBrP : Hid (Below wr.heap.size wr WP) := (Below.refl _ _).grown hg (Nat.le_refl _) (fun r hr => by simp [Value.ownBlock] at hr)
          have J0 := Lib.hid ((HBrP.out.block _ (by omega)).trans H0.out)
          have J1 := Lib.hid ((HBrP.out.block _ (by omega)).trans H1.out)
          have J2 := Lib.hid ((HBrP.out.block _ (by omega)).trans H2.out)
          have HTWP := Lib.hid (HTW.out.below HBrP.out (Nat.le_refl _))
          have HUPP := Lib.hid hup
          have hTw := HT.out.below HBP.out (Nat.le_refl _)
          have r1' := hTw.cell k hkT
          have hI1' := HI1.out.below HBrP.out (Nat.le_refl _)
          have HNW := Lib.hid (news_whole hI1')
          have HO2 := Lib.hid (own_nil WP (w.heap.size + 3))
          obtain ⟨x0, x1, -, -⟩ := cells_of2 J0.out
          have hsP := HBrP.out.size
          have hr1 := r1
          have HR1 := Lib.hid (HBrP.out.cell (p := ⟨tb, tz + k, none⟩) (by
            have := (HT.out.ptr (by omega)).2
            have := HB.out.size
            show tb < wr.heap.size; omega))
          rw [← HR1.out] at hr1
          clear hown hg hup hTw r1' hI1' c0 c1 r0 r1 HI0 HNP HO HB HTW H0 H1 H2 HBrP
          go_wp2_with (at_builtin; (refine wpList_append_own _ rfl (.tmp 35) (.tmp 40) 25 rfl (w.heap.size + 3) 3 j0 (.int .i64 0) 1 8 Try.underlying25 hj jz0 jz1 jz2 rfl (by decide) _ 0 [] rfl HO2.out ⟨B' k, O' k, none⟩ TK.length (C' k) (TK.map (Value.int .i64)) rfl ?d1 HNW.out (oneCell_ints _) ?d2 ?d3 ?d4 ?_))
          case d1 => first | (rw [List.length_map]; done) | (rw [List.length_map]; omega)
          case d2 => unfold maxLen; omega
          case d3 => omega
          case d4 => omega
          intro u' WQ hown hg _
          have hut : NewInts (w.heap.size + 3) WQ u' TK := ⟨by simpa using hown, HI1.out.wf, HI1.out.len⟩
          obtain ⟨so, sb, sc, rfl, -, -⟩ := hut.at
          have HBQ : Hid (Below w.heap.size w WQ) := HBP.out.grown hg HBP.out.size (fun r hr => by simp [Value.ownBlock] at hr)
          have hkeep : ∀ g, g < WP.heap.size → WQ.heap[g]? = WP.heap[g]? := fun g hg' => hg.block g hg' (by simp [Value.ownBlock])
          have KB0 := Lib.hid ((hkeep _ (by omega)).trans J0.out)
          have KB1 := Lib.hid ((hkeep _ (by omega)).trans J1.out)
          have KB2 := Lib.hid ((hkeep _ (by omega)).trans J2.out)
          have HTWQ := Lib.hid (HTWP.out.blocks (fun g _ h => hkeep g h))
          have HUP := Lib.hid (HUPP.out.blocks (fun g _ h => hkeep g h))
          have HUT := Lib.hid hut
          have HSQ := hg.size
          clear hown hg hkeep hut HBP HTWP J0 J1 J2 x0 x1 hr1 HR1 HI1 HNW HO2 HUPP
          have hd := cells_of2 KB2.out
          obtain ⟨d0, d1, f0, f1⟩ := hd
          go_wp2
          go_quiet (fail)
          obtain ⟨wz, hwz⟩ : ∃ wz, WQ.drewN nq = wz := ⟨_, rfl⟩
          have HBZ : Hid (Below w.heap.size w wz) := by rw [← hwz]; exact below_drewN HBQ.out _
          have htwo : Two (w.heap.size + 3) wz v1 v2 ((P.set x []).take k) ((T.set x [16 * val]).take k) := by rw [← hwz]; exact HTWQ.out.below (below_drewN (Below.refl _ _) _) (Nat.le_refl _)
          have hup : NewInts (w.heap.size + 3) wz (.slice uo PK.length uc) PK := by rw [← hwz]; exact HUP.out.below (below_drewN (Below.refl _ _) _) (Nat.le_refl _)
          have hut : NewInts (w.heap.size + 3) wz (.slice so TK.length sc) TK := by rw [← hwz]; exact HUT.out.below (below_drewN (Below.refl _ _) _) (Nat.le_refl _)
          have hzz : wz.heap = WQ.heap := by rw [← hwz]; rfl
          have kb0 := KB0.out
          rw [← hzz] at kb0
          have kb1 := KB1.out
          rw [← hzz] at kb1
          have kb2 := KB2.out
          rw [← hzz] at kb2
          have hszz : w.heap.size + 3 ≤ wz.heap.size := by have := lt_of_block kb2; omega
          rw [hwz]
          have HTZ := Lib.hid htwo
          have HUPZ := Lib.hid hup
          have HUTZ := Lib.hid hut
          have Z0 := Lib.hid kb0
          have Z1 := Lib.hid kb1
          have Z2 := Lib.hid kb2
          clear hwz hzz htwo hup hut kb0 kb1 kb2 d0 d1 f0 f1 HUP HUT HTWQ KB0 KB1 KB2 HBQ
          obtain ⟨vs, e1, e2, e3⟩ := HTZ.out.one.ex
          have E1 := Lib.hid e1
          have E2 := Lib.hid e2
          have E3 := Lib.hid e3
          obtain ⟨d0, d1, f0, f1⟩ := cells_of2 (((Below.heap_alloc wz (.cells #[.slice uo PK.length uc] 25) (w.heap.size + 2) (by omega))).trans Z2.out)
          have e1' := e1
          rw [hlP1] at e1'
          have E1' := Lib.hid (e1'.alloc (.cells #[.slice uo PK.length uc] 25))
          clear e1 e2 e3 e1'
          go_wp2_with (at_builtin; refine wpList_append_own_at _ rfl (.tmp 46) (.tmp 48) 22 rfl (w.heap.size + 3) 25 i0 (.slice none 0 0) 1 24 Try.underlying22 hi hz0 hz1 hz2 rfl (by decide) v1 k vs rfl E1'.out ⟨wz.heap.size, 0, none⟩ 1 1 [.slice uo PK.length uc] rfl rfl (cell_one_new _ _ _) (by simp [oneCell_slice]) ?r3_3 ?r3_4 ?r3_5 ?_)
          case r3_3 => unfold maxLen; omega
          case r3_4 => omega
          case r3_5 => first | omega | (simp; omega)
          intro v1' w2 hown hg hnl hat
          have hsz2 : wz.heap.size < w2.heap.size := by have := hg.size; simp at this; omega
          have htw2 := (HTZ.out.below ((Below.refl _ _).alloc (Nat.le_refl _) (.cells #[.slice uo PK.length uc] 25)) (Nat.le_refl _)).first (E1.out.alloc _) (fun j hj => let ⟨u, q1, q2⟩ := E2.out j hj; ⟨u, q1, q2.below ((Below.refl _ _).alloc (Nat.le_refl _) _) (Nat.le_refl _)⟩) E3.out (HUPZ.out.below ((Below.refl _ _).alloc (Nat.le_refl _) _) (Nat.le_refl _)) (by rw [hlP1]; exact hown) hg (by rw [World.size_alloc]; exact hat)
          have hkeep : ∀ g, g < w.heap.size + 3 → w2.heap[g]? = wz.heap[g]? := fun g hg' => by
            rw [hg.block g (by simp; omega) (fun e => by have := (E1.out.lt g e.symm).1; omega), Below.heap_alloc _ _ _ (by omega)]
          obtain ⟨ga, ca, rfl, -⟩ := own_slice' hown (by omega)
          have k0 := (hkeep _ (by omega)).trans Z0.out
          have k1 := (hkeep _ (by omega)).trans Z1.out
          have k2 := (hkeep _ (by omega)).trans Z2.out
          have hut2 : NewInts (w.heap.size + 3) w2 (.slice so TK.length sc) TK := (HUTZ.out.below ((Below.refl _ _).alloc (Nat.le_refl _) _) (Nat.le_refl _)).kept hg (own_apart HUTZ.out E1.out)
          have HB2 : Hid (Below w.heap.size w w2) := (HBZ.out.alloc HBZ.out.size _).grown hg (by have := HBZ.out.size; simp; omega) (fun r hr => by have := (E1.out.lt r hr).1; omega)
          obtain ⟨W3, hW3⟩ : ∃ W3, w2.setCell ⟨w.heap.size + 2, 0, none⟩ (.slice (some ⟨ga, 0, none⟩) (k + 1) ca) = W3 := ⟨_, rfl⟩
          have HW3 := Lib.hid hW3
          have hs3 : W3.heap.size = w2.heap.size := by rw [← hW3]; simp
          have HTW3 : Hid (Two (w.heap.size + 3) W3 (.slice (some ⟨ga, 0, none⟩) (k + 1) ca) v2 ((P.set x []).take k ++ [PK]) ((T.set x [16 * val]).take k)) := by rw [← hW3]; exact htw2.blocks (fun g h1 h2 => heap_setCell_other _ _ _ _ (by show g ≠ w.heap.size + 2; omega))
          have HUT3 : Hid (NewInts (w.heap.size + 3) W3 (.slice so TK.length sc) TK) := by rw [← hW3]; exact hut2.blocks (fun g h1 h2 => heap_setCell_other _ _ _ _ (by show g ≠ w.heap.size + 2; omega))
          have HB3 : Hid (Below w.heap.size w W3) := by rw [← hW3]; exact HB2.out.setCell (by show w.heap.size ≤ w.heap.size + 2; omega) _
          have Y0 := Lib.hid ((show W3.heap[w.heap.size]? = w2.heap[w.heap.size]? by rw [← hW3, heap_setCell_other _ _ _ _ (by show w.heap.size ≠ w.heap.size + 2; omega)]).trans k0)
          have Y1 := Lib.hid ((show W3.heap[w.heap.size + 1]? = w2.heap[w.heap.size + 1]? by rw [← hW3, heap_setCell_other _ _ _ _ (by show w.heap.size + 1 ≠ w.heap.size + 2; omega)]).trans k1)
          have Y2 : Hid (W3.heap[w.heap.size + 2]? = some (.cells #[.slice (some ⟨ga, 0, none⟩) (k + 1) ca, v2] 24 (0, 0))) := by rw [← hW3]; exact heap_setCell_same _ _ 0 _ _ _ k2
          obtain ⟨d0, d1, f0, f1⟩ := cells_of2 k2
          obtain ⟨ws, e1, e2, e3⟩ := HTW3.out.two.ex
          have F1 := Lib.hid e1
          have F2 := Lib.hid e2
          have F3 := Lib.hid e3
          have e1' := e1
          rw [hlT1] at e1'
          have e1'' := e1'.alloc (.cells #[.slice so TK.length sc] 25)
          have hnc := cell_one_new W3 (.slice so TK.length sc) 25
          rw [hs3] at hnc
          rw [← hW3] at e1'' hnc
          have F1' := Lib.hid e1''
          have HNC := Lib.hid hnc
          have hs4 : w.heap.size + 3 ≤ w2.heap.size := by omega
          clear hown hg hnl hat htw2 hkeep k0 k1 k2 hut2 hW3 E1 E2 E3 E1' HTZ HUPZ HUTZ HBZ e1 e2 e3 e1' e1'' hnc
          go_wp2_with (at_builtin; refine wpList_append_own_at _ rfl (.tmp 51) (.tmp 53) 22 rfl (w.heap.size + 3) 25 i0 (.slice none 0 0) 1 24 Try.underlying22 hi hz0 hz1 hz2 rfl (by decide) v2 k ws rfl F1'.out ⟨w2.heap.size, 0, none⟩ 1 1 [.slice so TK.length sc] rfl rfl HNC.out (by simp [oneCell_slice]) ?r3_6 ?r3_7 ?r3_8 ?_)
          case r3_6 => unfold maxLen; omega
          case r3_7 => omega
          case r3_8 => first | omega | (simp; omega)
          intro v2' w4 hown hg hnl hat
          have hW3 := HW3.out
          rw [hW3] at hg
          have htw4 := (HTW3.out.below ((Below.refl _ _).alloc (Nat.le_refl _) (.cells #[.slice so TK.length sc] 25)) (Nat.le_refl _)).second (F1.out.alloc _) (fun j hj => let ⟨u, q1, q2⟩ := F2.out j hj; ⟨u, q1, q2.below ((Below.refl _ _).alloc (Nat.le_refl _) _) (Nat.le_refl _)⟩) F3.out (HUT3.out.below ((Below.refl _ _).alloc (Nat.le_refl _) _) (Nat.le_refl _)) (by rw [hlT1]; exact hown) hg (by rw [World.size_alloc, hs3]; exact hat)
          have hkeep : ∀ g, g < w.heap.size + 3 → w4.heap[g]? = W3.heap[g]? := fun g hg' => by
            rw [hg.block g (by simp; omega) (fun e => by have := (F1.out.lt g e.symm).1; omega), Below.heap_alloc _ _ _ (by omega)]
          obtain ⟨gb, cb, rfl, -⟩ := own_slice' hown (by omega)
          have k0 := (hkeep _ (by omega)).trans Y0.out
          have k1 := (hkeep _ (by omega)).trans Y1.out
          have k2 := (hkeep _ (by omega)).trans Y2.out
          have HB4 : Hid (Below w.heap.size w w4) := (HB3.out.alloc HB3.out.size _).grown hg (by have := HB3.out.size; simp; omega) (fun r hr => by have := (F1.out.lt r hr).1; omega)
          have HTW4 := Lib.hid htw4
          have X0 := Lib.hid k0
          have X1 := Lib.hid k1
          have X2 := Lib.hid k2
          obtain ⟨d0, d1, f0, f1⟩ := cells_of2 k2
          have hl4 := lt_of_block k2
          clear hown hg hnl hat htw4 hkeep k0 k1 k2 hW3 F1 F2 F3 F1' HNC HTW3 HUT3 HB3 Y0 Y1 Y2 HW3
          go_wp2
          go_roundw
          case rel =>
            refine ⟨k + 1, .slice (some ⟨ga, 0, none⟩) (k + 1) ca, .slice (some ⟨gb, 0, none⟩) (k + 1) cb, by omega, by go_num, HB4.out.setCell (by show w.heap.size ≤ w.heap.size + 1 + 1; omega) _, ?_, ?_, ?_, ?_⟩
            · rw [take_next (by rw [HL1.out]; exact hlt), take_next (by rw [HL2.out]; exact hlt), HPK.out, HTK.out]
              exact HTW4.out.blocks (fun g h1 h2 => heap_setCell_other _ _ _ _ (by show g ≠ w.heap.size + 1 + 1; omega))
            · rw [heap_setCell_other _ _ _ _ (by show w.heap.size ≠ w.heap.size + 1 + 1; omega)]; exact X0.out
            · rw [heap_setCell_other _ _ _ _ (by show w.heap.size + 1 ≠ w.heap.size + 1 + 1; omega)]; exact X1.out
            · exact heap_setCell_same _ _ 1 _ _ _ X2.out
          case measure => simp [intOf]; omega
    · have hkl : k = P.length := by omega
      have hsl : w.heap.size + 1 < wr.heap.size := by omega
      have hP' : NewRows (w.heap.size + 3) wr v1 (P.set x []) := by have := HTW.out.one; rw [List.take_of_length_le (by rw [HL1.out]; omega)] at this; exact this
      have hT' : NewRows (w.heap.size + 3) wr v2 (T.set x [16 * val]) := by have := HTW.out.two; rw [List.take_of_length_le (by rw [HL2.out]; omega)] at this; exact this
      obtain ⟨d0, d1, -, -⟩ := cells_of2 H2.out
      have hone : (#[v1, v2] : Array Value).all (·.oneCell') = true := by simp [hP'.oneCell, hT'.oneCell]
      have HONE := Lib.hid hone
      have HP' := Lib.hid hP'
      have HT' := Lib.hid hT'
      clear hone hP' hT' hkl
      go_wp2_with (refine wpList_store_row rfl 24 (.tmp 6) (.tmp 56) rfl (w.heap.size + 1) _ rfl rfl 24 _ H1.out (by kernel_rfl) rfl HONE.out ?_)
      refine bodyPost_ret (v := .agg #[v1, v2]) ?_ rfl ⟨⟨v1, v2, rfl, ?_, ?_⟩, below_setRow HB.out (by omega) _⟩
      · rw [results_cell_row (ty := 24) (p := 6) rfl _ _ (w.heap.size + 1) 24 _ (0, 0) _ rfl (setRow_heap _ _ _ _ _ _ H1.out) Try.underlying24 rfl (by kernel_rfl)]
      · exact (HP'.out.blocks (fun g h1 h2 => Go.setRow_other _ _ _ _ (by omega))).mono (by omega)
      · exact (HT'.out.blocks (fun g h1 h2 => Go.setRow_other _ _ _ _ (by omega))).mono (by omega)

end Go.Proofs.Ytaphmjccdokiiaa
