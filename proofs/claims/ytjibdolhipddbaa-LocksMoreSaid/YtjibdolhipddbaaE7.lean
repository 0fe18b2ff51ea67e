/- The reference's Merge. -/
import Derived.Test.YtjibdolhipddbaaE6
namespace Go.Proofs.Ytjibdolhipddbaa
open Go.RowKit Go.Maps

set_option maxHeartbeats 4000000 in
set_option maxRecDepth 100000 in
theorem refMerge_any (a : List (List Int)) (ao : Option Addr) (b o cap : Nat) (A : Nat → Option Addr) (B O C : Nat → Nat) (w : World) (H : RowsAt w ao b o a A B O C) (hC : ∀ i, i < a.length → (row a i).length ≤ C i) (hp : IsPlan a) :
    Calls Try.prog 25 #[.slice ao a.length cap] w fun e w' => ∃ v u, e = .returned (.tuple #[v, u]) ∧ NewRows w.heap.size w' v (mgK a a.length) ∧ NewInts w.heap.size w' u (mgN a a.length) ∧ Below w.heap.size w w' := by
  have ha6 := hp.le
  have ha1 := hp.pos
  have HLEN := Lib.hid (show ∀ i, i < a.length → 1 ≤ (row a i).length ∧ (row a i).length ≤ 6 from fun i hi => by rw [hp.len i hi]; exact ⟨hp.pos0, hp.le0⟩)
  have HSL := Lib.hid (show ∀ i k, i < a.length → k < (mgK a i).length → (row (mgK a i) k).length = (row a i).length from fun i k hi hk => by
    obtain ⟨q, hq, e⟩ := mgK_rows i (by omega) _ (row_mem hk)
    rw [← e, hp.len q hq, hp.len i hi])
  have HA := Lib.hid H
  have HCC := Lib.hid hC
  obtain ⟨i0, hi0, hz0, hz1, hz2⟩ := info_parts Try.info3
  obtain ⟨j0, hj0, jz0, jz1, jz2⟩ := info_parts Try.info34
  clear H hp hC
  go_enter Try.func25, Try.ntmps25
  go_wp2
  go_loopw [4, 5, 6, 7, 8] (fun s4 s5 x _ _ wr => ∃ i : Nat, i ≤ a.length ∧ x = .int .i64 i ∧ Mg w.heap.size wr s4 s5 (mgK a i) (mgN a i) ∧ Below w.heap.size w wr) (fun _ _ x _ _ _ => a.length - (intOf x).toNat)
  case atStart => exact ⟨0, by omega, rfl, Mg.nil _ _, Below.refl _ _⟩
  case round =>
    obtain ⟨i, hi, rfl, hmg, hb⟩ := hrel
    have hkl := mgK_len a i
    obtain ⟨vo, vb, vc, VA, VB, VO, VC, rfl, hat⟩ := hmg.rows.at (by omega)
    obtain ⟨uo, ub, uc, rfl, -, -⟩ := hmg.num.at
    have HM := Lib.hid hmg
    have HB := Lib.hid hb
    have HK := Lib.hid hat
    clear hmg hb hat
    by_cases hlt : i < a.length
    · have ha := HA.out.below HB.out (Nat.le_refl _)
      obtain ⟨rfl, -⟩ := ha.ptr (by omega)
      have HC0 := Lib.hid (ha.cell i hlt)
      have HRW := Lib.hid (HA.out.rows i hlt)
      have HR := Lib.hid (ha.rows i hlt)
      clear ha
      obtain ⟨hAi, -⟩ := HR.out.ptr (HLEN.out i hlt).1
      rw [hAi] at HC0 HR HRW
      clear hAi
      have hab := (HA.out.ptr (by omega)).2
      have HAS := Lib.hid (show b < wr.heap.size from Nat.lt_of_lt_of_le hab HB.out.size)
      clear hab
      obtain ⟨ws, rfl⟩ : ∃ ws : World, ws = wr := ⟨_, rfl⟩
      go_wp2
      go_loopw [7] (fun x wr => ∃ k : Nat, k ≤ (mgK a i).length ∧ x = .int .i64 k ∧ (∀ q, q < k → row (mgK a i) q ≠ row a i) ∧ ∃ m, wr = ws.drewN m) (fun x _ => (mgK a i).length - (intOf x).toNat)
      case atStart => exact ⟨0, by omega, rfl, fun q hq => absurd hq (by omega), 0, rfl⟩
      case round =>
        obtain ⟨k, hk, rfl, hq, md, hmd⟩ := hrel
        have HQ := Lib.hid hq
        have HBM := Lib.hid (show Below ws.heap.size ws wr by rw [hmd]; exact below_drewN (Below.refl _ _) _)
        have HMD := Lib.hid (show ∀ n, ∃ m, wr.drewN n = ws.drewN m from fun n => ⟨_, by rw [hmd]; exact World.drewN_drewN _ _ _⟩)
        clear hq hmd
        by_cases hkk : k < (mgK a i).length
        · have hk2 := HK.out.below HBM.out (Nat.le_refl _)
          obtain ⟨rfl, -⟩ := hk2.ptr (by omega)
          have c1 := hk2.cell k hkk
          rw [Nat.zero_add] at c1
          have c0 := (HBM.out.cell (p := ⟨b, o + i, none⟩) HAS.out).trans HC0.out
          have HR1 := Lib.hid (HR.out.below HBM.out (Nat.le_refl _))
          have HR2 := Lib.hid (hk2.rows k hkk)
          clear hk2
          have HEQ := Lib.hid (fun n => refSame_any (row (mgK a i) k) (row a i) _ _ _ _ (VC k) _ _ (C i) (wr.drewN n) (HR2.out.below (below_drewN (Below.refl _ _) n) (Nat.le_refl _)) (HR1.out.below (below_drewN (Below.refl _ _) n) (Nat.le_refl _)) (HSL.out i k hlt hkk))
          by_cases e : row (mgK a i) k = row a i
          · have HE := Lib.hid (mg_at hkk e HQ.out)
            have hd : decide (row (mgK a i) k = row a i) = true := decide_eq_true e
            unfold Hid at HEQ
            simp only [hd] at HEQ
            have HEQ := Lib.hid HEQ
            have ht : ((k : Int) == ((mgK a i).length : Int)) = false := beq_eq_false_iff_ne.2 (by omega)
            clear e hd
            go_wp2
            go_quiet (exact Calls.quiet_of (HEQ.out _))
            obtain ⟨w2, hw2⟩ : ∃ w2, wr.drewN nq = w2 := ⟨_, rfl⟩
            have HB2 := Lib.hid (show Below ws.heap.size ws w2 by rw [← hw2]; exact below_drewN HBM.out _)
            rw [hw2]
            clear c0 c1 hw2 HEQ HMD HBM
            have HML := Lib.hid (show (mgN a i).length = i from mgN_len a i)
            have HMA := Lib.hid (HM.out.below (HB2.out.alloc HB2.out.size (.cells #[.int .i64 k] 3)) (Nat.le_refl _))
            go_wp2_with (first
              | (at_builtin; refine wpList_append_own_at _ rfl (.tmp 46) (.tmp 48) 34 rfl w.heap.size 3 i0 (.int .i64 0) 1 8 Try.underlying34 hi0 hz0 hz1 hz2 rfl (by decide) (.slice uo (mgN a i).length uc) (mgN a i).length ((mgN a i).map (Value.int .i64)) rfl HMA.out.num.own ⟨w2.heap.size, 0, none⟩ 1 1 [.int .i64 k] rfl rfl (cell_one_new _ _ _) (by simp [Value.oneCell']) ?q2 ?q3 ?q4 ?_)
              | (fail))
            case q2 => have := HML.out; unfold maxLen; omega
            case q3 => have := HML.out; omega
            case q4 => have := HB.out.size; have := HB2.out.size; simp; omega
            intro u' w9 hown hgrow _ hloc
            have HM9 := Lib.hid (HMA.out.number hown hgrow (by rw [World.size_alloc]; exact hloc) (by have := hkk; omega) (by rw [HML.out]; omega))
            have HB9 := Lib.hid ((HB.out.trans (HB2.out.mono HB.out.size)).alloc (Nat.le_trans HB.out.size HB2.out.size) (.cells #[.int .i64 k] 3) |>.grown hgrow (by have := HB.out.size; have := HB2.out.size; simp; omega) (fun r hr => (HMA.out.num.own.lt r hr).1))
            clear hown hgrow hloc HMA
            go_wp2
            go_roundw
            case measure => simp [intOf]; omega
            case rel => exact ⟨i + 1, by omega, by go_num, by rw [HE.out.2, mgN, HE.out.1]; exact HM9.out, HB9.out⟩
          · have HQ2 := Lib.hid (show ∀ q, q < k + 1 → row (mgK a i) q ≠ row a i from fun q hq => by
              by_cases eq : q = k
              · subst eq; exact e
              · exact HQ.out q (by omega))
            have hd : decide (row (mgK a i) k = row a i) = false := decide_eq_false e
            unfold Hid at HEQ
            simp only [hd] at HEQ
            have HEQ := Lib.hid HEQ
            clear e hd
            go_wp2
            go_quiet (exact Calls.quiet_of (HEQ.out _))
            clear c0 c1 HEQ
            go_wp2
            go_roundw
            case measure => simp [intOf]; omega
            case rel => exact ⟨k + 1, by omega, by go_num, HQ2.out, HMD.out _⟩
        · have hkn : k = (mgK a i).length := by omega
          have HE := Lib.hid (mg_new (a := a) (i := i) (by rw [← hkn]; exact HQ.out))
          subst hkn
          go_wp2
          go_quiet (fail)
          obtain ⟨w2, hw2⟩ : ∃ w2, wr.drewN nq = w2 := ⟨_, rfl⟩
          have HB2 := Lib.hid (show Below ws.heap.size ws w2 by rw [← hw2]; exact below_drewN HBM.out _)
          rw [hw2]
          clear hw2 HMD HBM
          have c0 := (HB2.out.cell (p := ⟨b, o + i, none⟩) HAS.out).trans HC0.out
          have HXW := Lib.hid (HR.out.below HB2.out (Nat.le_refl _))
          have HNA := Lib.hid (show ∀ (j : Nat) (u : Value), ((row a i).map (Value.int .i64))[j]? = some u → w2.cell? ((⟨B i, O i, none⟩ : Addr).add j) = some u from fun j u hj => by
            have := news_at HXW.out ⟨B i, O i, none⟩ rfl (row a i).length j u
            rw [List.take_length] at this
            exact this hj)
          have hl6 := (HLEN.out i hlt).2
          have hcc := HCC.out i hlt
          go_wp2_with (first
              | (at_builtin; refine wpList_append_own _ rfl (.tmp 38) (.tmp 42) 34 rfl w2.heap.size 3 i0 (.int .i64 0) 1 8 Try.underlying34 hi0 hz0 hz1 hz2 rfl (by decide) (.slice none 0 0) 0 [] rfl (own_nil _ _) ⟨B i, O i, none⟩ (row a i).length (C i) ((row a i).map (Value.int .i64)) rfl ?qc1 HNA.out ?qc3 ?qc4 ?qc5 ?qc6 ?_)
              | (fail))
          case qc1 => simp
          case qc3 => exact oneCell_ints _
          case qc4 => unfold maxLen; omega
          case qc5 => omega
          case qc6 => first | omega | simp
          intro x w10 hown hgrow _
          have hx : NewInts w2.heap.size w10 x (row a i) := ⟨by simpa using hown, HXW.out.wf, HXW.out.len⟩
          have hb10 : Below w2.heap.size w2 w10 := (Below.refl _ w2).grown hgrow (Nat.le_refl _) (fun r hr => by simp [Value.ownBlock] at hr)
          have HM9 := HM.out.below HB2.out (Nat.le_refl _)
          have HM10 := HM9.below hb10 (Nat.le_refl _)
          have hxu : x.ownBlock = none ∨ x.ownBlock ≠ (Value.slice uo (mgN a i).length uc).ownBlock := by
            rcases hxb : x.ownBlock with _ | r
            · exact .inl rfl
            · right
              intro q
              have q1 := (hx.own.lt r hxb).1
              have q2 := (HM9.num.own.lt r q.symm).2
              omega
          obtain ⟨xo, xb, xc, rfl, -, -⟩ := hx.at
          obtain ⟨vs, e1, e2, e3⟩ := HM10.ex
          have HBB := Lib.hid (HB.out.trans (HB2.out.mono HB.out.size))
          have HBC := Lib.hid (HBB.out.trans (hb10.mono HBB.out.size))
          have HX := Lib.hid ((hx.mono HBB.out.size).below ((Below.refl _ w10).alloc (Nat.le_refl _) (.cells #[.slice xo (row a i).length xc] 34)) (Nat.le_refl _))
          have HXU := Lib.hid hxu
          have HM11 := Lib.hid (HM10.num.below ((Below.refl _ w10).alloc (Nat.le_refl _) (.cells #[.slice xo (row a i).length xc] 34)) (Nat.le_refl _))
          have HE2 := Lib.hid (show ∀ j, j < (mgK a i).length → ∃ z, vs[j]? = some z ∧ NewInts w.heap.size (w10.alloc (.cells #[.slice xo (row a i).length xc] 34)) z (row (mgK a i) j) ∧ (z.ownBlock = none ∨ z.ownBlock ≠ (Value.slice uo (mgN a i).length uc).ownBlock) from fun j hj => let ⟨z, q1, q2, q3⟩ := e2 j hj; ⟨z, q1, q2.below ((Below.refl _ _).alloc (Nat.le_refl _) _) (Nat.le_refl _), q3⟩)
          have HE3 := Lib.hid e3
          have HE1 := Lib.hid (ownsRow_below e1 ((Below.refl _ w10).alloc (Nat.le_refl _) (.cells #[.slice xo (row a i).length xc] 34)) (Nat.le_refl _))
          clear hown hgrow hb10 HM10 e1 e2 e3 hx hxu HM9 HBB c0
          go_wp2_with (first
              | (at_builtin; refine wpList_append_own_at _ rfl (.tmp 37) (.tmp 44) 22 rfl w.heap.size 34 j0 (.slice none 0 0) 1 24 Try.underlying22 hj0 jz0 jz1 jz2 rfl (by decide) (.slice vo (mgK a i).length vc) (mgK a i).length vs rfl HE1.out ⟨w10.heap.size, 0, none⟩ 1 1 [.slice xo (row a i).length xc] rfl rfl (cell_one_new _ _ _) (by simp [oneCell_slice]) ?q2 ?q3 ?q4 ?_)
              | (fail))
          case q2 => unfold maxLen; omega
          case q3 => omega
          case q4 => have := HBC.out.size; simp; omega
          intro v' w12 hown hgrow _ _
          have HP := Lib.hid (Mg.push HE1.out HE2.out HE3.out HM11.out HX.out HXU.out hown hgrow)
          have HBD := Lib.hid ((HBC.out.alloc HBC.out.size (.cells #[.slice xo (row a i).length xc] 34)).grown hgrow (by have := HBC.out.size; simp; omega) (fun r hr => (HE1.out.lt r hr).1))
          clear hown hgrow HE1 HE2 HE3 HM11 HX HXU HBC
          have HML := Lib.hid (show (mgN a i).length = i from mgN_len a i)
          have HMA := Lib.hid (HP.out.below ((Below.refl _ w12).alloc (Nat.le_refl _) (.cells #[.int .i64 (mgK a i).length] 3)) (Nat.le_refl _))
          go_wp2_with (first
              | (at_builtin; refine wpList_append_own_at _ rfl (.tmp 46) (.tmp 48) 34 rfl w.heap.size 3 i0 (.int .i64 0) 1 8 Try.underlying34 hi0 hz0 hz1 hz2 rfl (by decide) (.slice uo (mgN a i).length uc) (mgN a i).length ((mgN a i).map (Value.int .i64)) rfl HMA.out.num.own ⟨w12.heap.size, 0, none⟩ 1 1 [.int .i64 (mgK a i).length] rfl rfl (cell_one_new _ _ _) (by simp [Value.oneCell']) ?q2 ?q3 ?q4 ?_)
              | (fail))
          case q2 => have := HML.out; unfold maxLen; omega
          case q3 => have := HML.out; omega
          case q4 => have := HBD.out.size; simp; omega
          intro u' w13 hown hgrow _ hloc
          have HM13 := Lib.hid (HMA.out.number hown hgrow (by rw [World.size_alloc]; exact hloc) (by omega) (by rw [HML.out]; omega))
          have HBE := Lib.hid ((HBD.out.alloc HBD.out.size (.cells #[.int .i64 (mgK a i).length] 3)).grown hgrow (by have := HBD.out.size; simp; omega) (fun r hr => (HMA.out.num.own.lt r hr).1))
          clear hown hgrow hloc HMA
          go_wp2
          go_roundw
          case measure => simp [intOf]; omega
          case rel => exact ⟨i + 1, by omega, by go_num, by rw [HE.out.2, mgN, HE.out.1]; exact HM13.out, HBE.out⟩
    · have hia : i = a.length := by omega
      subst hia
      go_wp2
      go_ret2
      exact ⟨_, _, rfl, HM.out.rows, HM.out.num, HB.out⟩

end Go.Proofs.Ytjibdolhipddbaa
