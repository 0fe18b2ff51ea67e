/- The program's Merge. -/
import Derived.Test.YtjibdolhipddbaaE5
namespace Go.Proofs.Ytjibdolhipddbaa
open Go.RowKit Go.Maps

theorem Mg.push {B : Nat} {w1 w' : World} {v v' u x : Value} {X : List (List Int)} {N y : List Int} {vs : List Value} (h1 : w1.ownsRow B 34 1 v X.length vs)
    (h2 : ∀ j, j < X.length → ∃ x, vs[j]? = some x ∧ NewInts B w1 x (row X j) ∧ (x.ownBlock = none ∨ x.ownBlock ≠ u.ownBlock)) (h3 : ∀ x ∈ vs, x.oneCell' = true) (hn : NewInts B w1 u N)
    (hx : NewInts B w1 x y) (hxu : x.ownBlock = none ∨ x.ownBlock ≠ u.ownBlock) (hown : w'.ownsRow B 34 1 v' (X.length + 1) (vs ++ [x])) (hg : w1.grownBy w' v.ownBlock) : Mg B w' v' u (X ++ [y]) N := by
  have hl : vs.length = X.length := by have := h1.1; omega
  refine ⟨⟨vs ++ [x], by simpa using hown, fun j hj => ?_, fun z hz => ?_⟩, hn.kept hg (own_apart hn h1)⟩
  · by_cases e : j < X.length
    · obtain ⟨z, a, b, c⟩ := h2 j e
      exact ⟨z, by rw [List.getElem?_append_left (by omega)]; exact a, by rw [row_append_lt e]; exact b.kept hg (own_apart b h1), c⟩
    · have : j = X.length := by simp at hj; omega
      subst this
      exact ⟨x, by rw [← hl]; simp, by rw [row_append_eq]; exact hx.kept hg (own_apart hx h1), hxu⟩
  · rcases List.mem_append.1 hz with hz | hz
    · exact h3 z hz
    · rw [List.mem_singleton.1 hz]; exact hx.oneCell

set_option maxHeartbeats 4000000 in
set_option maxRecDepth 100000 in
theorem merge_bad (a : List (List Int)) (ao : Option Addr) (b o cap : Nat) (A : Nat → Option Addr) (B O C : Nat → Nat) (w : World) (H : RowsAt w ao b o a A B O C) (hn : isPlan a = false) :
    Calls Try.prog 24 #[.slice ao a.length cap] w fun e w' => e = .returned (.tuple #[.slice none 0 0, .slice none 0 0, .int .i64 2]) ∧ Below w.heap.size w w' := by
  have HT := Lib.hid (toPlan_any a ao b o cap A B O C w H)
  rw [planR_no hn] at HT
  clear hn H
  go_enter Try.func24, Try.ntmps24
  go_wp2_with fail
  go_step3
  go_wp2_with fail
  refine HT.out.mono ?_
  rintro e w1 ⟨rfl, hb⟩
  have HB := Lib.hid hb
  clear hb
  rw [zeroP]
  go_wp2
  rw [Exit.noGoto_ret]
  go_ret3
  exact ⟨rfl, HB.out.alloc HB.out.size _⟩

set_option maxHeartbeats 4000000 in
set_option maxRecDepth 100000 in
theorem merge_ok (a : List (List Int)) (ao : Option Addr) (b o cap : Nat) (A : Nat → Option Addr) (B O C : Nat → Nat) (w : World) (H : RowsAt w ao b o a A B O C) (hC : ∀ i, i < a.length → (row a i).length ≤ C i) (hp : IsPlan a) :
    Calls Try.prog 24 #[.slice ao a.length cap] w fun e w' => ∃ v u, e = .returned (.tuple #[v, u, .int .i64 0]) ∧ NewRows w.heap.size w' v (mgK a a.length) ∧ NewInts w.heap.size w' u (mgN a a.length) ∧ Below w.heap.size w w' := by
  have HT := Lib.hid (toPlan_any a ao b o cap A B O C w H)
  rw [planR_yes (decide_eq_true hp), planV] at HT
  have ha6 := hp.le
  have ha1 := hp.pos
  have HLEN := Lib.hid (show ∀ i, i < a.length → 1 ≤ (row a i).length ∧ (row a i).length ≤ 6 from fun i hi => by rw [hp.len i hi]; exact ⟨hp.pos0, hp.le0⟩)
  have HA := Lib.hid H
  have HCC := Lib.hid hC
  obtain ⟨i0, hi0, hz0, hz1, hz2⟩ := info_parts Try.info3
  obtain ⟨j0, hj0, jz0, jz1, jz2⟩ := info_parts Try.info34
  clear H hp hC
  go_enter Try.func24, Try.ntmps24
  obtain ⟨PC, hPC⟩ : ∃ PC, planC a.length (row a 0).length (mt a) = PC := ⟨_, rfl⟩
  have hpall : PC.all (·.oneCell') = true := by rw [← hPC]; simp [Value.oneCell', planC, sv]
  have hpsz : (Try.prog.info? 63).map (·.size) = some PC.size := by rw [← hPC]; kernel_rfl
  have hp3 : (#[Value.int .i64 0, .int .i64 0, .int .u64 0] : Array Value).size = PC.size := by rw [← hPC]; rfl
  rw [hPC] at HT
  have HPA := Lib.hid (And.intro hpall (And.intro hpsz hp3))
  clear hPC hpall hpsz hp3
  go_wp2_with fail
  go_step3
  go_wp2_with fail
  refine HT.out.mono ?_
  rintro e w1 ⟨rfl, hb⟩
  have HB1 := Lib.hid (below_setRow (hb.alloc hb.size (.cells #[.int .i64 0, .int .i64 0, .int .u64 0] 63)) hb.size PC (g := w1.heap.size))
  clear hb
  go_wp2_with (first
    | (refine wpList_store_row rfl 63 (.tmp 5) (.tmp 16) rfl w1.heap.size _ rfl rfl 63 _ (heap_alloc_new _ _) HPA.out.2.1 HPA.out.2.2 HPA.out.1 ?_)
    | (fail))
  go_step3
  go_wp2
  clear HPA HT
  go_loopg [7, 8, 10, 11, 12, 22] a.length (fun g s7 s8 _ _ _ x wr => ∃ i : Nat, i + g = a.length ∧ x = .int .i64 i ∧ Mg w.heap.size wr s7 s8 (mgK a i) (mgN a i) ∧ Below w.heap.size w wr)
  case atStart => exact ⟨0, by omega, rfl, Mg.nil _ _, HB1.out⟩
  case round =>
    clear HB1
    obtain ⟨i, hi, rfl, hmg, hb⟩ := hrel
    obtain ⟨gm, rfl⟩ : ∃ x, x = gk := ⟨_, rfl⟩
    obtain ⟨su, rfl⟩ : ∃ x, x = u8 := ⟨_, rfl⟩
    have hkl := mgK_len a i
    obtain ⟨vo, vb, vc, VA, VB, VO, VC, rfl, hat⟩ := hmg.rows.at (by omega)
    have HM := Lib.hid hmg
    have HB := Lib.hid hb
    have HK := Lib.hid hat
    clear hmg hb hat
    by_cases hlt : i < a.length
    · have ha := HA.out.below HB.out (Nat.le_refl _)
      obtain ⟨rfl, -⟩ := ha.ptr (by omega)
      have c0 := ha.cell i hlt
      have HRW := Lib.hid (HA.out.rows i hlt)
      have HR := Lib.hid (ha.rows i hlt)
      clear ha
      obtain ⟨hAi, -⟩ := HR.out.ptr (HLEN.out i hlt).1
      rw [hAi] at c0 HR HRW
      clear hAi
      obtain ⟨ws, rfl⟩ : ∃ ws : World, ws = wr := ⟨_, rfl⟩
      go_wp2
      clear c0
      go_loopg [8, 11, 12, 28] (mgK a i).length (fun g s8 _ _ x wr => ∃ k : Nat, k + g = (mgK a i).length ∧ x = .int .i64 k ∧ s8 = su ∧ (∀ q, q < k → row (mgK a i) q ≠ row a i) ∧ ∃ m, wr = ws.drewN m)
      case atStart => exact ⟨0, by omega, rfl, rfl, fun q hq => absurd hq (by omega), 0, rfl⟩
      case round =>
        obtain ⟨k, hk, rfl, rfl, hq, md, hmd⟩ := hrel
        have HQ := Lib.hid hq
        have HBM := Lib.hid (show Below ws.heap.size ws wr by rw [hmd]; exact below_drewN (Below.refl _ _) _)
        have HMD := Lib.hid (show ∀ n, ∃ m, wr.drewN n = ws.drewN m from fun n => ⟨_, by rw [hmd]; exact World.drewN_drewN _ _ _⟩)
        clear hq hmd
        by_cases hkk : k < (mgK a i).length
        · have hk2 := HK.out.below HBM.out (Nat.le_refl _)
          obtain ⟨rfl, -⟩ := hk2.ptr (by omega)
          have c1 := hk2.cell k hkk
          rw [Nat.zero_add] at c1
          have HR1 := Lib.hid (HR.out.below HBM.out (Nat.le_refl _))
          have HR2 := Lib.hid (hk2.rows k hkk)
          clear hk2
          have HEQ := Lib.hid (equal_any (row a i) (row (mgK a i) k) _ _ _ _ (C i) _ _ (VC k) wr HR1.out HR2.out)
          by_cases e : row (mgK a i) k = row a i
          · have HE := Lib.hid (mg_at hkk e HQ.out)
            have hd : decide (row a i = row (mgK a i) k) = true := decide_eq_true e.symm
            unfold Hid at HEQ
            simp only [hd] at HEQ
            have HEQ := Lib.hid HEQ
            clear e hd
            go_wp2_with fail
            refine HEQ.out.mono ?_
            rintro e w2 ⟨rfl, hm2⟩
            have HB2 := Lib.hid (show Below ws.heap.size ws w2 by obtain ⟨m, rfl⟩ := hm2; exact below_drewN HBM.out _)
            clear c1 hm2 HEQ
            have HML := Lib.hid (show (mgN a i).length = i from mgN_len a i)
            have HMA := Lib.hid (HM.out.below (HB2.out.alloc HB2.out.size (.cells #[.int .i64 k] 3)) (Nat.le_refl _))
            go_wp2_with (first
              | (at_builtin; refine wpList_append_own_at _ rfl (.tmp 36) (.tmp 38) 34 rfl w.heap.size 3 i0 (.int .i64 0) 1 8 Try.underlying34 hi0 hz0 hz1 hz2 rfl (by decide) u8 (mgN a i).length ((mgN a i).map (Value.int .i64)) rfl HMA.out.num.own ⟨w2.heap.size, 0, none⟩ 1 1 [.int .i64 k] rfl rfl (cell_one_new _ _ _) (by simp [Value.oneCell']) ?q2 ?q3 ?q4 ?_)
              | (fail))
            case q2 => have := HML.out; unfold maxLen; omega
            case q3 => have := HML.out; omega
            case q4 => have := HB.out.size; have := HB2.out.size; simp; omega
            intro u' w9 hown hgrow _ hloc
            have HM9 := Lib.hid (HMA.out.number hown hgrow (by rw [World.size_alloc]; exact hloc) (by have := hkk; omega) (by rw [HML.out]; omega))
            have HB9 := Lib.hid ((HB.out.trans (HB2.out.mono HB.out.size)).alloc (Nat.le_trans HB.out.size HB2.out.size) (.cells #[.int .i64 k] 3) |>.grown hgrow (by have := HB.out.size; have := HB2.out.size; simp; omega) (fun r hr => (HMA.out.num.own.lt r hr).1))
            clear hown hgrow hloc HMA
            go_wp2
            go_roundg (gm - 1)
            case measure => omega
            case rel => exact ⟨i + 1, by omega, by go_num, by rw [HE.out.2, mgN, HE.out.1]; exact HM9.out, HB9.out⟩
          · have HQ2 := Lib.hid (show ∀ q, q < k + 1 → row (mgK a i) q ≠ row a i from fun q hq => by
              by_cases eq : q = k
              · subst eq; exact e
              · exact HQ.out q (by omega))
            have hd : decide (row a i = row (mgK a i) k) = false := decide_eq_false fun q => e q.symm
            unfold Hid at HEQ
            simp only [hd] at HEQ
            have HEQ := Lib.hid HEQ
            clear e hd
            go_wp2_with fail
            refine HEQ.out.mono ?_
            rintro e w2 ⟨rfl, m2, rfl⟩
            clear c1 HEQ
            go_wp2
            go_roundg (gk - 1)
            case measure => omega
            case rel => exact ⟨k + 1, by omega, by go_num, rfl, HQ2.out, HMD.out m2⟩
        · have hkn : k = (mgK a i).length := by omega
          have HE := Lib.hid (mg_new (a := a) (i := i) (by rw [← hkn]; exact HQ.out))
          have HML := Lib.hid (show (mgN a i).length = i from mgN_len a i)
          have HMA := Lib.hid (HM.out.below (HBM.out.alloc HBM.out.size (.cells #[.int .i64 (mgK a i).length] 3)) (Nat.le_refl _))
          clear HQ HMD
          go_wp2_with (first
              | (at_builtin; refine wpList_append_own_at _ rfl (.tmp 41) (.tmp 44) 34 rfl w.heap.size 3 i0 (.int .i64 0) 1 8 Try.underlying34 hi0 hz0 hz1 hz2 rfl (by decide) u8 (mgN a i).length ((mgN a i).map (Value.int .i64)) rfl HMA.out.num.own ⟨wr.heap.size, 0, none⟩ 1 1 [.int .i64 (mgK a i).length] rfl rfl (cell_one_new _ _ _) (by simp [Value.oneCell']) ?q2 ?q3 ?q4 ?_)
              | (fail))
          case q2 => have := HML.out; unfold maxLen; omega
          case q3 => have := HML.out; omega
          case q4 => have := HB.out.size; have := HBM.out.size; simp; omega
          intro u' w9 hown hgrow _ hloc
          have HM9 := Lib.hid (HMA.out.number hown hgrow (by rw [World.size_alloc]; exact hloc) (by omega) (by rw [HML.out]; omega))
          have HBB := Lib.hid ((HB.out.trans (HBM.out.mono HB.out.size)).alloc (Nat.le_trans HB.out.size HBM.out.size) (.cells #[.int .i64 (mgK a i).length] 3) |>.grown hgrow (by have := HB.out.size; have := HBM.out.size; simp; omega) (fun r hr => (HMA.out.num.own.lt r hr).1))
          clear hown hgrow hloc HMA
          go_wp2_with fail
          refine (clone_any (row a i) (B i) (O i) (C i) w9 (HRW.out.below HBB.out (Nat.le_refl _)) (HLEN.out i hlt).1 (HLEN.out i hlt).2 (HCC.out i hlt)).mono ?_
          rintro e w10 ⟨x, rfl, hx, hb10⟩
          have HM10 := HM9.out.below hb10 (Nat.le_refl _)
          obtain ⟨vs, e1, e2, e3⟩ := HM10.ex
          have hxu : x.ownBlock = none ∨ x.ownBlock ≠ u'.ownBlock := by
            rcases hxb : x.ownBlock with _ | r
            · exact .inl rfl
            · right
              intro q
              have q1 := (hx.own.lt r hxb).1
              have q2 := (HM9.out.num.own.lt r q.symm).2
              omega
          obtain ⟨xo, xb, xc, rfl, -, -⟩ := hx.at
          have hx1 := hx.oneCell
          have HBC := Lib.hid (HBB.out.trans (hb10.mono HBB.out.size))
          have HX := Lib.hid ((hx.mono HBB.out.size).below ((Below.refl _ w10).alloc (Nat.le_refl _) (.cells #[.slice xo (row a i).length xc] 34)) (Nat.le_refl _))
          have HXU := Lib.hid hxu
          have HM11 := Lib.hid (HM10.num.below ((Below.refl _ w10).alloc (Nat.le_refl _) (.cells #[.slice xo (row a i).length xc] 34)) (Nat.le_refl _))
          have HE2 := Lib.hid (show ∀ j, j < (mgK a i).length → ∃ z, vs[j]? = some z ∧ NewInts w.heap.size (w10.alloc (.cells #[.slice xo (row a i).length xc] 34)) z (row (mgK a i) j) ∧ (z.ownBlock = none ∨ z.ownBlock ≠ u'.ownBlock) from fun j hj => let ⟨z, q1, q2, q3⟩ := e2 j hj; ⟨z, q1, q2.below ((Below.refl _ _).alloc (Nat.le_refl _) _) (Nat.le_refl _), q3⟩)
          have HE3 := Lib.hid e3
          have HE1 := Lib.hid (ownsRow_below e1 ((Below.refl _ w10).alloc (Nat.le_refl _) (.cells #[.slice xo (row a i).length xc] 34)) (Nat.le_refl _))
          clear hb10 HM10 e1 e2 e3 hx hxu HM9 HBB HRW
          go_wp2_with (first
              | (at_builtin; refine wpList_append_own_at _ rfl (.tmp 46) (.tmp 49) 22 rfl w.heap.size 34 j0 (.slice none 0 0) 1 24 Try.underlying22 hj0 jz0 jz1 jz2 rfl (by decide) (.slice vo (mgK a i).length vc) (mgK a i).length vs rfl HE1.out ⟨w10.heap.size, 0, none⟩ 1 1 [.slice xo (row a i).length xc] rfl rfl (cell_one_new _ _ _) (by simp [oneCell_slice]) ?q2 ?q3 ?q4 ?_)
              | (fail))
          case q2 => unfold maxLen; omega
          case q3 => omega
          case q4 => have := HBC.out.size; simp; omega
          intro v' w12 hown hgrow _ _
          have HP := Lib.hid (Mg.push HE1.out HE2.out HE3.out HM11.out HX.out HXU.out hown hgrow)
          have HBD := Lib.hid ((HBC.out.alloc HBC.out.size (.cells #[.slice xo (row a i).length xc] 34)).grown hgrow (by have := HBC.out.size; simp; omega) (fun r hr => (HE1.out.lt r hr).1))
          clear hown hgrow
          go_wp2
          go_roundg (gm - 1)
          case measure => omega
          case rel => exact ⟨i + 1, by omega, by go_num, by rw [HE.out.2, mgN, HE.out.1]; exact HP.out, HBD.out⟩
    · have hia : i = a.length := by omega
      subst hia
      go_wp2
      rw [Exit.noGoto_ret]
      go_ret3
      exact ⟨_, _, rfl, HM.out.rows, HM.out.num, HB.out⟩

end Go.Proofs.Ytjibdolhipddbaa
