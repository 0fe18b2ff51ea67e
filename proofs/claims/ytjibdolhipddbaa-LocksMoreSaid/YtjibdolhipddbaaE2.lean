/- The law's copy of a list of rows. -/
import Derived.StillTail
import Derived.StillTailTactics
import Derived.Laws.AppendOwnNone
import Derived.Maps.AppendAt
import Derived.Deep.AppendLies
import Derived.Test.YtjibdolhipddbaaE1
namespace Go.Proofs.Ytjibdolhipddbaa
open Go.RowKit Go.Maps

/-- The first eight rows, eight numbers of each. -/
def trim8 (xss : List (List Int)) : List (List Int) := (xss.take 8).map (List.take 8)
theorem take_succ_row {xss : List (List Int)} {k : Nat} (h : k < xss.length) : (xss.take (k + 1)).map (List.take 8) = (xss.take k).map (List.take 8) ++ [(row xss k).take 8] := by
  rw [List.take_succ_eq_append_getElem h, List.map_append]
  simp [row, List.getD_eq_getElem?_getD, h]

theorem step_copy {ops : Array Oper} {o : Oper} {a : Act} {W wq : World} {K : Act → World → Prop} {Q : Exit → Act → World → Prop} {E : Prop} (hgd : o.guard = none) (s x : Operand)
    (ho : o.op = .call { callee := .builtin .append, args := #[s, x], argTypes := #[34, 34] }) (hb : Below wq.heap.size wq W) (q : List Int) (ak : Option Addr) (m ck : Nat)
    (hs : a.eval s = .slice none 0 0) (hx : a.eval x = .slice ak m ck) (hm : m = q.length) (hn : ak = none → m = 0 ∧ ck = 0) (h9 : q.length ≤ 8)
    (hwf : ∀ i, -9223372036854775808 ≤ nth q i ∧ nth q i ≤ 9223372036854775807)
    (hc : ∀ ad, ak = some ad → ∀ j u, (q.map (Value.int .i64))[j]? = some u → W.cell? (ad.add j) = some u)
    (h : ∀ u w', NewInts wq.heap.size w' u q → Below wq.heap.size wq w' → K (a.put o.dst u) w') :
    if Region.wanted o (yielded ops a.tmps) = true then Oper.wp Try.prog o a W K Q else E := by
  have hw : Region.wanted o (yielded ops a.tmps) = true := by simp [Region.wanted, hgd]
  rw [if_pos hw]
  obtain ⟨i0, hi, hz0, hz1, hz2⟩ := info_parts Try.info3
  cases ak with
  | none =>
    obtain ⟨h0, hk0⟩ := hn rfl
    have hq : q = [] := List.length_eq_zero_iff.1 (by omega)
    subst hq
    subst hm
    subst hk0
    have hrun := run_append_owned_none (P := Try.prog) (w := W) W.heap.size 34 o.type 3 i0 1 Try.underlying34 hi (.slice none 0 0) 0 [] (own_nil _ _)
    unfold Oper.wp
    simp [execOp, ho, resolve, invoke, builtin, hs, hx, hrun, Result.andThen]
    exact h _ _ (NewInts.nil _ _) hb
  | some ad =>
    refine wp_append_own W s x 34 ho wq.heap.size 3 i0 (.int .i64 0) 1 8 Try.underlying34 hi hz0 hz1 hz2 rfl (by omega) (.slice none 0 0) 0 [] hs (own_nil _ _) ad m ck (q.map (Value.int .i64)) hx (by simp [hm]) (hc ad rfl) (oneCell_ints _) (by unfold maxLen; omega) (by omega) hb.size ?_
    intro v' w' hown hg _
    refine h v' w' ⟨by simpa [hm] using hown, hwf, by omega⟩ (hb.grown hg hb.size (fun r hr => by simp [Value.ownBlock] at hr))

theorem step_push {ops : Array Oper} {o : Oper} {a : Act} {W : World} {K : Act → World → Prop} {Q : Exit → Act → World → Prop} {E : Prop} (hgd : o.guard = none) (s x : Operand)
    (ho : o.op = .call { callee := .builtin .append, args := #[s, x], argTypes := #[22, 22] }) (B N : Nat) (v u : Value) (q : List Int) (xss : List (List Int))
    (hs : a.eval s = v) (hx : a.eval x = .slice (some ⟨N, 0, none⟩) 1 1) (hN : W.heap[N]? = some (.cells #[u] 34 (0, 0))) (hR : NewRows B W v xss) (hu : NewInts B W u q) (hB : B ≤ W.heap.size) (hl : xss.length ≤ 8)
    (h : ∀ v' w', NewRows B w' v' (xss ++ [q]) → Below B W w' → K (a.put o.dst v') w') :
    if Region.wanted o (yielded ops a.tmps) = true then Oper.wp Try.prog o a W K Q else E := by
  have hw : Region.wanted o (yielded ops a.tmps) = true := by simp [Region.wanted, hgd]
  rw [if_pos hw]
  obtain ⟨j0, hj0, jz0, jz1, jz2⟩ := info_parts Try.info34
  obtain ⟨vs, e1, e2, e3⟩ := hR.ex
  obtain ⟨uo, ub, uc, hue, -⟩ := hu.at
  have hu1 : u.oneCell' = true := by rw [hue]; rfl
  refine wp_append_own W s x 22 ho B 34 j0 (.slice none 0 0) 1 24 Try.underlying22 hj0 jz0 jz1 jz2 rfl (by omega) v xss.length vs hs e1 ⟨N, 0, none⟩ 1 1 [u] hx rfl
    (World.news_of_block (cs := #[u]) (t := 34) (fr := (0, 0)) hN) (by simp [hu1]) (by unfold maxLen; omega) (by omega) hB ?_
  intro v' w' hown hg _
  exact h v' w' (NewRows.snoc e1 e2 e3 hu hu1 hown hg) ((Below.refl _ _).grown hg hB (fun r hr => (e1.lt r hr).1))

set_option maxHeartbeats 8000000 in
set_option maxRecDepth 100000 in
theorem table_any (L : List (List Int)) (ao : Option Addr) (b o cap : Nat) (A : Nat → Option Addr) (B O C : Nat → Nat) (w : World) (h : RowsAt w ao b o L A B O C) (hc : CapsOk L A C) :
    Calls Try.prog 11 #[.slice ao L.length cap] w fun e w' => (∃ v, e = .returned v ∧ NewRows w.heap.size w' v (trim8 L)) ∧ Below w.heap.size w w' := by
  have HP := Lib.hid h
  have CP := Lib.hid hc
  have hlP := h.len
  obtain ⟨i0, hi, hz0, hz1, hz2⟩ := info_parts Try.info3
  obtain ⟨j0, hj0, jz0, jz1, jz2⟩ := info_parts Try.info34
  clear h hc
  go_enter Try.func11, Try.ntmps11
  go_wp2
  go_loopw [3, 4, 5] (fun v i _ wr => ∃ (k : Nat) (v1 : Value), v1 = v ∧ k ≤ L.length ∧ k ≤ 8 ∧ i = .int .i64 k ∧ NewRows w.heap.size wr v1 ((L.take k).map (List.take 8)) ∧ Below w.heap.size w wr) (fun _ i _ _ => L.length - (intOf i).toNat)
  case atStart => exact ⟨0, _, rfl, by omega, by omega, rfl, NewRows.nil _ _, Below.refl _ _⟩
  case round =>
    obtain ⟨k, v1, rfl, hk, hk8, rfl, hr, hb⟩ := hrel
    obtain ⟨wq, rfl⟩ : ∃ x, x = wr := ⟨_, rfl⟩
    have HB := Lib.hid hb
    have HR := Lib.hid hr
    have hsz := hb.size
    clear hb hr
    by_cases hgo : k < L.length ∧ k < 8
    · obtain ⟨hlt, hl8⟩ := hgo
      have hP' := HP.out.below HB.out (Nat.le_refl _)
      obtain ⟨rfl, -⟩ := hP'.ptr (by omega)
      have hck := hP'.cell k hlt
      have HRK := Lib.hid (hP'.rows k hlt)
      obtain ⟨hcc, hcn⟩ := CP.out k hlt
      have hrl := HRK.out.len
      obtain ⟨q, hq⟩ : ∃ q, q = List.take 8 (row L k) := ⟨_, rfl⟩
      have HRW := Lib.hid hq.symm
      have hql : q.length = min 8 (row L k).length := by rw [hq, List.length_take]
      have HWF := Lib.hid (show ∀ i, -9223372036854775808 ≤ nth q i ∧ nth q i ≤ 9223372036854775807 by rw [hq]; exact wf_take HRK.out.wf)
      have HNA := Lib.hid (show ∀ W ad, Below wq.heap.size wq W → A k = some ad → ∀ j u, (q.map (Value.int .i64))[j]? = some u → W.cell? (ad.add j) = some u from fun W ad hW hA => by rw [hq]; exact news_at (HRK.out.below hW (Nat.le_refl _)) ad hA 8)
      have HNN := Lib.hid (show A k = none → (row L k).length = 0 ∧ C k = 0 from fun hA => ⟨Nat.eq_zero_of_not_pos (fun e => by have := (HRK.out.ptr e).1; rw [hA] at this; cases this), hcn hA⟩)
      obtain ⟨r, hrr⟩ : ∃ n, (row L k).length = n := ⟨_, rfl⟩
      obtain ⟨ck, hckk⟩ : ∃ c, C k = c := ⟨_, rfl⟩
      obtain ⟨ak, hak⟩ : ∃ a, A k = a := ⟨_, rfl⟩
      rw [hrr, hckk] at HNN
      rw [hak] at HNN HNA
      rw [hrr] at hql hrl
      rw [hrr, hckk] at hcc
      rw [hrr, hckk, hak] at hck
      clear hP' hcn hq hrr hckk hak HRK
      have hlk : ((L.take k).map (List.take 8)).length = k := by simp; omega
      have HS := Lib.hid (show ∀ W, Below w.heap.size wq W → W.cell? ⟨b, o + k, none⟩ = some (.slice ak r ck) from fun W hW => (hW.cell (p := ⟨b, o + k, none⟩) (HP.out.ptr (by omega)).2).trans hck)
      have HBq := Lib.hid (Below.refl wq.heap.size wq)
      have HBk := Lib.hid (Below.refl w.heap.size wq)
      have HRR := Lib.hid (show ∀ W, Below wq.heap.size wq W → NewRows w.heap.size W v1 ((L.take k).map (List.take 8)) from fun W hW => HR.out.below hW (Nat.le_refl _))
      have HTS := Lib.hid (take_succ_row hlt)
      by_cases h9 : r ≤ 8
      · have hqr : r = q.length := by omega
        have HQR := Lib.hid hqr
        have hq9 : q.length ≤ 8 := by omega
        have bd1 : (r : Int) ≤ (ck : Int) := by omega
        have bd2 : (0 : Int) ≤ (r : Int) := by omega
        have bd3 : ¬ (8 : Int) < (r : Int) := by omega
        have bd5 : decide ((8 : Int) < (r : Int)) = false := decide_eq_false bd3
        have bd6 : ¬ 8 < r := by omega
        have bd7 : (if (8 : Int) < (r : Int) then (8 : Int) else (r : Int)) = (r : Int) := by split <;> omega
        have bd8 : r ≤ ck := hcc
        clear hqr hql
        go_wp2
        go_region_held3 (fun w' => w'.cell? ⟨b, o + k, none⟩ = some (.slice ak r ck))
          ((refine HS.out _ ?_; (repeat (first | exact HBk.out | apply below_dr | apply Below.alloc)); all_goals (first | (exact Nat.le_trans hsz HBq.out.size) | (have hbk := HBk.out.size; omega))))
          (first
            | (refine step_copy (wq := wq) rfl (.tmp 17) (.tmp 28) rfl ?_ q ak r ck rfl rfl HQR.out HNN.out hq9 HWF.out (fun ad hA => HNA.out _ ad ?_ hA) ?_; (focus (repeat (first | exact HBq.out | apply below_dr))); (focus (repeat (first | exact HBq.out | apply below_dr))); intro u w6 hnp hb6; obtain ⟨uo, ub, uc, rfl, -⟩ := hnp.at; have HBq := Lib.hid hb6; have HBk := Lib.hid (hb6.mono hsz); have HNP := Lib.hid hnp; clear hb6 hnp)
            | (refine step_push rfl (.tmp 16) (.tmp 30) rfl w.heap.size _ v1 _ q ((L.take k).map (List.take 8)) rfl rfl ?_ (HRR.out _ ?_) ((HNP.out.mono hsz).below ?_ (Nat.le_refl _)) ?_ (by rw [hlk]; exact hk8) ?_; (focus (exact heap_alloc_new _ _)); (focus (exact HBq.out.alloc HBq.out.size _)); (focus (exact (Below.refl _ _).alloc (Nat.le_refl _) _)); (focus (exact Nat.le_trans (Nat.le_trans hsz HBq.out.size) (by simp))); intro v2 w7 hno hb7; have HNO := Lib.hid hno; have HBk := Lib.hid ((HBk.out.alloc (Nat.le_trans hsz HBq.out.size) _).trans hb7); clear hno hb7)
            | (fail))
        all_goals (
          have HB8 := Lib.hid (HB.out.trans HBk.out)
          clear HBk HBq HS HRR HNA HNN HWF
          go_wp2
          go_roundw
          case rel => exact ⟨k + 1, v2, rfl, by omega, by omega, by go_num, by rw [HTS.out, HRW.out]; exact HNO.out, by first | exact HB8.out | exact below_dr HB8.out⟩
          case measure => simp [intOf]; omega)
      · have hqr : 8 = q.length := by omega
        have HQR := Lib.hid hqr
        have hq9 : q.length ≤ 8 := by omega
        have bd1 : (8 : Int) ≤ (ck : Int) := by omega
        have bd3 : (8 : Int) < (r : Int) := by omega
        have bd5 : decide ((8 : Int) < (r : Int)) = true := decide_eq_true bd3
        clear hqr hql
        go_wp2
        go_region_held3 (fun w' => w'.cell? ⟨b, o + k, none⟩ = some (.slice ak r ck))
          ((refine HS.out _ ?_; (repeat (first | exact HBk.out | apply below_dr | apply Below.alloc)); all_goals (first | (exact Nat.le_trans hsz HBq.out.size) | (have hbk := HBk.out.size; omega))))
          (first
            | (refine step_copy (wq := wq) rfl (.tmp 17) (.tmp 28) rfl ?_ q ak 8 ck rfl rfl HQR.out (fun hA => by have := (HNN.out hA).1; omega) hq9 HWF.out (fun ad hA => HNA.out _ ad ?_ hA) ?_; (focus (repeat (first | exact HBq.out | apply below_dr))); (focus (repeat (first | exact HBq.out | apply below_dr))); intro u w6 hnp hb6; obtain ⟨uo, ub, uc, rfl, -⟩ := hnp.at; have HBq := Lib.hid hb6; have HBk := Lib.hid (hb6.mono hsz); have HNP := Lib.hid hnp; clear hb6 hnp)
            | (refine step_push rfl (.tmp 16) (.tmp 30) rfl w.heap.size _ v1 _ q ((L.take k).map (List.take 8)) rfl rfl ?_ (HRR.out _ ?_) ((HNP.out.mono hsz).below ?_ (Nat.le_refl _)) ?_ (by rw [hlk]; exact hk8) ?_; (focus (exact heap_alloc_new _ _)); (focus (exact HBq.out.alloc HBq.out.size _)); (focus (exact (Below.refl _ _).alloc (Nat.le_refl _) _)); (focus (exact Nat.le_trans (Nat.le_trans hsz HBq.out.size) (by simp))); intro v2 w7 hno hb7; have HNO := Lib.hid hno; have HBk := Lib.hid ((HBk.out.alloc (Nat.le_trans hsz HBq.out.size) _).trans hb7); clear hno hb7)
            | (fail))
        all_goals (
          have HB8 := Lib.hid (HB.out.trans HBk.out)
          clear HBk HBq HS HRR HNA HNN HWF
          go_wp2
          go_roundw
          case rel => exact ⟨k + 1, v2, rfl, by omega, by omega, by go_num, by rw [HTS.out, HRW.out]; exact HNO.out, by first | exact HB8.out | exact below_dr HB8.out⟩
          case measure => simp [intOf]; omega)
    · have htr : (L.take k).map (List.take 8) = trim8 L := by
        unfold trim8
        by_cases e : k = 8
        · rw [e]
        · rw [List.take_of_length_le (show L.length ≤ k by omega), List.take_of_length_le (show L.length ≤ 8 by omega)]
      rw [htr] at HR
      have hcase : (¬ k < L.length) ∨ (k < L.length ∧ ¬ k < 8) := by omega
      obtain ⟨uo, ub, uc, A1, B1, O1, C1, hvv, -⟩ := HR.out.at (by unfold trim8; simp; omega)
      have HVV := Lib.hid hvv
      clear htr hgo hvv
      rcases hcase with g1 | ⟨g1, g2⟩
      all_goals (
        go_wp2
        refine bodyPost_ret (v := v1) (by simp [results, Try.results11, go_sem]) rfl ⟨⟨_, rfl, HR.out⟩, HB.out⟩)

end Go.Proofs.Ytjibdolhipddbaa
