/- E1 E2 E3 E4 -/
import Derived.Test.YtjibdolhipddbaaQj
import Derived.StillTail
import Derived.StillTailTactics
import Derived.Laws.AppendOwnNone
import Derived.Maps.AppendAt
import Derived.Deep.AppendLies
/- Comparisons of lists. -/
namespace Go.Proofs.Ytjibdolhipddbaa
open Go.RowKit

theorem nth_eq {xs ys : List Int} (hl : xs.length = ys.length) (h : ∀ i, i < xs.length → nth xs i = nth ys i) : xs = ys := by
  refine List.ext_getElem hl fun i h1 h2 => ?_
  have := h i h1
  simpa [nth, List.getD_eq_getElem?_getD, h1, h2] using this

set_option maxHeartbeats 1000000 in
set_option maxRecDepth 100000 in
theorem ints_any (xs ys : List Int) (ao bo : Option Addr) (ab ax ac bb bx bc : Nat) (w : World) (hX : IntsAt w ao ab ax xs) (hY : IntsAt w bo bb bx ys) :
    Calls Try.prog 27 #[.slice ao xs.length ac, .slice bo ys.length bc] w fun e w' => e = .returned (.bool (decide (xs = ys))) ∧ ∃ m, w' = w.drewN m := by
  have lx := hX.len
  have ly := hY.len
  have HX := Lib.hid hX
  have HY := Lib.hid hY
  clear hX hY
  by_cases hl : xs.length = ys.length
  · have HL := Lib.hid hl
    have hq : ((xs.length : Int) != (ys.length : Int)) = false := by rw [hl]; simp
    rw [← hl]
    clear hl ly
    go_enter Try.func27, Try.ntmps27
    go_wp2
    go_loopw [5] (fun i wr => ∃ k : Nat, k ≤ xs.length ∧ i = .int .i64 k ∧ (∀ j, j < k → nth xs j = nth ys j) ∧ ∃ m, wr = w.drewN m) (fun i _ => xs.length - (intOf i).toNat)
    case atStart => exact ⟨0, by omega, rfl, fun j hj => absurd hj (by omega), 0, rfl⟩
    case round =>
      obtain ⟨k, hk, rfl, he, md, rfl⟩ := hrel
      have HE := Lib.hid he
      have HB := Lib.hid (below_drewN (Below.refl w.heap.size w) md)
      clear he
      by_cases hlt : k < xs.length
      · have hX := HX.out
        have hY := HY.out
        obtain ⟨rfl, -⟩ := hX.ptr (by omega)
        obtain ⟨rfl, -⟩ := hY.ptr (by rw [← HL.out]; omega)
        have c0 := hX.cell k hlt
        have c1 := hY.cell k (by rw [← HL.out]; exact hlt)
        clear hX hY
        by_cases e : nth xs k = nth ys k
        · have HQ := Lib.hid e
          have hq2 : (nth xs k != nth ys k) = false := by rw [e]; simp
          clear e
          go_wp2
          go_quiet (fail)
          go_wp2
          go_roundw
          case rel => exact ⟨k + 1, by omega, by go_num, fun j hj => by
            by_cases e : j = k
            · subst e; exact HQ.out
            · exact HE.out j (by omega), _, by first | rfl | exact World.drewN_drewN _ _ _⟩
          case measure => simp [intOf]; omega
        · have hq2 : (nth xs k != nth ys k) = true := by simpa using e
          have HF := Lib.hid (show decide (xs = ys) = false from decide_eq_false fun q => e (by rw [q]))
          clear e
          go_wp2
          go_quiet (fail)
          go_wp2
          go_ret
          exact ⟨congrArg (fun b => Ending.returned (.bool b)) HF.out.symm, _, by first | rfl | exact World.drewN_drewN _ _ _⟩
      · have HT := Lib.hid (show decide (xs = ys) = true from decide_eq_true (nth_eq HL.out fun i hi => HE.out i (by omega)))
        go_wp2
        go_ret
        exact ⟨congrArg (fun b => Ending.returned (.bool b)) HT.out.symm, _, rfl⟩
  · have hq : ((xs.length : Int) != (ys.length : Int)) = true := by simp; omega
    have HF := Lib.hid (show decide (xs = ys) = false from decide_eq_false fun q => hl (by rw [q]))
    clear hl
    go_enter Try.func27, Try.ntmps27
    go_wp2
    go_ret
    exact ⟨congrArg (fun b => Ending.returned (.bool b)) HF.out.symm, 0, rfl⟩

set_option maxHeartbeats 1000000 in
set_option maxRecDepth 100000 in
theorem equal_any (xs ys : List Int) (ao bo : Option Addr) (ab ax ac bb bx bc : Nat) (w : World) (hX : IntsAt w ao ab ax xs) (hY : IntsAt w bo bb bx ys) :
    Calls Try.prog 46 #[.slice ao xs.length ac, .slice bo ys.length bc] w fun e w' => e = .returned (.bool (decide (xs = ys))) ∧ ∃ m, w' = w.drewN m := by
  have lx := hX.len
  have ly := hY.len
  have HX := Lib.hid hX
  have HY := Lib.hid hY
  clear hX hY
  by_cases hl : xs.length = ys.length
  · have HL := Lib.hid hl
    have hq : ((xs.length : Int) != (ys.length : Int)) = false := by rw [hl]; simp
    rw [← hl]
    clear hl ly
    go_enter Try.func46, Try.ntmps46
    go_wp2
    go_loopw [5, 13] (fun _ i wr => ∃ k : Nat, k ≤ xs.length ∧ i = .int .i64 k ∧ (∀ j, j < k → nth xs j = nth ys j) ∧ ∃ m, wr = w.drewN m) (fun _ i _ => xs.length - (intOf i).toNat)
    case atStart => exact ⟨0, by omega, rfl, fun j hj => absurd hj (by omega), 0, rfl⟩
    case round =>
      obtain ⟨k, hk, rfl, he, md, rfl⟩ := hrel
      have HE := Lib.hid he
      have HB := Lib.hid (below_drewN (Below.refl w.heap.size w) md)
      clear he
      by_cases hlt : k < xs.length
      · have hX := HX.out
        have hY := HY.out
        obtain ⟨rfl, -⟩ := hX.ptr (by omega)
        obtain ⟨rfl, -⟩ := hY.ptr (by rw [← HL.out]; omega)
        have c0 := hX.cell k hlt
        have c1 := hY.cell k (by rw [← HL.out]; exact hlt)
        clear hX hY
        by_cases e : nth xs k = nth ys k
        · have HQ := Lib.hid e
          have hq2 : (nth xs k != nth ys k) = false := by rw [e]; simp
          clear e
          go_wp2
          go_quiet (fail)
          go_wp2
          go_roundw
          case rel => exact ⟨k + 1, by omega, by go_num, fun j hj => by
            by_cases e : j = k
            · subst e; exact HQ.out
            · exact HE.out j (by omega), _, by first | rfl | exact World.drewN_drewN _ _ _⟩
          case measure => simp [intOf]; omega
        · have hq2 : (nth xs k != nth ys k) = true := by simpa using e
          have HF := Lib.hid (show decide (xs = ys) = false from decide_eq_false fun q => e (by rw [q]))
          clear e
          go_wp2
          go_quiet (fail)
          go_wp2
          go_ret
          exact ⟨congrArg (fun b => Ending.returned (.bool b)) HF.out.symm, _, by first | rfl | exact World.drewN_drewN _ _ _⟩
      · have HT := Lib.hid (show decide (xs = ys) = true from decide_eq_true (nth_eq HL.out fun i hi => HE.out i (by omega)))
        go_wp2
        go_ret
        exact ⟨congrArg (fun b => Ending.returned (.bool b)) HT.out.symm, _, rfl⟩
  · have hq : ((xs.length : Int) != (ys.length : Int)) = true := by simp; omega
    have HF := Lib.hid (show decide (xs = ys) = false from decide_eq_false fun q => hl (by rw [q]))
    clear hl
    go_enter Try.func46, Try.ntmps46
    go_wp2
    go_ret
    exact ⟨congrArg (fun b => Ending.returned (.bool b)) HF.out.symm, 0, rfl⟩


end Go.Proofs.Ytjibdolhipddbaa

/- The law's copy of a list of rows. -/
namespace Go.Proofs.Ytjibdolhipddbaa
open Go.RowKit Go.Maps

/-- The first eight rows, eight numbers of each. -/
def trim8 (xss : List (List Int)) : List (List Int) := (xss.take 8).map (List.take 8)
theorem take_succ_row {xss : List (List Int)} {k : Nat} (h : k < xss.length) : (xss.take (k + 1)).map (List.take 8) = (xss.take k).map (List.take 8) ++ [(row xss k).take 8] := by
  rw [List.take_succ_eq_append_getElem h, List.map_append]
  simp [row, List.getD_eq_getElem?_getD, h]

theorem step_copy {ops : Array Oper} {o : Oper} {a : Act} {W wq : World} {K : Act → World → Prop} {Q : Exit → Act → World → Prop} {E : Prop} (hgd : o.guard = none) (s x : Operand)
    (ho : o.op = .call { callee := .builtin .append, args := #[s, x], argTypes := #[34, 34] }) (hb : Below wq.heap.size wq W) (q : List Int) (ak : Option Addr) (m ck : Nat)
    (hs : a.eval s = .slice none 0 0) (hx : a.eval x = .slice ak m ck) (hm : m = q.length) (hn : ak = none → m = 0 ∧ ck = 0) (h9 : q.length ≤ 8)
    (hwf : ∀ i, -9223372036854775808 ≤ nth q i ∧ nth q i ≤ 9223372036854775807)
    (hc : ∀ ad, ak = some ad → ∀ j u, (q.map (Value.int .i64))[j]? = some u → W.cell? (ad.add j) = some u)
    (h : ∀ u w', NewInts wq.heap.size w' u q → Below wq.heap.size wq w' → K (a.put o.dst u) w') :
    if Region.wanted o (yielded ops a.tmps) = true then Oper.wp Try.prog o a W K Q else E := by
  have hw : Region.wanted o (yielded ops a.tmps) = true := by simp [Region.wanted, hgd]
  rw [if_pos hw]
  obtain ⟨i0, hi, hz0, hz1, hz2⟩ := info_parts Try.info3
  cases ak with
  | none =>
    obtain ⟨h0, hk0⟩ := hn rfl
    have hq : q = [] := List.length_eq_zero_iff.1 (by omega)
    subst hq
    subst hm
    subst hk0
    have hrun := run_append_owned_none (P := Try.prog) (w := W) W.heap.size 34 o.type 3 i0 1 Try.underlying34 hi (.slice none 0 0) 0 [] (own_nil _ _)
    unfold Oper.wp
    simp [execOp, ho, resolve, invoke, builtin, hs, hx, hrun, Result.andThen]
    exact h _ _ (NewInts.nil _ _) hb
  | some ad =>
    refine wp_append_own W s x 34 ho wq.heap.size 3 i0 (.int .i64 0) 1 8 Try.underlying34 hi hz0 hz1 hz2 rfl (by omega) (.slice none 0 0) 0 [] hs (own_nil _ _) ad m ck (q.map (Value.int .i64)) hx (by simp [hm]) (hc ad rfl) (oneCell_ints _) (by unfold maxLen; omega) (by omega) hb.size ?_
    intro v' w' hown hg _
    refine h v' w' ⟨by simpa [hm] using hown, hwf, by omega⟩ (hb.grown hg hb.size (fun r hr => by simp [Value.ownBlock] at hr))

theorem step_push {ops : Array Oper} {o : Oper} {a : Act} {W : World} {K : Act → World → Prop} {Q : Exit → Act → World → Prop} {E : Prop} (hgd : o.guard = none) (s x : Operand)
    (ho : o.op = .call { callee := .builtin .append, args := #[s, x], argTypes := #[22, 22] }) (B N : Nat) (v u : Value) (q : List Int) (xss : List (List Int))
    (hs : a.eval s = v) (hx : a.eval x = .slice (some ⟨N, 0, none⟩) 1 1) (hN : W.heap[N]? = some (.cells #[u] 34 (0, 0))) (hR : NewRows B W v xss) (hu : NewInts B W u q) (hB : B ≤ W.heap.size) (hl : xss.length ≤ 8)
    (h : ∀ v' w', NewRows B w' v' (xss ++ [q]) → Below B W w' → K (a.put o.dst v') w') :
    if Region.wanted o (yielded ops a.tmps) = true then Oper.wp Try.prog o a W K Q else E := by
  have hw : Region.wanted o (yielded ops a.tmps) = true := by simp [Region.wanted, hgd]
  rw [if_pos hw]
  obtain ⟨j0, hj0, jz0, jz1, jz2⟩ := info_parts Try.info34
  obtain ⟨vs, e1, e2, e3⟩ := hR.ex
  obtain ⟨uo, ub, uc, hue, -⟩ := hu.at
  have hu1 : u.oneCell' = true := by rw [hue]; rfl
  refine wp_append_own W s x 22 ho B 34 j0 (.slice none 0 0) 1 24 Try.underlying22 hj0 jz0 jz1 jz2 rfl (by omega) v xss.length vs hs e1 ⟨N, 0, none⟩ 1 1 [u] hx rfl
    (World.news_of_block (cs := #[u]) (t := 34) (fr := (0, 0)) hN) (by simp [hu1]) (by unfold maxLen; omega) (by omega) hB ?_
  intro v' w' hown hg _
  exact h v' w' (NewRows.snoc e1 e2 e3 hu hu1 hown hg) ((Below.refl _ _).grown hg hB (fun r hr => (e1.lt r hr).1))

set_option maxHeartbeats 8000000 in
set_option maxRecDepth 100000 in
theorem table_any (L : List (List Int)) (ao : Option Addr) (b o cap : Nat) (A : Nat → Option Addr) (B O C : Nat → Nat) (w : World) (h : RowsAt w ao b o L A B O C) (hc : CapsOk L A C) :
    Calls Try.prog 11 #[.slice ao L.length cap] w fun e w' => (∃ v, e = .returned v ∧ NewRows w.heap.size w' v (trim8 L)) ∧ Below w.heap.size w w' := by
  have HP := Lib.hid h
  have CP := Lib.hid hc
  have hlP := h.len
  obtain ⟨i0, hi, hz0, hz1, hz2⟩ := info_parts Try.info3
  obtain ⟨j0, hj0, jz0, jz1, jz2⟩ := info_parts Try.info34
  clear h hc
  go_enter Try.func11, Try.ntmps11
  go_wp2
  go_loopw [3, 4, 5] (fun v i _ wr => ∃ (k : Nat) (v1 : Value), v1 = v ∧ k ≤ L.length ∧ k ≤ 8 ∧ i = .int .i64 k ∧ NewRows w.heap.size wr v1 ((L.take k).map (List.take 8)) ∧ Below w.heap.size w wr) (fun _ i _ _ => L.length - (intOf i).toNat)
  case atStart => exact ⟨0, _, rfl, by omega, by omega, rfl, NewRows.nil _ _, Below.refl _ _⟩
  case round =>
    obtain ⟨k, v1, rfl, hk, hk8, rfl, hr, hb⟩ := hrel
    obtain ⟨wq, rfl⟩ : ∃ x, x = wr := ⟨_, rfl⟩
    have HB := Lib.hid hb
    have HR := Lib.hid hr
    have hsz := hb.size
    clear hb hr
    by_cases hgo : k < L.length ∧ k < 8
    · obtain ⟨hlt, hl8⟩ := hgo
      have hP' := HP.out.below HB.out (Nat.le_refl _)
      obtain ⟨rfl, -⟩ := hP'.ptr (by omega)
      have hck := hP'.cell k hlt
      have HRK := Lib.hid (hP'.rows k hlt)
      obtain ⟨hcc, hcn⟩ := CP.out k hlt
      have hrl := HRK.out.len
      obtain ⟨q, hq⟩ : ∃ q, q = List.take 8 (row L k) := ⟨_, rfl⟩
      have HRW := Lib.hid hq.symm
      have hql : q.length = min 8 (row L k).length := by rw [hq, List.length_take]
      have HWF := Lib.hid (show ∀ i, -9223372036854775808 ≤ nth q i ∧ nth q i ≤ 9223372036854775807 by rw [hq]; exact wf_take HRK.out.wf)
      have HNA := Lib.hid (show ∀ W ad, Below wq.heap.size wq W → A k = some ad → ∀ j u, (q.map (Value.int .i64))[j]? = some u → W.cell? (ad.add j) = some u from fun W ad hW hA => by rw [hq]; exact news_at (HRK.out.below hW (Nat.le_refl _)) ad hA 8)
      have HNN := Lib.hid (show A k = none → (row L k).length = 0 ∧ C k = 0 from fun hA => ⟨Nat.eq_zero_of_not_pos (fun e => by have := (HRK.out.ptr e).1; rw [hA] at this; cases this), hcn hA⟩)
      obtain ⟨r, hrr⟩ : ∃ n, (row L k).length = n := ⟨_, rfl⟩
      obtain ⟨ck, hckk⟩ : ∃ c, C k = c := ⟨_, rfl⟩
      obtain ⟨ak, hak⟩ : ∃ a, A k = a := ⟨_, rfl⟩
      rw [hrr, hckk] at HNN
      rw [hak] at HNN HNA
      rw [hrr] at hql hrl
      rw [hrr, hckk] at hcc
      rw [hrr, hckk, hak] at hck
      clear hP' hcn hq hrr hckk hak HRK
      have hlk : ((L.take k).map (List.take 8)).length = k := by simp; omega
      have HS := Lib.hid (show ∀ W, Below w.heap.size wq W → W.cell? ⟨b, o + k, none⟩ = some (.slice ak r ck) from fun W hW => (hW.cell (p := ⟨b, o + k, none⟩) (HP.out.ptr (by omega)).2).trans hck)
      have HBq := Lib.hid (Below.refl wq.heap.size wq)
      have HBk := Lib.hid (Below.refl w.heap.size wq)
      have HRR := Lib.hid (show ∀ W, Below wq.heap.size wq W → NewRows w.heap.size W v1 ((L.take k).map (List.take 8)) from fun W hW => HR.out.below hW (Nat.le_refl _))
      have HTS := Lib.hid (take_succ_row hlt)
      by_cases h9 : r ≤ 8
      · have hqr : r = q.length := by omega
        have HQR := Lib.hid hqr
        have hq9 : q.length ≤ 8 := by omega
        have bd1 : (r : Int) ≤ (ck : Int) := by omega
        have bd2 : (0 : Int) ≤ (r : Int) := by omega
        have bd3 : ¬ (8 : Int) < (r : Int) := by omega
        have bd5 : decide ((8 : Int) < (r : Int)) = false := decide_eq_false bd3
        have bd6 : ¬ 8 < r := by omega
        have bd7 : (if (8 : Int) < (r : Int) then (8 : Int) else (r : Int)) = (r : Int) := by split <;> omega
        have bd8 : r ≤ ck := hcc
        clear hqr hql
        go_wp2
        go_region_held3 (fun w' => w'.cell? ⟨b, o + k, none⟩ = some (.slice ak r ck))
          ((refine HS.out _ ?_; (repeat (first | exact HBk.out | apply below_dr | apply Below.alloc)); all_goals (first | (exact Nat.le_trans hsz HBq.out.size) | (have hbk := HBk.out.size; omega))))
          (first
            | (refine step_copy (wq := wq) rfl (.tmp 17) (.tmp 28) rfl ?_ q ak r ck rfl rfl HQR.out HNN.out hq9 HWF.out (fun ad hA => HNA.out _ ad ?_ hA) ?_; (focus (repeat (first | exact HBq.out | apply below_dr))); (focus (repeat (first | exact HBq.out | apply below_dr))); intro u w6 hnp hb6; obtain ⟨uo, ub, uc, rfl, -⟩ := hnp.at; have HBq := Lib.hid hb6; have HBk := Lib.hid (hb6.mono hsz); have HNP := Lib.hid hnp; clear hb6 hnp)
            | (refine step_push rfl (.tmp 16) (.tmp 30) rfl w.heap.size _ v1 _ q ((L.take k).map (List.take 8)) rfl rfl ?_ (HRR.out _ ?_) ((HNP.out.mono hsz).below ?_ (Nat.le_refl _)) ?_ (by rw [hlk]; exact hk8) ?_; (focus (exact heap_alloc_new _ _)); (focus (exact HBq.out.alloc HBq.out.size _)); (focus (exact (Below.refl _ _).alloc (Nat.le_refl _) _)); (focus (exact Nat.le_trans (Nat.le_trans hsz HBq.out.size) (by simp))); intro v2 w7 hno hb7; have HNO := Lib.hid hno; have HBk := Lib.hid ((HBk.out.alloc (Nat.le_trans hsz HBq.out.size) _).trans hb7); clear hno hb7)
            | (fail))
        all_goals (
          have HB8 := Lib.hid (HB.out.trans HBk.out)
          clear HBk HBq HS HRR HNA HNN HWF
          go_wp2
          go_roundw
          case rel => exact ⟨k + 1, v2, rfl, by omega, by omega, by go_num, by rw [HTS.out, HRW.out]; exact HNO.out, by first | exact HB8.out | exact below_dr HB8.out⟩
          case measure => simp [intOf]; omega)
      · have hqr : 8 = q.length := by omega
        have HQR := Lib.hid hqr
        have hq9 : q.length ≤ 8 := by omega
        have bd1 : (8 : Int) ≤ (ck : Int) := by omega
        have bd3 : (8 : Int) < (r : Int) := by omega
        have bd5 : decide ((8 : Int) < (r : Int)) = true := decide_eq_true bd3
        clear hqr hql
        go_wp2
        go_region_held3 (fun w' => w'.cell? ⟨b, o + k, none⟩ = some (.slice ak r ck))
          ((refine HS.out _ ?_; (repeat (first | exact HBk.out | apply below_dr | apply Below.alloc)); all_goals (first | (exact Nat.le_trans hsz HBq.out.size) | (have hbk := HBk.out.size; omega))))
          (first
            | (refine step_copy (wq := wq) rfl (.tmp 17) (.tmp 28) rfl ?_ q ak 8 ck rfl rfl HQR.out (fun hA => by have := (HNN.out hA).1; omega) hq9 HWF.out (fun ad hA => HNA.out _ ad ?_ hA) ?_; (focus (repeat (first | exact HBq.out | apply below_dr))); (focus (repeat (first | exact HBq.out | apply below_dr))); intro u w6 hnp hb6; obtain ⟨uo, ub, uc, rfl, -⟩ := hnp.at; have HBq := Lib.hid hb6; have HBk := Lib.hid (hb6.mono hsz); have HNP := Lib.hid hnp; clear hb6 hnp)
            | (refine step_push rfl (.tmp 16) (.tmp 30) rfl w.heap.size _ v1 _ q ((L.take k).map (List.take 8)) rfl rfl ?_ (HRR.out _ ?_) ((HNP.out.mono hsz).below ?_ (Nat.le_refl _)) ?_ (by rw [hlk]; exact hk8) ?_; (focus (exact heap_alloc_new _ _)); (focus (exact HBq.out.alloc HBq.out.size _)); (focus (exact (Below.refl _ _).alloc (Nat.le_refl _) _)); (focus (exact Nat.le_trans (Nat.le_trans hsz HBq.out.size) (by simp))); intro v2 w7 hno hb7; have HNO := Lib.hid hno; have HBk := Lib.hid ((HBk.out.alloc (Nat.le_trans hsz HBq.out.size) _).trans hb7); clear hno hb7)
            | (fail))
        all_goals (
          have HB8 := Lib.hid (HB.out.trans HBk.out)
          clear HBk HBq HS HRR HNA HNN HWF
          go_wp2
          go_roundw
          case rel => exact ⟨k + 1, v2, rfl, by omega, by omega, by go_num, by rw [HTS.out, HRW.out]; exact HNO.out, by first | exact HB8.out | exact below_dr HB8.out⟩
          case measure => simp [intOf]; omega)
    · have htr : (L.take k).map (List.take 8) = trim8 L := by
        unfold trim8
        by_cases e : k = 8
        · rw [e]
        · rw [List.take_of_length_le (show L.length ≤ k by omega), List.take_of_length_le (show L.length ≤ 8 by omega)]
      rw [htr] at HR
      have hcase : (¬ k < L.length) ∨ (k < L.length ∧ ¬ k < 8) := by omega
      obtain ⟨uo, ub, uc, A1, B1, O1, C1, hvv, -⟩ := HR.out.at (by unfold trim8; simp; omega)
      have HVV := Lib.hid hvv
      clear htr hgo hvv
      rcases hcase with g1 | ⟨g1, g2⟩
      all_goals (
        go_wp2
        refine bodyPost_ret (v := v1) (by simp [results, Try.results11, go_sem]) rfl ⟨⟨_, rfl, HR.out⟩, HB.out⟩)

end Go.Proofs.Ytjibdolhipddbaa

/- More comparisons, and a copy. -/
namespace Go.Proofs.Ytjibdolhipddbaa
open Go.RowKit

set_option maxHeartbeats 1000000 in
set_option maxRecDepth 100000 in
theorem refSame_any (xs ys : List Int) (ao bo : Option Addr) (ab ax ac bb bx bc : Nat) (w : World) (hX : IntsAt w ao ab ax xs) (hY : IntsAt w bo bb bx ys) (hl : xs.length = ys.length) :
    Calls Try.prog 48 #[.slice ao xs.length ac, .slice bo ys.length bc] w fun e w' => e = .returned (.bool (decide (xs = ys))) ∧ ∃ m, w' = w.drewN m := by
  have lx := hX.len
  have HX := Lib.hid hX
  have HY := Lib.hid hY
  clear hX hY
  have HL := Lib.hid hl
  rw [← hl]
  clear hl
  go_enter Try.func48, Try.ntmps48
  go_wp2
  go_loopw [5] (fun i wr => ∃ k : Nat, k ≤ xs.length ∧ i = .int .i64 k ∧ (∀ j, j < k → nth xs j = nth ys j) ∧ ∃ m, wr = w.drewN m) (fun i _ => xs.length - (intOf i).toNat)
  case atStart => exact ⟨0, by omega, rfl, fun j hj => absurd hj (by omega), 0, rfl⟩
  case round =>
    obtain ⟨k, hk, rfl, he, md, rfl⟩ := hrel
    have HE := Lib.hid he
    clear he
    by_cases hlt : k < xs.length
    · have hX := HX.out
      have hY := HY.out
      obtain ⟨rfl, -⟩ := hX.ptr (by omega)
      obtain ⟨rfl, -⟩ := hY.ptr (by rw [← HL.out]; omega)
      have c0 := hX.cell k hlt
      have c1 := hY.cell k (by rw [← HL.out]; exact hlt)
      clear hX hY
      by_cases e : nth xs k = nth ys k
      · have HQ := Lib.hid e
        have hq2 : (nth xs k != nth ys k) = false := by rw [e]; simp
        clear e
        go_wp2
        go_quiet (fail)
        go_wp2
        go_roundw
        case rel => exact ⟨k + 1, by omega, by go_num, fun j hj => by
          by_cases e : j = k
          · subst e; exact HQ.out
          · exact HE.out j (by omega), _, by first | rfl | exact World.drewN_drewN _ _ _⟩
        case measure => simp [intOf]; omega
      · have hq2 : (nth xs k != nth ys k) = true := by simpa using e
        have HF := Lib.hid (show decide (xs = ys) = false from decide_eq_false fun q => e (by rw [q]))
        clear e
        go_wp2
        go_quiet (fail)
        go_wp2
        go_ret
        exact ⟨congrArg (fun b => Ending.returned (.bool b)) HF.out.symm, _, by first | rfl | exact World.drewN_drewN _ _ _⟩
    · have HT := Lib.hid (show decide (xs = ys) = true from decide_eq_true (nth_eq HL.out fun i hi => HE.out i (by omega)))
      go_wp2
      go_ret
      exact ⟨congrArg (fun b => Ending.returned (.bool b)) HT.out.symm, _, rfl⟩

theorem rows_eq {X Y : List (List Int)} (hl : X.length = Y.length) (h : ∀ i, i < X.length → row X i = row Y i) : X = Y := by
  refine List.ext_getElem hl fun i h1 h2 => ?_
  have := h i h1
  simpa [row, List.getD_eq_getElem?_getD, h1, h2] using this

set_option maxHeartbeats 1000000 in
set_option maxRecDepth 100000 in
theorem same_any (X Y : List (List Int)) (ao bo : Option Addr) (ab ax ac bb bx bc : Nat) (A1 : Nat → Option Addr) (B1 O1 C1 : Nat → Nat) (A2 : Nat → Option Addr) (B2 O2 C2 : Nat → Nat) (w : World) (hX : RowsAt w ao ab ax X A1 B1 O1 C1) (hY : RowsAt w bo bb bx Y A2 B2 O2 C2) :
    Calls Try.prog 26 #[.slice ao X.length ac, .slice bo Y.length bc] w fun e w' => e = .returned (.bool (decide (X = Y))) ∧ ∃ m, w' = w.drewN m := by
  have lx := hX.len
  have ly := hY.len
  have HX := Lib.hid hX
  have HY := Lib.hid hY
  clear hX hY
  by_cases hl : X.length = Y.length
  · have HL := Lib.hid hl
    have hq : ((X.length : Int) != (Y.length : Int)) = false := by rw [hl]; simp
    rw [← hl]
    clear hl ly
    go_enter Try.func26, Try.ntmps26
    go_wp2
    go_loopw [5] (fun i wr => ∃ k : Nat, k ≤ X.length ∧ i = .int .i64 k ∧ (∀ j, j < k → row X j = row Y j) ∧ ∃ m, wr = w.drewN m) (fun i _ => X.length - (intOf i).toNat)
    case atStart => exact ⟨0, by omega, rfl, fun j hj => absurd hj (by omega), 0, rfl⟩
    case round =>
      obtain ⟨k, hk, rfl, he, md, hmd⟩ := hrel
      have HE := Lib.hid he
      have HMD := Lib.hid hmd
      have HBM := Lib.hid (show Below w.heap.size w wr by rw [hmd]; exact below_drewN (Below.refl _ _) _)
      clear he hmd
      by_cases hlt : k < X.length
      · have hX := HX.out.below HBM.out (Nat.le_refl _)
        have hY := HY.out.below HBM.out (Nat.le_refl _)
        obtain ⟨rfl, -⟩ := hX.ptr (by omega)
        obtain ⟨rfl, -⟩ := hY.ptr (by rw [← HL.out]; omega)
        have c0 := hX.cell k hlt
        have c1 := hY.cell k (by rw [← HL.out]; exact hlt)
        have HR1 := Lib.hid (hX.rows k hlt)
        have HR2 := Lib.hid (hY.rows k (by rw [← HL.out]; exact hlt))
        clear hX hY
        have HIN := Lib.hid (fun n => ints_any (row X k) (row Y k) _ _ _ _ (C1 k) _ _ (C2 k) (wr.drewN n) (HR1.out.below (below_drewN (Below.refl _ _) n) (Nat.le_refl _)) (HR2.out.below (below_drewN (Below.refl _ _) n) (Nat.le_refl _)))
        by_cases e : row X k = row Y k
        · have HQ := Lib.hid e
          have hd : decide (row X k = row Y k) = true := decide_eq_true e
          unfold Hid at HIN
          simp only [hd] at HIN
          have HIN := Lib.hid HIN
          clear e hd
          go_wp2
          go_quiet (exact Calls.quiet_of (HIN.out _))
          go_wp2
          go_roundw
          case rel => exact ⟨k + 1, by omega, by go_num, fun j hj => by
            by_cases e : j = k
            · subst e; exact HQ.out
            · exact HE.out j (by omega), _, by rw [HMD.out]; exact World.drewN_drewN _ _ _⟩
          case measure => simp [intOf]; omega
        · have hd : decide (row X k = row Y k) = false := decide_eq_false e
          have HF := Lib.hid (show decide (X = Y) = false from decide_eq_false fun q => e (by rw [q]))
          unfold Hid at HIN
          simp only [hd] at HIN
          have HIN := Lib.hid HIN
          clear e hd
          go_wp2
          go_quiet (exact Calls.quiet_of (HIN.out _))
          go_wp2
          go_ret
          exact ⟨congrArg (fun b => Ending.returned (.bool b)) HF.out.symm, _, by rw [HMD.out]; exact World.drewN_drewN _ _ _⟩
      · have HT := Lib.hid (show decide (X = Y) = true from decide_eq_true (rows_eq HL.out fun i hi => HE.out i (by omega)))
        go_wp2
        go_ret
        exact ⟨congrArg (fun b => Ending.returned (.bool b)) HT.out.symm, _, HMD.out⟩
  · have hq : ((X.length : Int) != (Y.length : Int)) = true := by simp; omega
    have HF := Lib.hid (show decide (X = Y) = false from decide_eq_false fun q => hl (by rw [q]))
    clear hl
    go_enter Try.func26, Try.ntmps26
    go_wp2
    go_ret
    exact ⟨congrArg (fun b => Ending.returned (.bool b)) HF.out.symm, 0, rfl⟩

set_option maxHeartbeats 1000000 in
set_option maxRecDepth 100000 in
theorem clone_any (xs : List Int) (b o cap : Nat) (w : World) (h : IntsAt w (some ⟨b, o, none⟩) b o xs) (h0 : 0 < xs.length) (h6 : xs.length ≤ 6) (hcap : xs.length ≤ cap) :
    Calls Try.prog 47 #[.slice (some ⟨b, o, none⟩) xs.length cap] w fun e w' => ∃ v, e = .returned v ∧ NewInts w.heap.size w' v xs ∧ Below w.heap.size w w' := by
  obtain ⟨i0, hi, hz0, hz1, hz2⟩ := info_parts Try.info3
  have HN := Lib.hid (show ∀ (ob : Obj) (j : Nat) (u : Value), (xs.map (Value.int .i64))[j]? = some u → (w.alloc ob).cell? ((⟨b, o, none⟩ : Addr).add j) = some u from fun ob j u hj => by
    have := news_at (h.alloc ob) ⟨b, o, none⟩ rfl xs.length j u
    rw [List.take_length] at this
    exact this hj)
  have HW := Lib.hid h.wf
  have HL := Lib.hid h.len
  have q34 : ∀ (w : World) (a : Option Addr) (n c n' c' : Nat), (Go.binOp .eql 34 (.slice a n c) (.slice none n' c')).run Try.prog w = .ok (.bool a.isNone) w := fun w a n c n' c' => Lib.run_eql_slice_nil w _ _ a n c n' c' Try.underlying34
  clear h
  go_enter Try.func47, Try.ntmps47
  go_wp2_with (at_builtin; refine wpList_append_own _ rfl (.tmp 5) (.tmp 6) 34 rfl w.heap.size 3 i0 (.int .i64 0) 1 8 Try.underlying34 hi hz0 hz1 hz2 rfl (by decide) _ 0 [] rfl (World.ownsRow_made w #[] 0 (Nat.le_refl _) (Nat.zero_le _) rfl) ⟨b, o, none⟩ xs.length cap (xs.map (Value.int .i64)) rfl ?qc1 (HN.out _) ?qc3 ?qc4 ?qc5 ?qc6 ?_)
  case qc1 => simp
  case qc3 => exact oneCell_ints _
  case qc4 => unfold maxLen; omega
  case qc5 => omega
  case qc6 => simp
  intro v' w1 hown hgrow hnil
  have HR := Lib.hid (show NewInts w.heap.size w1 v' xs from ⟨by simpa using hown, HW.out, HL.out⟩)
  have HB := Lib.hid (((Below.refl _ w).alloc (Nat.le_refl _) (.cells #[] 3)).grown hgrow (by simp) (by intro k hk; simp [Value.ownBlock] at hk; omega))
  clear hown hgrow hnil
  go_wp2
  go_ret
  exact ⟨v', rfl, HR.out, HB.out⟩

end Go.Proofs.Ytjibdolhipddbaa

/- The reference's access plans. -/
namespace Go.Proofs.Ytjibdolhipddbaa
open Go.RowKit

set_option maxHeartbeats 4000000 in
set_option maxRecDepth 100000 in
theorem access_any (a : List (List Int)) (ao : Option Addr) (b o cap : Nat) (A : Nat → Option Addr) (B O C : Nat → Nat) (w : World) (H : RowsAt w ao b o a A B O C) :
    Calls Try.prog 14 #[.slice ao a.length cap] w fun e w' => e = .returned (.bool (isPlan a)) ∧ Below w.heap.size w w' := by
  have hla := H.len
  have HA := Lib.hid H
  clear H
  have NO := Lib.hid (show ¬ IsPlan a → Ending.returned (.bool false) = .returned (.bool (isPlan a)) from fun h => by rw [not_plan h])
  have YES := Lib.hid (show IsPlan a → Ending.returned (.bool true) = .returned (.bool (isPlan a)) from fun h => ret_bool (decide_eq_true h).symm)
  by_cases h1 : a.length < 1
  · have t1 : decide ((a.length : Int) < 1) = true := decide_eq_true (by omega)
    have HF := Lib.hid (NO.out fun q => by have := q.pos; omega)
    clear h1
    go_enter Try.func14, Try.ntmps14
    go_wp2
    go_ret
    exact ⟨HF.out, Below.refl _ _⟩
  · have t1 : decide ((a.length : Int) < 1) = false := decide_eq_false (by omega)
    by_cases h2 : 6 < a.length
    · have t2 : decide (6 < (a.length : Int)) = true := decide_eq_true (by omega)
      have HF := Lib.hid (NO.out fun q => by have := q.le; omega)
      clear h1 h2
      go_enter Try.func14, Try.ntmps14
      go_wp2
      go_ret
      exact ⟨HF.out, Below.refl _ _⟩
    · have t2 : decide (6 < (a.length : Int)) = false := decide_eq_false (by omega)
      have ha1 : 1 ≤ a.length := by omega
      have ha6 : a.length ≤ 6 := by omega
      have ha0 : (0 : Int) < (a.length : Int) := by omega
      obtain ⟨l, hl⟩ : ∃ l, (row a 0).length = l := ⟨_, rfl⟩
      have HL := Lib.hid hl
      clear h1 h2
      go_enter Try.func14, Try.ntmps14
      go_wp2
      go_loopw [3, 4] (fun x _ wr => ∃ i : Nat, i ≤ a.length ∧ x = .int .i64 i ∧ Below w.heap.size w wr ∧ ∀ q, q < i → ((1 ≤ l ∧ l ≤ 6) ∧ (row a q).length = l) ∧ ∀ j, j < (row a q).length → nth (row a q) j = 0 ∨ nth (row a q) j = 1) (fun x _ _ => a.length - (intOf x).toNat)
      case atStart => exact ⟨0, by omega, rfl, Below.refl _ _, fun q hq => absurd hq (by omega)⟩
      case round =>
        obtain ⟨i, hi, rfl, hb, hg⟩ := hrel
        have HB := Lib.hid hb
        have HG := Lib.hid hg
        clear hb hg
        by_cases hlt : i < a.length
        · have hat := HA.out.below HB.out (Nat.le_refl _)
          obtain ⟨rfl, -⟩ := hat.ptr (by omega)
          have ci := hat.cell i hlt
          have c0 : wr.cell? ⟨b, o, none⟩ = some (.slice (A 0) l (C 0)) := by rw [← hl]; exact hat.cell 0 (by omega)
          have HRI := Lib.hid (HA.out.rows i hlt)
          obtain ⟨r, hr⟩ : ∃ r, row a i = r := ⟨_, rfl⟩
          rw [hr] at ci HRI
          have HR := Lib.hid hr
          clear hat hr
          have hcs : (decide ((r.length : Int) < 1) = true ∧ r.length < 1) ∨ (decide ((r.length : Int) < 1) = false ∧ decide (6 < (r.length : Int)) = true ∧ 6 < r.length) ∨ (decide ((r.length : Int) < 1) = false ∧ decide (6 < (r.length : Int)) = false ∧ ((r.length : Int) != (l : Int)) = true ∧ r.length ≠ l) ∨
              (decide ((r.length : Int) < 1) = false ∧ decide (6 < (r.length : Int)) = false ∧ ((r.length : Int) != (l : Int)) = false ∧ (1 ≤ l ∧ l ≤ 6) ∧ r.length = l) := by
            simp only [decide_eq_true_eq, decide_eq_false_iff_not, bne_iff_ne, bne_eq_false_iff_eq]
            omega
          rcases hcs with ⟨e1, hbad⟩ | ⟨e1, e2, hbad⟩ | ⟨e1, e2, e3, hbad⟩ | ⟨e1, e2, e3, hok⟩
          · have HF := Lib.hid (NO.out fun q => by have := q.len i hlt; have := q.pos0; rw [HR.out] at *; omega)
            clear hbad
            go_wp2
            go_quiet (fail)
            go_wp2
            go_ret
            exact ⟨HF.out, below_drewN HB.out _⟩
          · have HF := Lib.hid (NO.out fun q => by have := q.len i hlt; have := q.le0; rw [HR.out] at *; omega)
            clear hbad
            go_wp2
            go_quiet (fail)
            go_wp2
            go_ret
            exact ⟨HF.out, below_drewN HB.out _⟩
          · have HF := Lib.hid (NO.out fun q => by have := q.len i hlt; rw [HR.out, HL.out] at this; exact hbad this)
            clear hbad
            go_wp2
            go_quiet (fail)
            go_wp2
            go_ret
            exact ⟨HF.out, below_drewN HB.out _⟩
          · have HOK := Lib.hid hok
            have hr6 : r.length ≤ 6 := by omega
            clear hok
            go_wp2
            go_quiet (fail)
            go_wp2
            have HBX := Lib.hid (below_drewN HB.out nq)
            clear ci c0
            go_loopw [4] (fun x wr => ∃ j : Nat, j ≤ r.length ∧ x = .int .i64 j ∧ Below w.heap.size w wr ∧ ∀ q, q < j → nth r q = 0 ∨ nth r q = 1) (fun x _ => r.length - (intOf x).toNat)
            case atStart => exact ⟨0, by omega, rfl, HBX.out, fun q hq => absurd hq (by omega)⟩
            case round =>
              obtain ⟨j, hj, rfl, hb, hg⟩ := hrel
              have HBJ := Lib.hid hb
              have HGJ := Lib.hid hg
              clear hb hg HB HBX
              have hat := HA.out.below HBJ.out (Nat.le_refl _)
              have ci := hat.cell i hlt
              rw [HR.out] at ci
              clear hat
              by_cases hlj : j < r.length
              · have hri := HRI.out.below HBJ.out (Nat.le_refl _)
                obtain ⟨hA, -⟩ := hri.ptr (by omega)
                have q0 := hri.cell j hlj
                rw [hA] at ci
                obtain ⟨x, hx⟩ : ∃ x, nth r j = x := ⟨_, rfl⟩
                rw [hx] at q0
                have HX := Lib.hid hx
                clear hri hA hx
                have hxc : (decide (x < 0) = true ∧ x < 0) ∨ (decide (x < 0) = false ∧ decide (1 < x) = true ∧ 1 < x) ∨ (decide (x < 0) = false ∧ decide (1 < x) = false ∧ (x = 0 ∨ x = 1)) := by
                  simp only [decide_eq_true_eq, decide_eq_false_iff_not]
                  omega
                rcases hxc with ⟨g1, hbad⟩ | ⟨g1, g2, hbad⟩ | ⟨g1, g2, hok⟩
                · have HF := Lib.hid (NO.out fun q => by have := q.bit i hlt j (by rw [HR.out]; exact hlj); rw [HR.out, HX.out] at this; omega)
                  clear hbad
                  go_wp2
                  try go_quiet (fail)
                  try go_wp2
                  go_ret
                  exact ⟨HF.out, by first | exact HBJ.out | exact below_drewN HBJ.out _⟩
                · have HF := Lib.hid (NO.out fun q => by have := q.bit i hlt j (by rw [HR.out]; exact hlj); rw [HR.out, HX.out] at this; omega)
                  clear hbad
                  go_wp2
                  try go_quiet (fail)
                  try go_wp2
                  go_ret
                  exact ⟨HF.out, by first | exact HBJ.out | exact below_drewN HBJ.out _⟩
                · have HOK2 := Lib.hid hok
                  clear hok
                  go_wp2
                  try go_quiet (fail)
                  try go_wp2
                  go_roundw
                  case rel => exact ⟨j + 1, by omega, by go_num, by first | exact HBJ.out | exact below_drewN HBJ.out _, fun q hq => by
                    by_cases e : q = j
                    · rw [e, HX.out]; exact HOK2.out
                    · exact HGJ.out q (by omega)⟩
                  case measure => simp [intOf]; omega
              · go_wp2
                go_roundw
                case rel => exact ⟨i + 1, by omega, by go_num, HBJ.out, fun q hq => by
                  by_cases e : q = i
                  · rw [e, HR.out]; exact ⟨HOK.out, fun t ht => HGJ.out t (by omega)⟩
                  · exact HG.out q (by omega)⟩
                case measure => simp [intOf]; omega
        · have hia : i = a.length := by omega
          have HT := Lib.hid (YES.out ⟨ha1, ha6, by rw [HL.out]; exact (HG.out 0 (by omega)).1.1.1, by rw [HL.out]; exact (HG.out 0 (by omega)).1.1.2, fun q hq => by rw [HL.out]; exact (HG.out q (by omega)).1.2, fun q hq => (HG.out q (by omega)).2⟩)
          go_wp2
          go_ret
          exact ⟨HT.out, HB.out⟩

end Go.Proofs.Ytjibdolhipddbaa
