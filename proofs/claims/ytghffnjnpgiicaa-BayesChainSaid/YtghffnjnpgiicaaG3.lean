/- G3: R I J N O -/
import Derived.StillTail
import Derived.Deep.QuietTactic
import Derived.WalkKit
import Derived.Test.YtghffnjnpgiicaaG2
/- A region that draws its order, whose first n operations are quiet in a class of worlds (callees may make memory) and whose last ones come in one forced order (a store of the result): one walk in the order of the text serves every order. -/
namespace Go.Proofs.Ytghffnjnpgiicaa
open Go

section
variable {P : Program} {ops : Array Oper} {md : Region.Mode} {C : World → Prop}

/-- The first f turns all fall among the operations before n, whatever the tape picks; then L. -/
def AnyHead (P : Program) (md : Region.Mode) (ops : Array Oper) (C : World → Prop) (n : Nat) (L : Array Bool → Act → Prop) : Nat → Array Bool → Act → Prop
  | 0, d, a => L d a
  | f + 1, d, a => Region.ready md ops d ≠ [] ∧ ∀ i, i ∈ Region.ready md ops d → i < n ∧ qOp P ops C i (AnyHead P md ops C n L f (d.setIfInBounds i true)) a

theorem AnyHead.any {n g : Nat} {L : Array Bool → Act → Prop} {Q : Exit → Act → World → Prop} (hL : ∀ d a w, C w → L d a → wpAny P md ops Q g d a w) :
    ∀ (f : Nat) (d : Array Bool) (a : Act) (w : World), C w → AnyHead P md ops C n L f d a → wpAny P md ops Q (f + g) d a w := by
  intro f
  induction f with
  | zero => intro d a w hw h; rw [Nat.zero_add]; exact hL d a w hw h
  | succ f ih =>
    intro d a w hw h
    have e : f + 1 + g = (f + g) + 1 := by omega
    rw [e]
    exact ⟨fun h0 => absurd h0 h.1, fun i hi => wpOp_of_qOp hw (fun a' w' hw' h' => ih _ a' w' hw' h') (h.2 i hi).2⟩

theorem AnyHead.take {n i : Nat} {oi : Oper} {v : Value} {L : Array Bool → Act → Prop} (hi : ops[i]? = some oi)
    (hsel : ∀ (j : Nat) (o : Oper) cs b, ops[j]? = some o → o.op ≠ .select cs b) (hs : Region.sinkB md ops n = true) (hc : Region.chainB md ops n = true)
    (hn : n < ops.size) (hin : i < n) (hdone : ∀ d a, L d a → ∀ j, j ∈ Region.ready md ops d → n ≤ j) :
    ∀ (f : Nat) (d : Array Bool) (a : Act), HeadInv md ops n d →
      (∀ j oj, ops[j]? = some oj → j ≠ i → d.getD j true = false → (∀ e ∈ oj.after, Region.binds md e = true → e.on ≠ i) → oi.apart ops oj = true) →
      i ∈ Region.ready md ops d → YieldsIn P ops C oi v a → AnyHead P md ops C n L f (d.setIfInBounds i true) (a.put oi.dst v) → AnyHead P md ops C n L (f + 1) d a := by
  intro f
  induction f with
  | zero =>
    intro d a inv _ hr hy H
    have h0 := (mem_ready.1 hr).1
    refine ⟨List.ne_nil_of_mem hr, fun j hj => ?_⟩
    have hjn : j < n := Nat.lt_of_not_le fun h => tail_waits hs hc hn inv _ i rfl hin h0 j h hj
    refine ⟨hjn, ?_⟩
    by_cases e : j = i
    · subst e; exact hy.qOp hi H
    · exact absurd (hdone _ _ H j (ready_mono hj e)) (by omega)
  | succ f ih =>
    intro d a inv hfree hr hy H
    have h0 := (mem_ready.1 hr).1
    refine ⟨List.ne_nil_of_mem hr, fun j hj => ?_⟩
    have hjn : j < n := Nat.lt_of_not_le fun h => tail_waits hs hc hn inv _ i rfl hin h0 j h hj
    refine ⟨hjn, ?_⟩
    by_cases e : j = i
    · subst e; exact hy.qOp hi H
    · obtain ⟨hju, oj, hoj, hall⟩ := mem_ready.1 hj
      have hno : ∀ x ∈ oj.after, Region.binds md x = true → x.on ≠ i := by
        intro x hx hb hxi
        have h1 := hall x hx hb
        rw [hxi, getD_both h0] at h1
        exact Bool.noConfusion h1
      have h2 := qOp_put hoj (hfree j oj hoj e hju hno) (fun cs b => hsel i oi cs b hi) (fun cs b => hsel j oj cs b hoj) hy ((H.2 j (ready_mono hj e)).2)
      refine qOp_mono (fun a' h3 => ih _ a' (inv.set hj hjn) (fun k ok hk hki hku hkn => hfree k ok hk hki ?_ hkn) (ready_mono hr (Ne.symm e)) h3.1 ?_) h2
      · by_cases ejk : j = k
        · subst ejk; exact hju
        · rwa [getD_set_ne true ejk] at hku
      · rw [Array.setIfInBounds_comm _ _ e]; exact h3.2

theorem AnyHead.lex {n g : Nat} {Lq : Act → Prop} (hsel : Region.noSelect ops = true) (hs : Region.sinkB md ops n = true) (hc : Region.chainB md ops n = true) (hn : n < ops.size) :
    ∀ (l : List Oper) (k : Nat) (d : Array Bool) (a : Act), (∀ j, j < l.length → l[j]? = ops[k + j]?) → k + l.length = n → HeadInv md ops n d →
    Region.lexHead md ops g l.length k d = true → wpQuiet P ops C Lq l a → AnyHead P md ops C n (fun d' a' => Region.seqB md ops g n d' = true ∧ Lq a') l.length d a := by
  intro l
  induction l with
  | nil =>
    intro k d a _ hk _ hB h
    have e : k = n := by simpa using hk
    subst e
    exact ⟨by simpa [Region.lexHead] using hB, h⟩
  | cons o l ih =>
    intro k d a hl hk inv hB h
    have h0 : ops[k]? = some o := by have := hl 0 (by simp); simpa using this.symm
    simp only [List.length_cons, Region.lexHead, Bool.and_eq_true] at hB
    have hkn : k < n := by simp only [List.length_cons] at hk; omega
    have hr : k ∈ Region.ready md ops d := by simpa using hB.1.1
    have hq : qOp P ops C k (wpQuiet P ops C Lq l) a := by unfold qOp; simp only [h0]; exact h
    obtain ⟨v, hy, hK⟩ := yieldsIn_of_qOp h0 hq
    refine AnyHead.take h0 (Region.noSelect_spec hsel) hs hc hn hkn (fun d' a' hL => seqB_ready hL.1) l.length d a inv (Region.free_spec h0 hB.1.2) hr hy
      (ih (k + 1) _ _ (fun j hj => ?_) (by simp only [List.length_cons] at hk; omega) (inv.set hr hkn) hB.2 hK)
    have := hl (j + 1) (by simp; omega)
    simpa [Nat.add_assoc, Nat.add_comm 1 j] using this

theorem wp_region_quiet_tail {id : Nat} {Q : Exit → Act → World → Prop} {a : Act} {w : World} {l : List Oper} (n : Nat) (hm : P.follows .mixedOrders = true) (hB : Region.lexTailB .any l.toArray n = true)
    (hC : C w.drew) (h : wpQuiet P l.toArray C (fun a' => ∀ w', C w' → wpList P l.toArray Q (l.drop n) a' w') (l.take n) a) : (Code.region id l.toArray true).wp P Q a w := by
  simp only [Region.lexTailB, Bool.and_eq_true, decide_eq_true_eq] at hB
  obtain ⟨⟨⟨⟨hsel, hn⟩, hs⟩, hc⟩, hlex⟩ := hB
  have hn' : n < l.length := by simpa using hn
  have htl : (l.take n).length = n := by simp; omega
  have hdl : (l.drop n).length = l.toArray.size - n := by simp
  have inv : HeadInv .any l.toArray n (Array.replicate l.toArray.size false) :=
    ⟨by simp, fun j oj _ hl => (by rw [getD_replicate_false] at hl; cases hl), fun t _ ht => getD_in (by simpa using ht) (getD_replicate_false _ _)⟩
  have H := AnyHead.lex (md := .any) (g := l.toArray.size - n) hsel hs hc hn (l.take n) 0 _ a (fun j hj => by rw [htl] at hj; simp [hj]) (by simpa using htl) inv (by rw [htl]; exact hlex) h
  refine wp_region_any hm ?_
  have h1 := AnyHead.any (Q := Q) (g := l.toArray.size - n) (fun d a' w' hw' hL => by
    have h2 := wpAny_of_seq (md := .any) (Q' := Q) (l.drop n) n d a' w' (fun j => by simp [List.getElem?_drop]) (by rw [hdl]; exact hL.1) (hL.2 w' hw')
    rwa [hdl] at h2) _ _ _ w.drew hC H
  rw [htl, show n + (l.toArray.size - n) = l.toArray.size by omega] at h1
  exact h1

/-- An operation that yields one value in every world of the class, the world left alone. -/
theorem quiet_val {K : Act → Prop} {o : Oper} {a : Act} (v : Value) (h : ∀ w, C w → (execOp a.eval o).run P w = .ok (.value v) w) (hk : K (a.put o.dst v)) : o.quiet P a C K :=
  ⟨v, fun w hw => by unfold Oper.quietAt; rw [h w hw]; exact ⟨rfl, rfl⟩, hk⟩
/-- A call, by its contract. -/
theorem quiet_call {K : Act → Prop} {o : Oper} {a : Act} (f : FuncId) (args : Array Value) (v : Value) (h : ∀ w, C w → (execOp a.eval o).run P w = .ok (.enter f args) w)
    (hc : ∀ w, C w → Calls P f args w fun e w' => e = .returned v ∧ C w') (hk : K (a.put o.dst v)) : o.quiet P a C K :=
  ⟨v, fun w hw => by unfold Oper.quietAt; rw [h w hw]; exact ⟨rfl, hc w hw⟩, hk⟩
/-- A load of a whole block. -/
theorem quiet_load {K : Act → Prop} {o : Oper} {a : Act} (ty : TypeId) (x : Operand) (ho : o.op = .load ty x) (g : Nat) (hx : a.eval x = .pointer (some ⟨g, 0, none⟩)) (t : TypeId) (cs : Array Value) (fr : Nat × Nat) (d : TypeDesc)
    (hg : ∀ w, C w → w.heap[g]? = some (.cells cs t fr)) (hu : P.underlying ty = some d) (hd : (match d with | .struct _ | .array _ _ => true | _ => false) = true) (hi : (P.info? ty).map (·.size) = some cs.size)
    (hk : K (a.put o.dst (.agg cs))) : o.quiet P a C K := by
  refine quiet_val (.agg cs) (fun w hw => ?_) hk
  unfold execOp
  simp only [ho, hx, Instr.loadAt, Instr.sureAddr, Sem.run_bind, Sem.run_pure, Result.andThen_ok, run_loadVar_row w g t ty cs fr d (hg w hw) hu hd hi]
/-- The step of a walk, where the operation has no guard. -/
theorem quiet_next {Q : Act → Prop} {a : Act} {o : Oper} {rest : List Oper} (hg : o.guard = none) (h : ∀ K : Act → Prop, (∀ a, wpQuiet P ops C Q rest a → K a) → o.quiet P a C K) : wpQuiet P ops C Q (o :: rest) a :=
  wpQuiet_step fun K hK => by
    have : Region.wanted o (yielded ops a.tmps) = true := by unfold Region.wanted; rw [hg]
    rw [if_pos this]; exact h K hK
end
end Go.Proofs.Ytghffnjnpgiicaa

/- Joint. -/
namespace Go.Proofs.Ytghffnjnpgiicaa
open Go.RowKit

/-- The fraction 0/0. -/
def zeroF : Value := .agg #[.int .i64 0, .int .i64 0]

/-- Two structs of two cells, boxed. -/
theorem two2 {w W : World} {x y x' y' : Value} {T T' : TypeId} {M : Nat} (h : Below M ((w.alloc (.cells #[x, y] T)).alloc (.cells #[x', y'] T')) W) (hM : w.heap.size + 2 ≤ M) :
    W.heap[w.heap.size]? = some (.cells #[x, y] T (0, 0)) ∧ W.heap[w.heap.size + 1]? = some (.cells #[x', y'] T' (0, 0)) := by
  exact ⟨(h.block _ (by omega)).trans (heap_alloc2_old _ _ _), (h.block _ (by omega)).trans (heap_alloc2_new _ _ _)⟩

theorem cells_of2 {W : World} {g : Nat} {x y : Value} {T : TypeId} (h : W.heap[g]? = some (.cells #[x, y] T (0, 0))) :
    W.cell? ⟨g, 0, none⟩ = some x ∧ W.cell? ⟨g, 1, none⟩ = some y ∧ W.frozen? ⟨g, 0, none⟩ = false ∧ W.frozen? ⟨g, 1, none⟩ = false :=
  ⟨by rw [cell_of_row _ _ _ _ _ _ h]; rfl, by rw [cell_of_row _ _ _ _ _ _ h]; rfl, frozen_of_row _ _ _ _ _ h, frozen_of_row _ _ _ _ _ h⟩

/-- What stays as it is while Joint's last statement is carried out. -/
structure JK (w : World) (pv tv : Value) (g : Nat) (f : Nat → Int) (w' : World) : Prop where
  box : w'.heap[w.heap.size]? = some (.cells #[pv, tv] 24 (0, 0))
  res : w'.heap[w.heap.size + 1]? = some (.cells #[.int .i64 0, .int .i64 0] 29 (0, 0))
  arr : w'.heap[g]? = some (.cells (arrC f) 78 (0, 0))
  below : Below w.heap.size w w'

theorem JK.more {w : World} {pv tv : Value} {g : Nat} {f : Nat → Int} {w' w'' : World} (h : JK w pv tv g f w') (hb : Below w'.heap.size w' w'') : JK w pv tv g f w'' :=
  ⟨(hb.block _ (lt_of_block h.box)).trans h.box, (hb.block _ (lt_of_block h.res)).trans h.res, (hb.block _ (lt_of_block h.arr)).trans h.arr, h.below.trans (hb.mono h.below.size)⟩

set_option maxHeartbeats 2000000 in
set_option maxRecDepth 100000 in
theorem joint_ok (P T : List (List Int)) (v : Value) (xs : List Int) (ao : Option Addr) (xb xo xc : Nat) (w : World) (h : NetAt w v P T) (hx : IntsAt w ao xb xo xs) (hn : isNet P T = true) (ha : okAsg xs P.length = true) :
    Calls Try.prog 17 #[v, .slice ao xs.length xc] w fun e w' =>
      e = .returned (.tuple #[fracV (wt P T (nth xs) P.length) (16 ^ P.length), .int .i64 0]) ∧ Below w.heap.size w w' := by
  have HNet := Lib.hid h
  have HX := Lib.hid hx
  have HA := Lib.hid ha
  have HN := Lib.hid (of_decide_eq_true hn : IsNet P T)
  have HN' := Lib.hid hn
  obtain ⟨pa, b, o, pc, A, B, O, C, ta, b', o', tc, A', B', O', C', rfl, hP, hT⟩ := h.ex
  have h10 := HN.out.le
  clear hP hT h hn ha hx
  go_enter Try.func17, Try.ntmps17
  go_wp2_with fail
  refine (isNetwork_any P T _ _ ((HNet.out.alloc _).alloc _)).mono ?_
  rw [HN'.out]
  rintro e w1 ⟨rfl, hb1⟩
  obtain ⟨k0, k1⟩ := two2 hb1 (by simp)
  obtain ⟨c0, c1, -, -⟩ := cells_of2 k0
  obtain ⟨c2, c3, f2, f3⟩ := cells_of2 k1
  have K0 := Lib.hid k0
  have K1 := Lib.hid k1
  have HB1 := Lib.hid hb1
  clear k0 k1 hb1
  go_wp2_with fail
  refine (toAssignment_any xs P.length ao xb xo xc _ (((HX.out.alloc _).alloc _).below HB1.out (by simp)) h10).mono ?_
  rintro e w2 ⟨⟨f, rfl, hf⟩, hb2⟩
  rw [HA.out]
  obtain rfl := hf HA.out
  have HB2 := Lib.hid hb2
  have hne := HB1.out.size
  have hne2 := HB2.out.size
  simp only [World.size_alloc] at hne
  have d0 := HB2.out.cell (p := ⟨w.heap.size, 0, none⟩) (by show w.heap.size < _; omega)
  have d1 := HB2.out.cell (p := ⟨w.heap.size, 1, none⟩) (by show w.heap.size < _; omega)
  rw [c0] at d0
  rw [c1] at d1
  clear hb2 c0 c1 c2 c3 f2 f3
  go_wp2_with (refine wpList_store_row rfl 78 (.tmp 6) (.tmp 18) rfl w2.heap.size (arrC (nth xs)) rfl rfl 78 _ (heap_alloc_new _ _) (by kernel_rfl) rfl (arrC_all _) ?_)
  have htab := HN.out.tab
  have hwt := wt_le HN.out (okAsg_Bits HA.out) P.length (Nat.le_refl _)
  obtain ⟨W, hW⟩ : ∃ W, W = (w2.alloc (Obj.cells #[.int .i64 0, .int .i64 0, .int .i64 0, .int .i64 0, .int .i64 0, .int .i64 0, .int .i64 0, .int .i64 0, .int .i64 0, .int .i64 0] 78)).setRow w2.heap.size (arrC (nth xs)) := ⟨_, rfl⟩
  rw [← hW]
  have hWb : Below w2.heap.size w2 W := by rw [hW]; exact below_setRow ((Below.refl _ _).alloc (Nat.le_refl _) _) (Nat.le_refl _) _
  have hWr : W.heap[w2.heap.size]? = some (.cells (arrC (nth xs)) 78 (0, 0)) := by rw [hW]; exact setRow_heap _ _ _ _ _ _ (heap_alloc_new _ _)
  clear hW
  have HWB := Lib.hid hWb
  have HWR := Lib.hid hWr
  have k0 := (HB2.out.block _ (lt_of_block K0.out)).trans K0.out
  have k1 := (HB2.out.block _ (lt_of_block K1.out)).trans K1.out
  have b2 : Below w.heap.size w w2 := (((Below.refl _ _).alloc (Nat.le_refl _) _).alloc (by simp) _).trans ((HB1.out.mono (by simp; omega)).trans (HB2.out.mono (by omega)))
  have HJ0 : Hid (JK w (.slice pa P.length pc) (.slice ta T.length tc) w2.heap.size (nth xs) W.drew) :=
    ⟨(hWb.block _ (lt_of_block k0)).trans k0, (hWb.block _ (lt_of_block k1)).trans k1, hWr, (b2.trans (hWb.mono (by omega))).drew⟩
  clear hWb hWr d0 d1 k0 k1
  refine wp_region_quiet_tail (C := JK w (.slice pa P.length pc) (.slice ta T.length tc) w2.heap.size (nth xs)) 6 (by kernel_rfl) (by kernel_rfl) HJ0.out ?_
  simp only [List.take_succ_cons, List.take_zero, List.drop_succ_cons, List.drop_zero]
  refine quiet_next rfl (fun K hK => quiet_load 24 (.tmp 2) rfl w.heap.size rfl 24 _ _ _ (fun w' h => h.box) Try.underlying24 rfl (by kernel_rfl) (hK _ ?_))
  refine quiet_next rfl (fun K hK => quiet_load 78 (.tmp 6) rfl w2.heap.size rfl 78 _ _ _ (fun w' h => h.arr) Try.underlying78 rfl (by kernel_rfl) (hK _ ?_))
  refine quiet_next rfl (fun K hK => quiet_call 48 #[.agg #[.slice pa P.length pc, .slice ta T.length tc], .agg (arrC (nth xs))] (.int .i64 (wt P T (nth xs) P.length)) (fun w' h => by go_simp) (fun w' h => ?_) (hK _ ?_))
  · refine (weight_any P T _ _ _ (HNet.out.below h.below (Nat.le_refl _)) HN.out (okAsg_Bits HA.out)).mono ?_
    rintro e w'' ⟨rfl, hb⟩
    exact ⟨rfl, h.more hb⟩
  refine quiet_next rfl (fun K hK => quiet_load 24 (.tmp 2) rfl w.heap.size rfl 24 _ _ _ (fun w' h => h.box) Try.underlying24 rfl (by kernel_rfl) (hK _ ?_))
  refine quiet_next rfl (fun K hK => quiet_call 49 #[.agg #[.slice pa P.length pc, .slice ta T.length tc]] (.int .i64 ((16 : Int) ^ T.length)) (fun w' h => by go_simp) (fun w' h => ?_) (hK _ ?_))
  · refine (fullWeight_any P T _ _ (HNet.out.below h.below (Nat.le_refl _)) (by omega)).mono ?_
    rintro e w'' ⟨rfl, hb⟩
    exact ⟨rfl, h.more hb⟩
  refine quiet_next rfl (fun K hK => quiet_call 47 #[.int .i64 (wt P T (nth xs) P.length), .int .i64 ((16 : Int) ^ T.length)] (fracV (wt P T (nth xs) P.length) ((16 : Int) ^ T.length)) (fun w' h => by go_simp) (fun w' h => ?_) (hK _ ?_))
  · refine (fraction_any _ _ _ ?_ ?_ ?_ ?_).mono ?_
    · omega
    · omega
    · have := Int.pow_pos (n := 16) (m := T.length) (by omega); omega
    · have := pow16_le (k := T.length) (by omega); omega
    rintro e w'' ⟨rfl, hb⟩
    exact ⟨rfl, h.more hb⟩
  refine wpQuiet_nil (fun w' hw' => ?_)
  simp only [Act.put, List.setIfInBounds_toArray, List.set_cons_zero, List.set_cons_succ]
  refine wpList_store_row rfl 29 (.tmp 4) (.tmp 28) rfl (w.heap.size + 1) _ rfl rfl 29 _ hw'.res (by kernel_rfl) rfl (fracC_all _ _) ?_
  simp only [Act.put]
  have HW := Lib.hid hw'
  have HT := Lib.hid htab
  clear hw' htab
  go_wp2
  refine bodyPost_ret (v := .tuple #[fracV (wt P T (nth xs) P.length) (16 ^ T.length), .int .i64 0]) ?_ rfl ⟨by rw [HT.out], below_setRow HW.out.below (by omega) _⟩
  exact results_cell_row2 (ty := 29) (p := 4) (u := 5) rfl _ _ (w.heap.size + 1) 29 _ (0, 0) _ rfl (setRow_heap _ _ _ _ _ _ HW.out.res) Try.underlying29 rfl (by kernel_rfl)

set_option maxHeartbeats 2000000 in
set_option maxRecDepth 100000 in
theorem joint_noNet (P T : List (List Int)) (v : Value) (xs : List Int) (ao : Option Addr) (xc : Nat) (w : World) (h : NetAt w v P T) (hn : isNet P T = false) :
    Calls Try.prog 17 #[v, .slice ao xs.length xc] w fun e w' => e = .returned (.tuple #[zeroF, .int .i64 2]) ∧ Below w.heap.size w w' := by
  have HNet := Lib.hid h
  have HN' := Lib.hid hn
  obtain ⟨pa, b, o, pc, A, B, O, C, ta, b', o', tc, A', B', O', C', rfl, hP, hT⟩ := h.ex
  clear hP hT h hn
  go_enter Try.func17, Try.ntmps17
  go_wp2_with fail
  refine (isNetwork_any P T _ _ ((HNet.out.alloc _).alloc _)).mono ?_
  rw [HN'.out]
  rintro e w1 ⟨rfl, hb1⟩
  obtain ⟨k0, k1⟩ := two2 hb1 (by simp)
  obtain ⟨c0, c1, -, -⟩ := cells_of2 k0
  obtain ⟨c2, c3, f2, f3⟩ := cells_of2 k1
  have HB1 := Lib.hid hb1
  have K1 := Lib.hid k1
  clear k0 k1 hb1
  go_wp2_with (refine wpList_store_row rfl 29 (.tmp 4) (.tmp 11) rfl (w.heap.size + 1) _ rfl rfl 29 _ K1.out (by kernel_rfl) rfl (by simp [Value.oneCell']) ?_)
  refine bodyPost_ret (v := .tuple #[zeroF, .int .i64 2]) ?_ rfl ⟨rfl, below_setRow ((((Below.refl _ _).alloc (Nat.le_refl _) _).alloc (by simp) _).trans (HB1.out.mono (by simp; omega))) (by omega) _⟩
  exact results_cell_row2 (ty := 29) (p := 4) (u := 5) rfl _ _ (w.heap.size + 1) 29 _ (0, 0) _ rfl (setRow_heap _ _ _ _ _ _ K1.out) Try.underlying29 rfl (by kernel_rfl)

set_option maxHeartbeats 2000000 in
set_option maxRecDepth 100000 in
theorem joint_noAsg (P T : List (List Int)) (v : Value) (xs : List Int) (ao : Option Addr) (xb xo xc : Nat) (w : World) (h : NetAt w v P T) (hx : IntsAt w ao xb xo xs) (hn : isNet P T = true) (ha : okAsg xs P.length = false) :
    Calls Try.prog 17 #[v, .slice ao xs.length xc] w fun e w' => e = .returned (.tuple #[zeroF, .int .i64 2]) ∧ Below w.heap.size w w' := by
  have HNet := Lib.hid h
  have HX := Lib.hid hx
  have HA := Lib.hid ha
  have HN := Lib.hid (of_decide_eq_true hn : IsNet P T)
  have HN' := Lib.hid hn
  obtain ⟨pa, b, o, pc, A, B, O, C, ta, b', o', tc, A', B', O', C', rfl, hP, hT⟩ := h.ex
  have h10 := HN.out.le
  clear hP hT h hn ha hx
  go_enter Try.func17, Try.ntmps17
  go_wp2_with fail
  refine (isNetwork_any P T _ _ ((HNet.out.alloc _).alloc _)).mono ?_
  rw [HN'.out]
  rintro e w1 ⟨rfl, hb1⟩
  obtain ⟨k0, k1⟩ := two2 hb1 (by simp)
  obtain ⟨c0, c1, -, -⟩ := cells_of2 k0
  have K1 := Lib.hid k1
  have HB1 := Lib.hid hb1
  clear k0 k1 hb1
  go_wp2_with fail
  refine (toAssignment_any xs P.length ao xb xo xc _ (((HX.out.alloc _).alloc _).below HB1.out (by simp)) h10).mono ?_
  rintro e w2 ⟨⟨f, rfl, -⟩, hb2⟩
  rw [HA.out]
  have HB2 := Lib.hid hb2
  have hne := HB1.out.size
  simp only [World.size_alloc] at hne
  have K2 := Lib.hid ((hb2.block _ (lt_of_block K1.out)).trans K1.out)
  have hne2 := hb2.size
  clear hb2 c0 c1
  obtain ⟨W, hW⟩ : ∃ W, W = (w2.alloc (Obj.cells #[.int .i64 0, .int .i64 0, .int .i64 0, .int .i64 0, .int .i64 0, .int .i64 0, .int .i64 0, .int .i64 0, .int .i64 0, .int .i64 0] 78)).setRow w2.heap.size (arrC f) := ⟨_, rfl⟩
  have hWb : Below w2.heap.size w2 W := by rw [hW]; exact below_setRow ((Below.refl _ _).alloc (Nat.le_refl _) _) (Nat.le_refl _) _
  have K3 := Lib.hid ((hWb.block _ (lt_of_block K2.out)).trans K2.out)
  have HWB := Lib.hid hWb
  have HW := Lib.hid hW
  clear hWb hW
  go_wp2_with (first
    | (refine wpList_store_row rfl 78 (.tmp 6) (.tmp 18) rfl w2.heap.size (arrC f) rfl rfl 78 _ (heap_alloc_new _ _) (by kernel_rfl) rfl (arrC_all _) ?_; rw [← HW.out])
    | (refine wpList_store_row rfl 29 (.tmp 4) (.tmp 22) rfl (w.heap.size + 1) _ rfl rfl 29 _ K3.out (by kernel_rfl) rfl (by simp [Value.oneCell']) ?_))
  refine bodyPost_ret (v := .tuple #[zeroF, .int .i64 2]) ?_ rfl ⟨rfl, below_setRow ((((Below.refl _ _).alloc (Nat.le_refl _) _).alloc (by simp) _).trans ((HB1.out.mono (by simp; omega)).trans ((HB2.out.mono (by omega)).trans (HWB.out.mono (by omega))))) (by omega) _⟩
  exact results_cell_row2 (ty := 29) (p := 4) (u := 5) rfl _ _ (w.heap.size + 1) 29 _ (0, 0) _ rfl (setRow_heap _ _ _ _ _ _ K3.out) Try.underlying29 rfl (by kernel_rfl)

end Go.Proofs.Ytghffnjnpgiicaa

/- The reference's Joint. -/
namespace Go.Proofs.Ytghffnjnpgiicaa
open Go.RowKit

/-- The first result of Joint, for a network. -/
def jointV (P T : List (List Int)) (xs : List Int) : Value := if okAsg xs P.length = true then fracV (wt P T (nth xs) P.length) (16 ^ P.length) else zeroF
theorem jointV_yes {P T : List (List Int)} {xs : List Int} (h : okAsg xs P.length = true) : jointV P T xs = fracV (wt P T (nth xs) P.length) (16 ^ P.length) := if_pos h
theorem jointV_no {P T : List (List Int)} {xs : List Int} (h : okAsg xs P.length = false) : jointV P T xs = zeroF := if_neg (by rw [h]; decide)

set_option maxHeartbeats 2000000 in
set_option maxRecDepth 100000 in
theorem refJoint_any (P T : List (List Int)) (v : Value) (xs : List Int) (ao : Option Addr) (xb xo xc : Nat) (w : World) (h : NetAt w v P T) (hx : IntsAt w ao xb xo xs) (hn : IsNet P T) :
    Calls Try.prog 20 #[v, .slice ao xs.length xc] w fun e w' =>
      e = .returned (.tuple #[jointV P T xs, .bool (okAsg xs P.length)]) ∧ Below w.heap.size w w' := by
  have HNet := Lib.hid h
  have HX := Lib.hid hx
  have HN := Lib.hid hn
  obtain ⟨pa, b, o, pc, A, B, O, C, ta, b', o', tc, A', B', O', C', rfl, hP, hT⟩ := h.ex
  have h10 := HN.out.le
  have hpos := HN.out.pos
  have hlx := hx.len
  clear hP hT h hn hx
  by_cases hlen : xs.length = P.length
  · have hB : (((xs.length : Int)) != (P.length : Int)) = false := by rw [hlen]; simp
    have HL := Lib.hid hlen
    have hle : xs.length ≤ 10 := by omega
    have hpos' : 0 < xs.length := by omega
    obtain ⟨rfl, -⟩ := HX.out.ptr hpos'
    clear hlen
    go_enter Try.func20, Try.ntmps20
    go_wp2
    go_loopw [6, 7] (fun p i wr => ∃ k : Nat, k ≤ xs.length ∧ i = .int .i64 k ∧ p = .int .i64 ((16 : Int) ^ k) ∧ (∀ j, j < k → nth xs j = 0 ∨ nth xs j = 1) ∧
      Below (w.heap.size + 2) ((w.alloc (.cells #[.slice pa P.length pc, .slice ta T.length tc] 24)).alloc (.cells #[.int .i64 0, .int .i64 0] 29)) wr) (fun _ i _ => xs.length - (intOf i).toNat)
    case atStart => exact ⟨0, by omega, rfl, rfl, fun j hj => absurd hj (by omega), Below.refl _ _⟩
    case round =>
      obtain ⟨k, hk, rfl, rfl, ha, hb⟩ := hrel
      have HA := Lib.hid ha
      have HB := Lib.hid hb
      have h16 := pow16_le (k := k) (by omega)
      have h16' := Int.pow_pos (n := 16) (m := k) (by omega)
      obtain ⟨q, hq⟩ : ∃ q : Int, q = 16 ^ k := ⟨_, rfl⟩
      rw [← hq] at h16 h16' ⊢
      have HQ := Lib.hid hq
      have hX' := ((HX.out.alloc (.cells #[.slice pa P.length pc, .slice ta T.length tc] 24)).alloc (.cells #[.int .i64 0, .int .i64 0] 29)).below hb (by simp)
      obtain ⟨k0, k1⟩ := two2 hb (by simp)
      have K0 := Lib.hid k0
      have K1 := Lib.hid k1
      clear ha hb hq k0 k1
      by_cases hlt : k < xs.length
      · have hck := hX'.cell k hlt
        clear hX'
        rcases (show nth xs k < 0 ∨ (0 ≤ nth xs k ∧ 1 < nth xs k) ∨ (0 ≤ nth xs k ∧ nth xs k ≤ 1) by omega) with g | ⟨g, g2⟩ | ⟨g, g2⟩
        · have HF := Lib.hid (show okAsg xs P.length = false from decide_eq_false (fun y => by have := y.2 k hlt; omega))
          go_wp2_with (refine wpList_store_row rfl 29 (.tmp 4) (.tmp 33) rfl (w.heap.size + 1) _ rfl rfl 29 _ K1.out (by kernel_rfl) rfl (by simp [Value.oneCell']) ?_)
          refine bodyPost_ret (v := .tuple #[zeroF, .bool false]) ?_ rfl ⟨by rw [jointV_no HF.out, HF.out], below_setRow ((((Below.refl _ _).alloc (Nat.le_refl _) _).alloc (by simp) _).trans (HB.out.mono (by omega))) (by omega) _⟩
          exact results_cell_row2 (ty := 29) (p := 4) (u := 5) rfl _ _ (w.heap.size + 1) 29 _ (0, 0) _ rfl (setRow_heap _ _ _ _ _ _ K1.out) Try.underlying29 rfl (by kernel_rfl)
        · have HF := Lib.hid (show okAsg xs P.length = false from decide_eq_false (fun y => by have := y.2 k hlt; omega))
          go_wp2_with (refine wpList_store_row rfl 29 (.tmp 4) (.tmp 33) rfl (w.heap.size + 1) _ rfl rfl 29 _ K1.out (by kernel_rfl) rfl (by simp [Value.oneCell']) ?_)
          refine bodyPost_ret (v := .tuple #[zeroF, .bool false]) ?_ rfl ⟨by rw [jointV_no HF.out, HF.out], below_setRow ((((Below.refl _ _).alloc (Nat.le_refl _) _).alloc (by simp) _).trans (HB.out.mono (by omega))) (by omega) _⟩
          exact results_cell_row2 (ty := 29) (p := 4) (u := 5) rfl _ _ (w.heap.size + 1) 29 _ (0, 0) _ rfl (setRow_heap _ _ _ _ _ _ K1.out) Try.underlying29 rfl (by kernel_rfl)
        · go_wp2
          go_roundw
          case rel =>
            refine ⟨k + 1, by omega, by go_num, by rw [Int.pow_succ, ← HQ.out], fun j hj => ?_, HB.out⟩
            by_cases e : j = k
            · subst e; omega
            · exact HA.out j (by omega)
          case measure => simp [intOf]; omega
      · have hOK : okAsg xs P.length = true := decide_eq_true ⟨HL.out, fun i hi => HA.out i (by omega)⟩
        have HOK := Lib.hid hOK
        have ek : k = P.length := by have := HL.out; omega
        have HK := Lib.hid ek
        have hwt := wt_le HN.out (okAsg_Bits hOK) P.length (Nat.le_refl _)
        obtain ⟨c0, c1, -, -⟩ := cells_of2 K0.out
        have HX' := Lib.hid hX'
        clear hX' hOK ek
        go_wp2_with fail
        refine (refWeight_any P T _ xs _ xb xo xc _ ((((HNet.out.alloc _).alloc _).below HB.out (by simp))) HX'.out HN.out (okAsg_Bits HOK.out) HL.out).mono ?_
        rintro e w2 ⟨rfl, hb2⟩
        have HB2 := Lib.hid hb2
        clear hb2 c0 c1
        go_wp2_with fail
        refine (reduced_any _ _ _ (by omega) (by omega) (by omega) (by omega)).mono ?_
        rintro e w3 ⟨rfl, hb3⟩
        have K3 := Lib.hid ((hb3.block _ (by have := lt_of_block K1.out; have := HB2.out.size; omega)).trans ((HB2.out.block _ (lt_of_block K1.out)).trans K1.out))
        have HB3 := Lib.hid hb3
        have e1 := HB.out.size
        have e2 := HB2.out.size
        simp only [World.size_alloc] at e1
        clear hb3
        go_wp2_with (refine wpList_store_row rfl 29 (.tmp 4) (.tmp 40) rfl (w.heap.size + 1) _ rfl rfl 29 _ K3.out (by kernel_rfl) rfl (fracC_all _ _) ?_)
        refine bodyPost_ret (v := .tuple #[fracV (wt P T (nth xs) P.length) q, .bool true]) ?_ rfl ⟨by rw [jointV_yes HOK.out, HOK.out, HQ.out, HK.out], below_setRow ((((Below.refl _ _).alloc (Nat.le_refl _) _).alloc (by simp) _).trans ((HB.out.mono (by omega)).trans ((HB2.out.mono (by omega)).trans (HB3.out.mono (by omega))))) (by omega) _⟩
        exact results_cell_row2 (ty := 29) (p := 4) (u := 5) rfl _ _ (w.heap.size + 1) 29 _ (0, 0) _ rfl (setRow_heap _ _ _ _ _ _ K3.out) Try.underlying29 rfl (by kernel_rfl)
  · have hB : (((xs.length : Int)) != (P.length : Int)) = true := by rw [bne_iff_ne]; omega
    have HF := Lib.hid (show okAsg xs P.length = false from decide_eq_false (fun q => hlen q.1))
    go_enter Try.func20, Try.ntmps20
    go_wp2_with (refine wpList_store_row rfl 29 (.tmp 4) (.tmp 14) rfl (w.heap.size + 1) _ rfl rfl 29 _ (heap_alloc2_new _ _ _) (by kernel_rfl) rfl (by simp [Value.oneCell']) ?_)
    refine bodyPost_ret (v := .tuple #[zeroF, .bool false]) ?_ rfl ⟨by rw [jointV_no HF.out, HF.out], below_setRow (((Below.refl _ _).alloc (Nat.le_refl _) _).alloc (by simp) _) (by omega) _⟩
    exact results_cell_row2 (ty := 29) (p := 4) (u := 5) rfl _ _ (w.heap.size + 1) 29 _ (0, 0) _ rfl (setRow_heap _ _ _ _ _ _ (heap_alloc2_new _ _ _)) Try.underlying29 rfl (by kernel_rfl)

end Go.Proofs.Ytghffnjnpgiicaa

/- Copies of networks: rows that a call has made. -/
namespace Go.Proofs.Ytghffnjnpgiicaa
open Go.RowKit

theorem row_append_lt {xss : List (List Int)} {xs : List Int} {j : Nat} (h : j < xss.length) : row (xss ++ [xs]) j = row xss j := by
  unfold row; simp [List.getD_eq_getElem?_getD, List.getElem?_append, h]
theorem row_append_eq {xss : List (List Int)} {xs : List Int} : row (xss ++ [xs]) xss.length = xs := by
  unfold row; simp [List.getD_eq_getElem?_getD]

/-- A slice of slices of ints, all of it new since the heap had B blocks. -/
structure NewRows (B : Nat) (w : World) (v : Value) (xss : List (List Int)) : Prop where
  ex : ∃ vs : List Value, w.ownsRow B 25 1 v xss.length vs ∧ (∀ j, j < xss.length → ∃ u, vs[j]? = some u ∧ NewInts B w u (row xss j)) ∧ ∀ u ∈ vs, u.oneCell' = true

theorem NewRows.nil (B : Nat) (w : World) : NewRows B w (.slice none 0 0) [] :=
  ⟨[], World.ownsRow_nil _ _ _ _, fun j hj => absurd hj (by simp), fun u hu => by cases hu⟩

theorem NewInts.kept {B : Nat} {w w' : World} {u : Value} {xs : List Int} (h : NewInts B w u xs) {r : Option Nat} (hg : w.grownBy w' r) (hne : u.ownBlock = none ∨ u.ownBlock ≠ r) : NewInts B w' u xs :=
  ⟨h.own.kept hg hne, h.wf, h.len⟩
theorem NewInts.below {B M : Nat} {w w' : World} {u : Value} {xs : List Int} (h : NewInts B w u xs) (hb : Below M w w') (hM : w.heap.size ≤ M) : NewInts B w' u xs := by
  refine ⟨⟨h.own.1, ?_⟩, h.wf, h.len⟩
  rcases h.own.2 with h2 | ⟨g, cap, cur, h1, h2, h3, h4⟩
  · exact .inl h2
  · exact .inr ⟨g, cap, cur, h1, h2, (hb.block _ (by have := lt_of_block h3; omega)).trans h3, h4⟩
theorem NewInts.mono {B B' : Nat} {w : World} {u : Value} {xs : List Int} (h : NewInts B w u xs) (hB : B' ≤ B) : NewInts B' w u xs := by
  refine ⟨⟨h.own.1, ?_⟩, h.wf, h.len⟩
  rcases h.own.2 with h2 | ⟨g, cap, cur, h1, h2, h3⟩
  · exact .inl h2
  · exact .inr ⟨g, cap, cur, h1, by omega, h3⟩
theorem ownsRow_below {B M : Nat} {w w' : World} {e : TypeId} {v : Value} {n : Nat} {vs : List Value} (h : w.ownsRow B e 1 v n vs) (hb : Below M w w') (hM : w.heap.size ≤ M) : w'.ownsRow B e 1 v n vs := by
  refine ⟨h.1, ?_⟩
  rcases h.2 with h2 | ⟨g, cap, cur, h1, h2, h3, h4⟩
  · exact .inl h2
  · exact .inr ⟨g, cap, cur, h1, h2, (hb.block _ (by have := lt_of_block h3; omega)).trans h3, h4⟩
theorem ownsRow_mono {B B' : Nat} {w : World} {e : TypeId} {v : Value} {n : Nat} {vs : List Value} (h : w.ownsRow B e 1 v n vs) (hB : B' ≤ B) : w.ownsRow B' e 1 v n vs := by
  refine ⟨h.1, ?_⟩
  rcases h.2 with h2 | ⟨g, cap, cur, h1, h2, h3⟩
  · exact .inl h2
  · exact .inr ⟨g, cap, cur, h1, by omega, h3⟩
theorem NewRows.below {B M : Nat} {w w' : World} {v : Value} {xss : List (List Int)} (h : NewRows B w v xss) (hb : Below M w w') (hM : w.heap.size ≤ M) : NewRows B w' v xss := by
  obtain ⟨vs, h1, h2, h3⟩ := h.ex
  exact ⟨vs, ownsRow_below h1 hb hM, fun j hj => let ⟨u, e, hu⟩ := h2 j hj; ⟨u, e, hu.below hb hM⟩, h3⟩
theorem NewRows.mono {B B' : Nat} {w : World} {v : Value} {xss : List (List Int)} (h : NewRows B w v xss) (hB : B' ≤ B) : NewRows B' w v xss := by
  obtain ⟨vs, h1, h2, h3⟩ := h.ex
  exact ⟨vs, ownsRow_mono h1 hB, fun j hj => let ⟨u, e, hu⟩ := h2 j hj; ⟨u, e, hu.mono hB⟩, h3⟩

theorem ownsRow_blocks {B : Nat} {w w' : World} {e : TypeId} {v : Value} {n : Nat} {vs : List Value} (h : w.ownsRow B e 1 v n vs) (hh : ∀ g, B ≤ g → g < w.heap.size → w'.heap[g]? = w.heap[g]?) : w'.ownsRow B e 1 v n vs := by
  refine ⟨h.1, ?_⟩
  rcases h.2 with h2 | ⟨g, cap, cur, h1, h2, h3, h4⟩
  · exact .inl h2
  · exact .inr ⟨g, cap, cur, h1, h2, (hh g h2 (lt_of_block h3)).trans h3, h4⟩
theorem NewInts.blocks {B : Nat} {w w' : World} {u : Value} {xs : List Int} (h : NewInts B w u xs) (hh : ∀ g, B ≤ g → g < w.heap.size → w'.heap[g]? = w.heap[g]?) : NewInts B w' u xs :=
  ⟨ownsRow_blocks h.own hh, h.wf, h.len⟩
theorem NewRows.blocks {B : Nat} {w w' : World} {v : Value} {xss : List (List Int)} (h : NewRows B w v xss) (hh : ∀ g, B ≤ g → g < w.heap.size → w'.heap[g]? = w.heap[g]?) : NewRows B w' v xss := by
  obtain ⟨vs, h1, h2, h3⟩ := h.ex
  exact ⟨vs, ownsRow_blocks h1 hh, fun j hj => let ⟨u, e, hu⟩ := h2 j hj; ⟨u, e, hu.blocks hh⟩, h3⟩
theorem NewRows.setCell {B : Nat} {w : World} {v : Value} {xss : List (List Int)} (h : NewRows B w v xss) {a : Addr} (ha : a.block < B) (x : Value) : NewRows B (w.setCell a x) v xss :=
  h.blocks fun g hg _ => heap_setCell_other _ _ _ _ (by omega)
theorem slice_of_own {B : Nat} {w : World} {e : TypeId} {v : Value} {n : Nat} {vs : List Value} (h : w.ownsRow B e 1 v (n + 1) vs) : ∃ g cap, v = .slice (some ⟨g, 0, none⟩) (n + 1) cap ∧ B ≤ g := by
  rcases h.2 with ⟨_, h2⟩ | ⟨g, cap, cur, h1, h2, h3⟩
  · omega
  · exact ⟨g, cap, h1, h2⟩

theorem NewRows.oneCell {B : Nat} {w : World} {v : Value} {xss : List (List Int)} (h : NewRows B w v xss) : v.oneCell' = true := by
  obtain ⟨vs, h1, _⟩ := h.ex
  rcases h1.2 with ⟨rfl, _⟩ | ⟨g, cap, cur, rfl, _⟩ <;> rfl
theorem NewInts.oneCell {B : Nat} {w : World} {v : Value} {xs : List Int} (h : NewInts B w v xs) : v.oneCell' = true := by
  rcases h.own.2 with ⟨rfl, _⟩ | ⟨g, cap, cur, rfl, _⟩ <;> rfl

/-- A slice of ints and a slice of slices are not one. -/
theorem own_apart {B B' : Nat} {w : World} {u v : Value} {xs : List Int} {n : Nat} {vs : List Value} (h : NewInts B w u xs) (h2 : w.ownsRow B' 25 1 v n vs) : u.ownBlock = none ∨ u.ownBlock ≠ v.ownBlock := by
  rcases h.own.2 with ⟨rfl, _⟩ | ⟨g, cap, cur, rfl, _, hg, _⟩
  · exact .inl rfl
  · right
    rcases h2.2 with ⟨rfl, _⟩ | ⟨g', cap', cur', rfl, _, hg', _⟩
    · simp [Value.ownBlock]
    · intro e
      simp [Value.ownBlock] at e
      subst e
      rw [hg] at hg'
      simp at hg'

theorem NewRows.snoc {B : Nat} {w w' : World} {v v' u : Value} {xss : List (List Int)} {xs : List Int} {vs : List Value} (h1 : w.ownsRow B 25 1 v xss.length vs)
    (h2 : ∀ j, j < xss.length → ∃ u, vs[j]? = some u ∧ NewInts B w u (row xss j)) (h3 : ∀ u ∈ vs, u.oneCell' = true) (hu : NewInts B w u xs) (hu1 : u.oneCell' = true)
    (hown : w'.ownsRow B 25 1 v' (xss.length + 1) (vs ++ [u])) (hg : w.grownBy w' v.ownBlock) : NewRows B w' v' (xss ++ [xs]) := by
  have hl : vs.length = xss.length := by have := h1.1; omega
  refine ⟨vs ++ [u], by simpa using hown, fun j hj => ?_, fun x hx => ?_⟩
  · by_cases e : j < xss.length
    · obtain ⟨u', e1, e2⟩ := h2 j e
      exact ⟨u', by rw [List.getElem?_append_left (by omega)]; exact e1, by rw [row_append_lt e]; exact e2.kept hg (own_apart e2 h1)⟩
    · have : j = xss.length := by simp at hj; omega
      subst this
      exact ⟨u, by rw [← hl]; simp, by rw [row_append_eq]; exact hu.kept hg (own_apart hu h1)⟩
  · rcases List.mem_append.1 hx with hx | hx
    · exact h3 x hx
    · rw [List.mem_singleton.1 hx]; exact hu1

/-- The first twelve rows, twenty numbers of each. -/
def trim (xss : List (List Int)) : List (List Int) := (xss.take 12).map (List.take 20)

theorem take_succ_row {xss : List (List Int)} {k : Nat} (h : k < xss.length) : (xss.take (k + 1)).map (List.take 20) = (xss.take k).map (List.take 20) ++ [(row xss k).take 20] := by
  rw [List.take_succ_eq_append_getElem h, List.map_append]
  simp [row, List.getD_eq_getElem?_getD, h]

theorem NewRows.at {B : Nat} {w : World} {v : Value} {xss : List (List Int)} (h : NewRows B w v xss) (hl : xss.length ≤ 140737488351232) :
    ∃ ao b cap A B' O C, v = .slice ao xss.length cap ∧ RowsAt w ao b 0 xss A B' O C := by
  obtain ⟨vs, h1, h2, _⟩ := h.ex
  have h2' : ∀ j : Nat, ∃ x : (Option Addr × Nat × Nat × Nat), j < xss.length → vs[j]? = some (.slice x.1 (row xss j).length x.2.2.2) ∧ IntsAt w x.1 x.2.1 x.2.2.1 (row xss j) := by
    intro j
    by_cases hj : j < xss.length
    · obtain ⟨u, e, hu⟩ := h2 j hj
      obtain ⟨ao, b, cap, rfl, hi, _⟩ := hu.at
      exact ⟨(ao, b, 0, cap), fun _ => ⟨e, hi⟩⟩
    · exact ⟨(none, 0, 0, 0), fun h => absurd h hj⟩
  obtain ⟨f, hf⟩ := Classical.axiomOfChoice h2'
  rcases h1.2 with ⟨rfl, h0⟩ | ⟨g, cap, cur, rfl, hg, hh, hcap, hm, hcs, htk⟩
  · exact ⟨none, 0, 0, fun j => (f j).1, fun j => (f j).2.1, fun j => (f j).2.2.1, fun j => (f j).2.2.2, by rw [h0], ⟨fun h => absurd h (by omega), fun i hi => absurd hi (by omega), fun i hi => absurd hi (by omega), hl⟩⟩
  · refine ⟨some ⟨g, 0, none⟩, g, cap, fun j => (f j).1, fun j => (f j).2.1, fun j => (f j).2.2.1, fun j => (f j).2.2.2, rfl, ⟨fun _ => ⟨rfl, lt_of_block hh⟩, fun i hi => ?_, fun i hi => (hf i hi).2, hl⟩⟩
    have e : cur[i]? = vs[i]? := by
      rw [← htk, List.getElem?_take, if_pos (by omega)]; simp
    have := (hf i hi).1
    simp [World.cell?, hh, e, this]

end Go.Proofs.Ytghffnjnpgiicaa

/- 'network': a copy of a network, with at most 12 variables. -/
namespace Go.Proofs.Ytghffnjnpgiicaa
open Go.RowKit

/-- What is known of the spare places of the rows of an argument. -/
def CapsOk (xss : List (List Int)) (A : Nat → Option Addr) (C : Nat → Nat) : Prop := ∀ i, i < xss.length → (row xss i).length ≤ C i ∧ (A i = none → C i = 0)

theorem oneCell_slice (ao : Option Addr) (n c : Nat) : (Value.slice ao n c).oneCell' = true := rfl

theorem rfl3 (w : World) (a b c : Obj) : (((w.alloc a).alloc b).alloc c).heap[w.heap.size]? = some a := by
  rw [Below.heap_alloc _ _ _ (by simp; omega), Below.heap_alloc _ _ _ (by simp)]; exact heap_alloc_new _ _
theorem rfl4 (w : World) (a b c : Obj) : (((w.alloc a).alloc b).alloc c).heap[w.heap.size + 1]? = some b := by
  rw [Below.heap_alloc _ _ _ (by simp)]
  have := heap_alloc_new (w.alloc a) b
  simpa using this
theorem rfl5 (w : World) (a b c : Obj) : (((w.alloc a).alloc b).alloc c).heap[w.heap.size + 2]? = some c := by
  have := heap_alloc_new ((w.alloc a).alloc b) c
  simpa using this

set_option maxHeartbeats 4000000 in
set_option maxRecDepth 100000 in
theorem network_any (P T : List (List Int)) (pa : Option Addr) (pb po pc : Nat) (A : Nat → Option Addr) (B O C : Nat → Nat) (ta : Option Addr) (tb to tc : Nat) (A' : Nat → Option Addr) (B' O' C' : Nat → Nat) (w : World)
    (hP : RowsAt w pa pb po P A B O C) (hT : RowsAt w ta tb to T A' B' O' C') (cP : CapsOk P A C) (cT : CapsOk T A' C') :
    Calls Try.prog 15 #[.agg #[.slice pa P.length pc, .slice ta T.length tc]] w fun e w' =>
      (∃ v1 v2, e = .returned (.agg #[v1, v2]) ∧ NewRows w.heap.size w' v1 (trim P) ∧ NewRows w.heap.size w' v2 (trim T)) ∧ Below w.heap.size w w' := by
  have HP := Lib.hid hP
  have HT := Lib.hid hT
  have CP := Lib.hid cP
  have CT := Lib.hid cT
  have hlP := hP.len
  have hlT := hT.len
  obtain ⟨i0, hi, hz0, hz1, hz2⟩ := info_parts Try.info25
  clear hP hT cP cT
  go_enter Try.func15, Try.ntmps15
  go_wp2
  go_loopw [4, 5] (fun i _ wr => ∃ (k : Nat) (v1 : Value), k ≤ P.length ∧ k ≤ 12 ∧ i = .int .i64 k ∧ Below w.heap.size w wr ∧ NewRows (w.heap.size + 3) wr v1 ((P.take k).map (List.take 20)) ∧
    wr.heap[w.heap.size]? = some (.cells #[.slice pa P.length pc, .slice ta T.length tc] 24 (0, 0)) ∧ wr.heap[w.heap.size + 1]? = some (.cells #[.slice none 0 0, .slice none 0 0] 24 (0, 0)) ∧
    wr.heap[w.heap.size + 2]? = some (.cells #[v1, .slice none 0 0] 24 (0, 0))) (fun i _ _ => P.length - (intOf i).toNat)
  case atStart => exact ⟨0, _, by omega, by omega, rfl, (((Below.refl _ _).alloc (Nat.le_refl _) _).alloc (by simp) _).alloc (by simp; omega) _, NewRows.nil _ _, rfl3 _ _ _ _, rfl4 _ _ _ _, rfl5 _ _ _ _⟩
  case round =>
    obtain ⟨k, v1, hk, hk12, rfl, hb, hr, h0, h1, h2⟩ := hrel
    obtain ⟨c0, c1, -, -⟩ := cells_of2 h0
    obtain ⟨d0, d1, f0, f1⟩ := cells_of2 h2
    have HB := Lib.hid hb
    have HR := Lib.hid hr
    have H0 := Lib.hid h0
    have H1 := Lib.hid h1
    have H2 := Lib.hid h2
    clear hb hr h0 h1 h2
    by_cases hgo : k < P.length ∧ k < 12
    · obtain ⟨hlt, hl12⟩ := hgo
      have hP' := HP.out.below HB.out (Nat.le_refl _)
      obtain ⟨rfl, -⟩ := hP'.ptr (by omega)
      have hck := hP'.cell k hlt
      have HRK := Lib.hid (hP'.rows k hlt)
      clear hP'
      go_wp2_with fail
      refine (list_any (row P k) _ _ _ _ _ HRK.out (CP.out k hlt).1 (CP.out k hlt).2).mono ?_
      rintro e w1 ⟨u, rfl, hu, hb1⟩
      obtain ⟨q, hq⟩ : ∃ q, q = List.take 20 (row P k) := ⟨_, rfl⟩
      rw [← hq] at hu
      have HQ := Lib.hid hq
      clear hq
      obtain ⟨uo, ub, uc, rfl, -, -⟩ := hu.at
      obtain ⟨vs, e1, e2, e3⟩ := (HR.out.below hb1 (Nat.le_refl _)).ex
      have hlk : ((P.take k).map (List.take 20)).length = k := by simp; omega
      have hN := HB.out.size
      have hN1 := lt_of_block H2.out
      have hN2 := hb1.size
      have K0 := Lib.hid ((hb1.block _ (lt_of_block H0.out)).trans H0.out)
      have K1 := Lib.hid ((hb1.block _ (lt_of_block H1.out)).trans H1.out)
      have K2 := Lib.hid ((hb1.block _ (lt_of_block H2.out)).trans H2.out)
      have HU := Lib.hid (hu.mono (B' := w.heap.size + 3) (by omega))
      have HB1 := Lib.hid hb1
      have E2 := Lib.hid e2
      have E3 := Lib.hid e3
      have E1 := Lib.hid e1
      have e1' := e1
      rw [hlk] at e1'
      clear hu hb1 e1 e2 e3 d0 d1 f0 f1 c0 c1
      go_wp2_with (at_builtin; refine wpList_append_own _ rfl (.tmp 21) (.tmp 28) 22 rfl (w.heap.size + 3) 25 i0 (.slice none 0 0) 1 24 Try.underlying22 hi hz0 hz1 hz2 rfl (by decide) v1 k vs rfl (e1'.alloc _) ⟨w1.heap.size, 0, none⟩ 1 1 [.slice uo q.length uc] rfl rfl (cell_one_new _ _ _) (by simp [oneCell_slice]) ?c3 ?c4 ?c5 ?_)
      case c3 => unfold maxLen; omega
      case c4 => omega
      case c5 => simp; omega
      intro v' w2 hown hg hnl
      have hvb : ∀ g, g < w.heap.size + 3 → w2.heap[g]? = w1.heap[g]? := fun g hg' => by
        rw [hg.block g (by simp; omega) (fun e => by have := E1.out.lt g e.symm; omega), Below.heap_alloc _ _ _ (by omega)]
      have HNR := Lib.hid (NewRows.snoc (w := w1.alloc (.cells #[.slice uo q.length uc] 25)) (E1.out.alloc _) (fun j hj => let ⟨x, h1, h2⟩ := E2.out j hj; ⟨x, h1, h2.below ((Below.refl _ _).alloc (Nat.le_refl _) _) (Nat.le_refl _)⟩) E3.out (HU.out.below ((Below.refl _ _).alloc (Nat.le_refl _) _) (Nat.le_refl _)) (oneCell_slice _ _ _) (by rw [hlk]; exact hown) hg)
      obtain ⟨g', cap', rfl, hgb⟩ := slice_of_own hown
      have L0 := Lib.hid ((hvb _ (by omega)).trans K0.out)
      have L1 := Lib.hid ((hvb _ (by omega)).trans K1.out)
      have L2 := Lib.hid ((hvb _ (by omega)).trans K2.out)
      have HB2 : Hid (Below w.heap.size w w2) := ((HB.out.trans (HB1.out.mono hN)).alloc (by omega) _).grown hg (by simp; omega) (fun r hr => by have := E1.out.lt r hr; omega)
      obtain ⟨d0, d1, f0, f1⟩ := cells_of2 L2.out
      clear hvb hown hg hnl e1'
      go_wp2
      go_roundw
      case rel =>
        refine ⟨k + 1, .slice (some ⟨g', 0, none⟩) (k + 1) cap', by omega, by omega, by go_num, HB2.out.setCell (by show w.heap.size ≤ w.heap.size + 1 + 1; omega) _, ?_, ?_, ?_, ?_⟩
        · rw [take_succ_row hlt, ← HQ.out]
          exact HNR.out.setCell (by show w.heap.size + 1 + 1 < _; omega) _
        · rw [heap_setCell_other _ _ _ _ (by show w.heap.size ≠ w.heap.size + 1 + 1; omega)]; exact L0.out
        · rw [heap_setCell_other _ _ _ _ (by show w.heap.size + 1 ≠ w.heap.size + 1 + 1; omega)]; exact L1.out
        · exact heap_setCell_same _ _ 0 _ _ _ L2.out
      case measure => simp [intOf]; omega
    · have htr : (P.take k).map (List.take 20) = trim P := by
        unfold trim
        by_cases e : k = 12
        · rw [e]
        · rw [List.take_of_length_le (show P.length ≤ k by omega), List.take_of_length_le (show P.length ≤ 12 by omega)]
      rw [htr] at HR
      have hcase : (¬ k < P.length) ∨ (k < P.length ∧ ¬ k < 12) := by omega
      clear htr hgo
      rcases hcase with g1 | ⟨g1, g2⟩
      all_goals
        go_wp2
        clear c0 c1 d0 d1 f0 f1
        obtain ⟨wo, rfl⟩ : ∃ wo : World, wo = wr := ⟨_, rfl⟩
        have hz := lt_of_block H2.out
        go_loopw [6, 7] (fun i _ wr => ∃ (k : Nat) (v2 : Value), k ≤ T.length ∧ k ≤ 12 ∧ i = .int .i64 k ∧ Below w.heap.size w wr ∧ (∀ g, w.heap.size + 3 ≤ g → g < wo.heap.size → wr.heap[g]? = wo.heap[g]?) ∧ NewRows wo.heap.size wr v2 ((T.take k).map (List.take 20)) ∧ wo.heap.size ≤ wr.heap.size ∧
          wr.heap[w.heap.size]? = some (.cells #[.slice pa P.length pc, .slice ta T.length tc] 24 (0, 0)) ∧ wr.heap[w.heap.size + 1]? = some (.cells #[.slice none 0 0, .slice none 0 0] 24 (0, 0)) ∧
          wr.heap[w.heap.size + 2]? = some (.cells #[v1, v2] 24 (0, 0))) (fun i _ _ => T.length - (intOf i).toNat)
        case atStart => exact ⟨0, _, by omega, by omega, rfl, HB.out, fun _ _ _ => rfl, NewRows.nil _ _, Nat.le_refl _, H0.out, H1.out, H2.out⟩
        case round =>
          obtain ⟨k, v2, hk, hk12, rfl, hb, hr1, hr, hzz, h0, h1, h2⟩ := hrel
          clear HB H0 H1 H2
          obtain ⟨c0, c1, -, -⟩ := cells_of2 h0
          obtain ⟨d0, d1, f0, f1⟩ := cells_of2 h2
          have HB := Lib.hid hb
          have HR1 := Lib.hid hr1
          have HR2 := Lib.hid hr
          have H0 := Lib.hid h0
          have H1 := Lib.hid h1
          have H2 := Lib.hid h2
          clear hb hr1 hr h0 h1 h2
          by_cases hgo : k < T.length ∧ k < 12
          · obtain ⟨hlt, hl12⟩ := hgo
            have hT' := HT.out.below HB.out (Nat.le_refl _)
            obtain ⟨rfl, -⟩ := hT'.ptr (by omega)
            have hck := hT'.cell k hlt
            have HRK := Lib.hid (hT'.rows k hlt)
            clear hT'
            go_wp2_with fail
            refine (list_any (row T k) _ _ _ _ _ HRK.out (CT.out k hlt).1 (CT.out k hlt).2).mono ?_
            rintro e w1 ⟨u, rfl, hu, hb1⟩
            obtain ⟨q, hq⟩ : ∃ q, q = List.take 20 (row T k) := ⟨_, rfl⟩
            rw [← hq] at hu
            have HQ := Lib.hid hq
            clear hq
            obtain ⟨uo, ub, uc, rfl, -, -⟩ := hu.at
            obtain ⟨vs, e1, e2, e3⟩ := (HR2.out.below hb1 (Nat.le_refl _)).ex
            have hlk : ((T.take k).map (List.take 20)).length = k := by simp; omega
            have hN := HB.out.size
            have hN1 := lt_of_block H2.out
            have hN2 := hb1.size
            have K0 := Lib.hid ((hb1.block _ (lt_of_block H0.out)).trans H0.out)
            have K1 := Lib.hid ((hb1.block _ (lt_of_block H1.out)).trans H1.out)
            have K2 := Lib.hid ((hb1.block _ (lt_of_block H2.out)).trans H2.out)
            have HU := Lib.hid (hu.mono (B' := wo.heap.size) (by omega))
            have HB1 := Lib.hid hb1
            have E2 := Lib.hid e2
            have E3 := Lib.hid e3
            have E1 := Lib.hid e1
            have e1' := e1
            rw [hlk] at e1'
            clear hu hb1 e1 e2 e3 d0 d1 f0 f1 c0 c1
            go_wp2_with (at_builtin; refine wpList_append_own _ rfl (.tmp 44) (.tmp 51) 22 rfl wo.heap.size 25 i0 (.slice none 0 0) 1 24 Try.underlying22 hi hz0 hz1 hz2 rfl (by decide) v2 k vs rfl (e1'.alloc _) ⟨w1.heap.size, 0, none⟩ 1 1 [.slice uo q.length uc] rfl rfl (cell_one_new _ _ _) (by simp [oneCell_slice]) ?c6 ?c7 ?c8 ?_)
            case c6 => unfold maxLen; omega
            case c7 => omega
            case c8 => simp; omega
            intro v' w2 hown hg hnl
            have hvb : ∀ g, g < wo.heap.size → w2.heap[g]? = w1.heap[g]? := fun g hg' => by
              rw [hg.block g (by simp; omega) (fun e => by have := E1.out.lt g e.symm; omega), Below.heap_alloc _ _ _ (by omega)]
            have HNR := Lib.hid (NewRows.snoc (w := w1.alloc (.cells #[.slice uo q.length uc] 25)) (E1.out.alloc _) (fun j hj => let ⟨x, h1, h2⟩ := E2.out j hj; ⟨x, h1, h2.below ((Below.refl _ _).alloc (Nat.le_refl _) _) (Nat.le_refl _)⟩) E3.out (HU.out.below ((Below.refl _ _).alloc (Nat.le_refl _) _) (Nat.le_refl _)) (oneCell_slice _ _ _) (by rw [hlk]; exact hown) hg)
            have HQ1 := Lib.hid (fun (g : Nat) (h1 : w.heap.size + 3 ≤ g) (h2 : g < wo.heap.size) => (hvb g h2).trans ((HB1.out.block g (by omega)).trans (HR1.out g h1 h2)))
            have hz2 : wo.heap.size ≤ w2.heap.size := by have := hg.size; simp at this; omega
            obtain ⟨g', cap', rfl, hgb⟩ := slice_of_own hown
            have L0 := Lib.hid ((hvb _ (by omega)).trans K0.out)
            have L1 := Lib.hid ((hvb _ (by omega)).trans K1.out)
            have L2 := Lib.hid ((hvb _ (by omega)).trans K2.out)
            have HB2 : Hid (Below w.heap.size w w2) := ((HB.out.trans (HB1.out.mono hN)).alloc (by omega) _).grown hg (by simp; omega) (fun r hr => by have := E1.out.lt r hr; omega)
            obtain ⟨d0, d1, f0, f1⟩ := cells_of2 L2.out
            clear hvb hown hg hnl e1'
            go_wp2
            go_roundw
            case rel =>
              refine ⟨k + 1, .slice (some ⟨g', 0, none⟩) (k + 1) cap', by omega, by omega, by go_num, HB2.out.setCell (by show w.heap.size ≤ w.heap.size + 1 + 1; omega) _, fun g h1 h2 => (heap_setCell_other _ _ _ _ (by show g ≠ w.heap.size + 1 + 1; omega)).trans (HQ1.out g h1 h2), ?_, by simpa using hz2, ?_, ?_, ?_⟩
              · rw [take_succ_row hlt, ← HQ.out]
                exact HNR.out.setCell (by show w.heap.size + 1 + 1 < _; omega) _
              · rw [heap_setCell_other _ _ _ _ (by show w.heap.size ≠ w.heap.size + 1 + 1; omega)]; exact L0.out
              · rw [heap_setCell_other _ _ _ _ (by show w.heap.size + 1 ≠ w.heap.size + 1 + 1; omega)]; exact L1.out
              · exact heap_setCell_same _ _ 1 _ _ _ L2.out
            case measure => simp [intOf]; omega

          · have htr : (T.take k).map (List.take 20) = trim T := by
              unfold trim
              by_cases e : k = 12
              · rw [e]
              · rw [List.take_of_length_le (show T.length ≤ k by omega), List.take_of_length_le (show T.length ≤ 12 by omega)]
            rw [htr] at HR2
            have HV1 := Lib.hid HR.out.oneCell
            have HV2 := Lib.hid HR2.out.oneCell
            have hcase : (¬ k < T.length) ∨ (k < T.length ∧ ¬ k < 12) := by omega
            clear htr hgo
            rcases hcase with g1 | ⟨g1, g2⟩
            all_goals
              go_wp2_with (first | (refine wpList_load_row rfl 24 (.tmp 3) rfl (w.heap.size + 2) rfl 24 _ _ _ H2.out Try.underlying24 rfl (by kernel_rfl) ?_) | (refine wpList_store_row rfl 24 (.tmp 2) (.tmp 54) rfl (w.heap.size + 1) _ rfl rfl 24 _ H1.out (by kernel_rfl) rfl (by simp [HV1.out, HV2.out]) ?_))
              have hlt1 := lt_of_block H1.out
              refine bodyPost_ret (v := .agg #[v1, v2]) ?_ rfl ⟨⟨v1, v2, rfl, ?_, ?_⟩, below_setRow HB.out (by omega) _⟩
              · exact results_cell_row (ty := 24) (p := 2) rfl _ _ (w.heap.size + 1) 24 _ (0, 0) _ rfl (setRow_heap _ _ _ _ _ _ H1.out) Try.underlying24 rfl (by kernel_rfl)
              · exact (HR.out.blocks fun g hg hg2 => (setRow_other _ _ _ _ (by omega)).trans (HR1.out g hg hg2)).mono (by omega)
              · exact (HR2.out.blocks fun g hg hg2 => setRow_other _ _ _ _ (by omega)).mono (by omega)


end Go.Proofs.Ytghffnjnpgiicaa

