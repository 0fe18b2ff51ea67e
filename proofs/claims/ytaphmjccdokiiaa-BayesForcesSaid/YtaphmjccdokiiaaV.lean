/- Webs out of networks. -/
import Derived.Test.YtaphmjccdokiiaaU
namespace Go.Proofs.Ytaphmjccdokiiaa
open Go.RowKit

/-- Who is open when k variables, from the last one on, have been passed. -/
def opnTo (P : List (List Int)) (giv : Nat → Bool) : Nat → Nat → Bool
  | 0 => giv
  | k + 1 => fun p => opnTo P giv k p || (opnTo P giv k (P.length - 1 - k) && hasI (row P (P.length - 1 - k)) (p : Int))

/-- The web of a network and a set. -/
def webOf (P : List (List Int)) (giv : Nat → Bool) : Web where
  count := P.length
  par := fun v u => decide (v < P.length) && hasI (row P v) (u : Int)
  giv := giv
  opn := opnTo P giv P.length

theorem Web.cells_size (W : Web) : W.cells.size = 121 := arrF_size _ _
theorem Web.cells_all (W : Web) : W.cells.all (·.oneCell') = true := arrF_all (Web.one W)
theorem size102 : (Try.prog.info? 102).map (·.size) = some 121 := by kernel_rfl
theorem zero102_size : Try.zeroCells102.size = 121 := by kernel_rfl
theorem info_web (W : Web) : (Try.prog.info? 102).map (·.size) = some W.cells.size := by rw [W.cells_size]; exact size102
theorem old_web (W : Web) : Try.zeroCells102.size = W.cells.size := by rw [W.cells_size]; exact zero102_size

theorem wpList_world {P : Program} {ops : Array Oper} {Q : Exit → Act → World → Prop} {l : List Oper} {a : Act} {w w' : World} (h : w = w') (hk : wpList P ops Q l a w') : wpList P ops Q l a w := h ▸ hk
theorem rfl6 (w : World) (a b c d : Obj) : ((((w.alloc a).alloc b).alloc c).alloc d).heap[w.heap.size + 3]? = some d := by
  have := heap_alloc_new (((w.alloc a).alloc b).alloc c) d
  simpa using this

theorem Web.set_par (W : Web) {s q : Nat} (hs : s < 10) (hq : q < 10) : W.cells.setIfInBounds (1 + s * 10 + q) (.bool true) = Web.cells { W with par := fun v u => W.par v u || (decide (v = s) && decide (u = q)) } := by
  unfold Web.cells
  rw [arrF_set]
  refine arrF_congr fun i hi => ?_
  unfold Web.cell
  by_cases h0 : i = 0
  · rw [if_neg (by omega), if_pos h0, if_pos h0]
  · by_cases h1 : i < 101
    · rw [if_neg h0, if_neg h0, if_pos h1, if_pos h1]
      by_cases e : i = 1 + s * 10 + q
      · rw [if_pos e]
        have e1 : (i - 1) / 10 = s := by omega
        have e2 : (i - 1) % 10 = q := by omega
        simp [e1, e2]
      · rw [if_neg e]
        have : ¬ ((i - 1) / 10 = s ∧ (i - 1) % 10 = q) := by omega
        by_cases e1 : (i - 1) / 10 = s
        · have e2 : ¬ (i - 1) % 10 = q := fun h => this ⟨e1, h⟩
          simp [e2]
        · simp [e1]
    · rw [if_neg (by omega), if_neg h0, if_neg h0, if_neg h1, if_neg h1]
theorem Web.set_opn (W : Web) {q : Nat} (hq : q < 10) : W.cells.setIfInBounds (111 + q) (.bool true) = Web.cells { W with opn := fun p => W.opn p || decide (p = q) } := by
  unfold Web.cells
  rw [arrF_set]
  refine arrF_congr fun i hi => ?_
  unfold Web.cell
  by_cases h0 : i = 0
  · rw [if_neg (by omega), if_pos h0, if_pos h0]
  · by_cases h1 : i < 101
    · rw [if_neg (by omega), if_neg h0, if_neg h0, if_pos h1, if_pos h1]
    · by_cases h2 : i < 111
      · rw [if_neg (by omega), if_neg h0, if_neg h0, if_neg h1, if_neg h1, if_pos h2, if_pos h2]
      · rw [if_neg h0, if_neg h0, if_neg h1, if_neg h1, if_neg h2, if_neg h2]
        by_cases e : i = 111 + q
        · rw [if_pos e]
          have e1 : i - 111 = q := by omega
          simp [e1]
        · rw [if_neg e]
          have e1 : ¬ i - 111 = q := by omega
          simp [e1]
theorem Web.cells_congr {W W' : Web} (h0 : W.count = W'.count) (h1 : ∀ v u, v < 10 → u < 10 → W.par v u = W'.par v u) (h2 : ∀ v, v < 10 → W.giv v = W'.giv v) (h3 : ∀ v, v < 10 → W.opn v = W'.opn v) : W.cells = W'.cells := by
  unfold Web.cells
  refine arrF_congr fun i hi => ?_
  unfold Web.cell
  by_cases e0 : i = 0
  · rw [if_pos e0, if_pos e0, h0]
  · by_cases e1 : i < 101
    · rw [if_neg e0, if_neg e0, if_pos e1, if_pos e1, h1 _ _ (by omega) (by omega)]
    · by_cases e2 : i < 111
      · rw [if_neg e0, if_neg e0, if_neg e1, if_neg e1, if_pos e2, if_pos e2, h2 _ (by omega)]
      · rw [if_neg e0, if_neg e0, if_neg e1, if_neg e1, if_neg e2, if_neg e2, h3 _ (by omega)]

/-- The web when k variables have been passed, and t parents of the next one. -/
def webAt (P : List (List Int)) (m : Nat → Bool) (k t : Nat) : Web where
  count := P.length
  par := fun v u => (decide (P.length - k ≤ v ∧ v < P.length) && hasI (row P v) (u : Int)) || (decide (v = P.length - 1 - k) && inTo (row P (P.length - 1 - k)) t u)
  giv := m
  opn := fun p => opnTo P m k p || (opnTo P m k (P.length - 1 - k) && inTo (row P (P.length - 1 - k)) t p)

theorem webAt_next {P : List (List Int)} {m : Nat → Bool} {k s : Nat} (hk : k < P.length) (hs : P.length - 1 - k = s) : (webAt P m (k + 1) 0).cells = (webAt P m k (row P s).length).cells := by
  refine Web.cells_congr rfl (fun v u _ _ => ?_) (fun v _ => rfl) (fun v _ => ?_)
  · simp only [webAt, hs, inTo_len, inTo_zero, Bool.and_false, Bool.or_false]
    by_cases e : v = s
    · subst e
      have h1 : P.length - (k + 1) ≤ v ∧ v < P.length := by omega
      have h2 : ¬ (P.length - k ≤ v ∧ v < P.length) := by omega
      simp [h1, h2]
    · by_cases h1 : P.length - k ≤ v ∧ v < P.length
      · have h2 : P.length - (k + 1) ≤ v ∧ v < P.length := by omega
        simp [h1, h2, e]
      · have h2 : ¬ (P.length - (k + 1) ≤ v ∧ v < P.length) := by omega
        rw [decide_eq_false h1, decide_eq_false h2]; simp [e]
  · simp [webAt, inTo_zero, opnTo, hs, inTo_len]
theorem webAt_last (P : List (List Int)) (m : Nat → Bool) : (webAt P m P.length 0).cells = (webOf P m).cells := by
  refine Web.cells_congr rfl (fun v u _ _ => ?_) (fun v _ => rfl) (fun v _ => ?_)
  · simp [webAt, webOf, inTo_zero]
  · simp [webAt, webOf, inTo_zero]

/-- One parent more. -/
theorem webAt_step {P : List (List Int)} {m : Nat → Bool} {k t s q : Nat} (hs : P.length - 1 - k = s) (hq : nth (row P s) t = q) :
    (opnTo P m k s = false → (webAt P m k (t + 1)).cells = Web.cells { webAt P m k t with par := fun v u => (webAt P m k t).par v u || (decide (v = s) && decide (u = q)) }) ∧
    (opnTo P m k s = true → (webAt P m k (t + 1)).cells = Web.cells { webAt P m k t with par := fun v u => (webAt P m k t).par v u || (decide (v = s) && decide (u = q)), opn := fun p => (webAt P m k t).opn p || decide (p = q) }) := by
  have hp : ∀ v u, (webAt P m k (t + 1)).par v u = ((webAt P m k t).par v u || (decide (v = s) && decide (u = q))) := fun v u => by
    simp only [webAt, hs, inTo_succ hq]
    cases decide (v = s) <;> simp [Bool.or_assoc]
  constructor
  · intro ho
    refine Web.cells_congr rfl (fun v u _ _ => hp v u) (fun v _ => rfl) (fun v _ => ?_)
    simp [webAt, hs, ho]
  · intro ho
    refine Web.cells_congr rfl (fun v u _ _ => hp v u) (fun v _ => rfl) (fun v _ => ?_)
    simp [webAt, hs, ho, inTo_succ hq, Bool.or_assoc]
theorem webAt_opn {P : List (List Int)} {m : Nat → Bool} {k t s : Nat} (hs : P.length - 1 - k = s) : (webAt P m k t).opn s = opnTo P m k s := by
  simp only [webAt, hs]
  cases opnTo P m k s <;> simp

set_option maxHeartbeats 2000000 in
set_option maxRecDepth 100000 in
theorem newWeb_any (P T : List (List Int)) (v : Value) (m : Nat → Bool) (w : World) (h : NetAt w v P T) (hn : IsNet P T) :
    Calls Try.prog 60 #[v, .agg (memF m)] w fun e w' => e = .returned (.agg (webOf P m).cells) ∧ Below w.heap.size w w' := by
  obtain ⟨pa, b, o, pc, A, B, O, C, ta, b', o', tc, A', B', O', C', rfl, hP, hT⟩ := h.ex
  have h10 := hn.le
  have hpos := hn.pos
  have HN := Lib.hid hn
  have HP := Lib.hid hP
  clear h hn hP hT
  obtain ⟨W, hW⟩ : ∃ W, W = ((((w.alloc (.cells #[.slice pa P.length pc, .slice ta T.length tc] 24)).alloc (.cells (memF m) 97)).alloc (.cells Try.zeroCells102 102)).alloc (.cells Try.zeroCells102 102)).setRow (w.heap.size + 3) (Web.cells ⟨P.length, fun _ _ => false, m, m⟩) := ⟨_, rfl⟩
  have h0 : W.heap[w.heap.size]? = some (.cells #[.slice pa P.length pc, .slice ta T.length tc] 24 (0, 0)) := by
    rw [hW, setRow_other _ _ _ _ (by omega), Below.heap_alloc _ _ _ (by simp; omega)]; exact rfl3 _ _ _ _
  have h2 : W.heap[w.heap.size + 2]? = some (.cells Try.zeroCells102 102 (0, 0)) := by
    rw [hW, setRow_other _ _ _ _ (by omega), Below.heap_alloc _ _ _ (by simp)]; exact rfl5 _ _ _ _
  have h3 : W.heap[w.heap.size + 3]? = some (.cells (webAt P m 0 0).cells 102 (0, 0)) := by
    rw [hW, setRow_heap _ _ _ _ _ _ (rfl6 _ _ _ _ _)]
    refine congrArg (fun x => some (Obj.cells x 102)) (Web.cells_congr rfl (fun v u _ _ => ?_) (fun v _ => rfl) (fun v _ => ?_))
    · have : ¬ (P.length - 0 ≤ v ∧ v < P.length) := by omega
      simp only [webAt, inTo_zero, this]; simp
    · simp [webAt, inTo_zero, opnTo]
  have hbW : Below w.heap.size w W := by
    rw [hW]; exact below_setRow (((((Below.refl _ _).alloc (Nat.le_refl _) _).alloc (by simp) _).alloc (by simp; omega) _).alloc (by simp; omega) _) (by omega) _
  have c0 : W.cell? ⟨w.heap.size + 1 + 1 + 1, 0, none⟩ = some (.int .i64 P.length) := by
    rw [cell_of_row _ _ _ _ _ _ h3, Web.cells, arrF_get (by omega)]; rfl
  have HW := Lib.hid hW
  have H0 := Lib.hid h0
  have H2 := Lib.hid h2
  have H3 := Lib.hid h3
  have HBW := Lib.hid hbW
  clear hW h0 h2 h3 hbW
  go_enter Try.func60, Try.ntmps60
  go_wp2_with (first
    | (refine wpList_load_row rfl 97 (.tmp 3) rfl (w.heap.size + 1) rfl 97 (memF m) (0, 0) _ (by exact rfl4 _ _ _ _) Try.underlying97 rfl (by kernel_rfl) ?_)
    | (refine wpList_buildTo rfl 102 _ rfl (some 14) rfl (Web.cells ⟨P.length, fun _ _ => false, m, m⟩) (by kernel_rfl) ?_)
    | (refine wpList_store_row rfl 102 (.tmp 5) (.tmp 14) rfl (w.heap.size + 3) (Web.cells ⟨P.length, fun _ _ => false, m, m⟩) ?_ ?_ 102 Try.zeroCells102 ?_ ?_ ?_ ?_ ?_; exact rfl; exact rfl; exact rfl6 _ _ _ _ _; exact info_web _; exact old_web _; exact Web.cells_all _; refine wpList_world HW.out.symm ?_))
  clear c0
  go_loopw [6, 8, 28] (fun i _ _ wr => ∃ k : Nat, k ≤ P.length ∧ i = .int .i64 ((P.length : Int) - 1 - k) ∧ Below w.heap.size w wr ∧ wr.heap[w.heap.size]? = some (.cells #[.slice pa P.length pc, .slice ta T.length tc] 24 (0, 0)) ∧
      wr.heap[w.heap.size + 2]? = some (.cells Try.zeroCells102 102 (0, 0)) ∧ wr.heap[w.heap.size + 3]? = some (.cells (webAt P m k 0).cells 102 (0, 0))) (fun i _ _ _ => (intOf i + 1).toNat)
  case atStart => exact ⟨0, by omega, congrArg _ (by omega), HBW.out, H0.out, H2.out, H3.out⟩
  case round =>
    obtain ⟨k, hk, rfl, hb, h0, h2, h3⟩ := hrel
    clear H0 H2 H3 HBW HW
    have HB := Lib.hid hb
    have H0 := Lib.hid h0
    have H2 := Lib.hid h2
    have H3 := Lib.hid h3
    obtain ⟨x0, x1, -, -⟩ := cells_of2 h0
    clear hb h0 h2 h3
    by_cases hlt : k < P.length
    · obtain ⟨s, hs⟩ : ∃ s : Nat, P.length - 1 - k = s := ⟨_, rfl⟩
      have hsi : ((P.length : Int) - 1 - k) = (s : Int) := by omega
      have hsl : s < P.length := by omega
      rw [hsi]
      have HS := Lib.hid hs
      clear hsi hs
      have hP' := HP.out.below HB.out (Nat.le_refl _)
      obtain ⟨rfl, -⟩ := hP'.ptr (by omega)
      have hck := hP'.cell s hsl
      have HRK := Lib.hid (hP'.rows s hsl)
      have hlr := (hP'.rows s hsl).len
      have HOK := Lib.hid (HN.out.par s hsl)
      clear hP'
      go_wp2
      clear x0 x1 hck
      go_loopw [8, 28] (fun _ i wi => ∃ t : Nat, t ≤ (row P s).length ∧ i = .int .i64 t ∧ Below w.heap.size w wi ∧ wi.heap[w.heap.size]? = some (.cells #[.slice (some ⟨b, o, none⟩) P.length pc, .slice ta T.length tc] 24 (0, 0)) ∧
          wi.heap[w.heap.size + 2]? = some (.cells Try.zeroCells102 102 (0, 0)) ∧ wi.heap[w.heap.size + 3]? = some (.cells (webAt P m k t).cells 102 (0, 0))) (fun _ i _ => (row P s).length - (intOf i).toNat)
      case atStart => exact ⟨0, by omega, rfl, HB.out, H0.out, H2.out, H3.out⟩
      case round =>
        obtain ⟨t, ht, rfl, hb, h0, h2, h3⟩ := hrel
        clear H0 H2 H3 HB
        have HB := Lib.hid hb
        have H0 := Lib.hid h0
        have H2 := Lib.hid h2
        have H3 := Lib.hid h3
        clear hb h0 h2 h3
        by_cases hlt2 : t < (row P s).length
        · have hr := (HP.out.rows s hsl).below HB.out (Nat.le_refl _)
          obtain ⟨hAk, -⟩ := hr.ptr (by omega)
          rw [hAk]
          have hct := hr.cell t hlt2
          have hpt := HOK.out.2.1 t hlt2
          obtain ⟨q, hq⟩ : ∃ q : Nat, nth (row P s) t = (q : Int) := ⟨(nth (row P s) t).toNat, by omega⟩
          rw [hq] at hct
          have hq10 : q < 10 := by omega
          have hs10 : s < 10 := by omega
          have HST := Lib.hid (webAt_step (m := m) HS.out hq)
          have g1 := heap_setCell_same _ _ (1 + s * 10 + q) _ _ (.bool true) H3.out
          rw [Web.set_par _ hs10 hq10] at g1
          have c1 := web_cell (i := 1 + s * 10 + q) H3.out (by omega)
          rw [Web.cell_par _ hs10 hq10] at c1
          have f1 : wr.frozen? ⟨w.heap.size + 3, 1 + s * 10 + q, none⟩ = false := frozen_of_row _ _ _ _ _ H3.out
          have c2 := web_cell (i := 111 + s) g1 (by omega)
          rw [Web.cell_opn _ hs10] at c2
          simp only [webAt_opn HS.out] at c2
          have c3 := web_cell (i := 111 + q) g1 (by omega)
          rw [Web.cell_opn _ hq10] at c3
          have f3 : (wr.setCell ⟨w.heap.size + 3, 1 + s * 10 + q, none⟩ (.bool true)).frozen? ⟨w.heap.size + 3, 111 + q, none⟩ = false := frozen_of_row _ _ _ _ _ g1
          have G1 := Lib.hid g1
          clear hr hpt hq g1 hAk
          cases eo : opnTo P m k s
          · rw [eo] at c2
            have HE := Lib.hid (HST.out.1 eo)
            clear eo c3 f3
            go_wp2
            go_roundw
            case rel =>
              refine ⟨t + 1, by omega, by go_num, HB.out.setCell (by show w.heap.size ≤ w.heap.size + 1 + 1 + 1; omega) _, ?_, ?_, ?_⟩
              · rw [heap_setCell_other _ _ _ _ (by show w.heap.size ≠ w.heap.size + 1 + 1 + 1; omega)]; exact H0.out
              · rw [heap_setCell_other _ _ _ _ (by show w.heap.size + 2 ≠ w.heap.size + 1 + 1 + 1; omega)]; exact H2.out
              · rw [HE.out]; exact G1.out
            case measure => simp [intOf]; omega
          · rw [eo] at c2
            have HE := Lib.hid (HST.out.2 eo)
            have G2 := Lib.hid (heap_setCell_same _ _ (111 + q) _ _ (.bool true) G1.out)
            clear eo
            go_wp2
            go_roundw
            case rel =>
              refine ⟨t + 1, by omega, by go_num, (HB.out.setCell (by show w.heap.size ≤ w.heap.size + 1 + 1 + 1; omega) _).setCell (by show w.heap.size ≤ w.heap.size + 1 + 1 + 1; omega) _, ?_, ?_, ?_⟩
              · rw [heap_setCell_other _ _ _ _ (by show w.heap.size ≠ w.heap.size + 1 + 1 + 1; omega), heap_setCell_other _ _ _ _ (by show w.heap.size ≠ w.heap.size + 1 + 1 + 1; omega)]; exact H0.out
              · rw [heap_setCell_other _ _ _ _ (by show w.heap.size + 2 ≠ w.heap.size + 1 + 1 + 1; omega), heap_setCell_other _ _ _ _ (by show w.heap.size + 2 ≠ w.heap.size + 1 + 1 + 1; omega)]; exact H2.out
              · rw [HE.out]
                have := G2.out
                rw [Web.set_opn _ hq10] at this
                exact this
            case measure => simp [intOf]; omega
        · have H3' : Hid (wr.heap[w.heap.size + 3]? = some (.cells (webAt P m (k + 1) 0).cells 102 (0, 0))) := by
            have e : t = (row P s).length := by omega
            rw [webAt_next (by omega) HS.out]; rw [← e]; exact H3.out
          go_wp2
          go_roundw
          case rel => exact ⟨k + 1, by omega, congrArg _ (by have := HS.out; omega), HB.out, H0.out, H2.out, H3'.out⟩
          case measure => simp [intOf]
    · go_wp2_with (first
        | (refine wpList_load_row rfl 102 (.tmp 5) rfl (w.heap.size + 3) rfl 102 (webAt P m k 0).cells (0, 0) _ H3.out Try.underlying102 rfl (info_web _) ?_)
        | (refine wpList_store_row rfl 102 (.tmp 4) (.tmp 45) rfl (w.heap.size + 2) (webAt P m k 0).cells ?_ ?_ 102 Try.zeroCells102 ?_ ?_ ?_ ?_ ?_; exact rfl; exact rfl; exact H2.out; exact info_web _; exact old_web _; exact Web.cells_all _))
      have e : k = P.length := by omega
      refine bodyPost_ret (v := .agg (webOf P m).cells) ?_ rfl ⟨rfl, below_setRow HB.out (by omega) _⟩
      rw [← webAt_last P m, ← e]
      exact results_cell_row (ty := 102) (p := 4) rfl _ _ (w.heap.size + 2) 102 _ (0, 0) _ rfl (setRow_heap _ _ _ _ _ _ H2.out) Try.underlying102 rfl (info_web _)

end Go.Proofs.Ytaphmjccdokiiaa
