/- H4: Ua Va Wa Xa Ya Za -/
import Derived.Test.YtghffnjnpgiicaaG5
import Derived.Test.YtghffnjnpgiicaaG3
import Derived.Deep.RegionHeld3
/- The reference's has and Different. -/
namespace Go.Proofs.Ytghffnjnpgiicaa
open Go.RowKit

/-- The first k numbers have this one. -/
def hasTo (xs : List Int) (k : Nat) (x : Int) : Bool := decide (∃ i, i < k ∧ nth xs i = x)
theorem hasTo_len (xs : List Int) (x : Int) : hasTo xs xs.length x = hasI xs x := rfl

theorem IntsAt.drewN {w : World} {ao : Option Addr} {b o : Nat} {xs : List Int} (h : IntsAt w ao b o xs) (n : Nat) : IntsAt (w.drewN n) ao b o xs :=
  h.below (below_drewN (Below.refl _ _) n) (Nat.le_refl _)

set_option maxHeartbeats 1000000 in
set_option maxRecDepth 100000 in
theorem hasTo_any (xs : List Int) (k : Nat) (x : Int) (ao : Option Addr) (b o cap : Nat) (w : World) (h : IntsAt w ao b o xs) (hk : k ≤ xs.length) :
    Calls Try.prog 62 #[.slice ao k cap, .int .i64 x] w fun e w' => e = .returned (.bool (hasTo xs k x)) ∧ w' = w := by
  have hl := h.len
  have H := Lib.hid h
  clear h
  go_enter Try.func62, Try.ntmps62
  go_wp2
  go_loop [5] (fun i => ∃ j : Nat, j ≤ k ∧ i = .int .i64 j ∧ (∀ t, t < j → nth xs t ≠ x)) (fun i => k - (intOf i).toNat)
  case atStart => exact ⟨0, by omega, rfl, fun j hj => absurd hj (by omega)⟩
  case round =>
    obtain ⟨j, hj, rfl, ha⟩ := hrel
    have HA := Lib.hid ha
    clear ha
    by_cases hlt : j < k
    · obtain ⟨rfl, -⟩ := H.out.ptr (by omega)
      have hc := H.out.cell j (by omega)
      by_cases e : nth xs j = x
      · have hq : (nth xs j == x) = true := by rw [beq_iff_eq]; exact e
        have HF := Lib.hid (show hasTo xs k x = true from decide_eq_true ⟨j, hlt, e⟩)
        clear e
        go_wp2
        go_ret
        exact ⟨ret_bool HF.out.symm, rfl⟩
      · have hq : (nth xs j == x) = false := by rw [beq_eq_false_iff_ne]; exact e
        have HE := Lib.hid e
        clear e
        go_wp2
        go_round
        case rel =>
          refine ⟨j + 1, by omega, by go_num, fun t ht => ?_⟩
          by_cases e : t = j
          · subst e; exact HE.out
          · exact HA.out t (by omega)
        case measure => simp [intOf]; omega
    · have HF := Lib.hid (show hasTo xs k x = false from decide_eq_false (fun q => by obtain ⟨t, ht, e⟩ := q; exact HA.out t (by omega) e))
      go_wp2
      go_ret
      exact ⟨ret_bool HF.out.symm, rfl⟩

theorem has_any (xs : List Int) (x : Int) (ao : Option Addr) (b o cap : Nat) (w : World) (h : IntsAt w ao b o xs) :
    Calls Try.prog 62 #[.slice ao xs.length cap, .int .i64 x] w fun e w' => e = .returned (.bool (hasI xs x)) ∧ w' = w := hasTo_any xs xs.length x ao b o cap w h (Nat.le_refl _)

/-- A quiet call inside a region, in a world that has drawn before. -/
theorem quietM {P : Program} {f : FuncId} {args : Array Value} {w : World} {m q : Nat} {v : Value} (h : Calls P f args (w.drewN (m + q)) fun e w' => e = .returned v ∧ w' = w.drewN (m + q)) :
    Calls P f args (w.drewN (m + q)) fun e w'' => e = .returned v ∧ ∃ n, w'' = w.drewN (m + n) := h.mono fun _ _ ⟨he, hw⟩ => ⟨he, q, hw⟩
/-- .. of a callee that draws. -/
theorem quietD {P : Program} {f : FuncId} {args : Array Value} {w : World} {m q : Nat} {v : Value} (h : Calls P f args (w.drewN (m + q)) fun e w' => e = .returned v ∧ ∃ n, w' = (w.drewN (m + q)).drewN n) :
    Calls P f args (w.drewN (m + q)) fun e w'' => e = .returned v ∧ ∃ n, w'' = w.drewN (m + n) := h.mono fun _ _ ⟨he, n, hw⟩ => ⟨he, q + n, by rw [hw, World.drewN_drewN, Nat.add_assoc]⟩

theorem okSet_false {xs : List Int} {n k : Nat} (hk : k < xs.length) (h : nth xs k < 0 ∨ (n : Int) ≤ nth xs k ∨ hasTo xs k (nth xs k) = true) : okSet xs n = false :=
  decide_eq_false fun q => by
    have := q k hk
    rcases h with h | h | h
    · omega
    · omega
    · obtain ⟨j, hj, e⟩ := of_decide_eq_true h
      exact this.2 j hj e

set_option maxHeartbeats 1000000 in
set_option maxRecDepth 100000 in
theorem different_any (xs : List Int) (n : Nat) (ao : Option Addr) (b o cap : Nat) (w : World) (h : IntsAt w ao b o xs) (hcap : xs.length ≤ cap) :
    Calls Try.prog 28 #[.int .i64 n, .slice ao xs.length cap] w fun e w' => e = .returned (.bool (okSet xs n)) ∧ ∃ m, w' = w.drewN m := by
  have hl := h.len
  have H := Lib.hid h
  clear h
  go_enter Try.func28, Try.ntmps28
  go_wp2
  go_loopw [5] (fun i wr => ∃ k : Nat, k ≤ xs.length ∧ i = .int .i64 k ∧ (∀ i, i < k → (0 ≤ nth xs i ∧ nth xs i < n) ∧ ∀ j, j < i → nth xs j ≠ nth xs i) ∧ ∃ m, wr = w.drewN m) (fun i _ => xs.length - (intOf i).toNat)
  case atStart => exact ⟨0, by omega, rfl, fun j hj => absurd hj (by omega), 0, rfl⟩
  case round =>
    obtain ⟨k, hk, rfl, ha, m, rfl⟩ := hrel
    have HA := Lib.hid ha
    clear ha
    by_cases hlt : k < xs.length
    · obtain ⟨rfl, -⟩ := H.out.ptr (by omega)
      have hc := H.out.cell k hlt
      have HC := Lib.hid (fun q => hasTo_any xs k (nth xs k) (some ⟨b, o, none⟩) b o cap (w.drewN (m + q)) (H.out.drewN _) (by omega))
      by_cases e1 : nth xs k < 0
      · have HF := Lib.hid (okSet_false (n := n) hlt (.inl e1))
        have t1 : decide (nth xs k < 0) = true := decide_eq_true e1
        clear e1
        go_wp2
        go_quiet (fail)
        go_wp2
        go_ret
        exact ⟨ret_bool HF.out.symm, _, World.drewN_drewN _ _ _⟩
      · have t1 : decide (nth xs k < 0) = false := decide_eq_false e1
        by_cases e2 : (n : Int) ≤ nth xs k
        · have HF := Lib.hid (okSet_false (n := n) hlt (.inr (.inl e2)))
          have t2 : decide ((n : Int) ≤ nth xs k) = true := decide_eq_true e2
          clear e1 e2
          go_wp2
          go_quiet (fail)
          go_wp2
          go_ret
          exact ⟨ret_bool HF.out.symm, _, World.drewN_drewN _ _ _⟩
        · have t2 : decide ((n : Int) ≤ nth xs k) = false := decide_eq_false e2
          have HR := Lib.hid (show 0 ≤ nth xs k ∧ nth xs k < n by omega)
          have hkc : k ≤ cap := by omega
          have hkc' : (k : Int) ≤ (cap : Int) := by omega
          have hc0 : 0 < cap := by omega
          have hc1 : ¬ cap = 0 := by omega
          clear e1 e2
          cases e3 : hasTo xs k (nth xs k)
          · have HN := Lib.hid (show ∀ j, j < k → nth xs j ≠ nth xs k from fun j hj e => of_decide_eq_false e3 ⟨j, hj, e⟩)
            rw [e3] at HC
            clear e3
            go_wp2
            go_quiet ((go_at_call 62; exact quietM (HC.out _)))
            go_wp2
            go_roundw
            case rel =>
              refine ⟨k + 1, by omega, by go_num, fun t ht => ?_, _, rfl⟩
              by_cases e : t = k
              · subst e; exact ⟨HR.out, HN.out⟩
              · exact HA.out t (by omega)
            case measure => simp [intOf]; omega
          · have HF := Lib.hid (okSet_false (n := n) hlt (.inr (.inr e3)))
            rw [e3] at HC
            clear e3
            go_wp2
            go_quiet ((go_at_call 62; exact quietM (HC.out _)))
            go_wp2
            go_ret
            exact ⟨ret_bool HF.out.symm, by first | exact ⟨_, rfl⟩ | exact ⟨_, World.drewN_drewN _ _ _⟩⟩
    · have HF := Lib.hid (show okSet xs n = true from decide_eq_true (fun i hi => HA.out i (by omega)))
      go_wp2
      go_ret
      exact ⟨ret_bool HF.out.symm, m, rfl⟩

end Go.Proofs.Ytghffnjnpgiicaa

/- The reference's Descendant. -/
namespace Go.Proofs.Ytghffnjnpgiicaa
open Go.RowKit

/-- Some of the first j numbers is from, or marked. -/
def hit (xs : List Int) (fr : Nat) (f : Nat → Bool) (j : Nat) : Bool := decide (∃ t, t < j ∧ (nth xs t = (fr : Int) ∨ f (nth xs t).toNat = true))
theorem hit_succ {xs : List Int} {fr : Nat} {f : Nat → Bool} {j q : Nat} (h : nth xs j = q) : hit xs fr f (j + 1) = (hit xs fr f j || (decide (q = fr) || f q)) := by
  unfold hit
  rw [Bool.eq_iff_iff]
  simp only [decide_eq_true_eq, Bool.or_eq_true]
  constructor
  · rintro ⟨t, ht, e⟩
    by_cases htj : t = j
    · subst htj
      rw [h] at e
      rcases e with e | e
      · exact .inr (.inl (by omega))
      · exact .inr (.inr (by simpa using e))
    · exact .inl ⟨t, by omega, e⟩
  · rintro (⟨t, ht, e⟩ | e | e)
    · exact ⟨t, by omega, e⟩
    · exact ⟨j, by omega, .inl (by rw [h, e])⟩
    · exact ⟨j, by omega, .inr (by rw [h]; simpa using e)⟩
theorem hit_zero (xs : List Int) (fr : Nat) (f : Nat → Bool) : hit xs fr f 0 = false := decide_eq_false (fun ⟨t, h, _⟩ => absurd h (by omega))

/-- What has been seen when k variables behind fr have been passed. -/
def dTo (P : List (List Int)) (fr : Nat) : Nat → Nat → Bool
  | 0 => fun _ => false
  | k + 1 => fun v => if v = fr + 1 + k then hit (row P v) fr (dTo P fr k) (row P v).length else dTo P fr k v
def desc (P : List (List Int)) (fr to : Nat) : Bool := dTo P fr (P.length - (fr + 1)) to

theorem dTo_new {P : List (List Int)} {fr k v : Nat} (h : fr + 1 + k ≤ v) : dTo P fr k v = false := by
  induction k with
  | zero => rfl
  | succ k ih => simp only [dTo]; rw [if_neg (by omega)]; exact ih (by omega)
theorem dTo_old {P : List (List Int)} {fr v : Nat} (h : v ≤ fr) (k : Nat) : dTo P fr k v = false := by
  induction k with
  | zero => rfl
  | succ k ih => simp only [dTo]; rw [if_neg (by omega)]; exact ih

theorem Try.info4 : (Try.prog.info? 4).map (fun i => (i.zero, i.size, i.bytes)) = some (some (.bool false), 1, 1) := by kernel_rfl

set_option maxHeartbeats 2000000 in
set_option maxRecDepth 100000 in
theorem descendant_any (P T : List (List Int)) (v : Value) (fr to : Nat) (w : World) (h : NetAt w v P T) (hn : IsNet P T) (hf : fr < P.length) (ht : to < P.length) :
    Calls Try.prog 44 #[v, .int .i64 fr, .int .i64 to] w fun e w' => e = .returned (.bool (desc P fr to)) ∧ Below w.heap.size w w' := by
  obtain ⟨pa, b, o, pc, A, B, O, C, ta, b', o', tc, A', B', O', C', rfl, hP, hT⟩ := h.ex
  have h10 := hn.le
  have HN := Lib.hid hn
  obtain ⟨rfl, -⟩ := hP.ptr (by omega)
  have HP := Lib.hid hP
  clear h hP hT hn
  have hmk := run_make_row' (P := Try.prog) 110 4 (.bool false) 1 Try.underlying110 Try.info4 rfl .i64 .i64 P.length (by omega) (by omega)
  go_enter Try.func44, Try.ntmps44
  go_wp2
  clear hmk
  go_loopw [8, 9, 10] (fun i _ _ wr => ∃ k : Nat, fr + 1 + k ≤ P.length ∧ i = .int .i64 ((fr : Int) + 1 + k) ∧ Below (w.heap.size + 1) (w.alloc (.cells #[.slice (some ⟨b, o, none⟩) P.length pc, .slice ta T.length tc] 24)) wr ∧
      wr.rowIs (w.heap.size + 1) 4 P.length (fun v => .bool (dTo P fr k v))) (fun i _ _ _ => P.length - (intOf i).toNat)
  case atStart =>
    refine ⟨0, by omega, by simp, (Below.refl _ _).alloc (by simp) _, ?_⟩
    have := World.rowIs_made (w.alloc (.cells #[.slice (some ⟨b, o, none⟩) P.length pc, .slice ta T.length tc] 24)) (.bool false) P.length 4
    rw [World.size_alloc] at this
    exact this
  case round =>
    obtain ⟨k, hk, rfl, hb, hr⟩ := hrel
    have HB := Lib.hid hb
    have HR := Lib.hid hr
    obtain ⟨x0, x1⟩ := box2 hb
    obtain ⟨f, hfe⟩ : ∃ f, dTo P fr k = f := ⟨_, rfl⟩
    have HF := Lib.hid hfe
    obtain ⟨s, hs⟩ : ∃ s : Nat, fr + 1 + k = s := ⟨_, rfl⟩
    have HS := Lib.hid hs
    have hsi : ((fr : Int) + 1 + k) = (s : Int) := by omega
    rw [hsi]
    rw [hs] at hk
    have hfs : fr < s := by omega
    clear hb hr hfe hs hsi
    by_cases hlt : s < P.length
    · have hP' := (HP.out.alloc (.cells #[.slice (some ⟨b, o, none⟩) P.length pc, .slice ta T.length tc] 24)).below HB.out (by simp)
      have hck := hP'.cell s hlt
      have HrP := Lib.hid (hP'.rows s hlt)
      have hl3 := (HN.out.par s hlt).1
      have HOK := Lib.hid (HN.out.par s hlt)
      have hfs0 := Lib.hid (show f s = false by rw [← HF.out]; exact dTo_new (by have := HS.out; omega))
      have HR0 := Lib.hid (show wr.rowIs (w.heap.size + 1) 4 P.length (fun v => if v = s then .bool (hit (row P s) fr f 0) else .bool (f v)) from HR.out.congr (fun j hj => by
        by_cases e : j = s
        · rw [if_pos e, hit_zero, HF.out, e, hfs0.out]
        · rw [if_neg e, HF.out]))
      clear hP' HR
      go_wp2
      go_loopw [9, 10] (fun i _ wi => ∃ j : Nat, j ≤ (row P s).length ∧ i = .int .i64 j ∧ Below (w.heap.size + 1) (w.alloc (.cells #[.slice (some ⟨b, o, none⟩) P.length pc, .slice ta T.length tc] 24)) wi ∧
          wi.rowIs (w.heap.size + 1) 4 P.length (fun v => if v = s then .bool (hit (row P s) fr f j) else .bool (f v))) (fun i _ _ => (row P s).length - (intOf i).toNat)
      case atStart => exact ⟨0, by omega, rfl, HB.out, HR0.out⟩
      case round =>
        clear HR0 HB hck HrP x0 x1
        obtain ⟨j, hj, rfl, hb, hr⟩ := hrel
        have HB := Lib.hid hb
        have HR := Lib.hid hr
        obtain ⟨x0, x1⟩ := box2 hb
        have hP' := (HP.out.alloc (.cells #[.slice (some ⟨b, o, none⟩) P.length pc, .slice ta T.length tc] 24)).below hb (by simp)
        have hck := hP'.cell s hlt
        have HrP := Lib.hid (hP'.rows s hlt)
        clear hb hr hP'
        by_cases hjl : j < (row P s).length
        · obtain ⟨hAk, -⟩ := HrP.out.ptr (by omega)
          rw [hAk] at hck
          have hcj := HrP.out.cell j hjl
          have hpj := HOK.out.2.1 j hjl
          obtain ⟨q, hq⟩ : ∃ q : Nat, nth (row P s) j = (q : Int) := ⟨(nth (row P s) j).toNat, by omega⟩
          have hqs : q < s := by omega
          have HH := Lib.hid (hit_succ (fr := fr) (f := f) hq)
          rw [hq] at hcj
          have c1 := HR.out.cell hlt
          rw [if_pos rfl] at c1
          have c2 := HR.out.cell (i := q) (by omega)
          rw [if_neg (by omega)] at c2
          have f1 := HR.out.frozen s
          have hqP : q < P.length := by omega
          obtain ⟨hv, hhv⟩ : ∃ hv, hit (row P s) fr f j = hv := ⟨_, rfl⟩
          obtain ⟨fq, hfq⟩ : ∃ fq, f q = fq := ⟨_, rfl⟩
          rw [hhv] at c1
          rw [hfq] at c2
          have HE := Lib.hid (show hit (row P s) fr f (j + 1) = (hv || (decide (q = fr) || fq)) by rw [HH.out, hhv, hfq])
          clear hAk hq hpj hhv hfq
          have hfin : ∀ x : Bool, x = (hv || (decide (q = fr) || fq)) → (∃ j' : Nat, j' ≤ (row P s).length ∧ Value.int .i64 (((j : Nat) : Int) + 1) = .int .i64 (j' : Int) ∧ Below (w.heap.size + 1) (w.alloc (.cells #[.slice (some ⟨b, o, none⟩) P.length pc, .slice ta T.length tc] 24)) (wr.setCell ⟨w.heap.size + 1, s, none⟩ (.bool x)) ∧
              (wr.setCell ⟨w.heap.size + 1, s, none⟩ (.bool x)).rowIs (w.heap.size + 1) 4 P.length (fun v => if v = s then .bool (hit (row P s) fr f j') else .bool (f v))) := fun x hx =>
            ⟨j + 1, by omega, by go_num, HB.out.setCell (Nat.le_refl _) _, (HR.out.set s _).congr (fun i hi => by
              by_cases e : i = s
              · rw [if_pos e, if_pos e, hx, HE.out]
              · rw [if_neg e, if_neg e, if_neg e])⟩
          have HFIN := Lib.hid hfin
          clear hfin
          cases hv
          · by_cases e2 : q = fr
            · have t2 : ((q : Int) == (fr : Int)) = true := by rw [beq_iff_eq]; omega
              have HD := Lib.hid (decide_eq_true e2)
              clear e2
              go_wp2
              go_roundw
              case rel => exact HFIN.out _ (by rw [HD.out]; rfl)
              case measure => simp [intOf]; omega
            · have t2 : ((q : Int) == (fr : Int)) = false := by rw [beq_eq_false_iff_ne]; omega
              have HD := Lib.hid (decide_eq_false e2)
              clear e2
              cases fq
              · go_wp2
                go_roundw
                case rel => exact HFIN.out _ (by rw [HD.out]; rfl)
                case measure => simp [intOf]; omega
              · go_wp2
                go_roundw
                case rel => exact HFIN.out _ (by rw [HD.out]; rfl)
                case measure => simp [intOf]; omega
          · go_wp2
            go_roundw
            case rel => exact HFIN.out _ (by simp)
            case measure => simp [intOf]; omega
        · have hje : j = (row P s).length := by omega
          have HJ := Lib.hid hje
          clear hje
          go_wp2
          go_roundw
          case rel =>
            refine ⟨k + 1, by have := HS.out; omega, congrArg _ (by have := HS.out; omega), HB.out, HR.out.congr (fun i hi => ?_)⟩
            simp only [dTo, HS.out, HF.out]
            by_cases e : i = s
            · rw [if_pos e, if_pos e, e, HJ.out]
            · rw [if_neg e, if_neg e]
          case measure => simp [intOf]; omega
    · have hks : k = P.length - (fr + 1) := by have := HS.out; omega
      have hc := HR.out.cell ht
      have HD := Lib.hid (show desc P fr to = dTo P fr k to by rw [desc, ← hks])
      clear hks
      go_wp2
      go_ret
      exact ⟨ret_bool HD.out.symm, ((Below.refl _ _).alloc (Nat.le_refl _) _).trans (HB.out.mono (by omega))⟩

end Go.Proofs.Ytghffnjnpgiicaa

/- The reference's opened. -/
namespace Go.Proofs.Ytghffnjnpgiicaa
open Go.RowKit

theorem below_drew' {B : Nat} {w0 w : World} (h : Below B w0 w) : Below B w0 w.drew := h.trans ⟨rfl, rfl, rfl, Nat.le_refl _, fun _ _ => rfl⟩

/-- The variable or one of its descendants is in the list. -/
def opnd (P : List (List Int)) (v : Nat) (xs : List Int) : Bool := decide (∃ i, i < xs.length ∧ (nth xs i = (v : Int) ∨ desc P v (nth xs i).toNat = true))

set_option maxHeartbeats 2000000 in
set_option maxRecDepth 100000 in
theorem opened_any (P T : List (List Int)) (v : Value) (u : Nat) (xs : List Int) (ao : Option Addr) (xb xo xc : Nat) (w : World) (h : NetAt w v P T) (hn : IsNet P T) (hu : u < P.length) (hX : IntsAt w ao xb xo xs) (hok : okSet xs P.length = true) :
    Calls Try.prog 63 #[v, .int .i64 u, .slice ao xs.length xc] w fun e w' => e = .returned (.bool (opnd P u xs)) ∧ Below w.heap.size w w' := by
  have HNet := Lib.hid h
  have HX := Lib.hid hX
  have HN := Lib.hid hn
  have HOK := Lib.hid (of_decide_eq_true hok)
  have hl := hX.len
  obtain ⟨pa, b, o, pc, A, B, O, C, ta, b', o', tc, A', B', O', C', rfl, hP, hT⟩ := h.ex
  have h10 := hn.le
  clear h hP hT hn hX hok
  go_enter Try.func63, Try.ntmps63
  go_wp2
  go_loopw [7] (fun i wr => ∃ k : Nat, k ≤ xs.length ∧ i = .int .i64 k ∧ (∀ i, i < k → nth xs i ≠ (u : Int) ∧ desc P u (nth xs i).toNat = false) ∧ Below (w.heap.size + 1) (w.alloc (.cells #[.slice pa P.length pc, .slice ta T.length tc] 24)) wr) (fun i _ => xs.length - (intOf i).toNat)
  case atStart => exact ⟨0, by omega, rfl, fun j hj => absurd hj (by omega), Below.refl _ _⟩
  case round =>
    obtain ⟨k, hk, rfl, ha, hb⟩ := hrel
    have HA := Lib.hid ha
    have HB := Lib.hid hb
    have s0 := hb.size
    simp only [World.size_alloc] at s0
    clear ha hb
    by_cases hlt : k < xs.length
    · have hX' := (HX.out.alloc (.cells #[.slice pa P.length pc, .slice ta T.length tc] 24)).below HB.out (by simp)
      obtain ⟨rfl, hxb⟩ := hX'.ptr (by omega)
      have hc := hX'.cell k hlt
      have hr := (HOK.out k hlt).1
      obtain ⟨q, hq⟩ : ∃ q : Nat, nth xs k = (q : Int) := ⟨(nth xs k).toNat, by omega⟩
      rw [hq] at hc
      have hqP : q < P.length := by omega
      have HQ := Lib.hid hq
      have HC0 := Lib.hid hc
      clear hX' hr hq
      by_cases e1 : q = u
      · have t1 : ((q : Int) == (u : Int)) = true := by rw [beq_iff_eq]; omega
        have HF := Lib.hid (show opnd P u xs = true from decide_eq_true ⟨k, hlt, .inl (by rw [HQ.out, e1])⟩)
        clear e1
        go_wp2
        go_quiet (fail)
        go_wp2
        go_ret
        exact ⟨ret_bool HF.out.symm, below_drewN (((Below.refl _ _).alloc (Nat.le_refl _) _).trans (HB.out.mono (by omega))) _⟩
      · have t1 : ((q : Int) == (u : Int)) = false := by rw [beq_eq_false_iff_ne]; omega
        have HE := Lib.hid e1
        have HT2 := Lib.hid (show ∀ w', Below wr.heap.size wr w' → w'.cell? ⟨w.heap.size, 0, none⟩ = some (.slice pa P.length pc) ∧ w'.cell? ⟨w.heap.size, 1, none⟩ = some (.slice ta T.length tc) ∧ w'.cell? ⟨xb, xo + k, none⟩ = some (.int .i64 (q : Int)) from
          fun w' h => by
            obtain ⟨x0, x1⟩ := box2 (HB.out.trans (h.mono s0))
            exact ⟨x0, x1, (h.cell (p := ⟨xb, xo + k, none⟩) hxb).trans HC0.out⟩)
        have HD := Lib.hid (below_drew' (Below.refl wr.heap.size wr))
        have HCL := Lib.hid (show ∀ W, Below wr.heap.size wr W → Calls Try.prog 44 #[.agg #[.slice pa P.length pc, .slice ta T.length tc], .int .i64 u, .int .i64 q] W fun e w' => e = .returned (.bool (desc P u q)) ∧ Below wr.heap.size wr w' from
          fun W hW => (descendant_any P T _ u q W ((HNet.out.alloc _).below (HB.out.trans (hW.mono s0)) (by simp)) HN.out hu hqP).mono fun e w' h => ⟨h.1, hW.trans (h.2.mono hW.size)⟩)
        clear e1 hc
        cases e2 : desc P u q
        · rw [e2] at HCL
          have HE2 := Lib.hid e2
          clear e2
          go_wp2
          go_region_held3 (fun w' => w'.cell? ⟨w.heap.size, 0, none⟩ = some (.slice pa P.length pc) ∧ w'.cell? ⟨w.heap.size, 1, none⟩ = some (.slice ta T.length tc) ∧ w'.cell? ⟨xb, xo + k, none⟩ = some (.int .i64 (q : Int)))
            (first | exact HT2.out _ HB1.out | exact HT2.out _ HD.out)
            ((go_simp; go_at_call 44; with_reducible refine (HCL.out _ HD.out).mono ?_; rintro e w1 ⟨rfl, hb1⟩; have HB1 := Lib.hid hb1; clear hb1))
          all_goals go_wp2
          all_goals go_roundw
          case rel => exact ⟨k + 1, by omega, by go_num, fun i hi => by
            by_cases e : i = k
            · subst e; rw [HQ.out]; exact ⟨by have := HE.out; omega, by simpa using HE2.out⟩
            · exact HA.out i (by omega), HB.out.trans (HB1.out.mono (by omega))⟩
          case measure => simp [intOf]; omega
        · rw [e2] at HCL
          have HF := Lib.hid (show opnd P u xs = true from decide_eq_true ⟨k, hlt, .inr (by rw [HQ.out]; simpa using e2)⟩)
          clear e2
          go_wp2
          go_region_held3 (fun w' => w'.cell? ⟨w.heap.size, 0, none⟩ = some (.slice pa P.length pc) ∧ w'.cell? ⟨w.heap.size, 1, none⟩ = some (.slice ta T.length tc) ∧ w'.cell? ⟨xb, xo + k, none⟩ = some (.int .i64 (q : Int)))
            (first | exact HT2.out _ HB1.out | exact HT2.out _ HD.out)
            ((go_simp; go_at_call 44; with_reducible refine (HCL.out _ HD.out).mono ?_; rintro e w1 ⟨rfl, hb1⟩; have HB1 := Lib.hid hb1; clear hb1))
          all_goals go_wp2
          all_goals go_ret
          all_goals exact ⟨ret_bool HF.out.symm, ((Below.refl _ _).alloc (Nat.le_refl _) _).trans ((HB.out.mono (by omega)).trans (HB1.out.mono (by omega)))⟩
    · have HF := Lib.hid (show opnd P u xs = false from decide_eq_false (fun ⟨i, hi, q⟩ => by
        have := HA.out i (by omega)
        rcases q with q | q
        · exact this.1 q
        · rw [this.2] at q; cases q))
      go_wp2
      go_ret
      exact ⟨ret_bool HF.out.symm, ((Below.refl _ _).alloc (Nat.le_refl _) _).trans (HB.out.mono (by omega))⟩

end Go.Proofs.Ytghffnjnpgiicaa

/- The reference's Trail. -/
namespace Go.Proofs.Ytghffnjnpgiicaa
open Go.RowKit

/-- The place in the list, as a variable. -/
def at' (xs : List Int) (i : Nat) : Nat := (nth xs i).toNat
/-- Two variables side by side. -/
def edge (P : List (List Int)) (a b : Nat) : Bool := hasI (row P a) (b : Int) || hasI (row P b) (a : Int)
/-- The list is a trail. -/
def okTrail (P : List (List Int)) (xs : List Int) : Bool := okSet xs P.length && decide (∀ i, i < xs.length - 1 → edge P (at' xs i) (at' xs (i + 1)) = true)

theorem RowsAt.drewN {w : World} {ao : Option Addr} {b o : Nat} {xs : List (List Int)} {A : Nat → Option Addr} {B O C : Nat → Nat} (h : RowsAt w ao b o xs A B O C) (n : Nat) : RowsAt (w.drewN n) ao b o xs A B O C :=
  h.below (below_drewN (Below.refl _ _) n) (Nat.le_refl _)

theorem okSet_at {xs : List Int} {n i : Nat} (h : okSet xs n = true) (hi : i < xs.length) : nth xs i = ((at' xs i : Nat) : Int) ∧ at' xs i < n := by
  have := (of_decide_eq_true h i hi).1
  unfold at'
  omega

set_option maxHeartbeats 2000000 in
set_option maxRecDepth 100000 in
theorem trail_any (P T : List (List Int)) (v : Value) (xs : List Int) (ao : Option Addr) (xb xo xc : Nat) (w : World) (h : NetAt w v P T) (hX : IntsAt w ao xb xo xs) (hcap : xs.length ≤ xc) :
    Calls Try.prog 30 #[v, .slice ao xs.length xc] w fun e w' => e = .returned (.bool (okTrail P xs)) ∧ Below w.heap.size w w' := by
  have HNet := Lib.hid h
  have hl := hX.len
  obtain ⟨pa, b, o, pc, A, B, O, C, ta, b', o', tc, A', B', O', C', rfl, hP, hT⟩ := h.ex
  obtain ⟨W0, hW0⟩ : ∃ W0, w.alloc (.cells #[.slice pa P.length pc, .slice ta T.length tc] 24) = W0 := ⟨_, rfl⟩
  have HW0 := Lib.hid hW0
  have hB0 : Below w.heap.size w W0 := by rw [← hW0]; exact (Below.refl _ _).alloc (Nat.le_refl _) _
  have HB0 := Lib.hid hB0
  have HX := Lib.hid (hX.below hB0 (Nat.le_refl _))
  have HP := Lib.hid (hP.below hB0 (Nat.le_refl _))
  have hb0 := heap_alloc_new w (.cells #[.slice pa P.length pc, .slice ta T.length tc] 24)
  rw [hW0] at hb0
  obtain ⟨c0, c1, -, -⟩ := cells_of2 hb0
  have hlP := hP.len
  clear h hP hT hX hW0 hB0 hb0
  have hd := different_any xs P.length ao xb xo xc W0 HX.out hcap
  go_enter Try.func30, Try.ntmps30
  go_wp2_with fail
  rw [HW0.out]
  cases e1 : okSet xs P.length
  · rw [e1] at hd
    have HF := Lib.hid (show okTrail P xs = false by unfold okTrail; rw [e1]; rfl)
    have HD := Lib.hid hd
    clear hd e1
    go_wp2_with fail
    refine HD.out.mono ?_
    rintro e w1 ⟨rfl, m, rfl⟩
    go_wp2
    go_ret
    exact ⟨ret_bool HF.out.symm, below_drewN HB0.out _⟩
  · rw [e1] at hd
    have HOK := Lib.hid e1
    have HD := Lib.hid hd
    clear hd e1
    go_wp2_with fail
    refine HD.out.mono ?_
    rintro e w1 ⟨rfl, m0, rfl⟩
    go_wp2
    go_loopw [5] (fun i wr => ∃ k : Nat, k ≤ xs.length ∧ i = .int .i64 k ∧ (∀ i, i < k → edge P (at' xs i) (at' xs (i + 1)) = true) ∧ ∃ m, wr = W0.drewN m) (fun i _ => xs.length - (intOf i).toNat)
    case atStart => exact ⟨0, by omega, rfl, fun j hj => absurd hj (by omega), m0, rfl⟩
    case round =>
      obtain ⟨k, hk, rfl, ha, m, rfl⟩ := hrel
      have HA := Lib.hid ha
      clear ha
      by_cases hlt : k + 1 < xs.length
      · obtain ⟨rfl, -⟩ := HX.out.ptr (by omega)
        have d0 := HX.out.cell k (by omega)
        have d1 := HX.out.cell (k + 1) hlt
        obtain ⟨ea, ha⟩ := okSet_at HOK.out (show k < xs.length by omega)
        obtain ⟨eb, hb⟩ := okSet_at HOK.out hlt
        obtain ⟨qa, hqa⟩ : ∃ qa, at' xs k = qa := ⟨_, rfl⟩
        obtain ⟨qb, hqb⟩ : ∃ qb, at' xs (k + 1) = qb := ⟨_, rfl⟩
        rw [hqa] at ea ha
        rw [hqb] at eb hb
        rw [ea] at d0
        rw [eb] at d1
        obtain ⟨rfl, -⟩ := HP.out.ptr (by omega)
        have r0 := HP.out.cell qa ha
        have r1 := HP.out.cell qb hb
        have HC1 := Lib.hid (fun q => has_any (row P qa) (qb : Int) (A qa) (B qa) (O qa) (C qa) (W0.drewN (m + q)) ((HP.out.rows qa ha).drewN _))
        have HC2 := Lib.hid (fun q => has_any (row P qb) (qa : Int) (A qb) (B qb) (O qb) (C qb) (W0.drewN (m + q)) ((HP.out.rows qb hb).drewN _))
        have HE := Lib.hid (show edge P (at' xs k) (at' xs (k + 1)) = (hasI (row P qa) (qb : Int) || hasI (row P qb) (qa : Int)) by rw [hqa, hqb]; rfl)
        have hk1 : ((k : Int) + 1) < (xs.length : Int) := by omega
        have hk2 : ((k : Int) + 1).toNat = k + 1 := by omega
        have HK2 := Lib.hid hk2
        clear hk2 ea eb hqa hqb
        cases e1 : hasI (row P qa) (qb : Int)
        · cases e2 : hasI (row P qb) (qa : Int)
          · rw [e1] at HC1
            rw [e2] at HC2
            have HF := Lib.hid (show okTrail P xs = false by
              unfold okTrail
              rw [HOK.out, Bool.true_and]
              exact decide_eq_false (fun q => by have := q k (by omega); rw [HE.out, e1, e2] at this; cases this))
            clear e1 e2
            go_wp2
            go_quiet ((first | (go_at_call 62; with_reducible exact quietM (HC1.out _)) | (go_at_call 62; with_reducible exact quietM (HC2.out _))))
            go_wp2
            go_ret
            exact ⟨ret_bool HF.out.symm, by first | exact below_drewN HB0.out _ | exact below_drewN (below_drewN HB0.out _) _⟩
          · have HT := Lib.hid (show edge P (at' xs k) (at' xs (k + 1)) = true by rw [HE.out, e1, e2]; rfl)
            rw [e1] at HC1
            rw [e2] at HC2
            clear e1 e2
            go_wp2
            go_quiet ((first | (go_at_call 62; with_reducible exact quietM (HC1.out _)) | (go_at_call 62; with_reducible exact quietM (HC2.out _))))
            go_wp2
            go_roundw
            case rel => exact ⟨k + 1, by omega, by go_num, fun i hi => by
              by_cases e : i = k
              · subst e; exact HT.out
              · exact HA.out i (by omega), by first | exact ⟨_, rfl⟩ | exact ⟨_, World.drewN_drewN _ _ _⟩⟩
            case measure => simp [intOf]; omega
        · have HT := Lib.hid (show edge P (at' xs k) (at' xs (k + 1)) = true by rw [HE.out, e1]; rfl)
          rw [e1] at HC1
          clear e1 HC2
          go_wp2
          go_quiet ((go_at_call 62; with_reducible exact quietM (HC1.out _)))
          go_wp2
          go_roundw
          case rel => exact ⟨k + 1, by omega, by go_num, fun i hi => by
            by_cases e : i = k
            · subst e; exact HT.out
            · exact HA.out i (by omega), by first | exact ⟨_, rfl⟩ | exact ⟨_, World.drewN_drewN _ _ _⟩⟩
          case measure => simp [intOf]; omega
      · have HT := Lib.hid (show okTrail P xs = true by
          unfold okTrail
          rw [HOK.out, Bool.true_and]
          exact decide_eq_true (fun i hi => HA.out i (by omega)))
        go_wp2
        go_ret
        exact ⟨ret_bool HT.out.symm, below_drewN HB0.out _⟩

end Go.Proofs.Ytghffnjnpgiicaa

/- The reference's Active. -/
namespace Go.Proofs.Ytghffnjnpgiicaa
open Go.RowKit

/-- The trail passes v between b and a. -/
def passR (P : List (List Int)) (set : List Int) (b v a : Nat) : Bool := if (hasI (row P v) (b : Int) && hasI (row P v) (a : Int)) = true then opnd P v set else !hasI set (v : Int)
/-- The trail is active. -/
def actv (P : List (List Int)) (xs set : List Int) : Bool := decide (∀ i, i < xs.length - 2 → passR P set (at' xs i) (at' xs (i + 1)) (at' xs (i + 2)) = true)

theorem actv_no {P : List (List Int)} {xs set : List Int} {k a v b : Nat} (hk : k + 2 < xs.length) (ha : at' xs k = a) (hv : at' xs (k + 1) = v) (hb : at' xs (k + 2) = b) (h : passR P set a v b = false) : actv P xs set = false :=
  decide_eq_false fun q => by have := q k (by omega); rw [ha, hv, hb, h] at this; cases this

set_option maxHeartbeats 4000000 in
set_option maxRecDepth 100000 in
theorem refActive_any (P T : List (List Int)) (v : Value) (xs set : List Int) (ao : Option Addr) (xb xo xc : Nat) (so : Option Addr) (sb sf sc : Nat) (w : World) (h : NetAt w v P T) (hn : IsNet P T) (hX : IntsAt w ao xb xo xs) (hS : IntsAt w so sb sf set)
    (hok : okSet xs P.length = true) (hok2 : okSet set P.length = true) :
    Calls Try.prog 31 #[v, .slice ao xs.length xc, .slice so set.length sc] w fun e w' => e = .returned (.bool (actv P xs set)) ∧ Below w.heap.size w w' := by
  have HNet := Lib.hid h
  have HN := Lib.hid hn
  have HOK := Lib.hid hok
  have HOK2 := Lib.hid hok2
  have hl := hX.len
  obtain ⟨pa, b, o, pc, A, B, O, C, ta, b', o', tc, A', B', O', C', rfl, hP, hT⟩ := h.ex
  obtain ⟨W0, hW0⟩ : ∃ W0, w.alloc (.cells #[.slice pa P.length pc, .slice ta T.length tc] 24) = W0 := ⟨_, rfl⟩
  have HW0 := Lib.hid hW0
  have hB0 : Below w.heap.size w W0 := by rw [← hW0]; exact (Below.refl _ _).alloc (Nat.le_refl _) _
  have HB0 := Lib.hid hB0
  have hs0 : W0.heap.size = w.heap.size + 1 := by rw [← hW0]; simp
  have HS0 := Lib.hid hs0
  have HX := Lib.hid (hX.below hB0 (Nat.le_refl _))
  have HS := Lib.hid (hS.below hB0 (Nat.le_refl _))
  have HP := Lib.hid (hP.below hB0 (Nat.le_refl _))
  have hb0 := heap_alloc_new w (.cells #[.slice pa P.length pc, .slice ta T.length tc] 24)
  rw [hW0] at hb0
  have HBX := Lib.hid hb0
  have hlP := hP.len
  have hlS := hS.len
  have h10 := hn.le
  have hpos := hn.pos
  obtain ⟨rfl, -⟩ := hP.ptr (by omega)
  clear h hP hT hX hS hW0 hB0 hb0 hn hok hok2 hs0
  go_enter Try.func31, Try.ntmps31
  go_wp2
  rw [HW0.out]
  go_loopw [7, 8] (fun i _ wr => ∃ k : Nat, k ≤ xs.length ∧ i = .int .i64 ((k : Int) + 1) ∧ (∀ i, i < k → i < xs.length - 2 → passR P set (at' xs i) (at' xs (i + 1)) (at' xs (i + 2)) = true) ∧ Below W0.heap.size W0 wr) (fun i _ _ => xs.length + 1 - (intOf i).toNat)
  case atStart => exact ⟨0, by omega, rfl, fun j hj => absurd hj (by omega), Below.refl _ _⟩
  case round =>
    obtain ⟨k, hk, rfl, ha, hb⟩ := hrel
    have HA := Lib.hid ha
    have HB := Lib.hid hb
    clear ha hb
    by_cases hlt : k + 2 < xs.length
    · have hlt' : ((k : Int) + 1 + 1) < (xs.length : Int) := by omega
      have hX' := HX.out.below HB.out (Nat.le_refl _)
      have hS' := HS.out.below HB.out (Nat.le_refl _)
      have hP' := HP.out.below HB.out (Nat.le_refl _)
      obtain ⟨rfl, hxb⟩ := hX'.ptr (by omega)
      obtain ⟨ea, ha⟩ := okSet_at HOK.out (show k < xs.length by omega)
      obtain ⟨ev, hv⟩ := okSet_at HOK.out (show k + 1 < xs.length by omega)
      obtain ⟨eb, hb⟩ := okSet_at HOK.out hlt
      have d1 := hX'.cell (k + 1) (by omega)
      obtain ⟨qa, hqa⟩ : ∃ qa, at' xs k = qa := ⟨_, rfl⟩
      obtain ⟨qv, hqv⟩ : ∃ qv, at' xs (k + 1) = qv := ⟨_, rfl⟩
      obtain ⟨qb, hqb⟩ : ∃ qb, at' xs (k + 2) = qb := ⟨_, rfl⟩
      have HQA := Lib.hid hqa
      have HQV := Lib.hid hqv
      have HQB := Lib.hid hqb
      rw [hqa] at ea ha
      rw [hqv] at ev hv
      rw [hqb] at eb hb
      have HEA := Lib.hid ea
      have HEB := Lib.hid eb
      rw [ev] at d1
      have r0 := hP'.cell qv hv
      obtain ⟨x0, x1, -, -⟩ := cells_of2 ((HB.out.block _ (lt_of_block HBX.out)).trans HBX.out)
      have hk2 : ((k : Int) + 1).toNat = k + 1 := by omega
      have hk3 : ((k : Int) + 1 - 1).toNat = k := by omega
      have hk4 : ((k : Int) + 1 + 1).toNat = k + 2 := by omega
      clear hX' hS' hP' ea ev eb hqa hqv hqb
      go_wp2
      go_quiet (fail)
      obtain ⟨wz, hwz⟩ : ∃ wz, wr.drewN nq = wz := ⟨_, rfl⟩
      have HBZ : Hid (Below W0.heap.size W0 wz) := by rw [← hwz]; exact below_drewN HB.out _
      rw [hwz]
      clear d1 r0 x0 x1 hwz HB
      have hX' := HX.out.below HBZ.out (Nat.le_refl _)
      have hS' := HS.out.below HBZ.out (Nat.le_refl _)
      have hP' := HP.out.below HBZ.out (Nat.le_refl _)
      have d0 := hX'.cell k (by omega)
      have d1 := hX'.cell (k + 1) (by omega)
      have d2 := hX'.cell (k + 2) hlt
      rw [HEA.out] at d0
      rw [show nth xs (k + 1) = (qv : Int) by rw [(okSet_at HOK.out (show k + 1 < xs.length by omega)).1, HQV.out]] at d1
      rw [HEB.out] at d2
      have HC1 := Lib.hid (has_any (row P qv) (qa : Int) (A qv) (B qv) (O qv) (C qv) wz (hP'.rows qv hv))
      have HC2 := Lib.hid (has_any (row P qv) (qb : Int) (A qv) (B qv) (O qv) (C qv) wz (hP'.rows qv hv))
      have HC3 := Lib.hid (has_any set (qv : Int) so sb sf sc wz hS')
      obtain ⟨-, hxz⟩ := hX'.ptr (by omega)
      have hsz := HBZ.out.size
      have hnz : w.heap.size + 1 ≤ W0.heap.size := Nat.le_of_eq HS0.out.symm
      have HT2 := Lib.hid (show ∀ w', Below wz.heap.size wz w' → w'.cell? ⟨w.heap.size, 0, none⟩ = some (.slice (some ⟨b, o, none⟩) P.length pc) ∧ w'.cell? ⟨w.heap.size, 1, none⟩ = some (.slice ta T.length tc) ∧ w'.cell? ⟨xb, xo + (k + 1), none⟩ = some (.int .i64 (qv : Int)) from
        fun w' h => by
          obtain ⟨x0, x1, -, -⟩ := cells_of2 (((HBZ.out.trans (h.mono hsz)).block _ (lt_of_block HBX.out)).trans HBX.out)
          exact ⟨x0, x1, (h.cell (p := ⟨xb, xo + (k + 1), none⟩) hxz).trans d1⟩)
      have HD := Lib.hid (below_drew' (Below.refl wz.heap.size wz))
      have HCL := Lib.hid (show ∀ W, Below wz.heap.size wz W → Calls Try.prog 63 #[.agg #[.slice (some ⟨b, o, none⟩) P.length pc, .slice ta T.length tc], .int .i64 qv, .slice so set.length sc] W fun e w' => e = .returned (.bool (opnd P qv set)) ∧ Below wz.heap.size wz w' from
        fun W hW => (opened_any P T _ qv set so sb sf sc W (HNet.out.below (HB0.out.trans ((HBZ.out.trans (hW.mono hsz)).mono (by omega))) (Nat.le_refl _)) HN.out hv (HS.out.below (HBZ.out.trans (hW.mono hsz)) (Nat.le_refl _)) HOK2.out).mono fun e w' h => ⟨h.1, hW.trans (h.2.mono hW.size)⟩)
      clear hX' hS' hP' hsz
      have hstep : passR P set qa qv qb = true → ∀ i, i < k + 1 → i < xs.length - 2 → passR P set (at' xs i) (at' xs (i + 1)) (at' xs (i + 2)) = true := fun h i hi h2 => by
        by_cases e : i = k
        · subst e; rw [HQA.out, HQV.out, HQB.out]; exact h
        · exact HA.out i (by omega) h2
      have HST := Lib.hid hstep
      have i0 : (0 : Int) ≤ (k : Int) + 1 := by omega
      have i1 : (k : Int) + 1 < (xs.length : Int) := by omega
      clear hstep
      cases e1 : hasI (row P qv) (qa : Int)
      · rw [e1] at HC1
        cases e3 : hasI set (qv : Int)
        · rw [e3] at HC3
          have HT := Lib.hid (HST.out (by unfold passR; rw [e1, e3]; rfl))
          clear e1 e3 HC2
          go_wp2_with fail
          refine HC1.out.mono ?_
          rintro e w' ⟨rfl, rfl⟩
          go_wp2_with fail
          refine HC3.out.mono ?_
          rintro e w' ⟨rfl, rfl⟩
          go_wp2
          go_roundw
          case rel => exact ⟨k + 1, by omega, by go_num, HT.out, HBZ.out⟩
          case measure => simp [intOf]; omega
        · rw [e3] at HC3
          have HF := Lib.hid (actv_no (P := P) (set := set) hlt HQA.out HQV.out HQB.out (by unfold passR; rw [e1, e3]; rfl))
          clear e1 e3 HC2
          go_wp2_with fail
          refine HC1.out.mono ?_
          rintro e w' ⟨rfl, rfl⟩
          go_wp2_with fail
          refine HC3.out.mono ?_
          rintro e w' ⟨rfl, rfl⟩
          go_wp2
          go_ret
          exact ⟨ret_bool HF.out.symm, HB0.out.trans (HBZ.out.mono (by omega))⟩
      · rw [e1] at HC1
        cases e2 : hasI (row P qv) (qb : Int)
        · rw [e2] at HC2
          cases e3 : hasI set (qv : Int)
          · rw [e3] at HC3
            have HT := Lib.hid (HST.out (by unfold passR; rw [e1, e2, e3]; rfl))
            clear e1 e2 e3
            go_wp2_with fail
            refine HC1.out.mono ?_
            rintro e w' ⟨rfl, rfl⟩
            go_wp2_with fail
            refine HC2.out.mono ?_
            rintro e w' ⟨rfl, rfl⟩
            go_wp2_with fail
            refine HC3.out.mono ?_
            rintro e w' ⟨rfl, rfl⟩
            go_wp2
            go_roundw
            case rel => exact ⟨k + 1, by omega, by go_num, HT.out, HBZ.out⟩
            case measure => simp [intOf]; omega
          · rw [e3] at HC3
            have HF := Lib.hid (actv_no (P := P) (set := set) hlt HQA.out HQV.out HQB.out (by unfold passR; rw [e1, e2, e3]; rfl))
            clear e1 e2 e3
            go_wp2_with fail
            refine HC1.out.mono ?_
            rintro e w' ⟨rfl, rfl⟩
            go_wp2_with fail
            refine HC2.out.mono ?_
            rintro e w' ⟨rfl, rfl⟩
            go_wp2_with fail
            refine HC3.out.mono ?_
            rintro e w' ⟨rfl, rfl⟩
            go_wp2
            go_ret
            exact ⟨ret_bool HF.out.symm, HB0.out.trans (HBZ.out.mono (by omega))⟩
        · rw [e2] at HC2
          cases e3 : opnd P qv set
          · rw [e3] at HCL
            have HF := Lib.hid (actv_no (P := P) (set := set) hlt HQA.out HQV.out HQB.out (by unfold passR; rw [e1, e2, e3]; rfl))
            clear e1 e2 e3 HC3
            go_wp2_with fail
            refine HC1.out.mono ?_
            rintro e w' ⟨rfl, rfl⟩
            go_wp2_with fail
            refine HC2.out.mono ?_
            rintro e w' ⟨rfl, rfl⟩
            clear d0 d1 d2
            go_wp2
            go_region_held3 (fun w' => w'.cell? ⟨w.heap.size, 0, none⟩ = some (.slice (some ⟨b, o, none⟩) P.length pc) ∧ w'.cell? ⟨w.heap.size, 1, none⟩ = some (.slice ta T.length tc) ∧ w'.cell? ⟨xb, xo + (k + 1), none⟩ = some (.int .i64 (qv : Int)))
              (first | exact HT2.out _ HB1.out | exact HT2.out _ HD.out)
              ((go_simp; go_at_call 63; with_reducible refine (HCL.out _ HD.out).mono ?_; rintro e w1 ⟨rfl, hb1⟩; have HB1 := Lib.hid hb1; clear hb1))
            all_goals go_wp2
            all_goals go_ret
            all_goals exact ⟨ret_bool HF.out.symm, HB0.out.trans ((HBZ.out.trans (HB1.out.mono HBZ.out.size)).mono (by omega))⟩
          · rw [e3] at HCL
            have HT := Lib.hid (HST.out (by unfold passR; rw [e1, e2, e3]; rfl))
            clear e1 e2 e3 HC3
            go_wp2_with fail
            refine HC1.out.mono ?_
            rintro e w' ⟨rfl, rfl⟩
            go_wp2_with fail
            refine HC2.out.mono ?_
            rintro e w' ⟨rfl, rfl⟩
            clear d0 d1 d2
            go_wp2
            go_region_held3 (fun w' => w'.cell? ⟨w.heap.size, 0, none⟩ = some (.slice (some ⟨b, o, none⟩) P.length pc) ∧ w'.cell? ⟨w.heap.size, 1, none⟩ = some (.slice ta T.length tc) ∧ w'.cell? ⟨xb, xo + (k + 1), none⟩ = some (.int .i64 (qv : Int)))
              (first | exact HT2.out _ HB1.out | exact HT2.out _ HD.out)
              ((go_simp; go_at_call 63; with_reducible refine (HCL.out _ HD.out).mono ?_; rintro e w1 ⟨rfl, hb1⟩; have HB1 := Lib.hid hb1; clear hb1))
            all_goals go_wp2
            all_goals go_roundw
            case rel => exact ⟨k + 1, by omega, by go_num, HT.out, HBZ.out.trans (HB1.out.mono HBZ.out.size)⟩
            case measure => simp [intOf]; omega
    · have HT := Lib.hid (show actv P xs set = true from decide_eq_true (fun i hi => HA.out i (by omega) hi))
      go_wp2
      go_ret
      exact ⟨ret_bool HT.out.symm, HB0.out.trans (HB.out.mono (by have := HS0.out; omega))⟩

end Go.Proofs.Ytghffnjnpgiicaa

/- The reference's Connected, as a plain function. -/
namespace Go.Proofs.Ytghffnjnpgiicaa
open Go.RowKit

/-- May the reference's trail go on to this variable? -/
def cond (P : List (List Int)) (set : List Int) (tr : List Nat) (k : Nat) : Bool := !decide (k ∈ tr) && okTrail P (ints (tr ++ [k])) && actv P (ints (tr ++ [k])) set

mutual
def conn (P : List (List Int)) (set : List Int) (y : Nat) : Nat → List Nat → Bool
  | 0, _ => false
  | f + 1, tr => if tr.getD (tr.length - 1) 0 = y then true else connTo P set y f tr P.length
def connTo (P : List (List Int)) (set : List Int) (y : Nat) (f : Nat) (tr : List Nat) : Nat → Bool
  | 0 => false
  | k + 1 => connTo P set y f tr k || (cond P set tr k && conn P set y f (tr ++ [k]))
end

theorem connTo_le {P : List (List Int)} {set : List Int} {y f : Nat} {tr : List Nat} {k m : Nat} (h : connTo P set y f tr k = true) (hk : k ≤ m) : connTo P set y f tr m = true := by
  induction m with
  | zero => have : k = 0 := by omega
            subst this; exact h
  | succ m ih =>
    by_cases e : k = m + 1
    · subst e; exact h
    · simp only [connTo, ih (by omega), Bool.true_or]
theorem connTo_yes {P : List (List Int)} {set : List Int} {y f : Nat} {tr : List Nat} {k : Nat} (h1 : cond P set tr k = true) (h2 : conn P set y f (tr ++ [k]) = true) (hk : k < P.length) (hl : tr.getD (tr.length - 1) 0 ≠ y) : conn P set y (f + 1) tr = true := by
  have h3 : connTo P set y f tr (k + 1) = true := by simp only [connTo, h1, h2, Bool.and_true, Bool.or_true]
  simp only [conn]
  rw [if_neg hl]; exact connTo_le h3 (by omega)
theorem connTo_skip {P : List (List Int)} {set : List Int} {y f : Nat} {tr : List Nat} {k : Nat} (h0 : connTo P set y f tr k = false) (h1 : cond P set tr k = false) : connTo P set y f tr (k + 1) = false := by
  simp only [connTo, h0, h1, Bool.false_and, Bool.or_false]
theorem connTo_no {P : List (List Int)} {set : List Int} {y f : Nat} {tr : List Nat} {k : Nat} (h0 : connTo P set y f tr k = false) (h1 : conn P set y f (tr ++ [k]) = false) : connTo P set y f tr (k + 1) = false := by
  simp only [connTo, h0, h1, Bool.and_false, Bool.or_false]
theorem conn_end {P : List (List Int)} {set : List Int} {y f : Nat} {tr : List Nat} (h0 : connTo P set y f tr P.length = false) (hl : tr.getD (tr.length - 1) 0 ≠ y) : conn P set y (f + 1) tr = false := by
  simp only [conn]; rw [if_neg hl]; exact h0
theorem conn_here {P : List (List Int)} {set : List Int} {y f : Nat} {tr : List Nat} (hl : tr.getD (tr.length - 1) 0 = y) : conn P set y (f + 1) tr = true := by
  simp only [conn]; rw [if_pos hl]

/-- A list of different variables. -/
def NoTwo (n : Nat) (tr : List Nat) : Prop := tr.Nodup ∧ ∀ x ∈ tr, x < n
theorem okSet_ints {tr : List Nat} {n : Nat} (h : NoTwo n tr) : okSet (ints tr) n = true := by
  refine decide_eq_true (fun i hi => ?_)
  rw [ints_length] at hi
  simp only [nth_ints]
  have hm : tr.getD i 0 ∈ tr := by simp [List.getD_eq_getElem?_getD, hi]
  have := h.2 _ hm
  refine ⟨by omega, fun j hj e => ?_⟩
  have e2 : tr.getD j 0 = tr.getD i 0 := by omega
  simp only [List.getD_eq_getElem?_getD, List.getElem?_eq_getElem hi, List.getElem?_eq_getElem (show j < tr.length by omega), Option.getD_some] at e2
  have := (List.getElem_inj h.1).1 e2
  omega
theorem NoTwo.snoc {n k : Nat} {tr : List Nat} (h : NoTwo n tr) (hk : k < n) (hm : ¬ k ∈ tr) : NoTwo n (tr ++ [k]) := by
  refine ⟨?_, fun x hx => ?_⟩
  · rw [List.nodup_append]
    exact ⟨h.1, by simp, fun a ha b hb e => by simp at hb; subst hb; exact hm (e ▸ ha)⟩
  · rcases List.mem_append.1 hx with h1 | h1
    · exact h.2 x h1
    · simp at h1; omega
theorem NoTwo.le {n : Nat} {tr : List Nat} (h : NoTwo n tr) : tr.length ≤ n := nodup_le n tr h.1 h.2

end Go.Proofs.Ytghffnjnpgiicaa

