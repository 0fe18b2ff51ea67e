/- More comparisons, and a copy. -/
import Derived.Test.YtjibdolhipddbaaE1
namespace Go.Proofs.Ytjibdolhipddbaa
open Go.RowKit

set_option maxHeartbeats 1000000 in
set_option maxRecDepth 100000 in
theorem refSame_any (xs ys : List Int) (ao bo : Option Addr) (ab ax ac bb bx bc : Nat) (w : World) (hX : IntsAt w ao ab ax xs) (hY : IntsAt w bo bb bx ys) (hl : xs.length = ys.length) :
    Calls Try.prog 48 #[.slice ao xs.length ac, .slice bo ys.length bc] w fun e w' => e = .returned (.bool (decide (xs = ys))) ∧ ∃ m, w' = w.drewN m := by
  have lx := hX.len
  have HX := Lib.hid hX
  have HY := Lib.hid hY
  clear hX hY
  have HL := Lib.hid hl
  rw [← hl]
  clear hl
  go_enter Try.func48, Try.ntmps48
  go_wp2
  go_loopw [5] (fun i wr => ∃ k : Nat, k ≤ xs.length ∧ i = .int .i64 k ∧ (∀ j, j < k → nth xs j = nth ys j) ∧ ∃ m, wr = w.drewN m) (fun i _ => xs.length - (intOf i).toNat)
  case atStart => exact ⟨0, by omega, rfl, fun j hj => absurd hj (by omega), 0, rfl⟩
  case round =>
    obtain ⟨k, hk, rfl, he, md, rfl⟩ := hrel
    have HE := Lib.hid he
    clear he
    by_cases hlt : k < xs.length
    · have hX := HX.out
      have hY := HY.out
      obtain ⟨rfl, -⟩ := hX.ptr (by omega)
      obtain ⟨rfl, -⟩ := hY.ptr (by rw [← HL.out]; omega)
      have c0 := hX.cell k hlt
      have c1 := hY.cell k (by rw [← HL.out]; exact hlt)
      clear hX hY
      by_cases e : nth xs k = nth ys k
      · have HQ := Lib.hid e
        have hq2 : (nth xs k != nth ys k) = false := by rw [e]; simp
        clear e
        go_wp2
        go_quiet (fail)
        go_wp2
        go_roundw
        case rel => exact ⟨k + 1, by omega, by go_num, fun j hj => by
          by_cases e : j = k
          · subst e; exact HQ.out
          · exact HE.out j (by omega), _, by first | rfl | exact World.drewN_drewN _ _ _⟩
        case measure => simp [intOf]; omega
      · have hq2 : (nth xs k != nth ys k) = true := by simpa using e
        have HF := Lib.hid (show decide (xs = ys) = false from decide_eq_false fun q => e (by rw [q]))
        clear e
        go_wp2
        go_quiet (fail)
        go_wp2
        go_ret
        exact ⟨congrArg (fun b => Ending.returned (.bool b)) HF.out.symm, _, by first | rfl | exact World.drewN_drewN _ _ _⟩
    · have HT := Lib.hid (show decide (xs = ys) = true from decide_eq_true (nth_eq HL.out fun i hi => HE.out i (by omega)))
      go_wp2
      go_ret
      exact ⟨congrArg (fun b => Ending.returned (.bool b)) HT.out.symm, _, rfl⟩

theorem rows_eq {X Y : List (List Int)} (hl : X.length = Y.length) (h : ∀ i, i < X.length → row X i = row Y i) : X = Y := by
  refine List.ext_getElem hl fun i h1 h2 => ?_
  have := h i h1
  simpa [row, List.getD_eq_getElem?_getD, h1, h2] using this

set_option maxHeartbeats 1000000 in
set_option maxRecDepth 100000 in
theorem same_any (X Y : List (List Int)) (ao bo : Option Addr) (ab ax ac bb bx bc : Nat) (A1 : Nat → Option Addr) (B1 O1 C1 : Nat → Nat) (A2 : Nat → Option Addr) (B2 O2 C2 : Nat → Nat) (w : World) (hX : RowsAt w ao ab ax X A1 B1 O1 C1) (hY : RowsAt w bo bb bx Y A2 B2 O2 C2) :
    Calls Try.prog 26 #[.slice ao X.length ac, .slice bo Y.length bc] w fun e w' => e = .returned (.bool (decide (X = Y))) ∧ ∃ m, w' = w.drewN m := by
  have lx := hX.len
  have ly := hY.len
  have HX := Lib.hid hX
  have HY := Lib.hid hY
  clear hX hY
  by_cases hl : X.length = Y.length
  · have HL := Lib.hid hl
    have hq : ((X.length : Int) != (Y.length : Int)) = false := by rw [hl]; simp
    rw [← hl]
    clear hl ly
    go_enter Try.func26, Try.ntmps26
    go_wp2
    go_loopw [5] (fun i wr => ∃ k : Nat, k ≤ X.length ∧ i = .int .i64 k ∧ (∀ j, j < k → row X j = row Y j) ∧ ∃ m, wr = w.drewN m) (fun i _ => X.length - (intOf i).toNat)
    case atStart => exact ⟨0, by omega, rfl, fun j hj => absurd hj (by omega), 0, rfl⟩
    case round =>
      obtain ⟨k, hk, rfl, he, md, hmd⟩ := hrel
      have HE := Lib.hid he
      have HMD := Lib.hid hmd
      have HBM := Lib.hid (show Below w.heap.size w wr by rw [hmd]; exact below_drewN (Below.refl _ _) _)
      clear he hmd
      by_cases hlt : k < X.length
      · have hX := HX.out.below HBM.out (Nat.le_refl _)
        have hY := HY.out.below HBM.out (Nat.le_refl _)
        obtain ⟨rfl, -⟩ := hX.ptr (by omega)
        obtain ⟨rfl, -⟩ := hY.ptr (by rw [← HL.out]; omega)
        have c0 := hX.cell k hlt
        have c1 := hY.cell k (by rw [← HL.out]; exact hlt)
        have HR1 := Lib.hid (hX.rows k hlt)
        have HR2 := Lib.hid (hY.rows k (by rw [← HL.out]; exact hlt))
        clear hX hY
        have HIN := Lib.hid (fun n => ints_any (row X k) (row Y k) _ _ _ _ (C1 k) _ _ (C2 k) (wr.drewN n) (HR1.out.below (below_drewN (Below.refl _ _) n) (Nat.le_refl _)) (HR2.out.below (below_drewN (Below.refl _ _) n) (Nat.le_refl _)))
        by_cases e : row X k = row Y k
        · have HQ := Lib.hid e
          have hd : decide (row X k = row Y k) = true := decide_eq_true e
          unfold Hid at HIN
          simp only [hd] at HIN
          have HIN := Lib.hid HIN
          clear e hd
          go_wp2
          go_quiet (exact Calls.quiet_of (HIN.out _))
          go_wp2
          go_roundw
          case rel => exact ⟨k + 1, by omega, by go_num, fun j hj => by
            by_cases e : j = k
            · subst e; exact HQ.out
            · exact HE.out j (by omega), _, by rw [HMD.out]; exact World.drewN_drewN _ _ _⟩
          case measure => simp [intOf]; omega
        · have hd : decide (row X k = row Y k) = false := decide_eq_false e
          have HF := Lib.hid (show decide (X = Y) = false from decide_eq_false fun q => e (by rw [q]))
          unfold Hid at HIN
          simp only [hd] at HIN
          have HIN := Lib.hid HIN
          clear e hd
          go_wp2
          go_quiet (exact Calls.quiet_of (HIN.out _))
          go_wp2
          go_ret
          exact ⟨congrArg (fun b => Ending.returned (.bool b)) HF.out.symm, _, by rw [HMD.out]; exact World.drewN_drewN _ _ _⟩
      · have HT := Lib.hid (show decide (X = Y) = true from decide_eq_true (rows_eq HL.out fun i hi => HE.out i (by omega)))
        go_wp2
        go_ret
        exact ⟨congrArg (fun b => Ending.returned (.bool b)) HT.out.symm, _, HMD.out⟩
  · have hq : ((X.length : Int) != (Y.length : Int)) = true := by simp; omega
    have HF := Lib.hid (show decide (X = Y) = false from decide_eq_false fun q => hl (by rw [q]))
    clear hl
    go_enter Try.func26, Try.ntmps26
    go_wp2
    go_ret
    exact ⟨congrArg (fun b => Ending.returned (.bool b)) HF.out.symm, 0, rfl⟩

set_option maxHeartbeats 1000000 in
set_option maxRecDepth 100000 in
theorem clone_any (xs : List Int) (b o cap : Nat) (w : World) (h : IntsAt w (some ⟨b, o, none⟩) b o xs) (h0 : 0 < xs.length) (h6 : xs.length ≤ 6) (hcap : xs.length ≤ cap) :
    Calls Try.prog 47 #[.slice (some ⟨b, o, none⟩) xs.length cap] w fun e w' => ∃ v, e = .returned v ∧ NewInts w.heap.size w' v xs ∧ Below w.heap.size w w' := by
  obtain ⟨i0, hi, hz0, hz1, hz2⟩ := info_parts Try.info3
  have HN := Lib.hid (show ∀ (ob : Obj) (j : Nat) (u : Value), (xs.map (Value.int .i64))[j]? = some u → (w.alloc ob).cell? ((⟨b, o, none⟩ : Addr).add j) = some u from fun ob j u hj => by
    have := news_at (h.alloc ob) ⟨b, o, none⟩ rfl xs.length j u
    rw [List.take_length] at this
    exact this hj)
  have HW := Lib.hid h.wf
  have HL := Lib.hid h.len
  have q34 : ∀ (w : World) (a : Option Addr) (n c n' c' : Nat), (Go.binOp .eql 34 (.slice a n c) (.slice none n' c')).run Try.prog w = .ok (.bool a.isNone) w := fun w a n c n' c' => Lib.run_eql_slice_nil w _ _ a n c n' c' Try.underlying34
  clear h
  go_enter Try.func47, Try.ntmps47
  go_wp2_with (at_builtin; refine wpList_append_own _ rfl (.tmp 5) (.tmp 6) 34 rfl w.heap.size 3 i0 (.int .i64 0) 1 8 Try.underlying34 hi hz0 hz1 hz2 rfl (by decide) _ 0 [] rfl (World.ownsRow_made w #[] 0 (Nat.le_refl _) (Nat.zero_le _) rfl) ⟨b, o, none⟩ xs.length cap (xs.map (Value.int .i64)) rfl ?qc1 (HN.out _) ?qc3 ?qc4 ?qc5 ?qc6 ?_)
  case qc1 => simp
  case qc3 => exact oneCell_ints _
  case qc4 => unfold maxLen; omega
  case qc5 => omega
  case qc6 => simp
  intro v' w1 hown hgrow hnil
  have HR := Lib.hid (show NewInts w.heap.size w1 v' xs from ⟨by simpa using hown, HW.out, HL.out⟩)
  have HB := Lib.hid (((Below.refl _ w).alloc (Nat.le_refl _) (.cells #[] 3)).grown hgrow (by simp) (by intro k hk; simp [Value.ownBlock] at hk; omega))
  clear hown hgrow hnil
  go_wp2
  go_ret
  exact ⟨v', rfl, HR.out, HB.out⟩

end Go.Proofs.Ytjibdolhipddbaa
