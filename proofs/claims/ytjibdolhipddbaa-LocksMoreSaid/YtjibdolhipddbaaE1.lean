/- Comparisons of lists. -/
import Derived.Test.YtjibdolhipddbaaD5
namespace Go.Proofs.Ytjibdolhipddbaa
open Go.RowKit

theorem nth_eq {xs ys : List Int} (hl : xs.length = ys.length) (h : ∀ i, i < xs.length → nth xs i = nth ys i) : xs = ys := by
  refine List.ext_getElem hl fun i h1 h2 => ?_
  have := h i h1
  simpa [nth, List.getD_eq_getElem?_getD, h1, h2] using this

set_option maxHeartbeats 1000000 in
set_option maxRecDepth 100000 in
theorem ints_any (xs ys : List Int) (ao bo : Option Addr) (ab ax ac bb bx bc : Nat) (w : World) (hX : IntsAt w ao ab ax xs) (hY : IntsAt w bo bb bx ys) :
    Calls Try.prog 27 #[.slice ao xs.length ac, .slice bo ys.length bc] w fun e w' => e = .returned (.bool (decide (xs = ys))) ∧ ∃ m, w' = w.drewN m := by
  have lx := hX.len
  have ly := hY.len
  have HX := Lib.hid hX
  have HY := Lib.hid hY
  clear hX hY
  by_cases hl : xs.length = ys.length
  · have HL := Lib.hid hl
    have hq : ((xs.length : Int) != (ys.length : Int)) = false := by rw [hl]; simp
    rw [← hl]
    clear hl ly
    go_enter Try.func27, Try.ntmps27
    go_wp2
    go_loopw [5] (fun i wr => ∃ k : Nat, k ≤ xs.length ∧ i = .int .i64 k ∧ (∀ j, j < k → nth xs j = nth ys j) ∧ ∃ m, wr = w.drewN m) (fun i _ => xs.length - (intOf i).toNat)
    case atStart => exact ⟨0, by omega, rfl, fun j hj => absurd hj (by omega), 0, rfl⟩
    case round =>
      obtain ⟨k, hk, rfl, he, md, rfl⟩ := hrel
      have HE := Lib.hid he
      have HB := Lib.hid (below_drewN (Below.refl w.heap.size w) md)
      clear he
      by_cases hlt : k < xs.length
      · have hX := HX.out
        have hY := HY.out
        obtain ⟨rfl, -⟩ := hX.ptr (by omega)
        obtain ⟨rfl, -⟩ := hY.ptr (by rw [← HL.out]; omega)
        have c0 := hX.cell k hlt
        have c1 := hY.cell k (by rw [← HL.out]; exact hlt)
        clear hX hY
        by_cases e : nth xs k = nth ys k
        · have HQ := Lib.hid e
          have hq2 : (nth xs k != nth ys k) = false := by rw [e]; simp
          clear e
          go_wp2
          go_quiet (fail)
          go_wp2
          go_roundw
          case rel => exact ⟨k + 1, by omega, by go_num, fun j hj => by
            by_cases e : j = k
            · subst e; exact HQ.out
            · exact HE.out j (by omega), _, by first | rfl | exact World.drewN_drewN _ _ _⟩
          case measure => simp [intOf]; omega
        · have hq2 : (nth xs k != nth ys k) = true := by simpa using e
          have HF := Lib.hid (show decide (xs = ys) = false from decide_eq_false fun q => e (by rw [q]))
          clear e
          go_wp2
          go_quiet (fail)
          go_wp2
          go_ret
          exact ⟨congrArg (fun b => Ending.returned (.bool b)) HF.out.symm, _, by first | rfl | exact World.drewN_drewN _ _ _⟩
      · have HT := Lib.hid (show decide (xs = ys) = true from decide_eq_true (nth_eq HL.out fun i hi => HE.out i (by omega)))
        go_wp2
        go_ret
        exact ⟨congrArg (fun b => Ending.returned (.bool b)) HT.out.symm, _, rfl⟩
  · have hq : ((xs.length : Int) != (ys.length : Int)) = true := by simp; omega
    have HF := Lib.hid (show decide (xs = ys) = false from decide_eq_false fun q => hl (by rw [q]))
    clear hl
    go_enter Try.func27, Try.ntmps27
    go_wp2
    go_ret
    exact ⟨congrArg (fun b => Ending.returned (.bool b)) HF.out.symm, 0, rfl⟩

set_option maxHeartbeats 1000000 in
set_option maxRecDepth 100000 in
theorem equal_any (xs ys : List Int) (ao bo : Option Addr) (ab ax ac bb bx bc : Nat) (w : World) (hX : IntsAt w ao ab ax xs) (hY : IntsAt w bo bb bx ys) :
    Calls Try.prog 46 #[.slice ao xs.length ac, .slice bo ys.length bc] w fun e w' => e = .returned (.bool (decide (xs = ys))) ∧ ∃ m, w' = w.drewN m := by
  have lx := hX.len
  have ly := hY.len
  have HX := Lib.hid hX
  have HY := Lib.hid hY
  clear hX hY
  by_cases hl : xs.length = ys.length
  · have HL := Lib.hid hl
    have hq : ((xs.length : Int) != (ys.length : Int)) = false := by rw [hl]; simp
    rw [← hl]
    clear hl ly
    go_enter Try.func46, Try.ntmps46
    go_wp2
    go_loopw [5, 13] (fun _ i wr => ∃ k : Nat, k ≤ xs.length ∧ i = .int .i64 k ∧ (∀ j, j < k → nth xs j = nth ys j) ∧ ∃ m, wr = w.drewN m) (fun _ i _ => xs.length - (intOf i).toNat)
    case atStart => exact ⟨0, by omega, rfl, fun j hj => absurd hj (by omega), 0, rfl⟩
    case round =>
      obtain ⟨k, hk, rfl, he, md, rfl⟩ := hrel
      have HE := Lib.hid he
      have HB := Lib.hid (below_drewN (Below.refl w.heap.size w) md)
      clear he
      by_cases hlt : k < xs.length
      · have hX := HX.out
        have hY := HY.out
        obtain ⟨rfl, -⟩ := hX.ptr (by omega)
        obtain ⟨rfl, -⟩ := hY.ptr (by rw [← HL.out]; omega)
        have c0 := hX.cell k hlt
        have c1 := hY.cell k (by rw [← HL.out]; exact hlt)
        clear hX hY
        by_cases e : nth xs k = nth ys k
        · have HQ := Lib.hid e
          have hq2 : (nth xs k != nth ys k) = false := by rw [e]; simp
          clear e
          go_wp2
          go_quiet (fail)
          go_wp2
          go_roundw
          case rel => exact ⟨k + 1, by omega, by go_num, fun j hj => by
            by_cases e : j = k
            · subst e; exact HQ.out
            · exact HE.out j (by omega), _, by first | rfl | exact World.drewN_drewN _ _ _⟩
          case measure => simp [intOf]; omega
        · have hq2 : (nth xs k != nth ys k) = true := by simpa using e
          have HF := Lib.hid (show decide (xs = ys) = false from decide_eq_false fun q => e (by rw [q]))
          clear e
          go_wp2
          go_quiet (fail)
          go_wp2
          go_ret
          exact ⟨congrArg (fun b => Ending.returned (.bool b)) HF.out.symm, _, by first | rfl | exact World.drewN_drewN _ _ _⟩
      · have HT := Lib.hid (show decide (xs = ys) = true from decide_eq_true (nth_eq HL.out fun i hi => HE.out i (by omega)))
        go_wp2
        go_ret
        exact ⟨congrArg (fun b => Ending.returned (.bool b)) HT.out.symm, _, rfl⟩
  · have hq : ((xs.length : Int) != (ys.length : Int)) = true := by simp; omega
    have HF := Lib.hid (show decide (xs = ys) = false from decide_eq_false fun q => hl (by rw [q]))
    clear hl
    go_enter Try.func46, Try.ntmps46
    go_wp2
    go_ret
    exact ⟨congrArg (fun b => Ending.returned (.bool b)) HF.out.symm, 0, rfl⟩


end Go.Proofs.Ytjibdolhipddbaa
