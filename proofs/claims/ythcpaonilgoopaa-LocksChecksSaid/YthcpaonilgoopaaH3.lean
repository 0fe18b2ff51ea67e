/- Lists of pairs, compared. -/
import Derived.Test.YthcpaonilgoopaaH2
import Derived.Laws.StructEq
namespace Go.Proofs.Ythcpaonilgoopaa
open Go.RowKit Go.Maps

theorem pairs_eq {ps qs : List (Int × Int)} (hl : ps.length = qs.length) (h : ∀ i, i < ps.length → pf ps i = pf qs i ∧ pv ps i = pv qs i) : ps = qs := by
  refine List.ext_getElem hl fun i h1 h2 => ?_
  have := h i h1
  simp only [pf, pv, List.getD_eq_getElem?_getD, List.getElem?_eq_getElem h1, List.getElem?_eq_getElem h2, Option.getD_some] at this
  exact Prod.ext this.1 this.2

theorem part_two (x y : Int) (w : World) : (part 3 #[.int .i64 x, .int .i64 y] (0 * Try.prog.cellsOf 3)).run Try.prog w = .ok (.int .i64 x) w ∧ (part 3 #[.int .i64 x, .int .i64 y] (1 * Try.prog.cellsOf 3)).run Try.prog w = .ok (.int .i64 y) w :=
  ⟨by kernel_rfl, by kernel_rfl⟩
theorem ne_same (x y : Int) (w : World) : (Go.binOp .neq 23 (Value.agg #[.int .i64 x, .int .i64 y]) (Value.agg #[.int .i64 x, .int .i64 y])).run Try.prog w = Result.ok (Value.bool false) w := by
  obtain ⟨i0, hi, -⟩ := info_parts Try.info3
  rw [run_neq_struct, run_equalIn_array w 9999 _ _ Try.underlying23 hi, show List.range 2 = [0, 1] from rfl]
  simp only [Op.eqItems, Sem.run_bind, (part_two x y w).1, (part_two x y w).2, Result.andThen_ok, run_equalIn_int w 9998 3 .i64 .i64 _ _ Try.underlying3, beq_self_eq_true, Bool.not_true, Bool.false_eq_true, if_false, Sem.run_pure]

set_option maxHeartbeats 4000000 in
set_option maxRecDepth 100000 in
theorem pairs_same (ps : List (Int × Int)) (ao bo : Option Addr) (ab ax ac bb bx bc : Nat) (w : World) (hX : PairsAt w ao ab ax ps) (hY : PairsAt w bo bb bx ps) (hl : ps.length ≤ 36) :
    Calls Try.prog 22 #[.slice ao ps.length ac, .slice bo ps.length bc] w fun e w' => e = .returned (.bool true) ∧ ∃ m, w' = w.drewN m := by
  have HX := Lib.hid hX
  have HY := Lib.hid hY
  clear hX hY
  have hq : ((ps.length : Int) != (ps.length : Int)) = false := by simp
  go_enter Try.func22, Try.ntmps22
  go_wp2
  go_loopw [5] (fun x wr => ∃ k : Nat, k ≤ ps.length ∧ x = .int .i64 k ∧ ∃ m, wr = w.drewN m) (fun x _ => ps.length - (intOf x).toNat)
  case atStart => exact ⟨0, by omega, rfl, 0, rfl⟩
  case round =>
    obtain ⟨k, hk, rfl, md, rfl⟩ := hrel
    by_cases hlt : k < ps.length
    · have hX := HX.out.below (below_drewN (Below.refl _ w) md) (Nat.le_refl _)
      have hY := HY.out.below (below_drewN (Below.refl _ w) md) (Nat.le_refl _)
      obtain ⟨rfl, -⟩ := hX.ptr (by omega)
      obtain ⟨rfl, -⟩ := hY.ptr (by omega)
      have c0 := hX.cell0 k hlt
      have c1 := hX.cell1 k hlt
      have d0 := hY.cell0 k hlt
      have d1 := hY.cell1 k hlt
      obtain ⟨x, hx⟩ : ∃ x, pf ps k = x := ⟨_, rfl⟩
      obtain ⟨y, hy⟩ : ∃ x, pv ps k = x := ⟨_, rfl⟩
      rw [hx] at c0 d0
      rw [hy] at c1 d1
      clear hX hY hx hy
      have hne := ne_same x y
      obtain ⟨wq, hwq⟩ : ∃ wq, w.drewN md = wq := ⟨_, rfl⟩
      have HWQ := Lib.hid hwq
      have HC := Lib.hid (show ∀ n, ((wq.drewN n).cell? ⟨ab, ax + k * 2, none⟩ = some (.int .i64 x) ∧ (wq.drewN n).cell? ⟨ab, ax + k * 2 + 1, none⟩ = some (.int .i64 y)) ∧ (wq.drewN n).cell? ⟨bb, bx + k * 2, none⟩ = some (.int .i64 x) ∧ (wq.drewN n).cell? ⟨bb, bx + k * 2 + 1, none⟩ = some (.int .i64 y) from fun n => by
        rw [← hwq]; simp only [World.cell?_drewN]; exact ⟨⟨c0, c1⟩, d0, d1⟩)
      rw [hwq]
      clear hwq c0 c1 d0 d1
      go_wp2
      go_region_held3 (fun W => (W.cell? ⟨ab, ax + k * 2, none⟩ = some (.int .i64 x) ∧ W.cell? ⟨ab, ax + k * 2 + 1, none⟩ = some (.int .i64 y)) ∧ W.cell? ⟨bb, bx + k * 2, none⟩ = some (.int .i64 x) ∧ W.cell? ⟨bb, bx + k * 2 + 1, none⟩ = some (.int .i64 y))
        (first | exact HC.out 0 | exact HC.out 1 | exact HC.out 2)
        (fail)
      go_wp2
      go_roundw
      case rel => exact ⟨k + 1, by omega, by go_num, md + 1, by rw [← HWQ.out]; first | rfl | exact World.drewN_drewN _ _ 1⟩
      case measure => simp [intOf]; omega
    · go_wp2
      go_ret
      exact ⟨rfl, _, rfl⟩

end Go.Proofs.Ythcpaonilgoopaa
