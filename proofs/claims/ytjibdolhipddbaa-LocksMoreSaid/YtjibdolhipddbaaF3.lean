/- A statement's arguments, opened: an int, a pair of ints in an array. -/
import Derived.Test.YtjibdolhipddbaaF1
namespace Go.Proofs.Ytjibdolhipddbaa
open Go.ChangeShapes Go.WideShapes Go.ChangeAt Go.RowKit Go.Joins Go.Deep

theorem Try.cells23 : Try.prog.cellsOf 23 = 2 := by kernel_rfl

section
variable {H : Type} {enc : TypeId × Value → H} {W : World}

set_option maxRecDepth 100000 in
theorem open_int3 {r : Reach} {b0 : Nat} {v : Value} {d : DataW H} {p : List MemPlace} (hv : Value.okWide Try.prog W r b0 3 v) (h : DataW.Trod enc Try.prog W 0 (fun _ => true) true 3 v d p) :
    ∃ x : Int, v = .int .i64 x ∧ (-9223372036854775808 ≤ x ∧ x ≤ 9223372036854775807) := by
  obtain ⟨n, rfl, -, -, hw⟩ := open_int Try.underlying3 hv h
  refine ⟨n, rfl, ?_⟩
  simp only [Lit.wf, Bool.and_eq_true, decide_eq_true_eq, i64_min, i64_max] at hw
  omega

set_option maxRecDepth 100000 in
theorem open_pair2 {r : Reach} {b0 : Nat} {v : Value} {d : DataW H} {p : List MemPlace} (hv : Value.okWide Try.prog W r b0 23 v) (h : DataW.Trod enc Try.prog W 0 (fun _ => true) true 23 v d p) :
    ∃ x y : Int, v = .agg #[.int .i64 x, .int .i64 y] ∧ (-9223372036854775808 ≤ x ∧ x ≤ 9223372036854775807) ∧ (-9223372036854775808 ≤ y ∧ y ≤ 9223372036854775807) := by
  simp only [Value.okWide, Try.underlying23] at hv
  obtain ⟨cs, rfl, hsz, -⟩ := hv
  obtain ⟨u0, u1, rfl⟩ := array2 (hsz.trans Try.cells23)
  obtain ⟨fuel, ht⟩ := h
  obtain ⟨xs, k, _, _, _, hxl, hxs⟩ := DataW.trod_array Try.underlying23 ht
  have e0 := hxs 0 (by omega)
  have e1 := hxs 1 (by omega)
  rw [Try.cells3, List.getElem?_eq_getElem (by omega)] at e0 e1
  obtain ⟨p, q0, _, w0⟩ := DataW.trod_int Try.underlying3 e0
  obtain ⟨q, q1, _, w1⟩ := DataW.trod_int Try.underlying3 e1
  simp [Value.cells] at q0 q1
  subst q0 q1
  refine ⟨p, q, rfl, ?_, ?_⟩
  · simp only [Lit.wf, Bool.and_eq_true, decide_eq_true_eq, i64_min, i64_max] at w0
    omega
  · simp only [Lit.wf, Bool.and_eq_true, decide_eq_true_eq, i64_min, i64_max] at w1
    omega
end
end Go.Proofs.Ytjibdolhipddbaa
