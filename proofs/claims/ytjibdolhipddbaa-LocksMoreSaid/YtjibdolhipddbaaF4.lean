/- A statement's arguments, opened: three ints, or five, in an array. -/
import Derived.Test.YtjibdolhipddbaaF3
namespace Go.Proofs.Ytjibdolhipddbaa
open Go.ChangeShapes Go.WideShapes Go.ChangeAt Go.RowKit Go.Joins Go.Deep

theorem Try.cells51 : Try.prog.cellsOf 51 = 3 := by kernel_rfl
theorem Try.cells55 : Try.prog.cellsOf 55 = 5 := by kernel_rfl
theorem array5 {α : Type} {cs : Array α} (h : cs.size = 5) : ∃ c0 c1 c2 c3 c4, cs = #[c0, c1, c2, c3, c4] := by
  obtain ⟨l⟩ := cs
  match l, h with
  | [c0, c1, c2, c3, c4], _ => exact ⟨c0, c1, c2, c3, c4, rfl⟩
theorem wf_i64 {n : Int} (w0 : (Lit.int .i64 n).wf = true) : -9223372036854775808 ≤ n ∧ n ≤ 9223372036854775807 := by
  simp only [Lit.wf, Bool.and_eq_true, decide_eq_true_eq, i64_min, i64_max] at w0
  omega

section
variable {H : Type} {enc : TypeId × Value → H} {W : World}

set_option maxRecDepth 100000 in
theorem open_arr3 {r : Reach} {b0 : Nat} {v : Value} {d : DataW H} {p : List MemPlace} (hv : Value.okWide Try.prog W r b0 51 v) (h : DataW.Trod enc Try.prog W 0 (fun _ => true) true 51 v d p) :
    ∃ x y z : Int, v = .agg #[.int .i64 x, .int .i64 y, .int .i64 z] ∧ (-9223372036854775808 ≤ x ∧ x ≤ 9223372036854775807) ∧ (-9223372036854775808 ≤ y ∧ y ≤ 9223372036854775807) ∧ (-9223372036854775808 ≤ z ∧ z ≤ 9223372036854775807) := by
  simp only [Value.okWide, Try.underlying51] at hv
  obtain ⟨cs, rfl, hsz, -⟩ := hv
  obtain ⟨u0, u1, u2, rfl⟩ := array3 (hsz.trans Try.cells51)
  obtain ⟨fuel, ht⟩ := h
  obtain ⟨xs, k, _, _, _, hxl, hxs⟩ := DataW.trod_array Try.underlying51 ht
  have e0 := hxs 0 (by omega)
  have e1 := hxs 1 (by omega)
  have e2 := hxs 2 (by omega)
  rw [Try.cells3, List.getElem?_eq_getElem (by omega)] at e0 e1 e2
  obtain ⟨p, q0, _, w0⟩ := DataW.trod_int Try.underlying3 e0
  obtain ⟨q, q1, _, w1⟩ := DataW.trod_int Try.underlying3 e1
  obtain ⟨r, q2, _, w2⟩ := DataW.trod_int Try.underlying3 e2
  simp [Value.cells] at q0 q1 q2
  subst q0 q1 q2
  exact ⟨p, q, r, rfl, wf_i64 w0, wf_i64 w1, wf_i64 w2⟩

set_option maxRecDepth 100000 in
theorem open_arr5 {r : Reach} {b0 : Nat} {v : Value} {d : DataW H} {p : List MemPlace} (hv : Value.okWide Try.prog W r b0 55 v) (h : DataW.Trod enc Try.prog W 0 (fun _ => true) true 55 v d p) :
    ∃ x y z s t : Int, v = .agg #[.int .i64 x, .int .i64 y, .int .i64 z, .int .i64 s, .int .i64 t] ∧ (-9223372036854775808 ≤ x ∧ x ≤ 9223372036854775807) ∧ (-9223372036854775808 ≤ y ∧ y ≤ 9223372036854775807) ∧ (-9223372036854775808 ≤ z ∧ z ≤ 9223372036854775807) ∧ (-9223372036854775808 ≤ s ∧ s ≤ 9223372036854775807) ∧ (-9223372036854775808 ≤ t ∧ t ≤ 9223372036854775807) := by
  simp only [Value.okWide, Try.underlying55] at hv
  obtain ⟨cs, rfl, hsz, -⟩ := hv
  obtain ⟨u0, u1, u2, u3, u4, rfl⟩ := array5 (hsz.trans Try.cells55)
  obtain ⟨fuel, ht⟩ := h
  obtain ⟨xs, k, _, _, _, hxl, hxs⟩ := DataW.trod_array Try.underlying55 ht
  have e0 := hxs 0 (by omega)
  have e1 := hxs 1 (by omega)
  have e2 := hxs 2 (by omega)
  have e3 := hxs 3 (by omega)
  have e4 := hxs 4 (by omega)
  rw [Try.cells3, List.getElem?_eq_getElem (by omega)] at e0 e1 e2 e3 e4
  obtain ⟨p, q0, _, w0⟩ := DataW.trod_int Try.underlying3 e0
  obtain ⟨q, q1, _, w1⟩ := DataW.trod_int Try.underlying3 e1
  obtain ⟨r, q2, _, w2⟩ := DataW.trod_int Try.underlying3 e2
  obtain ⟨s, q3, _, w3⟩ := DataW.trod_int Try.underlying3 e3
  obtain ⟨t, q4, _, w4⟩ := DataW.trod_int Try.underlying3 e4
  simp [Value.cells] at q0 q1 q2 q3 q4
  subst q0 q1 q2 q3 q4
  exact ⟨p, q, r, s, t, rfl, wf_i64 w0, wf_i64 w1, wf_i64 w2, wf_i64 w3, wf_i64 w4⟩
end
end Go.Proofs.Ytjibdolhipddbaa
