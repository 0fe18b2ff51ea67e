/- F1 F3 F4 -/
import Derived.Test.YtjibdolhipddbaaQa
import Derived.ProofKit
import Derived.SizedLaws
import Derived.Deep.Matrix
import Derived.Lib.SmallJoins
/- A statement's arguments, opened. -/
/- A statement's arguments, opened: a list of ints, a list of rows. -/
namespace Go.Proofs.Ytjibdolhipddbaa
open Go.ChangeShapes Go.WideShapes Go.ChangeAt Go.RowKit Go.Joins Go.Deep

theorem Try.cells34 : Try.prog.cellsOf 34 = 1 := by kernel_rfl
theorem Try.cells3 : Try.prog.cellsOf 3 = 1 := by kernel_rfl
theorem Try.bytes34 : Try.prog.bytesOf 34 = 24 := by kernel_rfl
theorem Try.bytes3 : Try.prog.bytesOf 3 = 8 := by kernel_rfl

section
variable {H : Type} {enc : TypeId × Value → H} {W : World}

theorem i64_min : IntKind.min .i64 = -9223372036854775808 := by decide
theorem i64_max : IntKind.max .i64 = 9223372036854775807 := by decide
theorem bnd_of_wf {zs : List Int} (h : ∀ n ∈ zs, (Lit.int .i64 n).wf = true) (i : Nat) : -9223372036854775808 ≤ nth zs i ∧ nth zs i ≤ 9223372036854775807 := by
  by_cases hi : i < zs.length
  · have := h (nth zs i) (by simp [nth, List.getD_eq_getElem?_getD, hi])
    simpa only [Lit.wf, Bool.and_eq_true, decide_eq_true_eq, i64_min, i64_max] using this
  · rw [show nth zs i = 0 by simp [nth, List.getD_eq_getElem?_getD, List.getElem?_eq_none (by omega : zs.length ≤ i)]]
    omega

theorem nth_takeL {zs : List Int} {n i : Nat} (hi : i < n) : nth (zs.take n) i = nth zs i := by
  simp [nth, List.getD_eq_getElem?_getD, hi]

/-- One row: its first numbers, in memory. -/
theorem ints_of_cells {A : Option Addr} {L C : Nat} {zs : List Int} (hl : L ≤ C) (hz : zs.length = C) (hb : C * 8 ≤ 140737488351232) (hwf : ∀ n ∈ zs, (Lit.int .i64 n).wf = true) (hn : A = none → C = 0)
    (hc : ∀ a, A = some a → ∀ c, c < C → W.cell? (a.add c) = some (.int .i64 (zs.getD c 0))) : ∃ b o, IntsAt W A b o (zs.take L) := by
  by_cases h0 : L = 0
  · subst h0
    exact ⟨0, 0, fun h => by simp at h, fun i hi => by simp at hi, by simp, fun i => by simp [nth]⟩
  · cases A with
    | none => have := hn rfl; omega
    | some a =>
      obtain ⟨b, o, sp⟩ := a
      have hsp : sp = none := by simpa [Addr.add] using World.cell?_spot (hc _ rfl 0 (by omega))
      subst hsp
      have hcell : ∀ c, c < C → W.cell? ⟨b, o + c, none⟩ = some (.int .i64 (zs.getD c 0)) := fun c h => by rw [← add_plain]; exact hc _ rfl c h
      have hlen : (zs.take L).length = L := by rw [List.length_take]; omega
      refine ⟨b, o, fun _ => ⟨rfl, ?_⟩, fun i hi => ?_, by omega, fun i => ?_⟩
      · have := hcell 0 (by omega)
        rcases Nat.lt_or_ge b W.heap.size with h | h
        · exact h
        · simp [World.cell?, Array.getElem?_eq_none h] at this
      · rw [nth_takeL (by omega)]
        exact hcell i (by omega)
      · exact bnd_of_wf (fun n hn => hwf n (List.mem_of_mem_take hn)) i

/-- A list of ints that comes in. -/
theorem open_list {fuel : Nat} {v : Value} {x : DataW H × List MemPlace} (hs : ∃ a len cap, v = .slice a len cap) (h : DataW.trod enc Try.prog W 0 (fun _ => true) true fuel 34 [v] = some x)
    (hw : ∀ n ∈ x.1.weights Try.prog 34, n ≤ 140737488351232) : ∃ ao xs b o cap, v = .slice ao xs.length cap ∧ IntsAt W ao b o xs ∧ xs.length ≤ cap ∧ (ao = none → cap = 0) := by
  rcases open_ints Try.underlying34 Try.underlying3 Try.cells3 h with ⟨hcs, hx⟩ | ⟨a, len, cap, zs, hcs, _, hl, hm, hz, hx, hcell, hwz⟩
  · obtain rfl : v = .slice none 0 0 := by simpa using hcs
    exact ⟨none, [], 0, 0, 0, rfl, ⟨fun h => by simp at h, fun i hi => by simp at hi, by simp, fun i => by simp [nth]⟩, by simp, fun _ => rfl⟩
  · obtain rfl : v = .slice (some a) len cap := by simpa using hcs
    simp only [if_true] at hz
    have hb : cap * 8 ≤ 140737488351232 := by
      have := hw (((lits .i64 (zs.take len) : List (DataW H)).length + (lits .i64 (zs.drop len) : List (DataW H)).length) * Try.prog.bytesOf 3) (by rw [hx]; simp [DataW.weights, Try.underlying34])
      rw [Try.bytes3] at this
      simp only [lits, List.length_map, List.length_take, List.length_drop] at this
      omega
    obtain ⟨b, o, hi⟩ := ints_of_cells (A := some a) hl hz hb hwz (fun h => by simp at h) (fun a' ha c hc => by
      obtain rfl := Option.some.inj ha
      exact hcell c (by omega))
    have hlen : (zs.take len).length = len := by rw [List.length_take]; omega
    exact ⟨some a, zs.take len, b, o, cap, by rw [hlen], hi, by omega, fun h => by simp at h⟩

theorem weights_mem_all {P : Program} {e : TypeId} : ∀ {ds : List (DataW H)} {d : DataW H}, d ∈ ds → ∀ n ∈ d.weights P e, n ∈ DataW.weightsAll P e ds
  | d0 :: ds, d, h, n, hn => by
    simp only [DataW.weightsAll, List.mem_append]
    rcases List.mem_cons.1 h with rfl | h
    · exact .inl hn
    · exact .inr (weights_mem_all h n hn)

/-- A list of rows that comes in. -/
theorem open_rows {fuel : Nat} {v : Value} {x : DataW H × List MemPlace} (h : DataW.trod enc Try.prog W 0 (fun _ => true) true fuel 22 [v] = some x)
    (hw : ∀ n ∈ x.1.weights Try.prog 22, n ≤ 140737488351232) : ∃ pa P pb po pc A B O C, v = .slice pa (List.length P) pc ∧ RowsAt W pa pb po P A B O C ∧ CapsOk P A C := by
  rcases open_int_rows Try.underlying22 Try.underlying34 Try.underlying3 Try.cells34 Try.cells3 h with ⟨hcs, hx⟩ | ⟨a, len, cap, A, L, C, Z, hcs, _, hl, hm, hx, hrows⟩
  · obtain rfl : v = .slice none 0 0 := by simpa using hcs
    exact ⟨none, [], 0, 0, 0, fun _ => none, fun _ => 0, fun _ => 0, fun _ => 0, rfl, ⟨fun h => by simp at h, fun i hi => by simp at hi, fun i hi => by simp at hi, by simp⟩, fun i hi => by simp at hi⟩
  · obtain rfl : v = .slice (some a) len cap := by simpa using hcs
    have hb : cap * 24 ≤ 140737488351232 := by
      have := hw ((((List.range len).map fun r => intRow (H := H) .i64 (A r) (L r) (Z r)).length + ((List.range (cap - len)).map fun j => intRow (H := H) .i64 (A (len + j)) (L (len + j)) (Z (len + j))).length) * Try.prog.bytesOf 34) (by rw [hx]; simp [DataW.weights, Try.underlying22])
      rw [Try.bytes34] at this
      simp only [List.length_map, List.length_range] at this
      omega
    have hrow : ∀ r, r < len → ∃ b o, IntsAt W (A r) b o ((Z r).take (L r)) := by
      intro r hr
      obtain ⟨_, h1, _, h2, h3, h4, h5⟩ := hrows r (by omega)
      by_cases hn : A r = none
      · have := h4 hn
        have h0 : L r = 0 := by omega
        rw [h0]
        exact ⟨0, 0, fun h => by simp at h, fun i hi => by simp at hi, by simp, fun i => by simp [nth]⟩
      · obtain ⟨a', ha'⟩ := Option.ne_none_iff_exists'.1 hn
        have hb8 : C r * 8 ≤ 140737488351232 := by
          have hm0 : ((lits .i64 ((Z r).take (L r)) : List (DataW H)).length + (lits .i64 ((Z r).drop (L r)) : List (DataW H)).length) * Try.prog.bytesOf 3 ∈ (intRow (H := H) .i64 (A r) (L r) (Z r)).weights Try.prog 34 := by
            rw [ha']; simp [intRow, DataW.weights, Try.underlying34]
          have hmem := weights_mem_all (P := Try.prog) (e := 34) (List.mem_map.2 ⟨r, List.mem_range.2 hr, rfl⟩ : intRow (H := H) .i64 (A r) (L r) (Z r) ∈ (List.range len).map fun r => intRow (H := H) .i64 (A r) (L r) (Z r)) _ hm0
          have := hw _ (by rw [hx]; simp only [DataW.weights, Try.underlying22, List.mem_cons, List.mem_append]; exact .inr (.inl hmem))
          rw [Try.bytes3] at this
          simp only [lits, List.length_map, List.length_take, List.length_drop] at this
          omega
        exact ints_of_cells h1 h2 hb8 h3 h4 (fun a'' e c hc => (h5 a'' e).2 c hc)
    have hch : ∃ B O : Nat → Nat, ∀ r, r < len → IntsAt W (A r) (B r) (O r) ((Z r).take (L r)) := by
      refine ⟨fun r => if h : r < len then (hrow r h).choose else 0, fun r => if h : r < len then (hrow r h).choose_spec.choose else 0, fun r h => ?_⟩
      simp only [dif_pos h]
      exact (hrow r h).choose_spec.choose_spec
    obtain ⟨B, O, hBO⟩ := hch
    have hlenP : ((List.range len).map fun r => (Z r).take (L r)).length = len := by simp
    have hrw : ∀ r, r < len → row ((List.range len).map fun r => (Z r).take (L r)) r = (Z r).take (L r) := fun r hr => by simp [row, List.getD_eq_getElem?_getD, hr]
    have hrl : ∀ r, r < len → ((Z r).take (L r)).length = L r := fun r hr => by
      obtain ⟨_, h1, _, h2, _⟩ := hrows r (by omega)
      rw [List.length_take]; omega
    obtain ⟨xss, hxss⟩ : ∃ xss, xss = (List.range len).map fun r => (Z r).take (L r) := ⟨_, rfl⟩
    rw [← hxss] at hlenP hrw
    have hsp : 0 < len → a.spot = none := fun h => by simpa [Addr.add] using World.cell?_spot (hrows 0 (by omega)).1
    refine ⟨some a, xss, a.block, a.off, cap, A, B, O, C, by rw [hlenP], ⟨fun h0 => ?_, fun i hi => ?_, fun i hi => ?_, by omega⟩, fun i hi => ?_⟩
    · rw [hlenP] at h0
      obtain ⟨b, o, sp⟩ := a
      obtain rfl : sp = none := hsp (by omega)
      refine ⟨rfl, ?_⟩
      have := (hrows 0 (by omega)).1
      rw [add_plain] at this
      rcases Nat.lt_or_ge b W.heap.size with h | h
      · exact h
      · simp [World.cell?, Array.getElem?_eq_none h] at this
    · rw [hlenP] at hi
      obtain ⟨b, o, sp⟩ := a
      obtain rfl : sp = none := hsp (by omega)
      have := (hrows i (by omega)).1
      rw [add_plain] at this
      rw [hrw i hi, hrl i hi]
      exact this
    · rw [hlenP] at hi
      rw [hrw i hi]
      exact hBO i hi
    · rw [hlenP] at hi
      obtain ⟨_, h1, _, _, _, h4, _⟩ := hrows i (by omega)
      rw [hrw i hi, hrl i hi]
      exact ⟨h1, h4⟩

end
end Go.Proofs.Ytjibdolhipddbaa

/- A statement's arguments, opened: an int, a pair of ints in an array. -/
namespace Go.Proofs.Ytjibdolhipddbaa
open Go.ChangeShapes Go.WideShapes Go.ChangeAt Go.RowKit Go.Joins Go.Deep

theorem Try.cells23 : Try.prog.cellsOf 23 = 2 := by kernel_rfl

section
variable {H : Type} {enc : TypeId × Value → H} {W : World}

set_option maxRecDepth 100000 in
theorem open_int3 {r : Reach} {b0 : Nat} {v : Value} {d : DataW H} {p : List MemPlace} (hv : Value.okWide Try.prog W r b0 3 v) (h : DataW.Trod enc Try.prog W 0 (fun _ => true) true 3 v d p) :
    ∃ x : Int, v = .int .i64 x ∧ (-9223372036854775808 ≤ x ∧ x ≤ 9223372036854775807) := by
  obtain ⟨n, rfl, -, -, hw⟩ := open_int Try.underlying3 hv h
  refine ⟨n, rfl, ?_⟩
  simp only [Lit.wf, Bool.and_eq_true, decide_eq_true_eq, i64_min, i64_max] at hw
  omega

set_option maxRecDepth 100000 in
theorem open_pair2 {r : Reach} {b0 : Nat} {v : Value} {d : DataW H} {p : List MemPlace} (hv : Value.okWide Try.prog W r b0 23 v) (h : DataW.Trod enc Try.prog W 0 (fun _ => true) true 23 v d p) :
    ∃ x y : Int, v = .agg #[.int .i64 x, .int .i64 y] ∧ (-9223372036854775808 ≤ x ∧ x ≤ 9223372036854775807) ∧ (-9223372036854775808 ≤ y ∧ y ≤ 9223372036854775807) := by
  simp only [Value.okWide, Try.underlying23] at hv
  obtain ⟨cs, rfl, hsz, -⟩ := hv
  obtain ⟨u0, u1, rfl⟩ := array2 (hsz.trans Try.cells23)
  obtain ⟨fuel, ht⟩ := h
  obtain ⟨xs, k, _, _, _, hxl, hxs⟩ := DataW.trod_array Try.underlying23 ht
  have e0 := hxs 0 (by omega)
  have e1 := hxs 1 (by omega)
  rw [Try.cells3, List.getElem?_eq_getElem (by omega)] at e0 e1
  obtain ⟨p, q0, _, w0⟩ := DataW.trod_int Try.underlying3 e0
  obtain ⟨q, q1, _, w1⟩ := DataW.trod_int Try.underlying3 e1
  simp [Value.cells] at q0 q1
  subst q0 q1
  refine ⟨p, q, rfl, ?_, ?_⟩
  · simp only [Lit.wf, Bool.and_eq_true, decide_eq_true_eq, i64_min, i64_max] at w0
    omega
  · simp only [Lit.wf, Bool.and_eq_true, decide_eq_true_eq, i64_min, i64_max] at w1
    omega
end
end Go.Proofs.Ytjibdolhipddbaa

/- A statement's arguments, opened: three ints, or five, in an array. -/
namespace Go.Proofs.Ytjibdolhipddbaa
open Go.ChangeShapes Go.WideShapes Go.ChangeAt Go.RowKit Go.Joins Go.Deep

theorem Try.cells51 : Try.prog.cellsOf 51 = 3 := by kernel_rfl
theorem Try.cells55 : Try.prog.cellsOf 55 = 5 := by kernel_rfl
theorem array5 {α : Type} {cs : Array α} (h : cs.size = 5) : ∃ c0 c1 c2 c3 c4, cs = #[c0, c1, c2, c3, c4] := by
  obtain ⟨l⟩ := cs
  match l, h with
  | [c0, c1, c2, c3, c4], _ => exact ⟨c0, c1, c2, c3, c4, rfl⟩
theorem wf_i64 {n : Int} (w0 : (Lit.int .i64 n).wf = true) : -9223372036854775808 ≤ n ∧ n ≤ 9223372036854775807 := by
  simp only [Lit.wf, Bool.and_eq_true, decide_eq_true_eq, i64_min, i64_max] at w0
  omega

section
variable {H : Type} {enc : TypeId × Value → H} {W : World}

set_option maxRecDepth 100000 in
theorem open_arr3 {r : Reach} {b0 : Nat} {v : Value} {d : DataW H} {p : List MemPlace} (hv : Value.okWide Try.prog W r b0 51 v) (h : DataW.Trod enc Try.prog W 0 (fun _ => true) true 51 v d p) :
    ∃ x y z : Int, v = .agg #[.int .i64 x, .int .i64 y, .int .i64 z] ∧ (-9223372036854775808 ≤ x ∧ x ≤ 9223372036854775807) ∧ (-9223372036854775808 ≤ y ∧ y ≤ 9223372036854775807) ∧ (-9223372036854775808 ≤ z ∧ z ≤ 9223372036854775807) := by
  simp only [Value.okWide, Try.underlying51] at hv
  obtain ⟨cs, rfl, hsz, -⟩ := hv
  obtain ⟨u0, u1, u2, rfl⟩ := array3 (hsz.trans Try.cells51)
  obtain ⟨fuel, ht⟩ := h
  obtain ⟨xs, k, _, _, _, hxl, hxs⟩ := DataW.trod_array Try.underlying51 ht
  have e0 := hxs 0 (by omega)
  have e1 := hxs 1 (by omega)
  have e2 := hxs 2 (by omega)
  rw [Try.cells3, List.getElem?_eq_getElem (by omega)] at e0 e1 e2
  obtain ⟨p, q0, _, w0⟩ := DataW.trod_int Try.underlying3 e0
  obtain ⟨q, q1, _, w1⟩ := DataW.trod_int Try.underlying3 e1
  obtain ⟨r, q2, _, w2⟩ := DataW.trod_int Try.underlying3 e2
  simp [Value.cells] at q0 q1 q2
  subst q0 q1 q2
  exact ⟨p, q, r, rfl, wf_i64 w0, wf_i64 w1, wf_i64 w2⟩

set_option maxRecDepth 100000 in
theorem open_arr5 {r : Reach} {b0 : Nat} {v : Value} {d : DataW H} {p : List MemPlace} (hv : Value.okWide Try.prog W r b0 55 v) (h : DataW.Trod enc Try.prog W 0 (fun _ => true) true 55 v d p) :
    ∃ x y z s t : Int, v = .agg #[.int .i64 x, .int .i64 y, .int .i64 z, .int .i64 s, .int .i64 t] ∧ (-9223372036854775808 ≤ x ∧ x ≤ 9223372036854775807) ∧ (-9223372036854775808 ≤ y ∧ y ≤ 9223372036854775807) ∧ (-9223372036854775808 ≤ z ∧ z ≤ 9223372036854775807) ∧ (-9223372036854775808 ≤ s ∧ s ≤ 9223372036854775807) ∧ (-9223372036854775808 ≤ t ∧ t ≤ 9223372036854775807) := by
  simp only [Value.okWide, Try.underlying55] at hv
  obtain ⟨cs, rfl, hsz, -⟩ := hv
  obtain ⟨u0, u1, u2, u3, u4, rfl⟩ := array5 (hsz.trans Try.cells55)
  obtain ⟨fuel, ht⟩ := h
  obtain ⟨xs, k, _, _, _, hxl, hxs⟩ := DataW.trod_array Try.underlying55 ht
  have e0 := hxs 0 (by omega)
  have e1 := hxs 1 (by omega)
  have e2 := hxs 2 (by omega)
  have e3 := hxs 3 (by omega)
  have e4 := hxs 4 (by omega)
  rw [Try.cells3, List.getElem?_eq_getElem (by omega)] at e0 e1 e2 e3 e4
  obtain ⟨p, q0, _, w0⟩ := DataW.trod_int Try.underlying3 e0
  obtain ⟨q, q1, _, w1⟩ := DataW.trod_int Try.underlying3 e1
  obtain ⟨r, q2, _, w2⟩ := DataW.trod_int Try.underlying3 e2
  obtain ⟨s, q3, _, w3⟩ := DataW.trod_int Try.underlying3 e3
  obtain ⟨t, q4, _, w4⟩ := DataW.trod_int Try.underlying3 e4
  simp [Value.cells] at q0 q1 q2 q3 q4
  subst q0 q1 q2 q3 q4
  exact ⟨p, q, r, s, t, rfl, wf_i64 w0, wf_i64 w1, wf_i64 w2, wf_i64 w3, wf_i64 w4⟩
end
end Go.Proofs.Ytjibdolhipddbaa
