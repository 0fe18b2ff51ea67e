/- A statement's arguments, opened: offers. -/
import Derived.Test.YthnkmmjelpdamaaF0
import Derived.Test.YthnkmmjelpdamaaJ3
namespace Go.Proofs.Ythnkmmjelpdamaa
open Go.ChangeShapes Go.WideShapes Go.ChangeAt Go.RowKit Go.Joins Go.Deep

theorem Try.cells_pair : Try.prog.cellsOf 69 = 2 := by kernel_rfl
theorem Try.cells_rows : Try.prog.cellsOf 81 = 1 := by kernel_rfl
theorem Try.cells_int : Try.prog.cellsOf 3 = 1 := by kernel_rfl
theorem Try.bytes_pair : Try.prog.bytesOf 69 = 16 := by kernel_rfl
theorem Try.bytes_rows : Try.prog.bytesOf 81 = 24 := by kernel_rfl

section
variable {H : Type} {enc : TypeId × Value → H} {W : World}

theorem weights_mem_all {P : Program} {e : TypeId} : ∀ {ds : List (DataW H)} {d : DataW H}, d ∈ ds → ∀ n ∈ d.weights P e, n ∈ DataW.weightsAll P e ds
  | d0 :: ds, d, h, n, hn => by
    simp only [DataW.weightsAll, List.mem_append]
    rcases List.mem_cons.1 h with rfl | h
    · exact .inl hn
    · exact .inr (weights_mem_all h n hn)

theorem two_cells {a : Addr} {cs : List Value} (h : W.cells? 0 a 2 = some cs) : ∃ u0 u1, cs = [u0, u1] ∧ W.cell? a = some u0 ∧ W.cell? (a.add 1) = some u1 := by
  have h2 : (W.cell? (a.add 0)).bind (fun u0 => (W.cell? (a.add 1)).bind fun u1 => some [u0, u1]) = some cs := by
    rw [← h]
    simp [World.cells?, List.range, List.range.loop]
    cases W.cell? (a.add 0) <;> cases W.cell? (a.add 1) <;> rfl
  obtain ⟨u0, h0, h3⟩ := Option.bind_eq_some_iff.1 h2
  obtain ⟨u1, h1, h4⟩ := Option.bind_eq_some_iff.1 h3
  exact ⟨u0, u1, (Option.some.inj h4).symm, by simpa [Addr.add] using h0, h1⟩

theorem one_cell {a : Addr} {cs : List Value} (h : W.cells? 0 a 1 = some cs) : ∃ u0, cs = [u0] ∧ W.cell? a = some u0 := by
  have h2 : (W.cell? (a.add 0)).bind (fun u0 => some [u0]) = some cs := by
    rw [← h]
    simp [World.cells?, List.range, List.range.loop]
  obtain ⟨u0, h0, h3⟩ := Option.bind_eq_some_iff.1 h2
  exact ⟨u0, (Option.some.inj h3).symm, by simpa [Addr.add] using h0⟩

set_option maxRecDepth 100000 in
theorem open_pairs {fuel : Nat} {v : Value} {x : DataW H × List MemPlace} (h : DataW.trod enc Try.prog W 0 (fun _ => true) true fuel 81 [v] = some x)
    (hw : ∀ n ∈ x.1.weights Try.prog 81, n ≤ 140737488351232) : ∃ ao ps b o cap, v = .slice ao (List.length ps) cap ∧ PairsAt W ao b o ps ∧ ps.length ≤ cap ∧ (ao = none → cap = 0) := by
  rcases open_slice Try.underlying81 h with ⟨hcs, hx⟩ | ⟨a, len, cap, m, n, D, Pl, hcs, _, hl, hm, hmm, hx, hel⟩
  · obtain rfl : v = .slice none 0 0 := by simpa using hcs
    exact ⟨none, [], 0, 0, 0, rfl, ⟨fun h => by simp at h, fun i hi => by simp at hi, fun i hi => by simp at hi, by simp, fun i => by simp [qf, qv]⟩, by simp, fun _ => rfl⟩
  · obtain rfl : v = .slice (some a) len cap := by simpa using hcs
    simp only [if_true] at hmm
    obtain rfl : m = cap := hmm
    have hb : m * 16 ≤ 140737488351232 := by
      have := hw ((((List.range len).map D).length + ((List.range (m - len)).map fun j => D (len + j)).length) * Try.prog.bytesOf 69) (by rw [hx]; simp [DataW.weights, Try.underlying81])
      rw [Try.bytes_pair] at this
      simp only [List.length_map, List.length_range] at this
      omega
    have each : ∀ i, i < m → ∃ y : Int × Int, W.cell? (a.add (i * 2)) = some (.int .i64 y.1) ∧ W.cell? ((a.add (i * 2)).add 1) = some (.int .i64 y.2) ∧ (Lit.int .i64 y.1).wf = true ∧ (Lit.int .i64 y.2).wf = true := by
      intro i hi
      obtain ⟨cs', hc, ht⟩ := hel i hi
      rw [Try.cells_pair] at hc
      obtain ⟨u0, u1, rfl, h0, h1⟩ := two_cells hc
      obtain ⟨xs, k, _, _, _, hxl, hxs⟩ := DataW.trod_array Try.underlying69 ht
      have e0 := hxs 0 (by omega)
      have e1 := hxs 1 (by omega)
      rw [Try.cells_int, List.getElem?_eq_getElem (by omega)] at e0 e1
      obtain ⟨p, q0, _, w0⟩ := DataW.trod_int Try.underlying3 e0
      obtain ⟨q, q1, _, w1⟩ := DataW.trod_int Try.underlying3 e1
      simp at q0 q1
      exact ⟨(p, q), by rw [h0, q0], by rw [h1, q1], w0, w1⟩
    obtain ⟨f, hf⟩ : ∃ f : Nat → Int × Int, ∀ i, i < m → W.cell? (a.add (i * 2)) = some (.int .i64 (f i).1) ∧ W.cell? ((a.add (i * 2)).add 1) = some (.int .i64 (f i).2) ∧ (Lit.int .i64 (f i).1).wf = true ∧ (Lit.int .i64 (f i).2).wf = true :=
      ⟨fun i => if h : i < m then (each i h).choose else (0, 0), fun i h => by simp only [dif_pos h]; exact (each i h).choose_spec⟩
    have hlen : ((List.range len).map f).length = len := by simp
    obtain ⟨ps, hps⟩ : ∃ ps, ps = (List.range len).map f := ⟨_, rfl⟩
    have hpf : ∀ i, i < len → qf ps i = (f i).1 ∧ qv ps i = (f i).2 := fun i hi => by rw [hps]; simp [qf, qv, List.getD_eq_getElem?_getD, hi]
    rw [← hps] at hlen
    have hsp : 0 < len → a.spot = none := fun h => by simpa [Addr.add] using World.cell?_spot (hf 0 (by omega)).1
    obtain ⟨b, o, sp⟩ := a
    refine ⟨some ⟨b, o, sp⟩, ps, b, o, m, by rw [hlen], ⟨fun h0 => ?_, fun i hi => ?_, fun i hi => ?_, by omega, fun i => ?_⟩, by omega, fun h => by simp at h⟩
    · obtain rfl : sp = none := hsp (by omega)
      refine ⟨rfl, ?_⟩
      have := (hf 0 (by omega)).1
      rw [add_plain] at this
      rcases Nat.lt_or_ge b W.heap.size with h | h
      · exact h
      · simp [World.cell?, Array.getElem?_eq_none h] at this
    · obtain rfl : sp = none := hsp (by omega)
      have := (hf i (by omega)).1
      rw [add_plain] at this
      rw [(hpf i (by omega)).1]; exact this
    · obtain rfl : sp = none := hsp (by omega)
      have := (hf i (by omega)).2.1
      rw [add_plain, add_plain] at this
      rw [(hpf i (by omega)).2]; exact this
    · by_cases hi : i < len
      · have h1 := (hf i (by omega)).2.2.1
        have h2 := (hf i (by omega)).2.2.2
        rw [(hpf i hi).1, (hpf i hi).2]
        simp only [Lit.wf, Bool.and_eq_true, decide_eq_true_eq, i64_min, i64_max] at h1 h2
        omega
      · have : ps.length ≤ i := by omega
        rw [show qf ps i = 0 by simp [qf, List.getD_eq_getElem?_getD, List.getElem?_eq_none this], show qv ps i = 0 by simp [qv, List.getD_eq_getElem?_getD, List.getElem?_eq_none this]]
        omega


set_option maxRecDepth 100000 in
theorem open_offs {fuel : Nat} {v : Value} {x : DataW H × List MemPlace} (h : DataW.trod enc Try.prog W 0 (fun _ => true) true fuel 56 [v] = some x)
    (hw : ∀ n ∈ x.1.weights Try.prog 56, n ≤ 140737488351232) : ∃ ao L b o cap A B O C, v = .slice ao (List.length L) cap ∧ OffsAt W ao b o L A B O C ∧ CapsO L A C := by
  rcases open_slice Try.underlying56 h with ⟨hcs, hx⟩ | ⟨a, len, cap, m, n, D, Pl, hcs, _, hl, hm, hmm, hx, hel⟩
  · obtain rfl : v = .slice none 0 0 := by simpa using hcs
    exact ⟨none, [], 0, 0, 0, fun _ => none, fun _ => 0, fun _ => 0, fun _ => 0, rfl, ⟨fun h => by simp at h, fun i hi => by simp at hi, fun i hi => by simp at hi, by simp⟩, fun i hi => by simp at hi⟩
  · obtain rfl : v = .slice (some a) len cap := by simpa using hcs
    simp only [if_true] at hmm
    obtain rfl : m = cap := hmm
    have hb : m * 24 ≤ 140737488351232 := by
      have := hw ((((List.range len).map D).length + ((List.range (m - len)).map fun j => D (len + j)).length) * Try.prog.bytesOf 81) (by rw [hx]; simp [DataW.weights, Try.underlying56])
      rw [Try.bytes_rows] at this
      simp only [List.length_map, List.length_range] at this
      omega
    have each : ∀ i, i < len → ∃ y : Option Addr × List (Int × Int) × Nat × Nat × Nat, W.cell? (a.add (i * 1)) = some (.slice y.1 y.2.1.length y.2.2.2.2) ∧ PairsAt W y.1 y.2.2.1 y.2.2.2.1 y.2.1 ∧ y.2.1.length ≤ y.2.2.2.2 ∧ (y.1 = none → y.2.2.2.2 = 0) := by
      intro i hi
      obtain ⟨cs', hc, ht⟩ := hel i (by omega)
      rw [Try.cells_rows] at hc
      obtain ⟨u0, rfl, h0⟩ := one_cell hc
      obtain ⟨ao, ps, b, o, c, rfl, h1, h2, h3⟩ := open_pairs ht (fun n hn => by
        have hmem := weights_mem_all (P := Try.prog) (e := 81) (List.mem_map.2 ⟨i, List.mem_range.2 hi, rfl⟩ : D i ∈ (List.range len).map D) n hn
        exact hw n (by rw [hx]; simp only [DataW.weights, Try.underlying56, List.mem_cons, List.mem_append]; exact .inr (.inl hmem)))
      exact ⟨(ao, ps, b, o, c), h0, h1, h2, h3⟩
    obtain ⟨f, hf⟩ : ∃ f : Nat → Option Addr × List (Int × Int) × Nat × Nat × Nat, ∀ i, i < len → W.cell? (a.add (i * 1)) = some (.slice (f i).1 (f i).2.1.length (f i).2.2.2.2) ∧ PairsAt W (f i).1 (f i).2.2.1 (f i).2.2.2.1 (f i).2.1 ∧ (f i).2.1.length ≤ (f i).2.2.2.2 ∧ ((f i).1 = none → (f i).2.2.2.2 = 0) :=
      ⟨fun i => if h : i < len then (each i h).choose else (none, [], 0, 0, 0), fun i h => by simp only [dif_pos h]; exact (each i h).choose_spec⟩
    have hlen : ((List.range len).map fun i => (f i).2.1).length = len := by simp
    obtain ⟨L, hL⟩ : ∃ L, L = (List.range len).map fun i => (f i).2.1 := ⟨_, rfl⟩
    have hrow : ∀ i, i < len → rowP L i = (f i).2.1 := fun i hi => by rw [hL]; simp [rowP, List.getD_eq_getElem?_getD, hi]
    rw [← hL] at hlen
    have hsp : 0 < len → a.spot = none := fun h => by simpa [Addr.add] using World.cell?_spot (hf 0 (by omega)).1
    obtain ⟨b, o, sp⟩ := a
    refine ⟨some ⟨b, o, sp⟩, L, b, o, m, fun i => (f i).1, fun i => (f i).2.2.1, fun i => (f i).2.2.2.1, fun i => (f i).2.2.2.2, by rw [hlen], ⟨fun h0 => ?_, fun i hi => ?_, fun i hi => ?_, by omega⟩, fun i hi => ?_⟩
    · obtain rfl : sp = none := hsp (by omega)
      refine ⟨rfl, ?_⟩
      have := (hf 0 (by omega)).1
      rw [add_plain] at this
      rcases Nat.lt_or_ge b W.heap.size with h | h
      · exact h
      · simp [World.cell?, Array.getElem?_eq_none h] at this
    · obtain rfl : sp = none := hsp (by omega)
      have := (hf i (by omega)).1
      rw [add_plain, Nat.mul_one] at this
      rw [hrow i (by omega)]; exact this
    · rw [hrow i (by omega)]; exact (hf i (by omega)).2.1
    · rw [hrow i (by omega)]; exact (hf i (by omega)).2.2
end
end Go.Proofs.Ythnkmmjelpdamaa
