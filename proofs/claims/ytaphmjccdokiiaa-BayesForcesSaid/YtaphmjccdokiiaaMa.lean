/- A statement's arguments, opened: a list of pairs; a struct of two such lists. -/
import Derived.Test.YtaphmjccdokiiaaFa
import Derived.Test.YtaphmjccdokiiaaL
namespace Go.Proofs.Ytaphmjccdokiiaa
open Go.ChangeShapes Go.WideShapes Go.ChangeAt Go.RowKit Go.Joins Go.Deep

theorem Try.cells52 : Try.prog.cellsOf 52 = 2 := by kernel_rfl
theorem Try.cells40 : Try.prog.cellsOf 40 = 2 := by kernel_rfl
theorem Try.bytes52 : Try.prog.bytesOf 52 = 16 := by kernel_rfl

section
variable {H : Type} {enc : TypeId × Value → H} {W : World}

theorem two_cells {a : Addr} {cs : List Value} (h : W.cells? 0 a 2 = some cs) : ∃ u0 u1, cs = [u0, u1] ∧ W.cell? a = some u0 ∧ W.cell? (a.add 1) = some u1 := by
  have h2 : (W.cell? (a.add 0)).bind (fun u0 => (W.cell? (a.add 1)).bind fun u1 => some [u0, u1]) = some cs := by
    rw [← h]
    simp [World.cells?, List.range, List.range.loop]
    cases W.cell? (a.add 0) <;> cases W.cell? (a.add 1) <;> rfl
  obtain ⟨u0, h0, h3⟩ := Option.bind_eq_some_iff.1 h2
  obtain ⟨u1, h1, h4⟩ := Option.bind_eq_some_iff.1 h3
  exact ⟨u0, u1, (Option.some.inj h4).symm, by simpa [Addr.add] using h0, h1⟩

set_option maxRecDepth 100000 in
theorem open_pairs {fuel : Nat} {v : Value} {x : DataW H × List MemPlace} (h : DataW.trod enc Try.prog W 0 (fun _ => true) true fuel 38 [v] = some x)
    (hw : ∀ n ∈ x.1.weights Try.prog 38, n ≤ 140737488351232) : ∃ ao ps b o cap, v = .slice ao (List.length ps) cap ∧ PairsAt W ao b o ps ∧ ps.length ≤ cap ∧ (ao = none → cap = 0) := by
  rcases open_slice Try.underlying38 h with ⟨hcs, hx⟩ | ⟨a, len, cap, m, n, D, Pl, hcs, _, hl, hm, hmm, hx, hel⟩
  · obtain rfl : v = .slice none 0 0 := by simpa using hcs
    exact ⟨none, [], 0, 0, 0, rfl, ⟨fun h => by simp at h, fun i hi => by simp at hi, fun i hi => by simp at hi, by simp, fun i => by simp [pf, pv]⟩, by simp, fun _ => rfl⟩
  · obtain rfl : v = .slice (some a) len cap := by simpa using hcs
    simp only [if_true] at hmm
    obtain rfl : m = cap := hmm
    have hb : m * 16 ≤ 140737488351232 := by
      have := hw ((((List.range len).map D).length + ((List.range (m - len)).map fun j => D (len + j)).length) * Try.prog.bytesOf 52) (by rw [hx]; simp [DataW.weights, Try.underlying38])
      rw [Try.bytes52] at this
      simp only [List.length_map, List.length_range] at this
      omega
    have each : ∀ i, i < m → ∃ y : Int × Int, W.cell? (a.add (i * 2)) = some (.int .i64 y.1) ∧ W.cell? ((a.add (i * 2)).add 1) = some (.int .i64 y.2) ∧ (Lit.int .i64 y.1).wf = true ∧ (Lit.int .i64 y.2).wf = true := by
      intro i hi
      obtain ⟨cs', hc, ht⟩ := hel i hi
      rw [Try.cells52] at hc
      obtain ⟨u0, u1, rfl, h0, h1⟩ := two_cells hc
      obtain ⟨xs, k, _, _, _, hxl, hxs⟩ := DataW.trod_array Try.underlying52 ht
      have e0 := hxs 0 (by omega)
      have e1 := hxs 1 (by omega)
      rw [Try.cells3, List.getElem?_eq_getElem (by omega)] at e0 e1
      obtain ⟨p, q0, _, w0⟩ := DataW.trod_int Try.underlying3 e0
      obtain ⟨q, q1, _, w1⟩ := DataW.trod_int Try.underlying3 e1
      simp at q0 q1
      exact ⟨(p, q), by rw [h0, q0], by rw [h1, q1], w0, w1⟩
    obtain ⟨f, hf⟩ : ∃ f : Nat → Int × Int, ∀ i, i < m → W.cell? (a.add (i * 2)) = some (.int .i64 (f i).1) ∧ W.cell? ((a.add (i * 2)).add 1) = some (.int .i64 (f i).2) ∧ (Lit.int .i64 (f i).1).wf = true ∧ (Lit.int .i64 (f i).2).wf = true :=
      ⟨fun i => if h : i < m then (each i h).choose else (0, 0), fun i h => by simp only [dif_pos h]; exact (each i h).choose_spec⟩
    have hlen : ((List.range len).map f).length = len := by simp
    obtain ⟨ps, hps⟩ : ∃ ps, ps = (List.range len).map f := ⟨_, rfl⟩
    have hpf : ∀ i, i < len → pf ps i = (f i).1 ∧ pv ps i = (f i).2 := fun i hi => by rw [hps]; simp [pf, pv, List.getD_eq_getElem?_getD, hi]
    rw [← hps] at hlen
    have hsp : 0 < len → a.spot = none := fun h => by simpa [Addr.add] using World.cell?_spot (hf 0 (by omega)).1
    obtain ⟨b, o, sp⟩ := a
    refine ⟨some ⟨b, o, sp⟩, ps, b, o, m, by rw [hlen], ⟨fun h0 => ?_, fun i hi => ?_, fun i hi => ?_, by omega, fun i => ?_⟩, by omega, fun h => by simp at h⟩
    · obtain rfl : sp = none := hsp (by omega)
      refine ⟨rfl, ?_⟩
      have := (hf 0 (by omega)).1
      rw [add_plain] at this
      rcases Nat.lt_or_ge b W.heap.size with h | h
      · exact h
      · simp [World.cell?, Array.getElem?_eq_none h] at this
    · obtain rfl : sp = none := hsp (by omega)
      have := (hf i (by omega)).1
      rw [add_plain] at this
      rw [(hpf i (by omega)).1]; exact this
    · obtain rfl : sp = none := hsp (by omega)
      have := (hf i (by omega)).2.1
      rw [add_plain, add_plain] at this
      rw [(hpf i (by omega)).2]; exact this
    · by_cases hi : i < len
      · have h1 := (hf i (by omega)).2.2.1
        have h2 := (hf i (by omega)).2.2.2
        rw [(hpf i hi).1, (hpf i hi).2]
        simp only [Lit.wf, Bool.and_eq_true, decide_eq_true_eq, i64_min, i64_max] at h1 h2
        omega
      · have : ps.length ≤ i := by omega
        rw [show pf ps i = 0 by simp [pf, List.getD_eq_getElem?_getD, List.getElem?_eq_none this], show pv ps i = 0 by simp [pv, List.getD_eq_getElem?_getD, List.getElem?_eq_none this]]
        omega

set_option maxRecDepth 100000 in
/-- Two lists of pairs that come in. -/
theorem open_ask {r : Reach} {b0 : Nat} {v : Value} {d : DataW H} {p : List MemPlace} (hv : Value.okWide Try.prog W r b0 40 v) (h : DataW.Trod enc Try.prog W 0 (fun _ => true) true 40 v d p) (hw : ∀ n ∈ d.weights Try.prog 40, n ≤ 140737488351232) :
    ∃ qo qs qb qf qc go gs gb gf gc, v = .agg #[.slice qo (List.length qs) qc, .slice go (List.length gs) gc] ∧ PairsAt W qo qb qf qs ∧ qs.length ≤ qc ∧ (qo = none → qc = 0) ∧ PairsAt W go gb gf gs ∧ gs.length ≤ gc ∧ (go = none → gc = 0) := by
  obtain ⟨c0, c1, y0, y1, m, rfl, rfl, rfl, hy0, hy1⟩ := open_agg2 Try.underlying40 (by kernel_rfl) Try.cells40 hv h
  obtain ⟨qo, qs, qb, qf, qc, rfl, h1, h2, h3⟩ := open_pairs hy0 (fun n hn => hw n (by simp only [DataW.weights, Try.underlying40, DataW.weightsEach, List.map_cons, List.mem_append]; exact .inl hn))
  obtain ⟨go, gs, gb, gf, gc, rfl, h4, h5, h6⟩ := open_pairs hy1 (fun n hn => hw n (by simp only [DataW.weights, Try.underlying40, DataW.weightsEach, List.map_cons, List.mem_append]; exact .inr (.inl hn)))
  exact ⟨qo, qs, qb, qf, qc, go, gs, gb, gf, gc, rfl, h1, h2, h3, h4, h5, h6⟩

end
end Go.Proofs.Ytaphmjccdokiiaa
