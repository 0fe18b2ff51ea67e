/- The cuts that Plan makes are correct, in plain words; lists of rows that are overwritten. -/
import Derived.Test.YtjibdolhipddbaaQv
import Derived.Test.YtjibdolhipddbaaQr
namespace Go.Proofs.Ytjibdolhipddbaa
open Go.RowKit

theorem cuts_right {a : List (List Int)} {d c : Nat} {Y : List (List Int)} (ha : IsPlan a) (hd : 1 ≤ d ∧ d ≤ 4) (hc : 1 ≤ c ∧ c ≤ 4) (h : CovA a d c Y) :
    OkCuts a.length (cutsL Y c a.length) d ∧ ∀ t, wrF a (cutsL Y c a.length) t = false := by
  obtain ⟨h1, h2, h3⟩ := h
  have h6 := ha.le
  have hp := ha.pos
  have hl6 := ha.le0
  have hsub : ∀ y ∈ clsL a.length d, y ∈ cls d a.length := fun y hy => by
    unfold clsL flt at hy
    exact List.mem_of_mem_take (List.mem_filter.1 hy).1
  have hr : ∀ i, i < a.length → row (cutsL Y c a.length) i = cutRow Y c i := fun i hi => cutsL_row Y c a.length hi
  have hY : ∀ q, q < Y.length → row Y q ∈ Y := fun q hq => by unfold row; rw [List.getD_eq_getElem?_getD, List.getElem?_eq_getElem hq]; exact List.getElem_mem hq
  have hn : ∀ i, i < a.length → ∀ t, t < c → nth (row (cutsL Y c a.length) i) t = cF Y i Y.length t := fun i hi t ht => by rw [hr i hi, cutRow_nth Y c i ht]
  refine ⟨⟨cutsL_len _ _ _, by rw [hr 0 (by omega), cutRow_len]; omega, by rw [hr 0 (by omega), cutRow_len]; omega, fun i hi => by rw [hr i hi, hr 0 (by omega), cutRow_len, cutRow_len], fun i hi j hj => ?_⟩, fun t => ?_⟩
  · rw [hr i hi, cutRow_len] at hj
    rw [hn i hi j hj]
    unfold cF
    by_cases e : j < Y.length
    · have := (rng_of h6 hd.1 hd.2 (hsub _ (h2 _ (hY j e)))).2.2.1 i hi
      have := (rng_of h6 hd.1 hd.2 (hsub _ (h2 _ (hY j e)))).1
      rw [if_pos e]
      omega
    · rw [if_neg e]; omega
  · refine Bool.eq_false_iff.2 fun ht => ?_
    unfold wrF at ht
    simp only [Bool.and_eq_true, decide_eq_true_eq] at ht
    obtain ⟨⟨g1, g2⟩, g3, g4⟩ := ht
    rw [ha.len _ g1] at g2
    have hp6 : 6 * (t / 6) + t % 6 = t := by omega
    have hmt : mt a t = false := by rw [← hp6, mt_at _ _ _ (by omega), g3]; rfl
    obtain ⟨y, hy, hs⟩ := h3 t (by omega) (by
      unfold fbF
      rw [decide_eq_true g1, decide_eq_true g2, hmt]; rfl)
    obtain ⟨q, hq, e⟩ := List.getElem_of_mem hy
    have hry : row Y q = y := by unfold row; rw [List.getD_eq_getElem?_getD, List.getElem?_eq_getElem hq]; exact e
    rw [← hp6, stF_at g1 g2 hl6] at hs
    obtain ⟨o, ho, k1, k2⟩ := g4 q (by rw [hr _ g1, cutRow_len]; omega)
    rw [hn o ho q (by omega), hn _ g1 q (by omega)] at k2
    unfold cF at k2
    rw [if_pos hq, if_pos hq, hry] at k2
    exact hs o ho (by rw [mt_at _ _ _ (by omega), decide_eq_true k1]) k2

/-- What is said of the rows that are overwritten: n slices from the block ab on, each of at most 8 cells in a block from B on that is not ab. -/
structure Wide (B : Nat) (w : World) (ab n : Nat) (AA : Nat → Option Addr) (BB OO LL CC : Nat → Nat) : Prop where
  lt : ab < w.heap.size
  le : B ≤ ab
  hdr : ∀ i, i < n → w.cell? ⟨ab, i, none⟩ = some (.slice (AA i) (LL i) (CC i))
  ptr : ∀ i, i < n → 0 < LL i → AA i = some ⟨BB i, OO i, none⟩ ∧ B ≤ BB i ∧ BB i ≠ ab ∧ BB i < w.heap.size
  val : ∀ i, i < n → ∀ k, k < LL i → (∃ z, w.cell? ⟨BB i, OO i + k, none⟩ = some (.int .i64 z)) ∧ w.frozen? ⟨BB i, OO i + k, none⟩ = false
  cap : ∀ i, i < n → LL i ≤ 8

theorem Wide.of {B : Nat} {w : World} {v : Value} {X : List (List Int)} (h : NewRows B w v X) (h1 : 1 ≤ X.length) (h8 : ∀ i, i < X.length → (row X i).length ≤ 8) :
    ∃ ab cap AA BB OO CC, v = .slice (some ⟨ab, 0, none⟩) X.length cap ∧ Wide B w ab X.length AA BB OO (fun i => (row X i).length) CC := by
  obtain ⟨vs, h2, h3, h4⟩ := h.ex
  have hl : vs.length = X.length := by have := h2.1; omega
  rcases h2.2 with ⟨_, h0⟩ | ⟨g, cap, cur, hs, hg, hh, hcap, hm, hcs, htk⟩
  · omega
  · have key : ∀ j : Nat, ∃ x : Option Addr × Nat × Nat, j < X.length → vs[j]? = some (.slice x.1 (row X j).length x.2.2) ∧ (0 < (row X j).length → x.1 = some ⟨x.2.1, 0, none⟩ ∧ B ≤ x.2.1 ∧ x.2.1 ≠ g ∧ x.2.1 < w.heap.size) ∧
        ∀ k, k < (row X j).length → (∃ z, w.cell? ⟨x.2.1, 0 + k, none⟩ = some (.int .i64 z)) ∧ w.frozen? ⟨x.2.1, 0 + k, none⟩ = false := fun j => by
      by_cases hj : j < X.length
      · obtain ⟨u, e, hu⟩ := h3 j hj
        rcases hu.own.2 with ⟨rfl, h0⟩ | ⟨g2, cap2, cur2, rfl, hg2, hh2, _⟩
        · exact ⟨(none, 0, 0), fun _ => ⟨by rw [e, h0], fun q => absurd q (by omega), fun k hk => absurd hk (by omega)⟩⟩
        · refine ⟨(some ⟨g2, 0, none⟩, g2, cap2), fun _ => ⟨e, fun _ => ⟨rfl, hg2, ?_, lt_of_block hh2⟩, fun k hk => ⟨?_, ?_⟩⟩⟩
          · rintro q
            have q : g2 = g := q
            rw [q] at hh2
            rw [hh] at hh2
            simp at hh2
          · obtain ⟨ao, b, cp, e1, e2, _⟩ := hu.at
            have hp := (e2.ptr (by omega)).1
            injection e1 with e1
            rw [hp] at e1
            injection e1 with e1
            injection e1 with e1
            have := e2.cell k hk
            rw [← e1] at this
            exact ⟨_, this⟩
          · rw [Nat.zero_add]; exact hu.own.frozenAt k
      · exact ⟨(none, 0, 0), fun q => absurd q hj⟩
    obtain ⟨f, hf⟩ := Classical.axiomOfChoice key
    refine ⟨g, cap, fun j => (f j).1, fun j => (f j).2.1, fun _ => 0, fun j => (f j).2.2, hs, lt_of_block hh, hg, fun i hi => ?_, fun i hi => (hf i hi).2.1, fun i hi => (hf i hi).2.2, h8⟩
    have e' : cur[i]? = vs[i]? := by
      rw [← htk, List.getElem?_take, if_pos (by omega)]; simp
    simp [World.cell?, hh, e', (hf i hi).1]

theorem Wide.store {B ab n : Nat} {w : World} {AA : Nat → Option Addr} {BB OO LL CC : Nat → Nat} (h : Wide B w ab n AA BB OO LL CC) {i k : Nat} (hi : i < n) (hk : k < LL i) (z : Int) :
    Wide B (w.setCell ⟨BB i, OO i + k, none⟩ (.int .i64 z)) ab n AA BB OO LL CC := by
  obtain ⟨p1, p2, p3, p4⟩ := h.ptr i hi (by omega)
  refine ⟨by simpa using h.lt, h.le, fun j hj => ?_, fun j hj hl => ?_, fun j hj t ht => ⟨?_, ?_⟩, h.cap⟩
  · rw [World.cell?_setCell_other _ _ _ _ (by intro q; injection q with q; exact p3 q)]
    exact h.hdr j hj
  · obtain ⟨q1, q2, q3, q4⟩ := h.ptr j hj hl
    exact ⟨q1, q2, q3, by simpa using q4⟩
  · by_cases e : (⟨BB j, OO j + t, none⟩ : Addr) = ⟨BB i, OO i + k, none⟩
    · rw [e]
      obtain ⟨z0, hz⟩ := (h.val i hi k hk).1
      exact ⟨z, World.cell?_setCell_same _ _ _ hz⟩
    · obtain ⟨z1, hz1⟩ := (h.val j hj t ht).1
      exact ⟨z1, by rw [World.cell?_setCell_other _ _ _ _ (fun q => e q.symm)]; exact hz1⟩
  · rw [World.frozen?_setCell]; exact (h.val j hj t ht).2

end Go.Proofs.Ytjibdolhipddbaa
