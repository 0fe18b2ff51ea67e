/- A search: the colourings, and what each stops. -/
import Derived.Test.YtjibdolhipddbaaB5
namespace Go.Proofs.Ytjibdolhipddbaa
open Go.RowKit Go.Maps

noncomputable abbrev RS : Value → Option (DataW Unit × List MemPlace) := plainElem Try.prog 61

/-- The map has what each of the first n colourings stops. -/
def Has (k l : Nat) (f : Nat → Bool) (X : List (List Int)) (n : Nat) (D : DataW Unit) : Prop := ∀ q, q < n → D.atKey (kc (nth (row X q))) (.lit (.int .u64 0)) = .lit (.int .u64 ((S36 (stF k l f (nth (row X q))) : Nat) : Int))

structure SearchAt (w : World) (v : Value) (k l d : Nat) (f : Nat → Bool) : Prop where
  ex : ∃ ao b cap mb D, v = .agg #[.slice ao (clsL k d).length cap, .map (some mb)] ∧ ColsAt w ao b 0 (clsL k d) ∧ w.ownsMap Try.prog 84 RS mb (clsL k d).length D ∧ Has k l f (clsL k d) (clsL k d).length D

theorem map_below {B M : Nat} {w w' : World} {b n : Nat} {D : DataW Unit} (h : w.ownsMap Try.prog 84 RS b n D) (hb : Below M w w') (hM : b < M) (hB : B = B) : w'.ownsMap Try.prog 84 RS b n D := by
  obtain ⟨es, clock, h1, h2⟩ := h
  exact ⟨es, clock, (hb.block _ hM).trans h1, h2⟩
theorem SearchAt.below {M : Nat} {w w' : World} {v : Value} {k l d : Nat} {f : Nat → Bool} (h : SearchAt w v k l d f) (hb : Below M w w') (hM : w.heap.size ≤ M) : SearchAt w' v k l d f := by
  obtain ⟨ao, b, cap, mb, D, h1, h2, h3, h4⟩ := h.ex
  have := h3.lt
  exact ⟨ao, b, cap, mb, D, h1, h2.below hb hM, map_below h3 hb (by omega) (rfl : 0 = 0), h4⟩

theorem clsL_good {k d : Nat} (hk : k ≤ 6) (hd : 1 ≤ d) (hd4 : d ≤ 4) : (clsL k d).length ≤ 4096 ∧ ∀ q, q < (clsL k d).length → ∀ i, i < 6 → 0 ≤ nth (row (clsL k d) q) i ∧ nth (row (clsL k d) q) i ≤ 4 := by
  obtain ⟨-, h2, h3⟩ := good_cls hk hd hd4
  have hl : (clsL k d).length ≤ (cls d k).length := flt_len _ _ _ _
  refine ⟨by omega, fun q hq => ?_⟩
  have hm : row (clsL k d) q ∈ clsL k d := by unfold row; rw [List.getD_eq_getElem?_getD, List.getElem?_eq_getElem hq]; exact List.getElem_mem hq
  have hm2 : row (clsL k d) q ∈ cls d k := List.mem_of_mem_take (List.mem_filter.1 hm).1
  exact (h3 _ hm2).2

theorem stF_congr {k l : Nat} {f : Nat → Bool} {c d : Nat → Int} (hk : k ≤ 6) (h : colC c = colC d) : S36 (stF k l f c) = S36 (stF k l f d) := S36_congr fun n hn => by
  unfold stF
  by_cases e : n / 6 < k
  · rw [show decide (PinF k f c (n % 6) (c (n / 6))) = decide (PinF k f d (n % 6) (d (n / 6))) from decide_eq_decide.2 ⟨fun ⟨o, h1, h2, h3⟩ => ⟨o, h1, h2, by rw [← colC_inj h (show o < 6 by omega), ← colC_inj h (show n / 6 < 6 by omega)]; exact h3⟩,
      fun ⟨o, h1, h2, h3⟩ => ⟨o, h1, h2, by rw [colC_inj h (show o < 6 by omega), colC_inj h (show n / 6 < 6 by omega)]; exact h3⟩⟩]
  · rw [decide_eq_false e]; rfl

theorem has_put {k l : Nat} {f : Nat → Bool} {X : List (List Int)} {n : Nat} {D : DataW Unit} (hk : k ≤ 6) (hD : IsMap D) (hX : ∀ q, q < X.length → ∀ i, i < 6 → 0 ≤ nth (row X q) i ∧ nth (row X q) i ≤ 4) (hn : n < X.length) (h : Has k l f X n D) :
    Has k l f X (n + 1) (D.put (kc (nth (row X n))) (.lit (.int .u64 ((S36 (stF k l f (nth (row X n))) : Nat) : Int)))) := by
  intro q hq
  by_cases e : kc (nth (row X q)) = kc (nth (row X n))
  · rw [e, atKey_put_same hD (lawCol.key (keyOf_col _ (hX n hn))), stF_congr hk (kc_inj (hX q (by omega)) (hX n hn) e)]
  · rw [atKey_put_other e]
    exact h q (by
      by_cases e2 : q = n
      · exact absurd (by rw [e2]) e
      · omega)

theorem step_put {ops : Array Oper} {o : Oper} {a : Act} {W : World} {K : Act → World → Prop} {Q : Exit → Act → World → Prop} {E : Prop} (hgd : o.guard = none) (m x v : Operand)
    (ho : o.op = Op.mapUpdate 69 m x v) (mb n : Nat) (D : DataW Unit) (hown : W.ownsMap Try.prog 84 RS mb n D) (hn : n ≤ 4096) (c : Nat → Int) (hc : ∀ i, i < 6 → 0 ≤ c i ∧ c i ≤ 4) (g : Nat → Bool)
    (hm : a.eval m = .map (some mb)) (hx : a.eval x = .agg (colC c)) (hv : a.eval v = .int .u64 (S36 g : Nat))
    (h : ∀ w', w'.ownsMap Try.prog 84 RS mb (n + 1) (D.put (kc c) (.lit (.int .u64 (S36 g : Nat)))) → W.grownBy w' (some mb) → K (a.put o.dst undef) w') :
    if Region.wanted o (yielded ops a.tmps) = true then Oper.wp Try.prog o a W K Q else E := by
  have hw : Region.wanted o (yielded ops a.tmps) = true := by simp [Region.wanted, hgd]
  rw [if_pos hw]
  have hlt := S36_lt g
  obtain ⟨w', hrun, r1, r2⟩ := hown.update lawCol Try.underlying69 (by unfold maxLen; omega) (keyOf_col c hc) (plainElem_int (H := Unit) Try.underlying61 (a := (S36 g : Nat)) (by simp [Lit.wf, IntKind.min, IntKind.max, IntKind.signed, IntKind.bits]; omega))
  unfold Oper.wp
  simp [execOp, ho, hm, hx, hv, hrun, Result.andThen]
  exact h w' r1 r2

end Go.Proofs.Ytjibdolhipddbaa
