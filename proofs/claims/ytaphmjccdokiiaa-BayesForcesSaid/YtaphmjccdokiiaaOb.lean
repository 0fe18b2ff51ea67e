/- Forced networks, and facts of one variable: plain words. -/
import Derived.Test.YtaphmjccdokiiaaNb
namespace Go.Proofs.Ytaphmjccdokiiaa
open Go.RowKit Go.Maps

theorem net_of_rows {B1 B2 : Nat} {w : World} {v1 v2 : Value} {P T : List (List Int)} (h1 : NewRows B1 w v1 P) (h2 : NewRows B2 w v2 T) (l1 : P.length ≤ 1000) (l2 : T.length ≤ 1000) :
    ∃ pa pc ta tc, v1 = .slice pa P.length pc ∧ v2 = .slice ta T.length tc ∧ NetAt w (.agg #[.slice pa P.length pc, .slice ta T.length tc]) P T := by
  obtain ⟨pa, pb, pc, A, B1, O, C, rfl, r1⟩ := h1.at (by omega)
  obtain ⟨ta, tb, tc, A', B1', O', C', rfl, r2⟩ := h2.at (by omega)
  exact ⟨pa, pc, ta, tc, rfl, rfl, ⟨pa, pb, 0, pc, A, B1, O, C, ta, tb, 0, tc, A', B1', O', C', rfl, r1, r2⟩⟩

theorem isNet_forced {P T : List (List Int)} (h : IsNet P T) {x : Nat} (hx : x < P.length) {val : Int} (hv : val = 0 ∨ val = 1) : IsNet (P.set x []) (T.set x [16 * val]) := by
  have hxT : x < T.length := by rw [h.tab]; exact hx
  refine ⟨by simpa using h.pos, by simpa using h.le, by simp [h.tab], fun v hvl => ?_, fun v hvl => ?_⟩
  · rw [List.length_set] at hvl
    rw [row_set hx]
    by_cases e : v = x
    · rw [if_pos e]; exact ⟨by simp, fun j hj => by simp at hj, fun j hj => by simp at hj⟩
    · rw [if_neg e]; exact h.par v hvl
  · rw [List.length_set] at hvl
    rw [row_set hx, row_set hxT]
    by_cases e : v = x
    · rw [if_pos e, if_pos e]
      refine ⟨by simp, fun j hj => ?_⟩
      have : j = 0 := by simpa using hj
      subst this
      show 0 ≤ 16 * val ∧ 16 * val ≤ 16
      omega
    · rw [if_neg e, if_neg e]; exact h.ok v hvl

/-- One fact. -/
def oneF (y : Nat) (z : Int) : Option Int := if z = (y : Int) then some 1 else none
theorem oneF_dom {y : Nat} (hy : y < 10) : Dom (oneF y) := fun x c h => by
  unfold oneF at h
  by_cases e : x = (y : Int)
  · omega
  · rw [if_neg e] at h; cases h

theorem wpList_insert_own {H : Type} {P : Program} (w : World) {ops : Array Oper} {rest : List Oper} {o : Oper} {a : Act} {Q : Exit → Act → World → Prop}
    (hg : o.guard = none) (m x v : Operand) (t : TypeId) (hop : o.op = Op.insert t m x v)
    (k e : TypeId) (K : Keyed P k) (ht : P.underlying t = some (.map k e)) (R : Value → Option (DataW H × List MemPlace)) (b n : Nat) (D : DataW H)
    (hm : a.eval m = .map (some b)) (hown : w.ownsMap P k R b n D) (hn : n < maxLen) (key val : Value) (kl : Lit) (hx : a.eval x = key) (hv : a.eval v = val) (hkey : keyOf P k key = some kl)
    (d : DataW H) (ps : List MemPlace) (hval : R val = some (d, ps))
    (hK : ∀ w', w'.ownsMap P k R b (n + 1) (D.put kl d) → w.grownBy w' (some b) → wpList P ops Q rest (a.put o.dst undef) w') :
    wpList P ops Q (o :: rest) a w := by
  refine wpList_plain hg fun K' hK' => ?_
  obtain ⟨w', hrun, r1, r2⟩ := hown.update K ht hn hkey hval
  unfold Oper.wp
  simp [execOp, hop, hm, hx, hv, hrun, Result.andThen]
  exact hK' _ _ (hK w' r1 r2)

theorem facts_one {w : World} {g : Nat} {y : Nat} (h : w.ownsMap Try.prog 3 (plainElem Try.prog 3) g 1 ((DataW.map [] : DataW Unit).put (kl (y : Int)) (.lit (.int .i64 1)))) : FactsAt 1000 w g (oneF y) :=
  ⟨1, _, h, by omega, says_empty.put (by simp [IsMap]) (y : Int) 1⟩

end Go.Proofs.Ytaphmjccdokiiaa
