/-
  BayesChain, proved: the probability of two values together is the probability of one of them times that of the other one given the first: for every network, every two ints and every list of pairs the statement's function returns true. The arguments read behind the call as they read before it. No condition.
-/
import Derived.Test.YtghffnjnpgiicaaK5
import Derived.Test.YtghffnjnpgiicaaG9
namespace Go.Proofs.Ytghffnjnpgiicaa
open Go.ChangeShapes Go.WideShapes Go.ChangeAt Go.RowKit Go.Joins

theorem Try.own10 : ownKnob Try.prog.godebug = none := by kernel_rfl
theorem Try.laidOut10 : laidOutB Try.prog = true := by kernel_rfl

set_option maxHeartbeats 1000000 in
set_option maxRecDepth 100000 in
theorem chains_lifted (os : Os) (started : os.Started) (H : Type) (enc : TypeId × Value → H) :
    ReturnsInHanded {} Try.checked os 10 .any (Rows.bayesChainSpec.pre6 enc Try.prog Try.f10 Rows.bayesChainRow.domain false) (Rows.bayesChainSpec.post enc Try.prog Try.f10 false true false false) := by
  refine returnsInHanded_of_change_sized (C := Try.checked) Try.own10 started (by kernel_rfl) Try.func10
    (ChangeSpec.witness6 (enc := enc) (C := Try.checked) false ⟨#[], #[.agg #[.slice none 0 0, .slice none 0 0], .agg #[.int .i64 0, .int .i64 0], .slice none 0 0], []⟩ 8 (by kernel_rfl) (by kernel_rfl) (by kernel_rfl) (by kernel_rfl)) ?_
  intro W base args ds gs before hval0 hW _ hsz0 _
  have hsz : (DataW.weightsEach Try.prog (Try.f10.params.toList ++ Rows.bayesChainSpec.plain.varTypes Try.prog) (ds ++ gs)).all (· ≤ reachBytes) = true := hsz0
  clear hsz0
  have hval : ∀ (j : Nat) t v, Try.f10.params[j]? = some t → args[j]? = some v → Value.okWide Try.prog W .any base t v := hval0
  have hW' := hW
  obtain ⟨p, q, hA0, hV, rfl, _, _⟩ := hW
  have hA : DataW.TrodAll enc Try.prog W 0 (fun _ => true) true Try.f10.params.toList args.toList ds p := hA0
  rw [Try.params10] at hA hval hsz
  obtain ⟨v0, v1, v2, d0, d1, d2, p0, p1, p2, rfl, rfl, rfl, h0, h1, h2⟩ := trodAll_three hA
  obtain ⟨rfl, rfl⟩ := trodVars_none hV
  have h0k := h0
  have h1k := h1
  have h2k := h2
  clear hA0 hval0
  simp only [List.append_nil] at hW'
  have hlt0 : ∀ x ∈ p0, x.block < W.heap.size := fun x hx => hW'.lt x (by simp [hx])
  have hlt1 : ∀ x ∈ p1, x.block < W.heap.size := fun x hx => hW'.lt x (by simp [hx])
  have hlt2 : ∀ x ∈ p2, x.block < W.heap.size := fun x hx => hW'.lt x (by simp [hx])
  have hw0 : ∀ n ∈ d0.weights Try.prog 24, n ≤ 140737488351232 := fun n hn => by
    exact of_decide_eq_true (List.all_eq_true.1 hsz _ (DataW.weights_mem_each (j := 0) (t := 24) rfl rfl n hn))
  obtain ⟨pa, P, pb, po, pc, A, B, O, C, ta, T, tb, tz, tc, A', B', O', C', rfl, r1, r2, r3, r4⟩ := open_net (hval 0 24 v0 rfl rfl) h0 hw0
  obtain ⟨x1, y1, rfl, hx1, hy1⟩ := open_pair2 (hval 1 52 v1 rfl rfl) h1
  have hw2 : ∀ n ∈ d2.weights Try.prog 38, n ≤ 140737488351232 := fun n hn => by
    exact of_decide_eq_true (List.all_eq_true.1 hsz _ (DataW.weights_mem_each (j := 2) (t := 38) rfl rfl n hn))
  have hs2 := okWide_slice Try.underlying38 (hval 2 38 v2 rfl rfl)
  obtain ⟨fuel2, hf2⟩ := h2
  obtain ⟨qo2, qs2, qb2, qf2, qc2, rfl, hq2, hqc2, hqn2⟩ := open_pairs (v := v2) (x := (d2, p2)) (by obtain ⟨_, _, _, rfl⟩ := hs2; simpa [Value.cells] using hf2) hw2
  refine (chains_any P T pa pb po pc A B O C ta tb tz tc A' B' O' C' x1 y1 qs2 qo2 qb2 qf2 qc2 W r1 r3 r2 r4 hx1 hy1 hq2 hqc2 hqn2).mono fun e W' ⟨he, hbelow⟩ => ?_
  subst he
  refine ⟨_, rfl, _, _, _, [], p0 ++ (p1 ++ p2), [], hW', ?_, ?_, ?_, hbelow.frame _, fun h => by cases h⟩
  · exact trodAll_mk1 (shut_bool Try.underlying4 true)
  · exact trodAll_mk3 (Below.trod Try.laidOut10 (by kernel_rfl) (of_decide_eq_true (by kernel_rfl)) h0k hbelow hlt0) (Below.trod Try.laidOut10 (by kernel_rfl) (of_decide_eq_true (by kernel_rfl)) h1k hbelow hlt1) (Below.trod Try.laidOut10 (by kernel_rfl) (of_decide_eq_true (by kernel_rfl)) h2k hbelow hlt2)
  · exact rfl

theorem chains_holds : Rows.BayesChainSaid :=
  OpenClaim.holds_of_wide 10 Try.f10 rfl rfl rfl rfl rfl rfl rfl ⟨rfl, rfl, rfl, rfl, rfl⟩ rfl rfl rfl rfl rfl (by kernel_rfl) Try.func10 (by kernel_rfl)
    (of_decide_eq_true (by kernel_rfl)) (by unfold Func.isWrapper; first | (rw [if_pos (by decide +kernel)]; kernel_rfl) | (rw [if_neg (by decide +kernel)]; exact ⟨rfl, rfl⟩))
    (fun os started H enc _ => chains_lifted os started H enc)

end Go.Proofs.Ytghffnjnpgiicaa
