/- I4: Wb Xb -/
import Derived.Test.YtghffnjnpgiicaaI2
/- The law's mod: any number to 0 .. n - 1. -/
namespace Go.Proofs.Ytghffnjnpgiicaa
open Go.RowKit

def modI (x n : Int) : Int := (x % 18446744073709551616) % n
theorem modI_bd {x n : Int} (h : 1 ≤ n) : 0 ≤ modI x n ∧ modI x n < n := ⟨Int.emod_nonneg _ (by omega), Int.emod_lt_of_pos _ (by omega)⟩
theorem modI_id {x n : Int} (h : 0 ≤ x) (h2 : x < n) (h3 : n ≤ 9223372036854775807) : modI x n = x := by
  unfold modI
  rw [Int.emod_eq_of_lt h (by omega), Int.emod_eq_of_lt h h2]

set_option maxHeartbeats 1000000 in
set_option maxRecDepth 100000 in
theorem mod_any (x n : Int) (w : World) (_hx : -9223372036854775808 ≤ x ∧ x ≤ 9223372036854775807) (hn : 1 ≤ n) (hn2 : n ≤ 9223372036854775807) :
    Calls Try.prog 38 #[.int .i64 x, .int .i64 n] w fun e w' => e = .returned (.int .i64 (modI x n)) ∧ w' = w := by
  have hb := modI_bd (x := x) hn
  have e1 : IntKind.u64.wrap x = x % 18446744073709551616 := by first | rfl | (simp [IntKind.wrap]; done) | (rw [IntKind.wrap_u64]; done) | (rw [IntKind.wrap_u64]; rfl)
  have e2 : (IntKind.u64.wrap x).tmod n = modI x n := by rw [e1, Int.tmod_eq_emod_of_nonneg (Int.emod_nonneg _ (by omega))]; rfl
  have e3 : wrap64 (x % 18446744073709551616 % n) = x % 18446744073709551616 % n := by have : modI x n = x % 18446744073709551616 % n := rfl; rw [← this]; exact IntWalk.wrap64_in _ ⟨by omega, by omega⟩
  go_enter Try.func38, Try.ntmps38
  go_wp2
  go_ret
  exact ⟨congrArg (fun z => Ending.returned (.int .i64 z)) e3, rfl⟩

end Go.Proofs.Ytghffnjnpgiicaa

/- Plain words for tame: parents that grow, numbers that are stored. -/
namespace Go.Proofs.Ytghffnjnpgiicaa
open Go.RowKit

theorem OkPar.nil (v : Int) : OkPar [] v := ⟨by simp, fun j hj => by simp at hj, fun j hj => by simp at hj⟩
theorem OkPar.mono {ps : List Int} {v v' : Int} (h : OkPar ps v) (hv : v ≤ v') : OkPar ps v' :=
  ⟨h.1, fun j hj => by have := h.2.1 j hj; omega, h.2.2⟩
theorem nth_snoc (xs : List Int) (x : Int) (i : Nat) : nth (xs ++ [x]) i = if i = xs.length then x else nth xs i := by
  unfold nth
  rw [List.getD_eq_getElem?_getD, List.getD_eq_getElem?_getD]
  by_cases h : i < xs.length
  · rw [if_neg (by omega), List.getElem?_append_left h]
  · by_cases e : i = xs.length
    · subst e; simp
    · rw [if_neg e, List.getElem?_eq_none (by simp; omega), List.getElem?_eq_none (by omega)]
theorem OkPar.snoc {ps : List Int} {v : Nat} (h : OkPar ps (v : Int)) (h3 : ps.length < 3) : OkPar (ps ++ [(v : Int)]) ((v + 1 : Nat) : Int) := by
  refine ⟨by rw [List.length_append]; simp; omega, fun j hj => ?_, fun j hj h0 => ?_⟩
  · rw [nth_snoc]
    split
    · omega
    · have := h.2.1 j (by rw [List.length_append] at hj; simp at hj; omega); omega
  · rw [List.length_append] at hj
    simp at hj
    rw [nth_snoc, nth_snoc, if_neg (by omega)]
    split
    · have := h.2.1 (j - 1) (by omega); omega
    · exact h.2.2 j (by omega) h0

theorem nth_set (xs : List Int) (j : Nat) (x : Int) (i : Nat) (hj : j < xs.length) : nth (xs.set j x) i = if i = j then x else nth xs i := by
  unfold nth
  rw [List.getD_eq_getElem?_getD, List.getD_eq_getElem?_getD, List.getElem?_set]
  by_cases e : i = j
  · subst e; simp [hj]
  · rw [if_neg (fun q => e q.symm), if_neg e]

/-- Numbers of which one is stored. -/
theorem NewInts.stored {B g cap n : Nat} {w : World} {xs : List Int} (h : NewInts B w (.slice (some ⟨g, 0, none⟩) n cap) xs) (hn : n = xs.length) (j : Nat) (x : Int) (hx : -9223372036854775808 ≤ x ∧ x ≤ 9223372036854775807) (hj : j < xs.length) :
    NewInts B (w.setCell ⟨g, j, none⟩ (.int .i64 x)) (.slice (some ⟨g, 0, none⟩) n cap) (xs.set j x) := by
  subst hn
  refine ⟨?_, fun i => ?_, by rw [List.length_set]; exact h.len⟩
  · have := (h.own.stored j (.int .i64 x)).1
    rw [List.length_set, List.map_set]
    exact this
  · rw [nth_set _ _ _ _ hj]
    split
    · exact hx
    · exact h.wf i

theorem NewInts.frozen {B g cap n : Nat} {w : World} {xs : List Int} (h : NewInts B w (.slice (some ⟨g, 0, none⟩) n cap) xs) (hn : n = xs.length) (j : Nat) : w.frozen? ⟨g, j, none⟩ = false := by
  subst hn; exact h.own.frozenAt j

/-- New zeros. -/
theorem NewInts.zeros {B n : Nat} {w : World} {v : Value} (h : w.ownsRow B 3 1 v n (madeCells #[.int .i64 0] (n * 1)).toList) (hn : n ≤ 1000) : NewInts B w v (List.replicate n 0) := by
  rw [Nat.mul_one, toList_madeCells_one] at h
  refine ⟨?_, fun i => ?_, by simp; omega⟩
  · rw [List.length_replicate, List.map_replicate]; exact h
  · unfold nth
    rw [List.getD_eq_getElem?_getD, List.getElem?_replicate]
    split <;> simp

/-- The new zeros that make lays. -/
theorem make_zeros (wp : World) (N : Nat) (hN : N ≤ 1000) : ∃ w', (Instr.makeSlice 25 (.int .i64 (N : Int)) (.int .i64 (N : Int))).run Try.prog wp = .ok (.slice (some ⟨wp.heap.size, 0, none⟩) N N) w' ∧
    NewInts wp.heap.size w' (.slice (some ⟨wp.heap.size, 0, none⟩) N N) (List.replicate N 0) ∧ Below wp.heap.size wp w' := by
  obtain ⟨j0, hj0, jz0, jz1, jz2⟩ := info_parts Try.info3
  obtain ⟨w6, hrun, hown, hg⟩ := run_make_full (P := Try.prog) wp wp.heap.size 25 3 j0 (.int .i64 0) 1 Try.underlying25 hj0 jz0 jz1 .i64 .i64 N (by rw [jz2]; omega) (by unfold maxLen; omega) (Nat.le_refl _)
  have hc : (Value.int .i64 0).cells = #[.int .i64 0] := by simp [Value.cells]
  rw [hc] at hown
  exact ⟨w6, hrun, NewInts.zeros hown hN, (Below.refl _ _).grown hg (Nat.le_refl _) (fun r hr => by cases hr)⟩

/-- The rows built so far are good. -/
structure Tame (PS TS : List (List Int)) (k : Nat) : Prop where
  len : PS.length = k
  tab : TS.length = k
  par : ∀ v, v < k → OkPar (row PS v) v
  ok : ∀ v, v < k → OkTab (row TS v) (row PS v).length
theorem Tame.nil : Tame [] [] 0 := ⟨rfl, rfl, fun v h => absurd h (by omega), fun v h => absurd h (by omega)⟩
theorem row_snoc (xss : List (List Int)) (xs : List Int) (i : Nat) : row (xss ++ [xs]) i = if i = xss.length then xs else row xss i := by
  unfold row
  rw [List.getD_eq_getElem?_getD, List.getD_eq_getElem?_getD]
  by_cases h : i < xss.length
  · rw [if_neg (by omega), List.getElem?_append_left h]
  · by_cases e : i = xss.length
    · subst e; simp
    · rw [if_neg e, List.getElem?_eq_none (by simp; omega), List.getElem?_eq_none (by omega)]
theorem Tame.snoc {PS TS : List (List Int)} {k : Nat} {ps ts : List Int} (h : Tame PS TS k) (hp : OkPar ps (k : Int)) (ht : OkTab ts ps.length) : Tame (PS ++ [ps]) (TS ++ [ts]) (k + 1) := by
  refine ⟨by rw [List.length_append, h.len]; rfl, by rw [List.length_append, h.tab]; rfl, fun v hv => ?_, fun v hv => ?_⟩
  · rw [row_snoc, h.len]
    split
    · rename_i e; rw [e]; exact hp
    · exact h.par v (by omega)
  · rw [row_snoc, row_snoc, h.len, h.tab]
    split
    · exact ht
    · exact h.ok v (by omega)
theorem Tame.net {PS TS : List (List Int)} {k : Nat} (h : Tame PS TS k) (h1 : 1 ≤ k) (h2 : k ≤ 10) : IsNet PS TS :=
  ⟨by rw [h.len]; exact h1, by rw [h.len]; exact h2, by rw [h.len, h.tab], fun v hv => h.par v (by rw [← h.len]; exact hv), fun v hv => h.ok v (by rw [← h.len]; exact hv)⟩

end Go.Proofs.Ytghffnjnpgiicaa

