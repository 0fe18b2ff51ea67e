/- The fixed chain of the law: its rules are solved in small numbers, and its best values are 3 and 5. -/
import Derived.Test.YthnkmmjelpdamaaC2
namespace Go.Proofs.Ythnkmmjelpdamaa
open Go.RowKit

/-- A table, read as a function. -/
def lf (l : List Int) : Nat → Int := fun c => l.getD c 0
theorem gs_congr {f g : Nat → Int} (h : ∀ c, c < 42 → f c = g c) {k : Nat} (hk : k < 6) (b : Int) {c : Nat} (hc : c < 42) : gs f k b c = gs g k b c := by
  unfold gs
  rw [h c hc, h (k * 7 + k) (by omega), h (c / 7 * 7 + k) (by omega), h (k * 7 + c % 7) (by omega)]

/-- A run by tables. -/
theorem st_table {f : Nat → Int} (l : Nat → List Int) (b : Nat → Int) (h0 : ∀ c, c < 42 → f c = lf (l 0) c) (hb0 : b 0 = 1)
    (hs : ∀ k, k < 6 → ∀ c, c < 42 → gs (lf (l k)) k (b k) c = lf (l (k + 1)) c) (hb : ∀ k, k < 6 → lf (l k) (k * 7 + k) = b (k + 1)) :
    ∀ k, k ≤ 6 → (∀ c, c < 42 → st f k c = lf (l k) c) ∧ pv f k = b k := by
  intro k
  induction k with
  | zero => intro _; exact ⟨h0, by rw [pv_zero, hb0]⟩
  | succ k ih =>
    intro hk
    obtain ⟨h1, h2⟩ := ih (by omega)
    refine ⟨fun c hc => ?_, ?_⟩
    · rw [st_succ, h2, gs_congr h1 (by omega) _ hc]; exact hs k (by omega) c hc
    · rw [pv_succ, h1 _ (by omega)]; exact hb k (by omega)
theorem solveOk_table {f : Nat → Int} (l : Nat → List Int) (b : Nat → Int) (h : ∀ k, k ≤ 6 → (∀ c, c < 42 → st f k c = lf (l k) c) ∧ pv f k = b k)
    (hp : ∀ k, k ≤ 6 → 1 ≤ b k) (hm : ∀ k, k ≤ 6 → ∀ c, c < 42 → -1000000000 ≤ lf (l k) c ∧ lf (l k) c ≤ 1000000000) : SolveOk f :=
  ⟨fun k hk => by rw [(h k hk).2]; exact hp k hk, fun k hk c hc => by rw [(h k hk).1 c hc]; exact hm k hk c hc⟩

theorem bestS_yes {N : List (List Int)} {P C : List Int} {b : Nat → Int × Int} {x s : Nat} {p q : Int × Int} (hs : soundB N (ruleB N.length x) = true) (hb : b s = p) (hh : hereF N P C (ruleB N.length x) s = q) (hl : s < N.length) :
    bestS N P C b x s = if lessB p.1 p.2 q.1 q.2 = true then q else p := by
  unfold bestS
  rw [if_pos hs]
  unfold mixF
  rw [hb, hh]
  by_cases h : lessB p.1 p.2 q.1 q.2 = true
  · rw [if_pos ⟨hl, h⟩, if_pos h]
  · rw [if_neg (fun q => h q.2), if_neg h]

def awN : List (List Int) := [[0, 4], [0, 0]]
def awP : List Int := [1, 5]
def awC : List Int := [2, 0]

def awL0 : List (List Int) := [
    [4, -4, 0, 0, 0, 0, -8, 0, 4, 0, 0, 0, 0, 0, 0, 0, 1, 0, 0, 0, 0, 0, 0, 0, 1, 0, 0, 0, 0, 0, 0, 0, 1, 0, 0, 0, 0, 0, 0, 0, 1, 0],
    [4, -4, 0, 0, 0, 0, -8, 0, 16, 0, 0, 0, 0, 0, 0, 0, 4, 0, 0, 0, 0, 0, 0, 0, 4, 0, 0, 0, 0, 0, 0, 0, 4, 0, 0, 0, 0, 0, 0, 0, 4, 0],
    [16, 0, 0, 0, 0, 0, -32, 0, 16, 0, 0, 0, 0, 0, 0, 0, 16, 0, 0, 0, 0, 0, 0, 0, 16, 0, 0, 0, 0, 0, 0, 0, 16, 0, 0, 0, 0, 0, 0, 0, 16, 0],
    [16, 0, 0, 0, 0, 0, -32, 0, 16, 0, 0, 0, 0, 0, 0, 0, 16, 0, 0, 0, 0, 0, 0, 0, 16, 0, 0, 0, 0, 0, 0, 0, 16, 0, 0, 0, 0, 0, 0, 0, 16, 0],
    [16, 0, 0, 0, 0, 0, -32, 0, 16, 0, 0, 0, 0, 0, 0, 0, 16, 0, 0, 0, 0, 0, 0, 0, 16, 0, 0, 0, 0, 0, 0, 0, 16, 0, 0, 0, 0, 0, 0, 0, 16, 0],
    [16, 0, 0, 0, 0, 0, -32, 0, 16, 0, 0, 0, 0, 0, 0, 0, 16, 0, 0, 0, 0, 0, 0, 0, 16, 0, 0, 0, 0, 0, 0, 0, 16, 0, 0, 0, 0, 0, 0, 0, 16, 0],
    [16, 0, 0, 0, 0, 0, -32, 0, 16, 0, 0, 0, 0, 0, 0, 0, 16, 0, 0, 0, 0, 0, 0, 0, 16, 0, 0, 0, 0, 0, 0, 0, 16, 0, 0, 0, 0, 0, 0, 0, 16, 0]]
def awB0 : List Int := [1, 4, 16, 16, 16, 16, 16]
set_option maxRecDepth 100000 in
theorem aw0_run : ∀ k, k ≤ 6 → (∀ c, c < 42 → st (eqF awN awP awC (ruleB 2 0)) k c = lf (awL0.getD k []) c) ∧ pv (eqF awN awP awC (ruleB 2 0)) k = awB0.getD k 0 :=
  st_table (fun k => awL0.getD k []) (fun k => awB0.getD k 0) (by decide +kernel) (by decide +kernel) (by decide +kernel) (by decide +kernel)
set_option maxRecDepth 100000 in
theorem aw0_ok : SolveOk (eqF awN awP awC (ruleB 2 0)) := solveOk_table _ _ aw0_run (by decide +kernel) (by decide +kernel)
theorem aw0_here (s : Nat) (hs : s < 6) : hereF awN awP awC (ruleB 2 0) s = fr (lf (awL0.getD 6 []) (s * 7 + 6)) (awB0.getD 6 0) := by
  unfold hereF
  rw [(aw0_run 6 (by omega)).1 _ (by omega), (aw0_run 6 (by omega)).2]

def awL1 : List (List Int) := [
    [1, 0, 0, 0, 0, 0, 1, 0, 4, 0, 0, 0, 0, 0, 0, 0, 1, 0, 0, 0, 0, 0, 0, 0, 1, 0, 0, 0, 0, 0, 0, 0, 1, 0, 0, 0, 0, 0, 0, 0, 1, 0],
    [1, 0, 0, 0, 0, 0, 1, 0, 4, 0, 0, 0, 0, 0, 0, 0, 1, 0, 0, 0, 0, 0, 0, 0, 1, 0, 0, 0, 0, 0, 0, 0, 1, 0, 0, 0, 0, 0, 0, 0, 1, 0],
    [4, 0, 0, 0, 0, 0, 4, 0, 4, 0, 0, 0, 0, 0, 0, 0, 4, 0, 0, 0, 0, 0, 0, 0, 4, 0, 0, 0, 0, 0, 0, 0, 4, 0, 0, 0, 0, 0, 0, 0, 4, 0],
    [4, 0, 0, 0, 0, 0, 4, 0, 4, 0, 0, 0, 0, 0, 0, 0, 4, 0, 0, 0, 0, 0, 0, 0, 4, 0, 0, 0, 0, 0, 0, 0, 4, 0, 0, 0, 0, 0, 0, 0, 4, 0],
    [4, 0, 0, 0, 0, 0, 4, 0, 4, 0, 0, 0, 0, 0, 0, 0, 4, 0, 0, 0, 0, 0, 0, 0, 4, 0, 0, 0, 0, 0, 0, 0, 4, 0, 0, 0, 0, 0, 0, 0, 4, 0],
    [4, 0, 0, 0, 0, 0, 4, 0, 4, 0, 0, 0, 0, 0, 0, 0, 4, 0, 0, 0, 0, 0, 0, 0, 4, 0, 0, 0, 0, 0, 0, 0, 4, 0, 0, 0, 0, 0, 0, 0, 4, 0],
    [4, 0, 0, 0, 0, 0, 4, 0, 4, 0, 0, 0, 0, 0, 0, 0, 4, 0, 0, 0, 0, 0, 0, 0, 4, 0, 0, 0, 0, 0, 0, 0, 4, 0, 0, 0, 0, 0, 0, 0, 4, 0]]
def awB1 : List Int := [1, 1, 4, 4, 4, 4, 4]
set_option maxRecDepth 100000 in
theorem aw1_run : ∀ k, k ≤ 6 → (∀ c, c < 42 → st (eqF awN awP awC (ruleB 2 1)) k c = lf (awL1.getD k []) c) ∧ pv (eqF awN awP awC (ruleB 2 1)) k = awB1.getD k 0 :=
  st_table (fun k => awL1.getD k []) (fun k => awB1.getD k 0) (by decide +kernel) (by decide +kernel) (by decide +kernel) (by decide +kernel)
set_option maxRecDepth 100000 in
theorem aw1_ok : SolveOk (eqF awN awP awC (ruleB 2 1)) := solveOk_table _ _ aw1_run (by decide +kernel) (by decide +kernel)
theorem aw1_here (s : Nat) (hs : s < 6) : hereF awN awP awC (ruleB 2 1) s = fr (lf (awL1.getD 6 []) (s * 7 + 6)) (awB1.getD 6 0) := by
  unfold hereF
  rw [(aw1_run 6 (by omega)).1 _ (by omega), (aw1_run 6 (by omega)).2]

def awL2 : List (List Int) := [
    [4, -4, 0, 0, 0, 0, -8, 0, 1, 0, 0, 0, 0, 5, 0, 0, 1, 0, 0, 0, 0, 0, 0, 0, 1, 0, 0, 0, 0, 0, 0, 0, 1, 0, 0, 0, 0, 0, 0, 0, 1, 0],
    [4, -4, 0, 0, 0, 0, -8, 0, 4, 0, 0, 0, 0, 20, 0, 0, 4, 0, 0, 0, 0, 0, 0, 0, 4, 0, 0, 0, 0, 0, 0, 0, 4, 0, 0, 0, 0, 0, 0, 0, 4, 0],
    [4, 0, 0, 0, 0, 0, 12, 0, 4, 0, 0, 0, 0, 20, 0, 0, 4, 0, 0, 0, 0, 0, 0, 0, 4, 0, 0, 0, 0, 0, 0, 0, 4, 0, 0, 0, 0, 0, 0, 0, 4, 0],
    [4, 0, 0, 0, 0, 0, 12, 0, 4, 0, 0, 0, 0, 20, 0, 0, 4, 0, 0, 0, 0, 0, 0, 0, 4, 0, 0, 0, 0, 0, 0, 0, 4, 0, 0, 0, 0, 0, 0, 0, 4, 0],
    [4, 0, 0, 0, 0, 0, 12, 0, 4, 0, 0, 0, 0, 20, 0, 0, 4, 0, 0, 0, 0, 0, 0, 0, 4, 0, 0, 0, 0, 0, 0, 0, 4, 0, 0, 0, 0, 0, 0, 0, 4, 0],
    [4, 0, 0, 0, 0, 0, 12, 0, 4, 0, 0, 0, 0, 20, 0, 0, 4, 0, 0, 0, 0, 0, 0, 0, 4, 0, 0, 0, 0, 0, 0, 0, 4, 0, 0, 0, 0, 0, 0, 0, 4, 0],
    [4, 0, 0, 0, 0, 0, 12, 0, 4, 0, 0, 0, 0, 20, 0, 0, 4, 0, 0, 0, 0, 0, 0, 0, 4, 0, 0, 0, 0, 0, 0, 0, 4, 0, 0, 0, 0, 0, 0, 0, 4, 0]]
def awB2 : List Int := [1, 4, 4, 4, 4, 4, 4]
set_option maxRecDepth 100000 in
theorem aw2_run : ∀ k, k ≤ 6 → (∀ c, c < 42 → st (eqF awN awP awC (ruleB 2 2)) k c = lf (awL2.getD k []) c) ∧ pv (eqF awN awP awC (ruleB 2 2)) k = awB2.getD k 0 :=
  st_table (fun k => awL2.getD k []) (fun k => awB2.getD k 0) (by decide +kernel) (by decide +kernel) (by decide +kernel) (by decide +kernel)
set_option maxRecDepth 100000 in
theorem aw2_ok : SolveOk (eqF awN awP awC (ruleB 2 2)) := solveOk_table _ _ aw2_run (by decide +kernel) (by decide +kernel)
theorem aw2_here (s : Nat) (hs : s < 6) : hereF awN awP awC (ruleB 2 2) s = fr (lf (awL2.getD 6 []) (s * 7 + 6)) (awB2.getD 6 0) := by
  unfold hereF
  rw [(aw2_run 6 (by omega)).1 _ (by omega), (aw2_run 6 (by omega)).2]

def awL3 : List (List Int) := [
    [1, 0, 0, 0, 0, 0, 1, 0, 1, 0, 0, 0, 0, 5, 0, 0, 1, 0, 0, 0, 0, 0, 0, 0, 1, 0, 0, 0, 0, 0, 0, 0, 1, 0, 0, 0, 0, 0, 0, 0, 1, 0],
    [1, 0, 0, 0, 0, 0, 1, 0, 1, 0, 0, 0, 0, 5, 0, 0, 1, 0, 0, 0, 0, 0, 0, 0, 1, 0, 0, 0, 0, 0, 0, 0, 1, 0, 0, 0, 0, 0, 0, 0, 1, 0],
    [1, 0, 0, 0, 0, 0, 1, 0, 1, 0, 0, 0, 0, 5, 0, 0, 1, 0, 0, 0, 0, 0, 0, 0, 1, 0, 0, 0, 0, 0, 0, 0, 1, 0, 0, 0, 0, 0, 0, 0, 1, 0],
    [1, 0, 0, 0, 0, 0, 1, 0, 1, 0, 0, 0, 0, 5, 0, 0, 1, 0, 0, 0, 0, 0, 0, 0, 1, 0, 0, 0, 0, 0, 0, 0, 1, 0, 0, 0, 0, 0, 0, 0, 1, 0],
    [1, 0, 0, 0, 0, 0, 1, 0, 1, 0, 0, 0, 0, 5, 0, 0, 1, 0, 0, 0, 0, 0, 0, 0, 1, 0, 0, 0, 0, 0, 0, 0, 1, 0, 0, 0, 0, 0, 0, 0, 1, 0],
    [1, 0, 0, 0, 0, 0, 1, 0, 1, 0, 0, 0, 0, 5, 0, 0, 1, 0, 0, 0, 0, 0, 0, 0, 1, 0, 0, 0, 0, 0, 0, 0, 1, 0, 0, 0, 0, 0, 0, 0, 1, 0],
    [1, 0, 0, 0, 0, 0, 1, 0, 1, 0, 0, 0, 0, 5, 0, 0, 1, 0, 0, 0, 0, 0, 0, 0, 1, 0, 0, 0, 0, 0, 0, 0, 1, 0, 0, 0, 0, 0, 0, 0, 1, 0]]
def awB3 : List Int := [1, 1, 1, 1, 1, 1, 1]
set_option maxRecDepth 100000 in
theorem aw3_run : ∀ k, k ≤ 6 → (∀ c, c < 42 → st (eqF awN awP awC (ruleB 2 3)) k c = lf (awL3.getD k []) c) ∧ pv (eqF awN awP awC (ruleB 2 3)) k = awB3.getD k 0 :=
  st_table (fun k => awL3.getD k []) (fun k => awB3.getD k 0) (by decide +kernel) (by decide +kernel) (by decide +kernel) (by decide +kernel)
set_option maxRecDepth 100000 in
theorem aw3_ok : SolveOk (eqF awN awP awC (ruleB 2 3)) := solveOk_table _ _ aw3_run (by decide +kernel) (by decide +kernel)
theorem aw3_here (s : Nat) (hs : s < 6) : hereF awN awP awC (ruleB 2 3) s = fr (lf (awL3.getD 6 []) (s * 7 + 6)) (awB3.getD 6 0) := by
  unfold hereF
  rw [(aw3_run 6 (by omega)).1 _ (by omega), (aw3_run 6 (by omega)).2]

theorem aw_sound : ∀ x, x < 4 → soundB awN (ruleB 2 x) = true := by decide +kernel
theorem aw_ok (x : Nat) (hx : x < 2 ^ awN.length) (_ : soundB awN (ruleB awN.length x) = true) : SolveOk (eqF awN awP awC (ruleB awN.length x)) := by
  have h4 : x < 4 := hx
  show SolveOk (eqF awN awP awC (ruleB 2 x))
  rcases x with _ | _ | _ | _ | x
  · exact aw0_ok
  · exact aw1_ok
  · exact aw2_ok
  · exact aw3_ok
  · omega
theorem aw_chain : IsChain awN awP awC := by
  refine ⟨by decide, by decide, by decide, by decide, ?_, ?_, ?_⟩ <;> decide
theorem aw_best0 : bestF awN awP awC 0 = (3, 1) := by
  have b0 : best0 awP 2 0 = (1, 1) := by decide +kernel
  have b1 := bestS_yes (P := awP) (C := awC) (aw_sound 0 (by omega)) b0 ((aw0_here 0 (by omega)).trans (show _ = (-2, 1) by decide +kernel)) (show 0 < awN.length by decide)
  rw [show (if lessB (1, 1).1 (1, 1).2 (-2, 1).1 (-2, 1).2 = true then ((-2, 1) : Int × Int) else (1, 1)) = (1, 1) by decide +kernel] at b1
  have b2 := bestS_yes (P := awP) (C := awC) (aw_sound 1 (by omega)) b1 ((aw1_here 0 (by omega)).trans (show _ = (1, 1) by decide +kernel)) (show 0 < awN.length by decide)
  rw [show (if lessB (1, 1).1 (1, 1).2 (1, 1).1 (1, 1).2 = true then ((1, 1) : Int × Int) else (1, 1)) = (1, 1) by decide +kernel] at b2
  have b3 := bestS_yes (P := awP) (C := awC) (aw_sound 2 (by omega)) b2 ((aw2_here 0 (by omega)).trans (show _ = (3, 1) by decide +kernel)) (show 0 < awN.length by decide)
  rw [show (if lessB (1, 1).1 (1, 1).2 (3, 1).1 (3, 1).2 = true then ((3, 1) : Int × Int) else (1, 1)) = (3, 1) by decide +kernel] at b3
  have b4 := bestS_yes (P := awP) (C := awC) (aw_sound 3 (by omega)) b3 ((aw3_here 0 (by omega)).trans (show _ = (1, 1) by decide +kernel)) (show 0 < awN.length by decide)
  rw [show (if lessB (3, 1).1 (3, 1).2 (1, 1).1 (1, 1).2 = true then ((1, 1) : Int × Int) else (3, 1)) = (3, 1) by decide +kernel] at b4
  exact b4
theorem aw_best1 : bestF awN awP awC 1 = (5, 1) := by
  have b0 : best0 awP 2 1 = (5, 1) := by decide +kernel
  have b1 := bestS_yes (P := awP) (C := awC) (aw_sound 0 (by omega)) b0 ((aw0_here 1 (by omega)).trans (show _ = (0, 1) by decide +kernel)) (show 1 < awN.length by decide)
  rw [show (if lessB (5, 1).1 (5, 1).2 (0, 1).1 (0, 1).2 = true then ((0, 1) : Int × Int) else (5, 1)) = (5, 1) by decide +kernel] at b1
  have b2 := bestS_yes (P := awP) (C := awC) (aw_sound 1 (by omega)) b1 ((aw1_here 1 (by omega)).trans (show _ = (0, 1) by decide +kernel)) (show 1 < awN.length by decide)
  rw [show (if lessB (5, 1).1 (5, 1).2 (0, 1).1 (0, 1).2 = true then ((0, 1) : Int × Int) else (5, 1)) = (5, 1) by decide +kernel] at b2
  have b3 := bestS_yes (P := awP) (C := awC) (aw_sound 2 (by omega)) b2 ((aw2_here 1 (by omega)).trans (show _ = (5, 1) by decide +kernel)) (show 1 < awN.length by decide)
  rw [show (if lessB (5, 1).1 (5, 1).2 (5, 1).1 (5, 1).2 = true then ((5, 1) : Int × Int) else (5, 1)) = (5, 1) by decide +kernel] at b3
  have b4 := bestS_yes (P := awP) (C := awC) (aw_sound 3 (by omega)) b3 ((aw3_here 1 (by omega)).trans (show _ = (5, 1) by decide +kernel)) (show 1 < awN.length by decide)
  rw [show (if lessB (5, 1).1 (5, 1).2 (5, 1).1 (5, 1).2 = true then ((5, 1) : Int × Int) else (5, 1)) = (5, 1) by decide +kernel] at b4
  exact b4
theorem aw_stops : stopL awP (bestF awN awP awC) 2 = [1] := by
  rw [stopL_snoc, stopL_snoc, aw_best0, aw_best1]
  decide +kernel

end Go.Proofs.Ythnkmmjelpdamaa
