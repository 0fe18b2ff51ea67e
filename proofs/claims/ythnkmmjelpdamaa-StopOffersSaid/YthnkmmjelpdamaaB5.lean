/- The program's solve: a run of it in plain words. -/
import Derived.Test.YthnkmmjelpdamaaB4
namespace Go.Proofs.Ythnkmmjelpdamaa
open Go.RowKit

/-- One step of elimination on 42 numbers, and all of them. -/
def gs (f : Nat → Int) (k : Nat) (b : Int) : Nat → Int := fun c => if c / 7 = k then f c else (f (k * 7 + k) * f c - f (c / 7 * 7 + k) * f (k * 7 + c % 7)).tdiv b
def svB (f : Nat → Int) (k : Nat) (b : Int) : Nat → (Nat → Int) × Int
  | 0 => (f, b)
  | n + 1 => (gs (svB f k b n).1 n (svB f k b n).2, (svB f k b n).1 (n * 7 + n))
def st (f : Nat → Int) (n : Nat) : Nat → Int := (svB f 0 1 n).1
def pv (f : Nat → Int) (n : Nat) : Int := (svB f 0 1 n).2
theorem st_zero (f : Nat → Int) : st f 0 = f := rfl
theorem pv_zero (f : Nat → Int) : pv f 0 = 1 := rfl
theorem st_succ (f : Nat → Int) (n : Nat) : st f (n + 1) = gs (st f n) n (pv f n) := rfl
theorem pv_succ (f : Nat → Int) (n : Nat) : pv f (n + 1) = st f n (n * 7 + n) := rfl

/-- The run stays small and divides by positive numbers. -/
structure SolveOk (f : Nat → Int) : Prop where
  pos : ∀ k, k ≤ 6 → 1 ≤ pv f k
  small : ∀ k, k ≤ 6 → ∀ c, c < 42 → -1000000000 ≤ st f k c ∧ st f k c ≤ 1000000000
theorem SolveOk.top {f : Nat → Int} (h : SolveOk f) {k : Nat} (hk : k ≤ 6) : pv f k ≤ 1000000000 := by
  cases k with
  | zero => rw [pv_zero]; omega
  | succ k => rw [pv_succ]; exact (h.small k (by omega) _ (by omega)).2

/-- The first n cells are done. -/
def part (f g : Nat → Int) (n : Nat) : Nat → Int := fun c => if c < n then g c else f c
theorem part_zero (f g : Nat → Int) : part f g 0 = f := by funext c; simp [part]
theorem part_snoc (f g : Nat → Int) (n : Nat) : part f g (n + 1) = updI (part f g n) n (g n) := by
  funext c
  show (if c < n + 1 then g c else f c) = if c = n then g n else if c < n then g c else f c
  by_cases h : c = n
  · subst h; rw [if_pos (by omega), if_pos rfl]
  · rw [if_neg h]
    by_cases h2 : c < n
    · rw [if_pos (by omega), if_pos h2]
    · rw [if_neg (by omega), if_neg h2]
theorem part_skip (f : Nat → Int) (k : Nat) (b : Int) : part f (gs f k b) (k * 7) = part f (gs f k b) ((k + 1) * 7) := by
  funext c
  unfold part
  by_cases h : c < k * 7
  · rw [if_pos h, if_pos (by omega)]
  · rw [if_neg h]
    by_cases h2 : c < (k + 1) * 7
    · rw [if_pos h2, gs, if_pos (by omega)]
    · rw [if_neg h2]
theorem part_at {f g : Nat → Int} {n c : Nat} (h : n ≤ c) : part f g n c = f c := by unfold part; rw [if_neg (by omega)]
theorem eqC_part {f g : Nat → Int} : eqC (part f g 42) = eqC g := ofN_congr fun c hc => by unfold part; rw [if_pos hc]
theorem gs_at {f : Nat → Int} {k i j : Nat} {b : Int} (hj : j < 7) (hi : i ≠ k) : gs f k b (i * 7 + j) = (f (k * 7 + k) * f (i * 7 + j) - f (i * 7 + k) * f (k * 7 + j)).tdiv b := by
  have h1 : (i * 7 + j) / 7 = i := by omega
  have h2 : (i * 7 + j) % 7 = j := by omega
  unfold gs
  rw [h1, h2, if_neg hi]

/-- The cells of a copied row. -/
def rowC (f : Nat → Int) (k : Nat) : Array Value := ofN 7 fun j => .int .i64 (f (k * 7 + j))
theorem rowC_lit (f : Nat → Int) (k : Nat) : (#[.int .i64 (f (k * 7 + 0)), .int .i64 (f (k * 7 + 1)), .int .i64 (f (k * 7 + 2)), .int .i64 (f (k * 7 + 3)), .int .i64 (f (k * 7 + 4)), .int .i64 (f (k * 7 + 5)), .int .i64 (f (k * 7 + 6))] : Array Value) = rowC f k := rfl

/-- The cells of six fractions. -/
def valC (n : Nat → Int) (d : Int) : Array Value := ofN 12 fun c => .int .i64 (if c % 2 = 0 then n (c / 2) / (Int.gcd (n (c / 2)) d : Int) else d / (Int.gcd (n (c / 2)) d : Int))
def valN (n : Nat → Int) (d : Int) (m : Nat) : Array Value := ofN 12 fun c => .int .i64 (if c < 2 * m then (if c % 2 = 0 then n (c / 2) / (Int.gcd (n (c / 2)) d : Int) else d / (Int.gcd (n (c / 2)) d : Int)) else 0)
theorem valN_size (n : Nat → Int) (d : Int) (m : Nat) : (valN n d m).size = 12 := ofN_size _ _
theorem valC_all (n : Nat → Int) (d : Int) : (valC n d).all (·.oneCell') = true := ofN_one fun _ => rfl
theorem valC_size (n : Nat → Int) (d : Int) : (valC n d).size = 12 := ofN_size _ _
theorem info_valC (n : Nat → Int) (d : Int) : (Try.prog.info? 77).map (·.size) = some (valC n d).size := by unfold valC; rw [ofN_size]; kernel_rfl
theorem valN_six (n : Nat → Int) (d : Int) : valN n d 6 = valC n d := ofN_congr fun c hc => by rw [if_pos (by omega)]

end Go.Proofs.Ythnkmmjelpdamaa
