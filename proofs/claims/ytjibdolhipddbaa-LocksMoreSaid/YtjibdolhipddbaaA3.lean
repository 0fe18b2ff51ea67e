/- Arrays whose cells are known by a function; sets of pairs as bits. -/
import Derived.Test.YtjibdolhipddbaaA2
namespace Go.Proofs.Ytjibdolhipddbaa
open Go.RowKit

/-- The cells of an array. -/
def ofN (n : Nat) (f : Nat → Value) : Array Value := ((List.range n).map f).toArray
theorem ofN_size (n : Nat) (f : Nat → Value) : (ofN n f).size = n := by simp [ofN]
theorem ofN_get {n : Nat} (f : Nat → Value) {k : Nat} (h : k < n) : (ofN n f)[k]? = some (f k) := by simp [ofN, h]
theorem ofN_congr {n : Nat} {f g : Nat → Value} (h : ∀ k, k < n → f k = g k) : ofN n f = ofN n g := by
  unfold ofN
  rw [List.map_congr_left fun k hk => h k (List.mem_range.1 hk)]
theorem ofN_set {n : Nat} (f : Nat → Value) {k : Nat} (v : Value) (h : k < n) : (ofN n f).setIfInBounds k v = ofN n fun i => if i = k then v else f i := by
  refine Array.ext_getElem? fun i => ?_
  rw [Array.getElem?_setIfInBounds]
  by_cases hi : i < n
  · rw [ofN_get _ hi, ofN_get _ hi]
    by_cases e : k = i
    · subst e; rw [if_pos rfl, if_pos (by rw [ofN_size]; exact h), if_pos rfl]
    · rw [if_neg e, if_neg (fun q => e q.symm)]
  · rw [if_neg (by omega), Array.getElem?_eq_none (by rw [ofN_size]; omega), Array.getElem?_eq_none (by rw [ofN_size]; omega)]
theorem ofN_one {n : Nat} {f : Nat → Value} (h : ∀ k, (f k).oneCell' = true) : (ofN n f).all (·.oneCell') = true := by
  simp [ofN, h]

/-- A cell of a block that is such an array. -/
theorem cell_ofN {w : World} {g n : Nat} {f : Nat → Value} {T : TypeId} (h : w.heap[g]? = some (.cells (ofN n f) T (0, 0))) {k : Nat} (hk : k < n) : w.cell? ⟨g, k, none⟩ = some (f k) ∧ w.frozen? ⟨g, k, none⟩ = false :=
  ⟨by rw [cell_of_row _ _ _ _ _ _ h]; exact ofN_get f hk, frozen_of_row _ _ _ _ _ h⟩
theorem set_ofN {w : World} {g n : Nat} {f : Nat → Value} {T : TypeId} (h : w.heap[g]? = some (.cells (ofN n f) T (0, 0))) {k : Nat} (hk : k < n) (v : Value) : (w.setCell ⟨g, k, none⟩ v).heap[g]? = some (.cells (ofN n fun i => if i = k then v else f i) T (0, 0)) := by
  rw [heap_setCell_same _ _ _ _ _ _ h, ofN_set f v hk]


/-- The number whose bits below n are known by a function. -/
def bitsTo (f : Nat → Bool) : Nat → Nat
  | 0 => 0
  | n + 1 => bitsTo f n + if f n then 2 ^ n else 0
theorem bitsTo_lt (f : Nat → Bool) : ∀ n, bitsTo f n < 2 ^ n
  | 0 => by simp [bitsTo]
  | n + 1 => by
    have := bitsTo_lt f n
    simp only [bitsTo]
    split <;> omega
theorem bitsTo_bit (f : Nat → Bool) : ∀ n i, (bitsTo f n).testBit i = (decide (i < n) && f i)
  | 0, i => by simp [bitsTo]
  | n + 1, i => by
    have h := bitsTo_lt f n
    have ih := bitsTo_bit f n i
    simp only [bitsTo]
    by_cases hi : i < n
    · have e : (bitsTo f n + if f n = true then 2 ^ n else 0).testBit i = (bitsTo f n).testBit i := by
        split
        · rw [Nat.add_comm, Nat.testBit_two_pow_add_gt hi]
        · simp
      rw [e, ih]
      simp [hi, show i < n + 1 by omega]
    · by_cases e : i = n
      · subst e
        rw [show decide (i < i + 1) = true by simp, Bool.true_and]
        split
        · next q => rw [Nat.add_comm, Nat.testBit_two_pow_add_eq, Nat.testBit_lt_two_pow h, q]; rfl
        · next q => rw [Nat.add_zero, Nat.testBit_lt_two_pow h]; simpa using q
      · rw [show decide (i < n + 1) = false from decide_eq_false (by omega), Bool.false_and]
        refine Nat.testBit_lt_two_pow (Nat.lt_of_lt_of_le (m := 2 ^ (n + 1)) ?_ (Nat.pow_le_pow_right (by omega) (by omega)))
        split <;> omega
/-- A set of pairs: its 36 bits. -/
def S36 (f : Nat → Bool) : Nat := bitsTo f 36
theorem S36_lt (f : Nat → Bool) : S36 f < 68719476736 := bitsTo_lt f 36
theorem S36_bit (f : Nat → Bool) (i : Nat) : (S36 f).testBit i = (decide (i < 36) && f i) := bitsTo_bit f 36 i
theorem S36_of {m : Nat} {f : Nat → Bool} (h : ∀ i, m.testBit i = (decide (i < 36) && f i)) : m = S36 f :=
  Nat.eq_of_testBit_eq fun i => by rw [h, S36_bit]
theorem S36_congr {f g : Nat → Bool} (h : ∀ i, i < 36 → f i = g i) : S36 f = S36 g :=
  S36_of fun i => by
    rw [S36_bit]
    by_cases e : i < 36
    · rw [h i e]
    · simp [e]
theorem S36_inj {f g : Nat → Bool} (h : S36 f = S36 g) {i : Nat} (hi : i < 36) : f i = g i := by
  have := congrArg (fun m => Nat.testBit m i) h
  simpa [S36_bit, hi] using this
theorem S36_or (f g : Nat → Bool) : S36 f ||| S36 g = S36 fun i => f i || g i :=
  S36_of fun i => by rw [Nat.testBit_or, S36_bit, S36_bit, Bool.and_or_distrib_left]
theorem S36_and (f g : Nat → Bool) : S36 f &&& S36 g = S36 fun i => f i && g i :=
  S36_of fun i => by
    rw [Nat.testBit_and, S36_bit, S36_bit]
    cases decide (i < 36) <;> simp
theorem S36_not (f g : Nat → Bool) : S36 f &&& (18446744073709551615 - S36 g) = S36 fun i => f i && !g i :=
  S36_of fun i => by
    have h := S36_lt g
    rw [Nat.testBit_and, S36_bit, show (18446744073709551615 : Nat) - S36 g = 2 ^ 64 - (S36 g + 1) by omega, Nat.testBit_two_pow_sub_succ (by omega), S36_bit]
    by_cases e : i < 36
    · simp [e, show i < 64 by omega]
    · simp [e]
theorem S36_one {p : Nat} (h : p < 36) : 2 ^ p = S36 fun i => i == p :=
  S36_of fun i => by
    rw [Nat.testBit_two_pow]
    by_cases e : p = i
    · subst e; simp [h]
    · simp [e, Ne.symm e]
theorem S36_zero : (0 : Nat) = S36 fun _ => false := S36_of fun i => by simp
theorem S36_eq_zero {f : Nat → Bool} : S36 f = 0 ↔ ∀ i, i < 36 → f i = false := by
  constructor
  · intro h i hi
    have := S36_inj (h.trans S36_zero) hi
    exact this
  · intro h
    rw [S36_zero]
    exact S36_congr h

/-- A set of pairs as a value. -/
def sv (f : Nat → Bool) : Value := .int .u64 (S36 f : Nat)
theorem sv_congr {f g : Nat → Bool} (h : ∀ i, i < 36 → f i = g i) : sv f = sv g := by unfold sv; rw [S36_congr h]
theorem sv_or (f g : Nat → Bool) : bits .or .u64 (S36 f : Nat) (S36 g : Nat) = ((S36 fun i => f i || g i : Nat) : Int) := by
  have h1 := S36_lt f
  have h2 := S36_lt g
  rw [u64_or_nat _ _ (by omega) (by omega), S36_or]
theorem sv_and (f g : Nat → Bool) : bits .and .u64 (S36 f : Nat) (S36 g : Nat) = ((S36 fun i => f i && g i : Nat) : Int) := by
  have h1 := S36_lt f
  have h2 := S36_lt g
  rw [u64_and_nat _ _ (by omega) (by omega), S36_and]
theorem sv_not (f g : Nat → Bool) : bits .andNot .u64 (S36 f : Nat) (S36 g : Nat) = ((S36 fun i => f i && !g i : Nat) : Int) := by
  have h1 := S36_lt f
  have h2 := S36_lt g
  rw [u64_andNot_nat _ _ (by omega) (by omega), S36_not]

set_option maxHeartbeats 400000 in
theorem oneTo_any (n x : Int) (w : World) :
    Calls Try.prog 33 #[.int .i64 n, .int .i64 x] w fun e w' => e = .returned (.bool (decide (1 ≤ x ∧ x ≤ n))) ∧ w' = w := by
  by_cases h1 : 1 ≤ x
  · have t1 : decide (1 ≤ x) = true := decide_eq_true h1
    by_cases h2 : x ≤ n
    · have t2 : decide (x ≤ n) = true := decide_eq_true h2
      have HR := Lib.hid (show decide (1 ≤ x ∧ x ≤ n) = true from decide_eq_true ⟨h1, h2⟩)
      clear h1 h2
      go_enter Try.func33, Try.ntmps33
      go_wp2
      go_ret
      exact ⟨ret_bool HR.out.symm, rfl⟩
    · have t2 : decide (x ≤ n) = false := decide_eq_false h2
      have HR := Lib.hid (show decide (1 ≤ x ∧ x ≤ n) = false from decide_eq_false fun q => h2 q.2)
      clear h1 h2
      go_enter Try.func33, Try.ntmps33
      go_wp2
      go_ret
      exact ⟨ret_bool HR.out.symm, rfl⟩
  · have t1 : decide (1 ≤ x) = false := decide_eq_false h1
    have HR := Lib.hid (show decide (1 ≤ x ∧ x ≤ n) = false from decide_eq_false fun q => h1 q.1)
    clear h1
    go_enter Try.func33, Try.ntmps33
    go_wp2
    go_ret
    exact ⟨ret_bool HR.out.symm, rfl⟩

theorem wrap_two {n : Nat} (h : n < 36) : IntKind.u64.wrap ((2 : Int) ^ n) = ((2 ^ n : Nat) : Int) := by
  have : (2 : Nat) ^ n < 2 ^ 36 := Nat.pow_lt_pow_right (by omega) h
  rw [IntKind.wrap_u64, show (2 : Int) ^ n = ((2 ^ n : Nat) : Int) by simp]
  generalize (2 : Nat) ^ n = m at this ⊢
  omega

set_option maxHeartbeats 400000 in
theorem pair_any (k j : Nat) (w : World) (hk : k < 6) (hj : j < 6) :
    Calls Try.prog 49 #[.int .i64 k, .int .i64 j] w fun e w' => e = .returned (sv fun i => i == 6 * k + j) ∧ w' = w := by
  have HR := Lib.hid (show IntKind.u64.wrap ((2 : Int) ^ (k * 6 + j)) = ((S36 fun i => i == 6 * k + j : Nat) : Int) by rw [wrap_two (by omega), S36_one (show k * 6 + j < 36 by omega), Nat.mul_comm k 6])
  go_enter Try.func49, Try.ntmps49
  go_wp2
  go_ret
  refine ⟨?_, rfl⟩
  rw [sv, ← HR.out]
  simp only [Nat.zero_add]
  rfl

set_option maxHeartbeats 400000 in
theorem has_any (f : Nat → Bool) (k j : Nat) (w : World) (hk : k < 6) (hj : j < 6) :
    Calls Try.prog 55 #[sv f, .int .i64 k, .int .i64 j] w fun e w' => e = .returned (.bool (f (6 * k + j))) ∧ w' = w := by
  have HR := Lib.hid (show (bits .and .u64 (S36 f : Nat) ((S36 fun i => i == 6 * k + j : Nat) : Int) != 0) = f (6 * k + j) by
    rw [sv_and]
    cases e : f (6 * k + j)
    · rw [show (S36 fun i => f i && i == 6 * k + j) = 0 from S36_eq_zero.2 fun i _ => by
        by_cases q : i = 6 * k + j
        · rw [q, e]; rfl
        · simp [q]]
      rfl
    · rw [bne_iff_ne]
      intro q
      have := S36_eq_zero.1 (Int.ofNat.inj q) (6 * k + j) (by omega)
      simp [e] at this)
  have HP := Lib.hid (pair_any k j w hk hj)
  go_enter Try.func55, Try.ntmps55
  go_wp2_with fail
  refine HP.out.mono ?_
  rintro e w' ⟨rfl, rfl⟩
  rw [sv, sv]
  go_wp2
  go_ret
  exact ⟨ret_bool HR.out, rfl⟩

theorem low_split : ∀ m : Nat, 0 < m → ∃ p q, m = 2 ^ p * (2 * q + 1)
  | m, h => by
    by_cases e : m % 2 = 1
    · exact ⟨0, m / 2, by omega⟩
    · obtain ⟨p, q, hq⟩ := low_split (m / 2) (by omega)
      refine ⟨p + 1, q, ?_⟩
      rw [Nat.pow_succ, Nat.mul_assoc, Nat.mul_comm 2, ← Nat.mul_assoc, ← hq]
      omega
  termination_by m => m
/-- The lowest bit. -/
theorem low_bit (f : Nat → Bool) (h : S36 f ≠ 0) : ∃ p, p < 36 ∧ f p = true ∧ S36 f &&& (18446744073709551616 - S36 f) = S36 fun i => i == p := by
  obtain ⟨p, q, hq⟩ := low_split (S36 f) (by omega)
  have hlt := S36_lt f
  have h1 : ∀ i, (S36 f).testBit i = if i < p then false else if i = p then true else q.testBit (i - p - 1) := fun i => by
    rw [hq, Nat.testBit_two_pow_mul]
    by_cases e : i < p
    · simp [e, show ¬ p ≤ i by omega]
    · by_cases e2 : i = p
      · subst e2; simp
      · rw [if_neg e, if_neg e2, show i - p = (i - p - 1) + 1 by omega]
        simp [show p ≤ i by omega, Nat.testBit_succ, show (2 * q + 1) / 2 = q by omega]
  have hp0 : 0 < 2 ^ p := Nat.pow_pos (by omega)
  have h2 : ∀ i, (S36 f - 1).testBit i = if i < p then true else if i = p then false else q.testBit (i - p - 1) := fun i => by
    have e0 : S36 f - 1 = 2 ^ p * (2 * q) + (2 ^ p - 1) := by
      rw [hq, Nat.mul_add, Nat.mul_one]; omega
    rw [e0, Nat.testBit_two_pow_mul_add _ (by omega)]
    by_cases e : i < p
    · simp [e]
    · by_cases e2 : i = p
      · subst e2; simp
      · rw [if_neg e, if_neg e, if_neg e2, show i - p = (i - p - 1) + 1 by omega]
        simp [Nat.testBit_succ]
  have hpt : (S36 f).testBit p = true := by rw [h1]; simp
  have hp : p < 36 ∧ f p = true := by
    rw [S36_bit] at hpt
    simpa using hpt
  refine ⟨p, hp.1, hp.2, S36_of fun i => ?_⟩
  rw [Nat.testBit_and, show (18446744073709551616 : Nat) - S36 f = 2 ^ 64 - ((S36 f - 1) + 1) by omega, Nat.testBit_two_pow_sub_succ (by omega), h1, h2]
  by_cases e : i < p
  · simp [e, show i ≠ p by omega]
  · by_cases e2 : i = p
    · subst e2; simp [hp.1, show i < 64 by omega]
    · simp only [if_neg e, if_neg e2]
      cases q.testBit (i - p - 1) <;> simp [e2]

set_option maxHeartbeats 400000 in
theorem first_any (f : Nat → Bool) (w : World) (h : S36 f ≠ 0) :
    Calls Try.prog 52 #[sv f] w fun e w' => (∃ p, p < 36 ∧ f p = true ∧ e = .returned (sv fun i => i == p)) ∧ w' = w := by
  have HR := Lib.hid (show ∃ p, p < 36 ∧ f p = true ∧ bits .and .u64 (S36 f : Nat) (IntKind.u64.wrap (-(S36 f : Nat))) = ((S36 fun i => i == p : Nat) : Int) from by
    obtain ⟨p, h1, h2, h3⟩ := low_bit f h
    have hlt := S36_lt f
    refine ⟨p, h1, h2, ?_⟩
    rw [show IntKind.u64.wrap (-(S36 f : Nat)) = ((18446744073709551616 - S36 f : Nat) : Int) by rw [IntKind.wrap_u64]; omega, u64_and_nat _ _ (by omega) (by omega), h3])
  clear h
  go_enter Try.func52, Try.ntmps52
  rw [sv]
  go_wp2
  go_ret
  obtain ⟨p, h1, h2, h3⟩ := HR.out
  exact ⟨⟨p, h1, h2, by rw [sv, ← h3]; rfl⟩, rfl⟩

end Go.Proofs.Ytjibdolhipddbaa
